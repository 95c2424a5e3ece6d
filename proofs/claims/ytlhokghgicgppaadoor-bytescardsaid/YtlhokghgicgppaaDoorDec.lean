/- utf8.DecodeRune, over a list of bytes. -/
import Derived.Test.YtlhokghgicgppaaDoorShelf
import Derived.Test.YtlhokghgicgppaaDoorFull
set_option linter.unusedSimpArgs false
set_option linter.unusedVariables false
namespace Go.Proofs.YtlhokghgicgppaaDoor
open Go.RowKit Go.Extern

theorem get_list (l : Sg.Bs) (j : Nat) : (ByteArray.mk l.toArray).get! j = l.getD j 0 := by
  show l.toArray[j]! = _
  rw [getElem!_def]
  simp only [List.getElem?_toArray, List.getD_eq_getElem?_getD]
  cases l[j]? <;> rfl
theorem size_list (l : Sg.Bs) : (ByteArray.mk l.toArray).size = l.length := by simp [ByteArray.size]
theorem decGo_list (l : Sg.Bs) : Lib.decodeGo ⟨l.toArray⟩ = Sg.dec l := by
  unfold Lib.decodeGo Sg.dec
  rw [size_list, Lib.decode_at]
  simp only [get_list, size_list, Nat.zero_add, Nat.sub_zero]
  by_cases h : l = []
  · subst h; rfl
  · have : l.length ≠ 0 := by intro e; exact h (List.length_eq_zero_iff.1 e)
    simp only [h, this, if_false]

theorem dec_any (l : Sg.Bs) (a : Option Addr) (cap : Nat) (w : World) (hT : Tabs w) (h : SlAt w a l) (h0 : l ≠ []) :
    Calls Tryd.prog 45 #[.slice a l.length cap] w fun e w' => e = .returned (.tuple #[.int .i32 ((Sg.dec l).1 : Nat), .int .i64 ((Sg.dec l).2 : Nat)]) ∧ Below w.heap.size w w' := by
  rcases h with ⟨_, h⟩ | ⟨b, o, rfl, h⟩
  · exact absurd h h0
  · have := Any7.utf8_DecodeRune Tryd.lays7x32 ⟨l.toArray⟩ b o cap w hT (fun j hj => by
      rw [get_list]; exact h j (by rwa [size_list] at hj))
    rw [size_list, decGo_list] at this
    exact this
end Go.Proofs.YtlhokghgicgppaaDoor
