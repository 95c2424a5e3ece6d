/- walk.reach, over a list of bytes. -/
import Derived.Test.YtlhokghgicgppaaDoorReach
set_option linter.unusedSimpArgs false
set_option linter.unusedVariables false
namespace Go.Proofs.YtlhokghgicgppaaDoor
open Go.RowKit Go.Extern

/-- As many bytes as the first one says are not there yet. -/
def short (l : Sg.Bs) : Prop := 1 ≤ l.length ∧ l.length < if 240 ≤ (l.getD 0 0).toNat then 4 else if 224 ≤ (l.getD 0 0).toNat then 3 else 2
theorem short_of_full {l : Sg.Bs} (h : Sg.full l = false) (h0 : l ≠ []) : short l := by
  unfold Sg.full at h
  simp only [h0, if_false] at h
  have hn1 : 1 ≤ l.length := by rcases l with _ | _; exact absurd rfl h0; simp
  refine ⟨hn1, ?_⟩
  by_cases hb : Lib.firstT (l.getD 0 0).toNat % 8 ≤ l.length
  · rw [if_pos hb] at h; cases h
  · clear h
    have hk := UInt8.toNat_lt (l.getD 0 0)
    generalize (l.getD 0 0).toNat = k at *
    unfold Lib.firstT at hb
    repeat' split at hb
    all_goals (repeat' split) <;> omega

theorem ret_two {k : IntKind} {a b c d : Int} (h1 : b = a) (h2 : d = c) : Ending.returned (.tuple #[.int k a, .int k c]) = .returned (.tuple #[.int k b, .int k d]) := by rw [h1, h2]

set_option maxRecDepth 100000 in
set_option maxHeartbeats 4000000 in
theorem reach_any (l : Sg.Bs) (b o cap : Nat) (w : World) (h : ∀ j, j < l.length → w.cell? ⟨b, o + j, none⟩ = some (.int .u8 (l.getD j 0).toNat)) (hs : short l) (hcap : l.length ≤ cap) :
    Calls Tryd.prog 42 #[.slice (some ⟨b, o, none⟩) l.length cap] w fun e w' => e = .returned (.tuple #[.int .i32 (Sg.reach l).1, .int .i32 (Sg.reach l).2]) ∧ ∃ n, w' = w.drewN n := by
  obtain ⟨hn1, hn⟩ := hs
  match l, h, hn1, hn, hcap with
  | [x0], h, _, hn, hcap =>
    have h0 := h 0 (by simp)
    have k0 := UInt8.toNat_lt x0
    simp only [List.getD_cons_zero, List.length_cons, List.length_nil, Nat.add_zero] at h0 hn hcap
    by_cases c4 : 240 ≤ x0.toNat
    · refine (reach_41 x0.toNat b o cap w h0 (by omega) (by omega) (by omega)).mono ?_
      rintro e w' ⟨rfl, hw⟩
      exact ⟨ret_two (by simp [Sg.reach, c4]) (by simp [Sg.reach, c4]), hw⟩
    · by_cases c3 : 224 ≤ x0.toNat
      · refine (reach_31 x0.toNat b o cap w h0 (by omega) (by omega) (by omega) (by omega)).mono ?_
        rintro e w' ⟨rfl, hw⟩
        exact ⟨ret_two (by simp [Sg.reach, c4, c3]) (by simp [Sg.reach, c4, c3]), hw⟩
      · refine (reach_21 x0.toNat b o cap w h0 (by omega) (by omega) (by omega)).mono ?_
        rintro e w' ⟨rfl, hw⟩
        exact ⟨ret_two (by simp [Sg.reach, c4, c3]) (by simp [Sg.reach, c4, c3]), hw⟩
  | [x0, x1], h, _, hn, hcap =>
    have h0 := h 0 (by simp)
    have h1 := h 1 (by simp)
    have k0 := UInt8.toNat_lt x0
    have k1 := UInt8.toNat_lt x1
    simp only [List.getD_cons_zero, List.getD_cons_succ, List.length_cons, List.length_nil, Nat.add_zero] at h0 h1 hn hcap
    by_cases c4 : 240 ≤ x0.toNat
    · refine (reach_42 x0.toNat x1.toNat b o cap w h0 h1 (by omega) (by omega) (by omega) (by omega)).mono ?_
      rintro e w' ⟨rfl, hw⟩
      exact ⟨ret_two (by simp [Sg.reach, c4]) (by simp [Sg.reach, c4]), hw⟩
    · by_cases c3 : 224 ≤ x0.toNat
      · refine (reach_32 x0.toNat x1.toNat b o cap w h0 h1 (by omega) (by omega) (by omega) (by omega) (by omega)).mono ?_
        rintro e w' ⟨rfl, hw⟩
        exact ⟨ret_two (by simp [Sg.reach, c4, c3]) (by simp [Sg.reach, c4, c3]), hw⟩
      · rw [if_neg c4, if_neg c3] at hn; omega
  | [x0, x1, x2], h, _, hn, hcap =>
    have h0 := h 0 (by simp)
    have h1 := h 1 (by simp)
    have h2 := h 2 (by simp)
    have k0 := UInt8.toNat_lt x0
    have k1 := UInt8.toNat_lt x1
    have k2 := UInt8.toNat_lt x2
    simp only [List.getD_cons_zero, List.getD_cons_succ, List.length_cons, List.length_nil, Nat.add_zero] at h0 h1 h2 hn hcap
    by_cases c4 : 240 ≤ x0.toNat
    · refine (reach_43 x0.toNat x1.toNat x2.toNat b o cap w h0 h1 h2 (by omega) (by omega) (by omega) (by omega) (by omega)).mono ?_
      rintro e w' ⟨rfl, hw⟩
      exact ⟨ret_two (by simp [Sg.reach, c4]) (by simp [Sg.reach, c4]), hw⟩
    · rw [if_neg c4] at hn
      split at hn <;> omega
  | _ :: _ :: _ :: _ :: _, h, _, hn, _ =>
    simp only [List.length_cons] at hn
    split at hn
    · omega
    · split at hn <;> omega
end Go.Proofs.YtlhokghgicgppaaDoor
