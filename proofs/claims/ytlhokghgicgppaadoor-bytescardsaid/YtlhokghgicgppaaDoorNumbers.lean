/- stored.numbers. -/
import Derived.Test.YtlhokghgicgppaaDoorWrite
import Derived.Laws.IdiomStrings
set_option linter.unusedSimpArgs false
set_option linter.unusedVariables false
namespace Go.Proofs.YtlhokghgicgppaaDoor
open Go.RowKit Go.Extern

def intsV (l : List Int) : List Value := l.map (Value.int .i64)
theorem intsV_snoc (l : List Int) (x : Int) : intsV l ++ [.int .i64 x] = intsV (l ++ [x]) := by unfold intsV; simp
theorem intsV_get (l : List Int) (j : Nat) (h : j < l.length) : (intsV l)[j]? = some (.int .i64 (l.getD j 0)) := by
  unfold intsV
  rw [List.getElem?_map, List.getElem?_eq_getElem h, List.getD_eq_getElem?_getD, List.getElem?_eq_getElem h]; rfl

theorem conv_str (w : World) (s : Sg.Bs) : ∃ cap w1, (convert 9 84 (.string ⟨s.toArray⟩)).run Tryd.prog w = .ok (.slice (some ⟨w.heap.size, 0, none⟩) s.length cap) w1 ∧ Below w.heap.size w w1 ∧ (∀ j, j < s.length → w1.cell? ⟨w.heap.size, 0 + j, none⟩ = some (.int .u8 (s.getD j 0).toNat)) ∧ w.heap.size < w1.heap.size := by
  have h := run_bytes_of_string (P := Tryd.prog) w 9 84 5 ⟨s.toArray⟩ Tryd.underlying9 Tryd.underlying84 Tryd.underlying5
  have e : (ByteArray.mk s.toArray).size = s.length := by simp [ByteArray.size]
  rw [e] at h
  refine ⟨_, _, h, ((Below.refl _ _).drew).alloc (Nat.le_refl _) _, fun j hj => ?_, by simp⟩
  have hb := bytesRow_at ⟨s.toArray⟩ (grownCap w s.length 0 5) j (by simpa using hj)
  have hnew := World.alloc_heap_new w.drew (.cells (bytesRow ⟨s.toArray⟩ (grownCap w s.length 0 5)) 5 ((bytesRow ⟨s.toArray⟩ (grownCap w s.length 0 5)).size, (bytesRow ⟨s.toArray⟩ (grownCap w s.length 0 5)).size + 1))
  rw [Nat.zero_add]
  unfold World.cell?
  have hsz : w.drew.heap.size = w.heap.size := rfl
  rw [hsz] at hnew
  simp only [hnew]
  simp only [hb]
  simp [List.getD_eq_getElem?_getD, List.getElem?_eq_getElem hj]

set_option maxRecDepth 100000 in
set_option maxHeartbeats 2000000 in
theorem numbers_any (s : Sg.Bs) (hs : s.length < 1000000) (w : World) :
    Calls Tryd.prog 15 #[.string ⟨s.toArray⟩] w fun e w' => ∃ ra rc, e = .returned (.slice ra (Sg.numbersT s).length rc) ∧ RowAt 1 w' ra rc (Sg.numbersT s).length (intsV (Sg.numbersT s)) ∧ NewRow w ra ∧ Below w.heap.size w w' := by
  obtain ⟨cap, w1, hcv, hb1, hcs, hlt1⟩ := conv_str w s
  go_enter Tryd.func15, Tryd.ntmps15
  go_wp2
  go_loopw [3, 4, 5, 11] (fun lv nv sv iv wr => ∃ (j k n : Nat) (ra : Option Addr) (rc : Nat) (l : List Int), j ≤ s.length ∧ k ≤ 3 ∧ iv = .int .i64 j ∧ sv = .int .i64 (7 * k : Nat) ∧ nv = .int .i64 n ∧ lv = .slice ra l.length rc ∧ n < 2 ^ (7 * k) ∧ Hid (RowAt 1 wr ra rc l.length (intsV l) ∧ NewRow w1 ra ∧ Below w1.heap.size w1 wr ∧ l ++ Sg.numGo (s.drop j) n (7 * k) = Sg.numbersT s ∧ l.length ≤ j)) (fun _ _ _ iv _ => s.length - (intOf iv).toNat)
  case atStart => exact ⟨0, 0, 0, none, 0, [], Nat.zero_le _, Nat.zero_le _, rfl, rfl, rfl, rfl, by decide, hide2 ⟨RowAt.nil 1 _, (fun b o e => by cases e), Below.refl _ _, rfl, Nat.le_refl _⟩⟩
  case round =>
    obtain ⟨j, k, n, ra, rc, l, hj, hk, rfl, rfl, rfl, rfl, hn, H⟩ := hrel
    have fin : ∀ e : Sg.numbersT s = l, ∃ ra1 rc1, (Ending.returned (.slice ra l.length rc) = .returned (.slice ra1 (Sg.numbersT s).length rc1)) ∧ RowAt 1 wr ra1 rc1 (Sg.numbersT s).length (intsV (Sg.numbersT s)) ∧ NewRow w ra1 ∧ Below w.heap.size w wr := fun e => by
      obtain ⟨g1, g2, g3, _, _⟩ := H.out
      rw [e]
      exact ⟨ra, rc, rfl, g1, fun b o e => by have := g2 b o e; omega, hb1.trans (g3.mono (Nat.le_of_lt hlt1))⟩
    have Fin := hide2 fin
    clear fin
    by_cases hlt : j < s.length
    · have hc : wr.cell? ⟨w.heap.size, j, none⟩ = some (.int .u8 (s.getD j 0).toNat) := by
        have := (H.out.2.2.1.cell (p := ⟨w.heap.size, 0 + j, none⟩) hlt1).trans (hcs j hlt)
        rwa [Nat.zero_add] at this
      have hd : s.drop j = s.getD j 0 :: s.drop (j + 1) := by
        rw [List.drop_eq_getElem_cons hlt, List.getD_eq_getElem?_getD, List.getElem?_eq_getElem hlt]; rfl
      have hbl : (s.getD j 0).toNat < 256 := (s.getD j 0).toNat_lt
      have hgo : l ++ Sg.numGo (s.getD j 0 :: s.drop (j + 1)) n (7 * k) = Sg.numbersT s := by rw [← hd]; exact H.out.2.2.2.1
      generalize s.getD j 0 = b at *
      unfold Sg.numGo at hgo
      have Hgo := hide2 hgo
      have Hap := fun v hv => append_one (w := wr) 61 3 (.int .i64 0) 8 info_int rfl Tryd.underlying61 (by omega) H.out.1 v hv (by have := H.out.2.2.2.2; omega) 61 3
      have HA := hide2 Hap
      clear Hap hd hgo hcs hcv
      rcases (show k = 0 ∨ k = 1 ∨ k = 2 ∨ k = 3 by omega) with rfl | rfl | rfl | rfl
      · have hkn : ((n + b.toNat % 128 * 2 ^ (7 * 0) : Nat) : Int) = (n : Int) + (b.toNat : Int) % 128 := by
          have : (2 : Nat) ^ (7 * 0) = 1 := by decide
          rw [this]; omega
        have hnb : n + b.toNat % 128 * 2 ^ (7 * 0) < 2 ^ (7 * 1) := by
          have h1 : (2 : Nat) ^ (7 * 0) = 1 := by decide
          have h2 : (2 : Nat) ^ (7 * 1) = 128 := by decide
          rw [h1] at hn ⊢
          rw [h2]; omega
        by_cases hb : b.toNat < 128
        · go_wp2_with (at_builtin; obtain ⟨ra2, rc2, w2, hrun, hrow, hch, hmv⟩ := HA.out (.int .i64 ((n : Int) + (b.toNat : Int) % 128)) rfl; refine wpList_append_run rfl _ _ _ _ rfl _ _ _ rfl rfl hrun ?_; have H2 := hide2 (And.intro hrow (And.intro hch hmv)); clear hrun hrow hch hmv HA)
          go_roundw
          case rel =>
            obtain ⟨g1, g2, g3, _, g5⟩ := H.out
            obtain ⟨k1, k2, k3⟩ := H2.out
            have g4 := Hgo.out
            rw [if_neg (by omega), if_pos hb, hkn] at g4
            rw [intsV_snoc] at k1
            refine ⟨j + 1, 0, 0, ra2, rc2, l ++ [(n : Int) + (b.toNat : Int) % 128], by omega, by omega, by go_num, rfl, rfl, by rw [List.length_append]; rfl, by decide, hide2 ⟨by rw [List.length_append]; exact k1, g2.moved g3.size k3, g3.trans (below_rowT k2 g2 g3.size), ?_, by rw [List.length_append]; simp only [List.length_cons, List.length_nil]; omega⟩⟩
            rw [List.append_assoc]; exact g4
          case measure => simp [intOf]; omega
        · go_wp2
          go_roundw
          case rel =>
            obtain ⟨g1, g2, g3, _, g5⟩ := H.out
            have g4 := Hgo.out
            rw [if_neg (by omega), if_neg hb] at g4
            exact ⟨j + 1, 1, n + b.toNat % 128 * 2 ^ (7 * 0), ra, rc, l, by omega, by omega, by go_num, rfl, by rw [hkn], rfl, hnb, hide2 ⟨g1, g2, g3, g4, by omega⟩⟩
          case measure => simp [intOf]; omega
      · have hkn : ((n + b.toNat % 128 * 2 ^ (7 * 1) : Nat) : Int) = (n : Int) + (b.toNat : Int) % 128 * 128 := by
          have : (2 : Nat) ^ (7 * 1) = 128 := by decide
          rw [this]; omega
        have hnb : n + b.toNat % 128 * 2 ^ (7 * 1) < 2 ^ (7 * 2) := by
          have h1 : (2 : Nat) ^ (7 * 1) = 128 := by decide
          have h2 : (2 : Nat) ^ (7 * 2) = 16384 := by decide
          rw [h1] at hn ⊢
          rw [h2]; omega
        by_cases hb : b.toNat < 128
        · go_wp2_with (at_builtin; obtain ⟨ra2, rc2, w2, hrun, hrow, hch, hmv⟩ := HA.out (.int .i64 ((n : Int) + (b.toNat : Int) % 128 * 128)) rfl; refine wpList_append_run rfl _ _ _ _ rfl _ _ _ rfl rfl hrun ?_; have H2 := hide2 (And.intro hrow (And.intro hch hmv)); clear hrun hrow hch hmv HA)
          go_roundw
          case rel =>
            obtain ⟨g1, g2, g3, _, g5⟩ := H.out
            obtain ⟨k1, k2, k3⟩ := H2.out
            have g4 := Hgo.out
            rw [if_neg (by omega), if_pos hb, hkn] at g4
            rw [intsV_snoc] at k1
            refine ⟨j + 1, 0, 0, ra2, rc2, l ++ [(n : Int) + (b.toNat : Int) % 128 * 128], by omega, by omega, by go_num, rfl, rfl, by rw [List.length_append]; rfl, by decide, hide2 ⟨by rw [List.length_append]; exact k1, g2.moved g3.size k3, g3.trans (below_rowT k2 g2 g3.size), ?_, by rw [List.length_append]; simp only [List.length_cons, List.length_nil]; omega⟩⟩
            rw [List.append_assoc]; exact g4
          case measure => simp [intOf]; omega
        · go_wp2
          go_roundw
          case rel =>
            obtain ⟨g1, g2, g3, _, g5⟩ := H.out
            have g4 := Hgo.out
            rw [if_neg (by omega), if_neg hb] at g4
            exact ⟨j + 1, 2, n + b.toNat % 128 * 2 ^ (7 * 1), ra, rc, l, by omega, by omega, by go_num, rfl, by rw [hkn], rfl, hnb, hide2 ⟨g1, g2, g3, g4, by omega⟩⟩
          case measure => simp [intOf]; omega
      · have hkn : ((n + b.toNat % 128 * 2 ^ (7 * 2) : Nat) : Int) = (n : Int) + (b.toNat : Int) % 128 * 16384 := by
          have : (2 : Nat) ^ (7 * 2) = 16384 := by decide
          rw [this]; omega
        have hnb : n + b.toNat % 128 * 2 ^ (7 * 2) < 2 ^ (7 * 3) := by
          have h1 : (2 : Nat) ^ (7 * 2) = 16384 := by decide
          have h2 : (2 : Nat) ^ (7 * 3) = 2097152 := by decide
          rw [h1] at hn ⊢
          rw [h2]; omega
        by_cases hb : b.toNat < 128
        · go_wp2_with (at_builtin; obtain ⟨ra2, rc2, w2, hrun, hrow, hch, hmv⟩ := HA.out (.int .i64 ((n : Int) + (b.toNat : Int) % 128 * 16384)) rfl; refine wpList_append_run rfl _ _ _ _ rfl _ _ _ rfl rfl hrun ?_; have H2 := hide2 (And.intro hrow (And.intro hch hmv)); clear hrun hrow hch hmv HA)
          go_roundw
          case rel =>
            obtain ⟨g1, g2, g3, _, g5⟩ := H.out
            obtain ⟨k1, k2, k3⟩ := H2.out
            have g4 := Hgo.out
            rw [if_neg (by omega), if_pos hb, hkn] at g4
            rw [intsV_snoc] at k1
            refine ⟨j + 1, 0, 0, ra2, rc2, l ++ [(n : Int) + (b.toNat : Int) % 128 * 16384], by omega, by omega, by go_num, rfl, rfl, by rw [List.length_append]; rfl, by decide, hide2 ⟨by rw [List.length_append]; exact k1, g2.moved g3.size k3, g3.trans (below_rowT k2 g2 g3.size), ?_, by rw [List.length_append]; simp only [List.length_cons, List.length_nil]; omega⟩⟩
            rw [List.append_assoc]; exact g4
          case measure => simp [intOf]; omega
        · go_wp2
          go_roundw
          case rel =>
            obtain ⟨g1, g2, g3, _, g5⟩ := H.out
            have g4 := Hgo.out
            rw [if_neg (by omega), if_neg hb] at g4
            exact ⟨j + 1, 3, n + b.toNat % 128 * 2 ^ (7 * 2), ra, rc, l, by omega, by omega, by go_num, rfl, by rw [hkn], rfl, hnb, hide2 ⟨g1, g2, g3, g4, by omega⟩⟩
          case measure => simp [intOf]; omega
      · go_wp2
        go_ret
        exact Fin.out (by rw [← Hgo.out]; simp)
    · have hd : s.drop j = [] := List.drop_of_length_le (by omega)
      go_wp2
      go_ret
      exact Fin.out (by rw [← H.out.2.2.2.1, hd]; simp [Sg.numGo])
end Go.Proofs.YtlhokghgicgppaaDoor
