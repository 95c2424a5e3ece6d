/- The library's sort at runes: partialInsertionSortOrdered. -/
import Derived.Test.YtlhokghgicgppaaGreatDoorSortD
import Derived.Deep.CutRange
import Derived.Deep.DeepCutAuto
set_option linter.unusedSimpArgs false
set_option linter.unusedVariables false
set_option maxRecDepth 100000
set_option maxHeartbeats 4000000
namespace Go.Proofs.YtlhokghgicgppaaGreatDoor
open Go.RowKit Go.Extern Go.Sort
theorem sorted_go (d : Array Int) (b i : Nat) (h : i < b) (hl : ltInt d[i]! d[i - 1]! = false) : scanSorted ltInt d b i = scanSorted ltInt d b (i + 1) := by
  conv => lhs; unfold scanSorted
  rw [if_pos (by rw [hl, Bool.not_false, Bool.and_true]; exact decide_eq_true h)]
theorem sorted_stop (d : Array Int) (b i : Nat) (h : ¬ i < b ∨ ltInt d[i]! d[i - 1]! = true) : scanSorted ltInt d b i = i := by
  unfold scanSorted
  rw [if_neg]
  rw [Bool.and_eq_true, decide_eq_true_iff]
  rintro ⟨h1, h2⟩
  rcases h with h | h
  · exact h h1
  · rw [h] at h2; cases h2
theorem shD_go (j : Nat) (d : Array Int) (hj : 1 ≤ j) (hl : ltInt d[j]! d[j - 1]! = true) : shiftDown ltInt j d = shiftDown ltInt (j - 1) (swp d j (j - 1)) := by
  obtain ⟨k, rfl⟩ : ∃ k, j = k + 1 := ⟨j - 1, by omega⟩
  rw [Nat.add_sub_cancel] at hl ⊢
  conv => lhs; unfold shiftDown
  rw [if_neg (by rw [hl]; simp)]
theorem shD_stop (j : Nat) (d : Array Int) (h : j = 0 ∨ ltInt d[j]! d[j - 1]! = false) : shiftDown ltInt j d = d := by
  cases j with
  | zero => rfl
  | succ k =>
    rw [Nat.add_sub_cancel] at h
    unfold shiftDown
    rcases h with h | h
    · omega
    · rw [if_pos (by rw [h]; rfl)]
theorem shU_go (b j : Nat) (d : Array Int) (hj : j < b) (hl : ltInt d[j]! d[j - 1]! = true) : shiftUp ltInt b j d = shiftUp ltInt b (j + 1) (swp d j (j - 1)) := by
  conv => lhs; unfold shiftUp
  rw [if_pos hj, if_neg (by rw [hl]; simp)]
theorem shU_stop (b j : Nat) (d : Array Int) (h : ¬ j < b ∨ ltInt d[j]! d[j - 1]! = false) : shiftUp ltInt b j d = d := by
  unfold shiftUp
  by_cases hj : j < b
  · rcases h with h | h
    · exact absurd hj h
    · rw [if_pos hj, if_pos (by rw [h]; rfl)]
  · rw [if_neg hj]
theorem partialIns_step (a b s i : Nat) (d : Array Int) (i2 : Nat) (h : scanSorted ltInt d b i = i2) : partialIns ltInt a b (s + 1) i d = if i2 = b then (d, true) else if b - a < 50 then (d, false) else partialIns ltInt a b s i2 (if b - i2 ≥ 2 then shiftUp ltInt b (i2 + 1) (if i2 - a ≥ 2 then shiftDown ltInt (i2 - 1) (swp d i2 (i2 - 1)) else swp d i2 (i2 - 1)) else (if i2 - a ≥ 2 then shiftDown ltInt (i2 - 1) (swp d i2 (i2 - 1)) else swp d i2 (i2 - 1))) := by
  conv => lhs; unfold partialIns
  dsimp only
  rw [h]
set_option maxHeartbeats 8000000 in
theorem partial_any (w : World) (blk off cap n a b : Nat) (W : World) (d : Array Int) (h : SS w blk off n W d) (hab : a < b) (hb : b ≤ n) (hn : n < 1000000) :
    Calls Tryz.prog 191 #[.slice (some ⟨blk, off, none⟩) n cap, .int .i64 a, .int .i64 b] W fun e W' => e = .returned (.bool (partialInsertionSort ltInt d a b).2) ∧ Hid (SS w blk off n W' (partialInsertionSort ltInt d a b).1) := by
  have H0 := hide2 h
  clear h
  unfold partialInsertionSort
  generalize hfin : partialIns ltInt a b 5 (a + 1) d = fin
  have HF := hide2 hfin
  clear hfin
  go_enter Tryz.func191, Tryz.ntmps191
  go_wp2
  go_loopw [7, 8] (fun iv sv wr => ∃ (i k : Nat) (dk : Array Int), iv = .int .i64 i ∧ sv = .int .i64 k ∧ a < i ∧ i ≤ b ∧ k ≤ 5 ∧ Hid (SS w blk off n wr dk ∧ partialIns ltInt a b (5 - k) i dk = fin)) (fun _ sv _ => 5 - (intOf sv).toNat)
  case atStart => exact ⟨a + 1, 0, d, by go_num, rfl, by omega, by omega, by omega, hide2 ⟨H0.out, HF.out⟩⟩
  case round =>
    obtain ⟨i, k, dk, rfl, rfl, hai, hib, hk, H⟩ := hrel
    clear HF
    by_cases hk5 : k < 5
    · have hk5I : ((k : Int) < 5) = True := eq_true (by omega)
      have HSi := hide2 H.out.1
      have hfi := H.out.2
      obtain ⟨s, hs⟩ : ∃ s, 5 - k = s + 1 := ⟨4 - k, by omega⟩
      rw [hs] at hfi
      have HFi := hide2 hfi
      have HK := hide2 hs
      clear H hfi hs
      go_wp2
      go_loopw [7] (fun iv wr => ∃ (i2 : Nat), iv = .int .i64 i2 ∧ i ≤ i2 ∧ i2 ≤ b ∧ Hid (SS w blk off n wr dk ∧ scanSorted ltInt dk b i2 = scanSorted ltInt dk b i)) (fun iv _ => b + 1 - (intOf iv).toNat)
      case atStart => exact ⟨i, rfl, Nat.le_refl _, hib, hide2 ⟨HSi.out, rfl⟩⟩
      case round =>
        clear HSi
        obtain ⟨i2, rfl, hi1, hi2, H2⟩ := hrel
        obtain ⟨G, hG, hc, hf⟩ := H2.out.1.fam
        have HG := hide2 hG
        clear hG
        go_wp2
        by_cases hlt : i2 < b
        · have hb2 : i2 < n := by omega
          go_quiet (first | (go_at_call 192; refine Calls.quiet_of_same (less_any _ _ _)))
          cases hl : ltInt (G i2) (G (i2 - 1)) with
          | false =>
            go_wp2
            go_roundw
            case rel =>
              refine ⟨i2 + 1, by go_num, by omega, by omega, hide2 ⟨H2.out.1.drewN _, ?_⟩⟩
              rw [← H2.out.2, sorted_go dk b i2 hlt (by rw [← HG.out, ← HG.out, hl])]
            case measure => simp [intOf]; omega
          | true =>
            have hst := partialIns_step a b s i dk i2 (by rw [← H2.out.2, sorted_stop dk b i2 (.inr (by rw [← HG.out, ← HG.out, hl]))])
            rw [HFi.out, if_neg (by omega)] at hst
            have HST := hide2 hst
            clear hst
            by_cases h50 : b - a < 50
            · go_wp2
              go_ret
              have hst := HST.out
              rw [if_pos h50] at hst
              rw [hst]
              exact ⟨rfl, hide2 (H2.out.1.drewN _)⟩
            · have h50I : ((b : Int) - (a : Int) < 50) = False := eq_false (by omega)
              have hst := HST.out
              rw [if_neg h50] at hst
              have HST := hide2 hst
              clear hst
              go_wp2
              generalize hwq : wr.drewN nq = wq
              have hS := H2.out.1.drewN nq
              rw [hwq] at hS
              have hc3 : ∀ t, t < n → wq.cell? ⟨blk, off + t, none⟩ = some (.int .i32 (G t)) := fun t ht => by rw [HG.out]; exact hS.cell t ht
              have hf3 := hS.frz
              have HS3 := hide2 hS
              clear hS hc hf hwq
              go_region
              have HS4 := hide2 ((HS3.out.drewN 1).swap (i := i2) (j := i2 - 1) (by omega) (by omega) (HG.out _) (HG.out _))
              clear hc3 hf3 HS3
              go_upto_if 61 with fail
              go_cut [] from 62 to 94 (fun wc => SS w blk off n wc (if i2 - a ≥ 2 then shiftDown ltInt (i2 - 1) (swp dk i2 (i2 - 1)) else swp dk i2 (i2 - 1)))
              case first =>
                by_cases h2 : i2 - a ≥ 2
                · have h2I : (2 ≤ (i2 : Int) - (a : Int)) = True := eq_true (by omega)
                  go_wp2
                  go_loopw [9] (fun jv wr => ∃ (j : Nat) (dj : Array Int), jv = .int .i64 j ∧ j ≤ i2 - 1 ∧ Hid (SS w blk off n wr dj ∧ shiftDown ltInt j dj = shiftDown ltInt (i2 - 1) (swp dk i2 (i2 - 1)))) (fun jv _ => (intOf jv).toNat)
                  case atStart => exact ⟨i2 - 1, (swp dk i2 (i2 - 1)), by congr 1; omega, Nat.le_refl _, hide2 ⟨HS4.out, rfl⟩⟩
                  case round =>
                    obtain ⟨j, dj, rfl, hj, H5⟩ := hrel
                    by_cases hj1 : 1 ≤ j
                    · have hj1I : (1 ≤ (j : Int)) = True := eq_true (by omega)
                      obtain ⟨G5, hG5, hc5, hf5⟩ := H5.out.1.fam
                      have HG5 := hide2 hG5
                      have hb5 : j < n := by omega
                      clear hG5
                      go_wp2
                      go_quiet (first | (go_at_call 192; refine Calls.quiet_of_same (less_any _ _ _)))
                      cases hl5 : ltInt (G5 j) (G5 (j - 1)) with
                      | false =>
                        go_wp2
                        go_meet
                        rw [if_pos h2, ← H5.out.2, shD_stop j dj (.inr (by rw [← HG5.out, ← HG5.out, hl5]))]
                        exact H5.out.1.drewN _
                      | true =>
                        go_wp2
                        generalize hwq : wr.drewN nq = wq
                        have hS := H5.out.1.drewN nq
                        rw [hwq] at hS
                        have hc6 : ∀ t, t < n → wq.cell? ⟨blk, off + t, none⟩ = some (.int .i32 (G5 t)) := fun t ht => by rw [HG5.out]; exact hS.cell t ht
                        have hf6 := hS.frz
                        have HS6 := hide2 hS
                        clear hS hc5 hf5 hwq
                        go_region
                        go_wp2
                        go_roundw
                        case rel =>
                          refine ⟨j - 1, swp dj j (j - 1), by congr 1; omega, by omega, hide2 ⟨(HS6.out.drewN 1).swap (by omega) (by omega) (HG5.out _) (HG5.out _), ?_⟩⟩
                          rw [← H5.out.2, shD_go j dj hj1 (by rw [← HG5.out, ← HG5.out, hl5])]
                        case measure => simp [intOf]; omega
                    · have hj1I : (1 ≤ (j : Int)) = False := eq_false (by omega)
                      go_wp2
                      go_meet
                      rw [if_pos h2, ← H5.out.2, shD_stop j dj (.inl (by omega))]
                      exact H5.out.1
                · have h2I : (2 ≤ (i2 : Int) - (a : Int)) = False := eq_false (by omega)
                  go_wp2
                  go_meet
                  rw [if_neg h2]
                  exact HS4.out
              case rest =>
                have HS5 := hide2 hcut
                clear hcut HS4
                generalize (if i2 - a ≥ 2 then shiftDown ltInt (i2 - 1) (swp dk i2 (i2 - 1)) else swp dk i2 (i2 - 1)) = d5 at *
                have FI : Hid (∀ (wz : World) (d7 : Array Int), SS w blk off n wz d7 → d7 = (if b - i2 ≥ 2 then shiftUp ltInt b (i2 + 1) d5 else d5) → ∃ (i k' : Nat) (dk : Array Int), Value.int .i64 (i2 : Int) = .int .i64 i ∧ Value.int .i64 ((k : Int) + 1) = .int .i64 k' ∧ a < i ∧ i ≤ b ∧ k' ≤ 5 ∧ Hid (SS w blk off n wz dk ∧ partialIns ltInt a b (5 - k') i dk = fin)) := hide2 fun wz d7 h7 e7 => by
                  refine ⟨i2, k + 1, d7, rfl, by go_num, by omega, by omega, by omega, hide2 ⟨h7, ?_⟩⟩
                  rw [show 5 - (k + 1) = s by have := HK.out; omega, e7]
                  exact HST.out.symm
                by_cases h2 : b - i2 ≥ 2
                · have h2I : (2 ≤ (b : Int) - (i2 : Int)) = True := eq_true (by omega)
                  go_wp2
                  go_loopw [10] (fun jv wr => ∃ (j : Nat) (dj : Array Int), jv = .int .i64 j ∧ i2 + 1 ≤ j ∧ j ≤ b ∧ Hid (SS w blk off n wr dj ∧ shiftUp ltInt b j dj = shiftUp ltInt b (i2 + 1) d5)) (fun jv _ => b - (intOf jv).toNat)
                  case atStart => exact ⟨i2 + 1, d5, by go_num, Nat.le_refl _, by omega, hide2 ⟨HS5.out, rfl⟩⟩
                  case round =>
                    obtain ⟨j, dj, rfl, hj0, hj, H5⟩ := hrel
                    by_cases hj1 : j < b
                    · obtain ⟨G5, hG5, hc5, hf5⟩ := H5.out.1.fam
                      have HG5 := hide2 hG5
                      have hb5 : j < n := by omega
                      clear hG5
                      go_wp2
                      go_quiet (first | (go_at_call 192; refine Calls.quiet_of_same (less_any _ _ _)))
                      cases hl5 : ltInt (G5 j) (G5 (j - 1)) with
                      | false =>
                        go_wp2
                        go_roundw
                        case rel => exact FI.out _ _ (H5.out.1.drewN _) (by rw [if_pos h2, ← H5.out.2, shU_stop b j dj (.inr (by rw [← HG5.out, ← HG5.out, hl5]))])
                        case measure => simp [intOf]; omega
                      | true =>
                        go_wp2
                        generalize hwq : wr.drewN nq = wq
                        have hS := H5.out.1.drewN nq
                        rw [hwq] at hS
                        have hc6 : ∀ t, t < n → wq.cell? ⟨blk, off + t, none⟩ = some (.int .i32 (G5 t)) := fun t ht => by rw [HG5.out]; exact hS.cell t ht
                        have hf6 := hS.frz
                        have HS6 := hide2 hS
                        clear hS hc5 hf5 hwq
                        go_region
                        go_wp2
                        go_roundw
                        case rel =>
                          refine ⟨j + 1, swp dj j (j - 1), by go_num, by omega, by omega, hide2 ⟨(HS6.out.drewN 1).swap (by omega) (by omega) (HG5.out _) (HG5.out _), ?_⟩⟩
                          rw [← H5.out.2, shU_go b j dj hj1 (by rw [← HG5.out, ← HG5.out, hl5])]
                        case measure => simp [intOf]; omega
                    · go_wp2
                      go_roundw
                      case rel => exact FI.out _ _ (H5.out.1) (by rw [if_pos h2, ← H5.out.2, shU_stop b j dj (.inl hj1)])
                      case measure => simp [intOf]; omega
                · have h2I : (2 ≤ (b : Int) - (i2 : Int)) = False := eq_false (by omega)
                  go_wp2
                  go_roundw
                  case rel => exact FI.out _ _ HS5.out (by rw [if_neg h2])
                  case measure => simp [intOf]; omega
        · have hst := partialIns_step a b s i dk i2 (by rw [← H2.out.2, sorted_stop dk b i2 (.inl hlt)])
          rw [HFi.out, if_pos (by omega)] at hst
          have HST := hide2 hst
          clear hst
          have hbe : ((i2 : Int) == (b : Int)) = true := beq_iff_eq.2 (by omega)
          go_quiet (first | (go_at_call 192; refine Calls.quiet_of_same (less_any _ _ _)))
          go_wp2
          go_ret
          rw [HST.out]
          exact ⟨rfl, hide2 (H2.out.1.drewN _)⟩
    · have hk5I : ((k : Int) < 5) = False := eq_false (by omega)
      go_wp2
      go_ret
      have h2 := H.out.2
      rw [show 5 - k = 0 by omega] at h2
      rw [← h2]
      exact ⟨rfl, hide2 H.out.1⟩
end Go.Proofs.YtlhokghgicgppaaGreatDoor
