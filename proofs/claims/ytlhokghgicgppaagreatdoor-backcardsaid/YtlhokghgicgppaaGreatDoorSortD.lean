/- The library's sort at runes: partitionOrdered. -/
import Derived.Test.YtlhokghgicgppaaGreatDoorSortC
set_option linter.unusedSimpArgs false
set_option linter.unusedVariables false
set_option maxRecDepth 100000
set_option maxHeartbeats 4000000
namespace Go.Proofs.YtlhokghgicgppaaGreatDoor
open Go.RowKit Go.Extern Go.Sort
set_option maxHeartbeats 8000000 in
theorem part_any (w : World) (blk off cap n a b pivot : Nat) (W : World) (d : Array Int) (h : SS w blk off n W d) (hab : a + 1 < b) (hb : b ≤ n) (hp1 : a ≤ pivot) (hp2 : pivot < b) (hn : n < 1000000) :
    Calls Tryz.prog 194 #[.slice (some ⟨blk, off, none⟩) n cap, .int .i64 a, .int .i64 b, .int .i64 pivot] W fun e W' => ∃ ap, e = .returned (.tuple #[.int .i64 ((partition ltInt d a b pivot).1 : Nat), .bool ap]) ∧ Hid (SS w blk off n W' (partition ltInt d a b pivot).2.2) := by
  have H0 := hide2 h
  obtain ⟨G0, hG0, hc0, hf0⟩ := h.fam
  obtain ⟨b1, rfl⟩ : ∃ b1, b = b1 + 1 := ⟨b - 1, by omega⟩
  obtain ⟨y, hy⟩ : ∃ y, (W.setCell ⟨blk, off + a, none⟩ (.int .i32 (G0 pivot))).cell? ⟨blk, off + pivot, none⟩ = some y := Option.isSome_iff_exists.1 (by rw [live_setCell, hc0 pivot (by omega)]; rfl)
  have HG0 := hide2 hG0
  clear h hG0
  rw [partition_fst, partition_arr, Nat.add_sub_cancel]
  generalize hfin : partLoop ltInt a (a + 1) b1 (swp d a pivot) = fin
  have HF0 := hide2 hfin
  clear hfin
  have ba : a < n := by omega
  have bp : pivot < n := by omega
  go_enter Tryz.func194, Tryz.ntmps194
  go_wp2
  go_region
  clear hy
  have HS0 := hide2 ((H0.out.drewN 1).swap (i := a) (j := pivot) ba bp (HG0.out _) (HG0.out _))
  clear hc0 hf0
  go_wp2
  go_loopw [10] (fun iv wr => ∃ (i2 : Nat), iv = .int .i64 i2 ∧ a + 1 ≤ i2 ∧ i2 ≤ b1 + 1 ∧ Hid (SS w blk off n wr (swp d a pivot) ∧ scanUp (fun x => ltInt x (swp d a pivot)[a]!) (swp d a pivot) b1 i2 = scanUp (fun x => ltInt x (swp d a pivot)[a]!) (swp d a pivot) b1 (a + 1))) (fun iv _ => b1 + 1 - (intOf iv).toNat)
  case atStart => exact ⟨a + 1, by go_num, Nat.le_refl _, by omega, hide2 ⟨HS0.out, rfl⟩⟩
  case round =>
    clear HS0
    obtain ⟨i2, rfl, hi1, hi2, H2⟩ := hrel
    obtain ⟨G, hG, hc, hf⟩ := H2.out.1.fam
    have HG := hide2 hG
    clear hG
    go_wp2
    by_cases hgo : i2 ≤ b1 ∧ ltInt (G i2) (G a) = true
    · obtain ⟨hle, hl⟩ := hgo
      have hb2 : i2 < n := by omega
      go_quiet (first | (go_at_call 192; refine Calls.quiet_of_same (less_any _ _ _)))
      go_wp2
      go_roundw
      case rel =>
        refine ⟨i2 + 1, by go_num, by omega, by omega, hide2 ⟨H2.out.1.drewN _, ?_⟩⟩
        rw [← H2.out.2, up_go _ (swp d a pivot) b1 i2 hle (by rw [← HG.out, ← HG.out, hl])]
      case measure => simp [intOf]; omega
    · have hst : scanUp (fun x => ltInt x (swp d a pivot)[a]!) (swp d a pivot) b1 (a + 1) = i2 := by
        rw [← H2.out.2, up_stop]
        by_cases hle : i2 ≤ b1
        · right
          rw [← HG.out, ← HG.out]
          cases hl : ltInt (G i2) (G a)
          · rfl
          · exact absurd ⟨hle, hl⟩ hgo
        · exact .inl hle
      have HST := hide2 hst
      have hway : (i2 < n ∧ i2 ≤ b1 ∧ ltInt (G i2) (G a) = false) ∨ ¬ i2 ≤ b1 := by
        by_cases hle : i2 ≤ b1
        · left
          cases hl : ltInt (G i2) (G a)
          · exact ⟨by omega, hle, rfl⟩
          · exact absurd ⟨hle, hl⟩ hgo
        · exact .inr hle
      have HA : Hid (i2 ≤ b1 → ltInt (swp d a pivot)[i2]! (swp d a pivot)[a]! = false) := hide2 (fun h => by
        rcases hway with g | g
        · rw [← HG.out, ← HG.out]; exact g.2.2
        · exact absurd h g)
      clear hst hgo
      rcases hway with ⟨hb2, hle, hl⟩ | hle
      all_goals go_quiet (first | (go_at_call 192; refine Calls.quiet_of_same (less_any _ _ _)))
      all_goals go_wp2
      all_goals (
        have HQ := hide2 (H2.out.1.drewN nq)
        clear hle hc hf H2
        generalize wr.drewN nq = wq at *
        go_loopw [11] (fun jv wr => ∃ (j2 : Nat), jv = .int .i64 j2 ∧ j2 ≤ b1 ∧ i2 ≤ j2 + 1 ∧ Hid (SS w blk off n wr (swp d a pivot) ∧ scanDown (fun x => !ltInt x (swp d a pivot)[a]!) (swp d a pivot) i2 j2 = scanDown (fun x => !ltInt x (swp d a pivot)[a]!) (swp d a pivot) i2 (b1))) (fun jv _ => (intOf jv).toNat)
        case atStart => exact ⟨b1, by go_num, Nat.le_refl _, hi2, hide2 ⟨HQ.out, rfl⟩⟩
        case round =>
          clear HQ
          obtain ⟨j2, rfl, hj1, hj2, H3⟩ := hrel
          obtain ⟨G2, hG2, hc2, hf2⟩ := H3.out.1.fam
          have HG2 := hide2 hG2
          clear hG2
          go_wp2
          by_cases hgo : i2 ≤ j2 ∧ ltInt (G2 j2) (G2 a) = false
          · obtain ⟨hle, hl⟩ := hgo
            have hb3 : j2 < n := by omega
            go_quiet (first | (go_at_call 192; refine Calls.quiet_of_same (less_any _ _ _)))
            go_wp2
            go_roundw
            case rel =>
              refine ⟨j2 - 1, by congr 1; omega, by omega, by omega, hide2 ⟨H3.out.1.drewN _, ?_⟩⟩
              rw [← H3.out.2, down_go _ (swp d a pivot) i2 j2 (by omega) hle (by rw [← HG2.out, ← HG2.out, hl]; rfl)]
            case measure => simp [intOf]; omega
          · have hst : scanDown (fun x => !ltInt x (swp d a pivot)[a]!) (swp d a pivot) i2 (b1) = j2 := by
              rw [← H3.out.2, down_stop]
              by_cases hle : i2 ≤ j2
              · right
                rw [← HG2.out, ← HG2.out]
                cases hl : ltInt (G2 j2) (G2 a)
                · exact absurd ⟨hle, hl⟩ hgo
                · rfl
              · exact .inl hle
            have hstep := part_step a (a + 1) (b1) (swp d a pivot) i2 j2 HST.out hst
            rw [HF0.out] at hstep
            have HP := hide2 hstep
            have hway : (j2 < n ∧ i2 ≤ j2 ∧ ltInt (G2 j2) (G2 a) = true) ∨ ¬ i2 ≤ j2 := by
              by_cases hle : i2 ≤ j2
              · left
                cases hl : ltInt (G2 j2) (G2 a)
                · exact absurd ⟨hle, hl⟩ hgo
                · exact ⟨by omega, hle, rfl⟩
              · exact .inr hle
            clear hst hgo hstep
            rcases hway with ⟨hb3, hle, hl⟩ | hle
            · have hb4 : i2 < n := by omega
              have hne : i2 ≠ j2 := fun e => by
                have h1 := HA.out (by omega)
                rw [e, ← HG2.out, ← HG2.out, hl] at h1
                cases h1
              go_quiet (first | (go_at_call 192; refine Calls.quiet_of_same (less_any _ _ _)))
              go_wp2
              generalize hwq : wr.drewN nq = wq
              have hS := H3.out.1.drewN nq
              rw [hwq] at hS
              have hc3 : ∀ t, t < n → wq.cell? ⟨blk, off + t, none⟩ = some (.int .i32 (G2 t)) := fun t ht => by rw [HG2.out]; exact hS.cell t ht
              have hf3 := hS.frz
              obtain ⟨y, hy⟩ : ∃ y, (wq.setCell ⟨blk, off + i2, none⟩ (.int .i32 (G2 j2))).cell? ⟨blk, off + j2, none⟩ = some y := Option.isSome_iff_exists.1 (by rw [live_setCell, hc3 j2 hb3]; rfl)
              have HS3 := hide2 hS
              clear hS hc2 hf2 hwq
              go_region
              clear hy
              have HS4 := hide2 ((HS3.out.drewN 1).swap hb4 hb3 (HG2.out _) (HG2.out _))
              have hfin2 := HP.out
              rw [if_neg (by omega)] at hfin2
              have HF4 := hide2 hfin2.symm
              clear hc3 hf3 HS3 hfin2
              go_wp2
              go_loopw [10, 11] (fun iv jv wr => ∃ (i j : Nat) (dk : Array Int), iv = .int .i64 i ∧ jv = .int .i64 j ∧ a < i ∧ i ≤ j + 1 ∧ j ≤ b1 ∧ Hid (SS w blk off n wr dk ∧ partLoop ltInt a i j dk = fin)) (fun iv jv _ => (intOf jv).toNat + 1 - (intOf iv).toNat)
              case atStart => exact ⟨i2 + 1, j2 - 1, _, by go_num, by congr 1; omega, by omega, by omega, by omega, hide2 ⟨HS4.out, HF4.out⟩⟩
              case round =>
                clear HS4 HF4 HA HST HP HG HG2 hl hle hne hi1 hi2 hj1 hj2 hb3 hb4
                obtain ⟨i, j, dk, rfl, rfl, hai, hij, hjb, H⟩ := hrel
                have HSi := hide2 H.out.1
                have HFi := hide2 H.out.2
                clear H
                go_wp2
                go_loopw [10] (fun iv wr => ∃ (i2 : Nat), iv = .int .i64 i2 ∧ i ≤ i2 ∧ i2 ≤ j + 1 ∧ Hid (SS w blk off n wr dk ∧ scanUp (fun x => ltInt x dk[a]!) dk j i2 = scanUp (fun x => ltInt x dk[a]!) dk j (i))) (fun iv _ => j + 1 - (intOf iv).toNat)
                case atStart => exact ⟨i, by go_num, Nat.le_refl _, by omega, hide2 ⟨HSi.out, rfl⟩⟩
                case round =>
                  clear HSi
                  obtain ⟨i2, rfl, hi1, hi2, H2⟩ := hrel
                  obtain ⟨G, hG, hc, hf⟩ := H2.out.1.fam
                  have HG := hide2 hG
                  clear hG
                  go_wp2
                  by_cases hgo : i2 ≤ j ∧ ltInt (G i2) (G a) = true
                  · obtain ⟨hle, hl⟩ := hgo
                    have hb2 : i2 < n := by omega
                    go_quiet (first | (go_at_call 192; refine Calls.quiet_of_same (less_any _ _ _)))
                    go_wp2
                    go_roundw
                    case rel =>
                      refine ⟨i2 + 1, by go_num, by omega, by omega, hide2 ⟨H2.out.1.drewN _, ?_⟩⟩
                      rw [← H2.out.2, up_go _ dk j i2 hle (by rw [← HG.out, ← HG.out, hl])]
                    case measure => simp [intOf]; omega
                  · have hst : scanUp (fun x => ltInt x dk[a]!) dk j (i) = i2 := by
                      rw [← H2.out.2, up_stop]
                      by_cases hle : i2 ≤ j
                      · right
                        rw [← HG.out, ← HG.out]
                        cases hl : ltInt (G i2) (G a)
                        · rfl
                        · exact absurd ⟨hle, hl⟩ hgo
                      · exact .inl hle
                    have HST := hide2 hst
                    have hway : (i2 < n ∧ i2 ≤ j ∧ ltInt (G i2) (G a) = false) ∨ ¬ i2 ≤ j := by
                      by_cases hle : i2 ≤ j
                      · left
                        cases hl : ltInt (G i2) (G a)
                        · exact ⟨by omega, hle, rfl⟩
                        · exact absurd ⟨hle, hl⟩ hgo
                      · exact .inr hle
                    have HA : Hid (i2 ≤ j → ltInt dk[i2]! dk[a]! = false) := hide2 (fun h => by
                      rcases hway with g | g
                      · rw [← HG.out, ← HG.out]; exact g.2.2
                      · exact absurd h g)
                    clear hst hgo
                    rcases hway with ⟨hb2, hle, hl⟩ | hle
                    all_goals go_quiet (first | (go_at_call 192; refine Calls.quiet_of_same (less_any _ _ _)))
                    all_goals go_wp2
                    all_goals (
                      have HQ := hide2 (H2.out.1.drewN nq)
                      clear hle hc hf H2
                      generalize wr.drewN nq = wq at *
                      go_loopw [11] (fun jv wr => ∃ (j2 : Nat), jv = .int .i64 j2 ∧ j2 ≤ j ∧ i2 ≤ j2 + 1 ∧ Hid (SS w blk off n wr dk ∧ scanDown (fun x => !ltInt x dk[a]!) dk i2 j2 = scanDown (fun x => !ltInt x dk[a]!) dk i2 (j))) (fun jv _ => (intOf jv).toNat)
                      case atStart => exact ⟨j, by go_num, Nat.le_refl _, hi2, hide2 ⟨HQ.out, rfl⟩⟩
                      case round =>
                        clear HQ
                        obtain ⟨j2, rfl, hj1, hj2, H3⟩ := hrel
                        obtain ⟨G2, hG2, hc2, hf2⟩ := H3.out.1.fam
                        have HG2 := hide2 hG2
                        clear hG2
                        go_wp2
                        by_cases hgo : i2 ≤ j2 ∧ ltInt (G2 j2) (G2 a) = false
                        · obtain ⟨hle, hl⟩ := hgo
                          have hb3 : j2 < n := by omega
                          go_quiet (first | (go_at_call 192; refine Calls.quiet_of_same (less_any _ _ _)))
                          go_wp2
                          go_roundw
                          case rel =>
                            refine ⟨j2 - 1, by congr 1; omega, by omega, by omega, hide2 ⟨H3.out.1.drewN _, ?_⟩⟩
                            rw [← H3.out.2, down_go _ dk i2 j2 (by omega) hle (by rw [← HG2.out, ← HG2.out, hl]; rfl)]
                          case measure => simp [intOf]; omega
                        · have hst : scanDown (fun x => !ltInt x dk[a]!) dk i2 (j) = j2 := by
                            rw [← H3.out.2, down_stop]
                            by_cases hle : i2 ≤ j2
                            · right
                              rw [← HG2.out, ← HG2.out]
                              cases hl : ltInt (G2 j2) (G2 a)
                              · exact absurd ⟨hle, hl⟩ hgo
                              · rfl
                            · exact .inl hle
                          have hstep := part_step a (i) (j) dk i2 j2 HST.out hst
                          rw [HFi.out] at hstep
                          have HP := hide2 hstep
                          have hway : (j2 < n ∧ i2 ≤ j2 ∧ ltInt (G2 j2) (G2 a) = true) ∨ ¬ i2 ≤ j2 := by
                            by_cases hle : i2 ≤ j2
                            · left
                              cases hl : ltInt (G2 j2) (G2 a)
                              · exact absurd ⟨hle, hl⟩ hgo
                              · exact ⟨by omega, hle, rfl⟩
                            · exact .inr hle
                          clear hst hgo hstep
                          rcases hway with ⟨hb3, hle, hl⟩ | hle
                          · have hb4 : i2 < n := by omega
                            have hne : i2 ≠ j2 := fun e => by
                              have h1 := HA.out (by omega)
                              rw [e, ← HG2.out, ← HG2.out, hl] at h1
                              cases h1
                            go_quiet (first | (go_at_call 192; refine Calls.quiet_of_same (less_any _ _ _)))
                            go_wp2
                            generalize hwq : wr.drewN nq = wq
                            have hS := H3.out.1.drewN nq
                            rw [hwq] at hS
                            have hc3 : ∀ t, t < n → wq.cell? ⟨blk, off + t, none⟩ = some (.int .i32 (G2 t)) := fun t ht => by rw [HG2.out]; exact hS.cell t ht
                            have hf3 := hS.frz
                            obtain ⟨y, hy⟩ : ∃ y, (wq.setCell ⟨blk, off + i2, none⟩ (.int .i32 (G2 j2))).cell? ⟨blk, off + j2, none⟩ = some y := Option.isSome_iff_exists.1 (by rw [live_setCell, hc3 j2 hb3]; rfl)
                            have HS3 := hide2 hS
                            clear hS hc2 hf2 hwq
                            go_region
                            clear hy
                            have HS4 := hide2 ((HS3.out.drewN 1).swap hb4 hb3 (HG2.out _) (HG2.out _))
                            have hfin2 := HP.out
                            rw [if_neg (by omega)] at hfin2
                            have HF4 := hide2 hfin2.symm
                            clear hc3 hf3 HS3 hfin2
                            go_wp2
                            go_roundw
                            case rel => exact ⟨i2 + 1, j2 - 1, _, by go_num, by congr 1; omega, by omega, by omega, by omega, hide2 ⟨HS4.out, HF4.out⟩⟩
                            case measure => simp [intOf]; omega
                          · have hja : a ≤ j2 := by omega
                            have hb3 : j2 < n := by omega
                            go_quiet (first | (go_at_call 192; refine Calls.quiet_of_same (less_any _ _ _)))
                            go_wp2
                            generalize hwq : wr.drewN nq = wq
                            have hS := H3.out.1.drewN nq
                            rw [hwq] at hS
                            have hc3 : ∀ t, t < n → wq.cell? ⟨blk, off + t, none⟩ = some (.int .i32 (G2 t)) := fun t ht => by rw [HG2.out]; exact hS.cell t ht
                            have hf3 := hS.frz
                            obtain ⟨y, hy⟩ : ∃ y, (wq.setCell ⟨blk, off + j2, none⟩ (.int .i32 (G2 a))).cell? ⟨blk, off + a, none⟩ = some y := Option.isSome_iff_exists.1 (by rw [live_setCell, hc3 a ba]; rfl)
                            have HS3 := hide2 hS
                            clear hS hc2 hf2 hwq
                            go_region
                            clear hy
                            go_wp2
                            go_ret2
                            have hfin2 := HP.out
                            rw [if_pos (by omega)] at hfin2
                            rw [hfin2]
                            exact ⟨_, rfl, hide2 ((HS3.out.drewN 1).swap hb3 ba (HG2.out _) (HG2.out _))⟩)
            · have hja : a ≤ j2 := by omega
              have hb3 : j2 < n := by omega
              go_quiet (first | (go_at_call 192; refine Calls.quiet_of_same (less_any _ _ _)))
              go_wp2
              generalize hwq : wr.drewN nq = wq
              have hS := H3.out.1.drewN nq
              rw [hwq] at hS
              have hc3 : ∀ t, t < n → wq.cell? ⟨blk, off + t, none⟩ = some (.int .i32 (G2 t)) := fun t ht => by rw [HG2.out]; exact hS.cell t ht
              have hf3 := hS.frz
              obtain ⟨y, hy⟩ : ∃ y, (wq.setCell ⟨blk, off + j2, none⟩ (.int .i32 (G2 a))).cell? ⟨blk, off + a, none⟩ = some y := Option.isSome_iff_exists.1 (by rw [live_setCell, hc3 a ba]; rfl)
              have HS3 := hide2 hS
              clear hS hc2 hf2 hwq
              go_region
              clear hy
              go_wp2
              go_ret2
              have hfin2 := HP.out
              rw [if_pos (by omega)] at hfin2
              rw [hfin2]
              exact ⟨_, rfl, hide2 ((HS3.out.drewN 1).swap hb3 ba (HG2.out _) (HG2.out _))⟩)
end Go.Proofs.YtlhokghgicgppaaGreatDoor
