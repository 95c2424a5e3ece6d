/- (*Machine).inOrder. -/
import Derived.Test.YtlhokghgicgppaaDoorCount
set_option linter.unusedSimpArgs false
set_option linter.unusedVariables false
namespace Go.Proofs.YtlhokghgicgppaaDoor
open Go.RowKit Go.Extern

theorem st_cells {w : World} {sr : Option Addr} {sc : Nat} {zs : List StZ} (h : RowAt 2 w sr sc zs.length (zs.flatMap stCells)) (j : Nat) (hj : j < zs.length) : ∃ rb ro, sr = some ⟨rb, ro, none⟩ ∧ w.cell? ⟨rb, ro + j * 2, none⟩ = some (.int .i64 zs[j].1.1) ∧ w.cell? ⟨rb, ro + j * 2 + 1, none⟩ = some (.slice zs[j].2.1 zs[j].1.2.length zs[j].2.2) := by
  rcases h.row with ⟨_, _, h0⟩ | ⟨rb, ro, rfl, _, hc, _⟩
  · omega
  · refine ⟨rb, ro, rfl, ?_, ?_⟩
    · have := hc (j * 2 + 0) (.int .i64 zs[j].1.1) (by rw [flat_get stCells 2 (fun _ => rfl) zs j 0 hj (by omega)]; rfl)
      simpa using this
    · have := hc (j * 2 + 1) (.slice zs[j].2.1 zs[j].1.2.length zs[j].2.2) (by rw [flat_get stCells 2 (fun _ => rfl) zs j 1 hj (by omega)]; rfl)
      rw [← Nat.add_assoc] at this; exact this
theorem nx_cell {w : World} {na : Option Addr} {nc : Nat} {l : List Int} (h : RowAt 1 w na nc l.length (intsV l)) (k : Nat) (hk : k < l.length) : ∃ nb no, na = some ⟨nb, no, none⟩ ∧ w.cell? ⟨nb, no + k, none⟩ = some (.int .i64 l[k]) := by
  rcases h.row with ⟨_, _, h0⟩ | ⟨rb, ro, rfl, _, hc, _⟩
  · omega
  · refine ⟨rb, ro, rfl, hc k (.int .i64 l[k]) ?_⟩
    rw [intsV_get l k hk, List.getD_eq_getElem?_getD, List.getElem?_eq_getElem hk]; rfl
def Sg.finO (n : Nat) : Option Int → Bool
  | none => false
  | some met => decide (met = (n : Int))
def Sg.finN (kinds : Int) (l : List (Int × List Int)) (at_ : Int) (n : Nat) : Option Int → Bool
  | none => false
  | some met => Sg.finO n (Sg.ordGo kinds l at_ met)

set_option maxRecDepth 100000 in
set_option maxHeartbeats 4000000 in
theorem inOrder_any (w : World) (p : Nat) (cs : List (Int × Int)) (zs : List StZ) (kinds : Nat) (h : MadeAt w p cs zs) (hN : zs.length < 1000000) (hW : ∀ z ∈ zs, z.1.2.length < 1000000) (hk : kinds < 10000000) (hb : ∀ z ∈ zs, (-1 ≤ z.1.1 ∧ z.1.1 < 2097152) ∧ ∀ x ∈ z.1.2, -1 ≤ x ∧ x < 2097152) :
    Calls Tryd.prog 32 #[.pointer (some ⟨p, 0, none⟩), .int .i64 kinds] w fun e w' => e = .returned (.bool (Sg.ordT ⟨cs, zs.map (·.1)⟩ kinds)) ∧ Below w.heap.size w w' := by
  obtain ⟨sr, sc, hc1, hrow⟩ := h.c1
  have HR := hide2 hrow
  have HN := hide2 h.rows
  have HW := hide2 hW
  have HB := hide2 hb
  clear h hrow hW hb
  have hT : Sg.ordT ⟨cs, zs.map (·.1)⟩ kinds = if zs.length = 0 ∨ 201 < zs.length ∨ Sg.Mach.rule ⟨cs, zs.map (·.1)⟩ 0 ≠ -1 then false else Sg.finO zs.length (Sg.ordGo kinds (zs.map (·.1)) 0 1) := by
    unfold Sg.ordT
    rw [List.length_map]
    split
    · rfl
    · cases Sg.ordGo kinds (zs.map (·.1)) 0 1 <;> rfl
  generalize Sg.ordT ⟨cs, zs.map (·.1)⟩ kinds = r at *
  by_cases h0 : zs.length = 0
  · have hr : r = false := by rw [hT, if_pos (.inl h0)]
    subst hr
    rw [h0] at hc1
    clear hT
    go_enter Tryd.func32, Tryd.ntmps32
    go_wp2
    go_ret
    exact ⟨rfl, Below.refl _ _⟩
  · have h0' : (((zs.length : Nat) : Int) == 0) = false := beq_eq_false_iff_ne.2 (by omega)
    obtain ⟨rb, ro, rfl, hru, hnx⟩ := st_cells HR.out 0 (by omega)
    rw [Nat.zero_mul, Nat.add_zero] at hru
    have hru0 : Sg.Mach.rule ⟨cs, zs.map (·.1)⟩ 0 = zs[0].1.1 := by
      unfold Sg.Mach.rule
      rw [List.getD_eq_getElem?_getD, List.getElem?_map, List.getElem?_eq_getElem (by omega)]; rfl
    rw [hru0] at hT
    generalize zs[0].1.1 = ru at *
    by_cases h1 : 201 < zs.length
    · have hr : r = false := by rw [hT, if_pos (.inr (.inl h1))]
      subst hr
      clear hT hru0
      go_enter Tryd.func32, Tryd.ntmps32
      go_wp2
      go_ret
      exact ⟨rfl, Below.refl _ _⟩
    · by_cases h2 : ru = -1
      · subst h2
        have hr : r = Sg.finO zs.length (Sg.ordGo kinds (zs.map (·.1)) 0 1) := by rw [hT, if_neg (fun t => by rcases t with t | t | t; exact h0 t; exact h1 t; exact t rfl)]
        have H0 := hide2 hr
        clear hT hru0 hr
        go_enter Tryd.func32, Tryd.ntmps32
        go_wp2
        go_loopw [5, 39] (fun mv iv wr => ∃ (j met : Nat), mv = .int .i64 met ∧ iv = .int .i64 j ∧ j ≤ zs.length ∧ met ≤ 2097152 ∧ Hid (Below w.heap.size w wr ∧ r = Sg.finO zs.length (Sg.ordGo kinds ((zs.map (·.1)).drop j) j met))) (fun _ iv _ => zs.length - (intOf iv).toNat)
        case atStart => exact ⟨0, 1, rfl, rfl, Nat.zero_le _, by omega, hide2 ⟨Below.refl _ _, H0.out⟩⟩
        case round =>
          obtain ⟨j, met, rfl, rfl, hj, hmet, H⟩ := hrel
          by_cases hlt : j < zs.length
          · obtain ⟨rb2, ro2, hsr, hrj, hnj⟩ := st_cells (HR.out.below H.out.1) j hlt
            cases hsr
            have hmem : zs[j] ∈ zs := List.getElem_mem hlt
            have hbz := HB.out _ hmem
            have hwz := HW.out _ hmem
            have hrowz := (HN.out _ hmem).below H.out.1
            have hd : (zs.map (·.1)).drop j = zs[j].1 :: (zs.map (·.1)).drop (j + 1) := by
              rw [List.drop_eq_getElem_cons (by rw [List.length_map]; exact hlt), List.getElem_map]
            have hr := H.out.2
            rw [hd] at hr
            unfold Sg.ordGo at hr
            have hbw := H.out.1
            have hbw1 : ∀ o, Below w.heap.size w (wr.alloc o) := fun o => hbw.alloc hbw.size o
            generalize zs[j] = z at *
            obtain ⟨⟨rj, nx⟩, na, nc⟩ := z
            dsimp only at hrj hnj hbz hwz hrowz hr
            have hbad : (met ≤ j ∨ 8 ≤ rj ∨ nx.length ≠ kinds) → r = false := fun t => by
              rw [hr, if_pos (by omega)]; rfl
            have hgood : ¬ (met ≤ j ∨ 8 ≤ rj ∨ nx.length ≠ kinds) → r = Sg.finN kinds ((zs.map (·.1)).drop (j + 1)) ((j : Int) + 1) zs.length (Sg.nextsGo nx met) := fun t => by
              rw [hr, if_neg (by omega)]
              cases Sg.nextsGo nx met <;> rfl
            have HBad := hide2 hbad
            have HGood := hide2 hgood
            have HBz := hide2 hbz.2
            have hrb1 := hbz.1
            have HRz := hide2 hrowz
            have HBw := hide2 hbw1
            have Hmem := hide2 hmem
            clear hr hd hbad hgood hbz hrowz hbw hbw1 hmem
            by_cases hcond : met ≤ j ∨ 8 ≤ rj ∨ nx.length ≠ kinds
            · have hrf := HBad.out hcond
              subst hrf
              by_cases hc3 : nx.length = kinds
              · subst hc3
                go_wp2
                all_goals first
                  | (go_ret
                     exact ⟨rfl, HBw.out _⟩)
                  | (exfalso; omega)
              · have hne : (((nx.length : Nat) : Int) == (kinds : Int)) = false := beq_eq_false_iff_ne.2 (by omega)
                have hne2 : (((nx.length : Nat) : Int) != (kinds : Int)) = true := bne_iff_ne.2 (by omega)
                go_wp2
                all_goals first
                  | (go_ret
                     exact ⟨rfl, HBw.out _⟩)
                  | (exfalso; omega)
            · have hc1' : ¬ met ≤ j := fun t => hcond (.inl t)
              have hc2' : ¬ 8 ≤ rj := fun t => hcond (.inr (.inl t))
              have hc3' : nx.length = kinds := Decidable.byContradiction fun t => hcond (.inr (.inr t))
              have HG := hide2 (HGood.out hcond)
              subst hc3'
              clear HBad HGood
              go_wp2
              go_loopw [5, 67] (fun mv kv wr2 => ∃ (k met2 : Nat), mv = .int .i64 met2 ∧ kv = .int .i64 k ∧ k ≤ nx.length ∧ met2 ≤ 2097152 ∧ Hid (Below w.heap.size w wr2 ∧ RowAt 1 wr2 na nc nx.length (intsV nx) ∧ r = Sg.finN nx.length ((zs.map (·.1)).drop (j + 1)) ((j : Int) + 1) zs.length (Sg.nextsGo (nx.drop k) met2))) (fun _ kv _ => nx.length - (intOf kv).toNat)
              case atStart => exact ⟨0, met, rfl, rfl, Nat.zero_le _, hmet, hide2 ⟨HBw.out _, HRz.out.kept (Kept.alloc _ _), HG.out⟩⟩
              case round =>
                obtain ⟨k, met2, rfl, rfl, hk2, hmet2, H2⟩ := hrel
                by_cases hlk : k < nx.length
                · obtain ⟨nb, no, rfl, hnk⟩ := nx_cell H2.out.2.1 k hlk
                  have hbk := HBz.out nx[k] (List.getElem_mem hlk)
                  have hr := H2.out.2.2
                  rw [List.drop_eq_getElem_cons hlk] at hr
                  unfold Sg.nextsGo at hr
                  generalize nx[k] = y at *
                  have hbad : (y = 0 ∨ (met2 : Int) < y) → r = false := fun t => by
                    rw [hr, if_pos (by omega)]; rfl
                  have hgood : ¬ (y = 0 ∨ (met2 : Int) < y) → r = Sg.finN nx.length ((zs.map (·.1)).drop (j + 1)) ((j : Int) + 1) zs.length (Sg.nextsGo (nx.drop (k + 1)) (if y = (met2 : Int) then (met2 : Int) + 1 else met2)) := fun t => by
                    rw [hr, if_neg (by omega)]
                  have HBad := hide2 hbad
                  have HGood := hide2 hgood
                  clear hr hbad hgood HG HBz
                  by_cases hy0 : y = 0 ∨ (met2 : Int) < y
                  · have hrf := HBad.out hy0
                    subst hrf
                    have hy0' : (y == 0) = decide (y = 0) := rfl
                    by_cases hyz : y = 0
                    · subst hyz
                      go_wp2
                      go_ret
                      exact ⟨rfl, H2.out.1⟩
                    · have hyz' : (y == 0) = false := beq_eq_false_iff_ne.2 hyz
                      have hyl : (met2 : Int) < y := by omega
                      clear hy0'
                      go_wp2
                      go_ret
                      exact ⟨rfl, H2.out.1⟩
                  · have hyz : ¬ y = 0 := fun t => hy0 (.inl t)
                    have hyl : ¬ (met2 : Int) < y := fun t => hy0 (.inr t)
                    have hyz' : (y == 0) = false := beq_eq_false_iff_ne.2 hyz
                    have HG2 := hide2 (HGood.out hy0)
                    clear HBad HGood hy0
                    by_cases hym : y = (met2 : Int)
                    · subst hym
                      go_wp2
                      go_roundw
                      case rel =>
                        refine ⟨k + 1, met2 + 1, by go_num, by go_num, by omega, by omega, hide2 ⟨H2.out.1, H2.out.2.1, ?_⟩⟩
                        rw [HG2.out, if_pos rfl]; rfl
                      case measure => simp [intOf]; omega
                    · have hym' : (y == (met2 : Int)) = false := beq_eq_false_iff_ne.2 hym
                      go_wp2
                      go_roundw
                      case rel =>
                        refine ⟨k + 1, met2, rfl, by go_num, by omega, by omega, hide2 ⟨H2.out.1, H2.out.2.1, ?_⟩⟩
                        rw [HG2.out, if_neg hym]
                      case measure => simp [intOf]; omega
                · have hr := H2.out.2.2
                  have hdn : nx.drop k = [] := List.drop_of_length_le (by omega)
                  rw [hdn] at hr
                  have HRr := hide2 hr
                  clear hr HG hdn
                  go_wp2
                  go_roundw
                  case rel => exact ⟨j + 1, met2, rfl, by go_num, by omega, by omega, hide2 ⟨H2.out.1, by rw [HRr.out]; rfl⟩⟩
                  case measure => simp [intOf]; omega
          · have hr := H.out.2
            rw [List.drop_of_length_le (by rw [List.length_map]; omega)] at hr
            have hc1r : wr.cell? ⟨p, 1, none⟩ = some (.slice (some ⟨rb, ro, none⟩) zs.length sc) := (H.out.1.cell (p := ⟨p, 1, none⟩) (cell_lt hc1)).trans hc1
            have HRr := hide2 hr
            clear hr
            go_wp2
            go_ret
            refine ⟨ret_bool ?_, H.out.1⟩
            rw [HRr.out]
            show decide ((met : Int) = (zs.length : Int)) = _
            rfl
      · have hr : r = false := by rw [hT, if_pos (.inr (.inr h2))]
        subst hr
        have h2' : (ru == -1) = false := beq_eq_false_iff_ne.2 h2
        have h2'' : (ru != -1) = true := bne_iff_ne.2 h2
        clear hT hru0
        go_enter Tryd.func32, Tryd.ntmps32
        go_wp2
        go_ret
        exact ⟨rfl, Below.refl _ _⟩
end Go.Proofs.YtlhokghgicgppaaDoor
