/- (*Machine).countKinds. -/
/- (*Machine).inOrder. -/
/- (*Machine).scalarsOnly. -/
/- allMatch's closure, which calls itself. -/
/- (*Machine).allMatch. -/
import Derived.Test.YtlhokghgicgppaaGreatDoorMachine4
import Derived.Test.YtlhokghgicgppaaGreatDoorWalk
set_option linter.unusedSimpArgs false
set_option linter.unusedVariables false
set_option maxRecDepth 100000
set_option maxHeartbeats 4000000
namespace Go.Proofs.YtlhokghgicgppaaGreatDoor
open Go.RowKit Go.Extern
structure MadeAt (w : World) (p : Nat) (cs : List (Int × Int)) (zs : List StZ) : Prop where
  c0 : ∃ cr cc, w.cell? ⟨p, 0, none⟩ = some (.slice cr cs.length cc) ∧ RowAt 2 w cr cc cs.length (cs.flatMap cutCells)
  c1 : ∃ sr sc, w.cell? ⟨p, 1, none⟩ = some (.slice sr zs.length sc) ∧ RowAt 2 w sr sc zs.length (zs.flatMap stzCells)
  rows : ∀ z ∈ zs, RowAt 1 w z.2.1 z.2.2 z.1.2.length (intsV z.1.2)
theorem MadeAt.below {w w' : World} {p : Nat} {cs : List (Int × Int)} {zs : List StZ} (h : MadeAt w p cs zs) (hb : Below w.heap.size w w') : MadeAt w' p cs zs := by
  obtain ⟨cr, cc, a1, a2⟩ := h.c0
  obtain ⟨sr, sc, b1, b2⟩ := h.c1
  have hk := Kept.of_below hb
  exact ⟨⟨cr, cc, hk.cell _ _ _ a1, a2.kept hk⟩, ⟨sr, sc, hk.cell _ _ _ b1, b2.kept hk⟩, fun z hz => (h.rows z hz).kept hk⟩
theorem Made.at_ {w w' : World} {p : Nat} {cs : List (Int × Int)} {zs : List StZ} {n1 n2 : Nat} (h : Made w w' p cs zs n1 n2) : MadeAt w' p cs zs := ⟨h.c0, h.c1, h.rows⟩
theorem cut_cells {w : World} {cr : Option Addr} {cc : Nat} {cs : List (Int × Int)} (h : RowAt 2 w cr cc cs.length (cs.flatMap cutCells)) (j : Nat) (hj : j < cs.length) : ∃ rb ro, cr = some ⟨rb, ro, none⟩ ∧ w.cell? ⟨rb, ro + j * 2, none⟩ = some (.int .i32 (cs.getD j (0, 0)).1) ∧ w.cell? ⟨rb, ro + j * 2 + 1, none⟩ = some (.int .i64 (cs.getD j (0, 0)).2) := by
  have e : cs.getD j (0, 0) = cs[j] := by rw [List.getD_eq_getElem?_getD, List.getElem?_eq_getElem hj]; rfl
  rw [e]
  rcases h.row with ⟨_, _, h0⟩ | ⟨rb, ro, rfl, _, hc, _⟩
  · omega
  · refine ⟨rb, ro, rfl, ?_, ?_⟩
    · have := hc (j * 2 + 0) (.int .i32 cs[j].1) (by rw [flat_get cutCells 2 (fun _ => rfl) cs j 0 hj (by omega)]; rfl)
      simpa using this
    · have := hc (j * 2 + 1) (.int .i64 cs[j].2) (by rw [flat_get cutCells 2 (fun _ => rfl) cs j 1 hj (by omega)]; rfl)
      rw [← Nat.add_assoc] at this; exact this
theorem countKinds_any (w : World) (p : Nat) (cs : List (Int × Int)) (zs : List StZ) (h : MadeAt w p cs zs) (hN : cs.length < 1000000) (hb : ∀ x ∈ cs, (0 ≤ x.1 ∧ x.1 < 2097152) ∧ (0 ≤ x.2 ∧ x.2 < 2097152)) :
    Calls Tryz.prog 113 #[.pointer (some ⟨p, 0, none⟩)] w fun e w' => e = .returned (.tuple #[.int .i64 (Sg.cntT cs).1, .bool (Sg.cntT cs).2]) ∧ Below w.heap.size w w' := by
  obtain ⟨cr, cc, hc0, hrow⟩ := h.c0
  have HR := hide2 hrow
  clear h hrow
  have H0 := hide2 (show Sg.cntT cs = Sg.cntGo cs true 0 0 from rfl)
  generalize Sg.cntT cs = r at *
  go_enter Tryz.func113, Tryz.ntmps113
  go_wp2
  go_loopw [4, 5, 13] (fun kv lv iv wr => ∃ (j k ls : Nat), kv = .int .i64 k ∧ lv = .int .i32 ls ∧ iv = .int .i64 j ∧ j ≤ cs.length ∧ k ≤ 2097152 ∧ ls ≤ 2097152 ∧ Hid (Below w.heap.size w wr ∧ r = Sg.cntGo (cs.drop j) (decide (j = 0)) k ls)) (fun _ _ iv _ => cs.length - (intOf iv).toNat)
  case atStart => exact ⟨0, 0, 0, rfl, rfl, rfl, Nat.zero_le _, by omega, by omega, hide2 ⟨Below.refl _ _, H0.out⟩⟩
  case round =>
    obtain ⟨j, k, ls, rfl, rfl, rfl, hj, hk, hls, H⟩ := hrel
    by_cases hlt : j < cs.length
    · obtain ⟨rb, ro, rfl, hlo, hki⟩ := cut_cells (HR.out.below H.out.1) j hlt
      have hbx := hb (cs.getD j (0, 0)) (by rw [List.getD_eq_getElem?_getD, List.getElem?_eq_getElem hlt]; exact List.getElem_mem _)
      have hd : cs.drop j = cs.getD j (0, 0) :: cs.drop (j + 1) := by
        rw [List.drop_eq_getElem_cons hlt, List.getD_eq_getElem?_getD, List.getElem?_eq_getElem hlt]; rfl
      have hr := H.out.2
      rw [hd] at hr
      unfold Sg.cntGo at hr
      generalize cs.getD j (0, 0) = x at *
      obtain ⟨lo, ki⟩ := x
      obtain ⟨y0, hy0⟩ := Int.eq_ofNat_of_zero_le hbx.1.1
      obtain ⟨y1, hy1⟩ := Int.eq_ofNat_of_zero_le hbx.2.1
      dsimp only at hlo hki hr hbx hy0 hy1
      subst hy0 hy1
      have hbad : ((j = 0 ∧ y0 ≠ 0) ∨ y0 < ls ∨ 1114112 < y0 ∨ k < y1) → r = (0, false) := fun t => by
        rw [hr, if_pos]
        simp only [decide_eq_true_eq]
        omega
      have hgood : ¬ ((j = 0 ∧ y0 ≠ 0) ∨ y0 < ls ∨ 1114112 < y0 ∨ k < y1) → r = Sg.cntGo (cs.drop (j + 1)) (decide (j + 1 = 0)) ((max k (y1 + 1) : Nat) : Int) ((y0 + 1 : Nat) : Int) := fun t => by
        rw [hr, if_neg]
        · rw [show (decide (j + 1 = 0)) = false by simp, show ((max k (y1 + 1) : Nat) : Int) = max (k : Int) ((y1 : Int) + 1) by omega, show ((y0 + 1 : Nat) : Int) = (y0 : Int) + 1 by omega]
        · simp only [decide_eq_true_eq]
          omega
      have HB := hide2 hbad
      have HG := hide2 hgood
      have hbw := H.out.1
      have HBw := hide2 (fun o => hbw.alloc hbw.size o)
      clear hr hd hbad hgood hbw
      go_wp2
      all_goals first
        | (go_ret2
           rw [HB.out (by omega)]
           exact ⟨rfl, HBw.out _⟩)
        | (go_roundw
           case rel => exact ⟨j + 1, max k (y1 + 1), y0 + 1, by go_num, by go_num, by go_num, by omega, by omega, by omega, hide2 ⟨HBw.out _, HG.out (by omega)⟩⟩
           case measure => simp [intOf]; omega)
    · have hr := H.out.2
      rw [List.drop_of_length_le (by omega)] at hr
      unfold Sg.cntGo at hr
      have HRr := hide2 hr
      clear hr
      go_wp2
      go_ret2
      rw [HRr.out]
      exact ⟨by simp, H.out.1⟩
end Go.Proofs.YtlhokghgicgppaaGreatDoor
namespace Go.Proofs.YtlhokghgicgppaaGreatDoor
open Go.RowKit Go.Extern
theorem st_cells {w : World} {sr : Option Addr} {sc : Nat} {zs : List StZ} (h : RowAt 2 w sr sc zs.length (zs.flatMap stzCells)) (j : Nat) (hj : j < zs.length) : ∃ rb ro, sr = some ⟨rb, ro, none⟩ ∧ w.cell? ⟨rb, ro + j * 2, none⟩ = some (.int .i64 zs[j].1.1) ∧ w.cell? ⟨rb, ro + j * 2 + 1, none⟩ = some (.slice zs[j].2.1 zs[j].1.2.length zs[j].2.2) := by
  rcases h.row with ⟨_, _, h0⟩ | ⟨rb, ro, rfl, _, hc, _⟩
  · omega
  · refine ⟨rb, ro, rfl, ?_, ?_⟩
    · have := hc (j * 2 + 0) (.int .i64 zs[j].1.1) (by rw [flat_get stzCells 2 (fun _ => rfl) zs j 0 hj (by omega)]; rfl)
      simpa using this
    · have := hc (j * 2 + 1) (.slice zs[j].2.1 zs[j].1.2.length zs[j].2.2) (by rw [flat_get stzCells 2 (fun _ => rfl) zs j 1 hj (by omega)]; rfl)
      rw [← Nat.add_assoc] at this; exact this
theorem nx_cell {w : World} {na : Option Addr} {nc : Nat} {l : List Int} (h : RowAt 1 w na nc l.length (intsV l)) (k : Nat) (hk : k < l.length) : ∃ nb no, na = some ⟨nb, no, none⟩ ∧ w.cell? ⟨nb, no + k, none⟩ = some (.int .i64 l[k]) := by
  rcases h.row with ⟨_, _, h0⟩ | ⟨rb, ro, rfl, _, hc, _⟩
  · omega
  · refine ⟨rb, ro, rfl, hc k (.int .i64 l[k]) ?_⟩
    rw [intsV_get l k hk, List.getD_eq_getElem?_getD, List.getElem?_eq_getElem hk]; rfl
def Sg.finO (n : Nat) : Option Int → Bool
  | none => false
  | some met => decide (met = (n : Int))
def Sg.finN (kinds : Int) (l : List (Int × List Int)) (at_ : Int) (n : Nat) : Option Int → Bool
  | none => false
  | some met => Sg.finO n (Sg.ordGo kinds l at_ met)
theorem inOrder_any (w : World) (p : Nat) (cs : List (Int × Int)) (zs : List StZ) (kinds : Nat) (h : MadeAt w p cs zs) (hN : zs.length < 1000000) (hW : ∀ z ∈ zs, z.1.2.length < 1000000) (hk : kinds < 10000000) (hb : ∀ z ∈ zs, (-1 ≤ z.1.1 ∧ z.1.1 < 2097152) ∧ ∀ x ∈ z.1.2, -1 ≤ x ∧ x < 2097152) :
    Calls Tryz.prog 114 #[.pointer (some ⟨p, 0, none⟩), .int .i64 kinds] w fun e w' => e = .returned (.bool (Sg.ordT ⟨cs, zs.map (·.1)⟩ kinds)) ∧ Below w.heap.size w w' := by
  obtain ⟨sr, sc, hc1, hrow⟩ := h.c1
  have HR := hide2 hrow
  have HN := hide2 h.rows
  have HW := hide2 hW
  have HB := hide2 hb
  clear h hrow hW hb
  have hT : Sg.ordT ⟨cs, zs.map (·.1)⟩ kinds = if zs.length = 0 ∨ 201 < zs.length ∨ Sg.Mach.rule ⟨cs, zs.map (·.1)⟩ 0 ≠ -1 then false else Sg.finO zs.length (Sg.ordGo kinds (zs.map (·.1)) 0 1) := by
    unfold Sg.ordT
    rw [List.length_map]
    split
    · rfl
    · cases Sg.ordGo kinds (zs.map (·.1)) 0 1 <;> rfl
  generalize Sg.ordT ⟨cs, zs.map (·.1)⟩ kinds = r at *
  by_cases h0 : zs.length = 0
  · have hr : r = false := by rw [hT, if_pos (.inl h0)]
    subst hr
    rw [h0] at hc1
    clear hT
    go_enter Tryz.func114, Tryz.ntmps114
    go_wp2
    go_ret
    exact ⟨rfl, Below.refl _ _⟩
  · have h0' : (((zs.length : Nat) : Int) == 0) = false := beq_eq_false_iff_ne.2 (by omega)
    obtain ⟨rb, ro, rfl, hru, hnx⟩ := st_cells HR.out 0 (by omega)
    rw [Nat.zero_mul, Nat.add_zero] at hru
    have hru0 : Sg.Mach.rule ⟨cs, zs.map (·.1)⟩ 0 = zs[0].1.1 := by
      unfold Sg.Mach.rule
      rw [List.getD_eq_getElem?_getD, List.getElem?_map, List.getElem?_eq_getElem (by omega)]; rfl
    rw [hru0] at hT
    generalize zs[0].1.1 = ru at *
    by_cases h1 : 201 < zs.length
    · have hr : r = false := by rw [hT, if_pos (.inr (.inl h1))]
      subst hr
      clear hT hru0
      go_enter Tryz.func114, Tryz.ntmps114
      go_wp2
      go_ret
      exact ⟨rfl, Below.refl _ _⟩
    · by_cases h2 : ru = -1
      · subst h2
        have hr : r = Sg.finO zs.length (Sg.ordGo kinds (zs.map (·.1)) 0 1) := by rw [hT, if_neg (fun t => by rcases t with t | t | t; exact h0 t; exact h1 t; exact t rfl)]
        have H0 := hide2 hr
        clear hT hru0 hr
        go_enter Tryz.func114, Tryz.ntmps114
        go_wp2
        go_loopw [5, 39] (fun mv iv wr => ∃ (j met : Nat), mv = .int .i64 met ∧ iv = .int .i64 j ∧ j ≤ zs.length ∧ met ≤ 2097152 ∧ Hid (Below w.heap.size w wr ∧ r = Sg.finO zs.length (Sg.ordGo kinds ((zs.map (·.1)).drop j) j met))) (fun _ iv _ => zs.length - (intOf iv).toNat)
        case atStart => exact ⟨0, 1, rfl, rfl, Nat.zero_le _, by omega, hide2 ⟨Below.refl _ _, H0.out⟩⟩
        case round =>
          obtain ⟨j, met, rfl, rfl, hj, hmet, H⟩ := hrel
          by_cases hlt : j < zs.length
          · obtain ⟨rb2, ro2, hsr, hrj, hnj⟩ := st_cells (HR.out.below H.out.1) j hlt
            cases hsr
            have hmem : zs[j] ∈ zs := List.getElem_mem hlt
            have hbz := HB.out _ hmem
            have hwz := HW.out _ hmem
            have hrowz := (HN.out _ hmem).below H.out.1
            have hd : (zs.map (·.1)).drop j = zs[j].1 :: (zs.map (·.1)).drop (j + 1) := by
              rw [List.drop_eq_getElem_cons (by rw [List.length_map]; exact hlt), List.getElem_map]
            have hr := H.out.2
            rw [hd] at hr
            unfold Sg.ordGo at hr
            have hbw := H.out.1
            have hbw1 : ∀ o, Below w.heap.size w (wr.alloc o) := fun o => hbw.alloc hbw.size o
            generalize zs[j] = z at *
            obtain ⟨⟨rj, nx⟩, na, nc⟩ := z
            dsimp only at hrj hnj hbz hwz hrowz hr
            have hbad : (met ≤ j ∨ 8 ≤ rj ∨ nx.length ≠ kinds) → r = false := fun t => by
              rw [hr, if_pos (by omega)]; rfl
            have hgood : ¬ (met ≤ j ∨ 8 ≤ rj ∨ nx.length ≠ kinds) → r = Sg.finN kinds ((zs.map (·.1)).drop (j + 1)) ((j : Int) + 1) zs.length (Sg.nextsGo nx met) := fun t => by
              rw [hr, if_neg (by omega)]
              cases Sg.nextsGo nx met <;> rfl
            have HBad := hide2 hbad
            have HGood := hide2 hgood
            have HBz := hide2 hbz.2
            have hrb1 := hbz.1
            have HRz := hide2 hrowz
            have HBw := hide2 hbw1
            have Hmem := hide2 hmem
            clear hr hd hbad hgood hbz hrowz hbw hbw1 hmem
            by_cases hcond : met ≤ j ∨ 8 ≤ rj ∨ nx.length ≠ kinds
            · have hrf := HBad.out hcond
              subst hrf
              by_cases hc3 : nx.length = kinds
              · subst hc3
                go_wp2
                all_goals first
                  | (go_ret
                     exact ⟨rfl, HBw.out _⟩)
                  | (exfalso; omega)
              · have hne : (((nx.length : Nat) : Int) == (kinds : Int)) = false := beq_eq_false_iff_ne.2 (by omega)
                have hne2 : (((nx.length : Nat) : Int) != (kinds : Int)) = true := bne_iff_ne.2 (by omega)
                go_wp2
                all_goals first
                  | (go_ret
                     exact ⟨rfl, HBw.out _⟩)
                  | (exfalso; omega)
            · have hc1' : ¬ met ≤ j := fun t => hcond (.inl t)
              have hc2' : ¬ 8 ≤ rj := fun t => hcond (.inr (.inl t))
              have hc3' : nx.length = kinds := Decidable.byContradiction fun t => hcond (.inr (.inr t))
              have HG := hide2 (HGood.out hcond)
              subst hc3'
              clear HBad HGood
              go_wp2
              go_loopw [5, 67] (fun mv kv wr2 => ∃ (k met2 : Nat), mv = .int .i64 met2 ∧ kv = .int .i64 k ∧ k ≤ nx.length ∧ met2 ≤ 2097152 ∧ Hid (Below w.heap.size w wr2 ∧ RowAt 1 wr2 na nc nx.length (intsV nx) ∧ r = Sg.finN nx.length ((zs.map (·.1)).drop (j + 1)) ((j : Int) + 1) zs.length (Sg.nextsGo (nx.drop k) met2))) (fun _ kv _ => nx.length - (intOf kv).toNat)
              case atStart => exact ⟨0, met, rfl, rfl, Nat.zero_le _, hmet, hide2 ⟨HBw.out _, HRz.out.kept (Kept.alloc _ _), HG.out⟩⟩
              case round =>
                obtain ⟨k, met2, rfl, rfl, hk2, hmet2, H2⟩ := hrel
                by_cases hlk : k < nx.length
                · obtain ⟨nb, no, rfl, hnk⟩ := nx_cell H2.out.2.1 k hlk
                  have hbk := HBz.out nx[k] (List.getElem_mem hlk)
                  have hr := H2.out.2.2
                  rw [List.drop_eq_getElem_cons hlk] at hr
                  unfold Sg.nextsGo at hr
                  generalize nx[k] = y at *
                  have hbad : (y = 0 ∨ (met2 : Int) < y) → r = false := fun t => by
                    rw [hr, if_pos (by omega)]; rfl
                  have hgood : ¬ (y = 0 ∨ (met2 : Int) < y) → r = Sg.finN nx.length ((zs.map (·.1)).drop (j + 1)) ((j : Int) + 1) zs.length (Sg.nextsGo (nx.drop (k + 1)) (if y = (met2 : Int) then (met2 : Int) + 1 else met2)) := fun t => by
                    rw [hr, if_neg (by omega)]
                  have HBad := hide2 hbad
                  have HGood := hide2 hgood
                  clear hr hbad hgood HG HBz
                  by_cases hy0 : y = 0 ∨ (met2 : Int) < y
                  · have hrf := HBad.out hy0
                    subst hrf
                    have hy0' : (y == 0) = decide (y = 0) := rfl
                    by_cases hyz : y = 0
                    · subst hyz
                      go_wp2
                      go_ret
                      exact ⟨rfl, H2.out.1⟩
                    · have hyz' : (y == 0) = false := beq_eq_false_iff_ne.2 hyz
                      have hyl : (met2 : Int) < y := by omega
                      clear hy0'
                      go_wp2
                      go_ret
                      exact ⟨rfl, H2.out.1⟩
                  · have hyz : ¬ y = 0 := fun t => hy0 (.inl t)
                    have hyl : ¬ (met2 : Int) < y := fun t => hy0 (.inr t)
                    have hyz' : (y == 0) = false := beq_eq_false_iff_ne.2 hyz
                    have HG2 := hide2 (HGood.out hy0)
                    clear HBad HGood hy0
                    by_cases hym : y = (met2 : Int)
                    · subst hym
                      go_wp2
                      go_roundw
                      case rel =>
                        refine ⟨k + 1, met2 + 1, by go_num, by go_num, by omega, by omega, hide2 ⟨H2.out.1, H2.out.2.1, ?_⟩⟩
                        rw [HG2.out, if_pos rfl]; rfl
                      case measure => simp [intOf]; omega
                    · have hym' : (y == (met2 : Int)) = false := beq_eq_false_iff_ne.2 hym
                      go_wp2
                      go_roundw
                      case rel =>
                        refine ⟨k + 1, met2, rfl, by go_num, by omega, by omega, hide2 ⟨H2.out.1, H2.out.2.1, ?_⟩⟩
                        rw [HG2.out, if_neg hym]
                      case measure => simp [intOf]; omega
                · have hr := H2.out.2.2
                  have hdn : nx.drop k = [] := List.drop_of_length_le (by omega)
                  rw [hdn] at hr
                  have HRr := hide2 hr
                  clear hr HG hdn
                  go_wp2
                  go_roundw
                  case rel => exact ⟨j + 1, met2, rfl, by go_num, by omega, by omega, hide2 ⟨H2.out.1, by rw [HRr.out]; rfl⟩⟩
                  case measure => simp [intOf]; omega
          · have hr := H.out.2
            rw [List.drop_of_length_le (by rw [List.length_map]; omega)] at hr
            have hc1r : wr.cell? ⟨p, 1, none⟩ = some (.slice (some ⟨rb, ro, none⟩) zs.length sc) := (H.out.1.cell (p := ⟨p, 1, none⟩) (cell_lt hc1)).trans hc1
            have HRr := hide2 hr
            clear hr
            go_wp2
            go_ret
            refine ⟨ret_bool ?_, H.out.1⟩
            rw [HRr.out]
            show decide ((met : Int) = (zs.length : Int)) = _
            rfl
      · have hr : r = false := by rw [hT, if_pos (.inr (.inr h2))]
        subst hr
        have h2' : (ru == -1) = false := beq_eq_false_iff_ne.2 h2
        have h2'' : (ru != -1) = true := bne_iff_ne.2 h2
        clear hT hru0
        go_enter Tryz.func114, Tryz.ntmps114
        go_wp2
        go_ret
        exact ⟨rfl, Below.refl _ _⟩
end Go.Proofs.YtlhokghgicgppaaGreatDoor
namespace Go.Proofs.YtlhokghgicgppaaGreatDoor
open Go.RowKit Go.Extern
theorem MadeAt.mach {w : World} {p : Nat} {cs : List (Int × Int)} {zs : List StZ} (h : MadeAt w p cs zs) (hm : Sg.Mach.Ok ⟨cs, zs.map (·.1)⟩) (hw : ∀ i, i < zs.length → 0 < Sg.Mach.width ⟨cs, zs.map (·.1)⟩ i) : MachIn w w.heap.size p ⟨cs, zs.map (·.1)⟩ := by
  obtain ⟨cr, cc, a1, a2⟩ := h.c0
  obtain ⟨sr, sc, b1, b2⟩ := h.c1
  have c0 := hm.cuts0
  have s0 := hm.states0
  rw [List.length_map] at s0
  obtain ⟨cb, co, rfl, _, _⟩ := cut_cells a2 0 c0
  obtain ⟨sb, so, rfl, _, _⟩ := st_cells b2 0 s0
  have hwd : ∀ i (hi : i < zs.length), Sg.Mach.width ⟨cs, zs.map (·.1)⟩ i = zs[i].1.2.length := fun i hi => by
    unfold Sg.Mach.width
    rw [List.getD_eq_getElem?_getD, List.getElem?_map, List.getElem?_eq_getElem hi]; rfl
  have hru : ∀ i (hi : i < zs.length), Sg.Mach.rule ⟨cs, zs.map (·.1)⟩ i = zs[i].1.1 := fun i hi => by
    unfold Sg.Mach.rule
    rw [List.getD_eq_getElem?_getD, List.getElem?_map, List.getElem?_eq_getElem hi]; rfl
  have hnx : ∀ i k (hi : i < zs.length) (hk : k < zs[i].1.2.length), Sg.Mach.next ⟨cs, zs.map (·.1)⟩ i k = zs[i].1.2[k] := fun i k hi hk => by
    unfold Sg.Mach.next
    have e : (zs.map (·.1)).getD i (0, []) = zs[i].1 := by rw [List.getD_eq_getElem?_getD, List.getElem?_map, List.getElem?_eq_getElem hi]; rfl
    rw [e, List.getD_eq_getElem?_getD, List.getElem?_eq_getElem hk]; rfl
  refine ⟨cb, co, cc, sb, so, sc, fun i => if hi : i < zs.length then ((zs[i].2.1.map (·.block)).getD 0) else 0, fun i => if hi : i < zs.length then ((zs[i].2.1.map (·.off)).getD 0) else 0, fun i => if hi : i < zs.length then zs[i].2.2 else 0, ⟨a1, ?_, ?_, ?_, ?_, ?_, ?_⟩, cell_lt a1, a2.lt rfl, b2.lt rfl, ?_, a2.le⟩
  · show w.cell? ⟨p, 1, none⟩ = some (.slice (some ⟨sb, so, none⟩) (zs.map (·.1)).length sc)
    rw [List.length_map]; exact b1
  · intro i hi
    obtain ⟨_, _, e, k1, _⟩ := cut_cells a2 i hi
    cases e; exact k1
  · intro i hi
    obtain ⟨_, _, e, _, k2⟩ := cut_cells a2 i hi
    cases e; exact k2
  · intro i hi
    have hi' : i < zs.length := by simpa using hi
    obtain ⟨_, _, e, k1, _⟩ := st_cells b2 i hi'
    cases e
    rw [hru i hi']; exact k1
  · intro i hi
    have hi' : i < zs.length := by simpa using hi
    obtain ⟨_, _, e, _, k2⟩ := st_cells b2 i hi'
    cases e
    have hpos := hw i hi'
    rw [hwd i hi'] at hpos
    obtain ⟨nb, no, e2, _⟩ := nx_cell (h.rows _ (List.getElem_mem hi')) 0 hpos
    rw [hwd i hi']
    simp only [dif_pos hi']
    rw [k2, e2]; rfl
  · intro i k hi hk
    have hi' : i < zs.length := by simpa using hi
    rw [hwd i hi'] at hk
    obtain ⟨nb, no, e2, k3⟩ := nx_cell (h.rows _ (List.getElem_mem hi')) k hk
    rw [hnx i k hi' hk]
    simp only [dif_pos hi', e2]
    exact k3
  · intro i hi
    have hi' : i < zs.length := by simpa using hi
    simp only [dif_pos hi']
    have hpos := hw i hi'
    rw [hwd i hi'] at hpos
    obtain ⟨nb, no, e2, k3⟩ := nx_cell (h.rows _ (List.getElem_mem hi')) 0 hpos
    rw [e2]
    exact cell_lt k3
def Sg.ScalB (m : Sg.Mach) : Prop := ∀ s, s < m.states.length → m.goesOn s 55296 57343 = false ∧ m.goesOn s 1114112 1114112 = false
theorem scalarsOnly_any (w : World) (B p : Nat) (m : Sg.Mach) (hm : m.Ok) (M : MachIn w B p m) :
    Calls Tryz.prog 115 #[.pointer (some ⟨p, 0, none⟩)] w fun e w' => (∃ b : Bool, e = .returned (.bool b) ∧ (Sg.ScalB m → b = true)) ∧ Below w.heap.size w w' := by
  obtain ⟨cb, co, cc, sb, so, sc, nb, no, nc, M, l1, l2, l3, l4, l5⟩ := M
  have hc1 := M.c1
  have hsN := hm.statesN
  have HG : Hid (∀ (s : Nat) (low high : Int) (w' : World), s < m.states.length → Below w.heap.size w w' → Calls Tryz.prog 63 #[.pointer (some ⟨p, 0, none⟩), .int .i64 s, .int .i32 low, .int .i32 high] w' fun e w'' => e = .returned (.bool (m.goesOn s low high)) ∧ Below w.heap.size w w'') := hide2 fun s low high w' hs hb => (goesOn_any m hm s low high w' p cb co cc sb so sc nb no nc (M.below hb) hs l5).mono (by
    rintro e w'' ⟨h1, h2⟩
    exact ⟨h1, hb.trans (h2.mono hb.size)⟩)
  clear M
  go_enter Tryz.func115, Tryz.ntmps115
  go_wp2
  go_loopw [9] (fun iv wr => ∃ j : Nat, iv = .int .i64 j ∧ j ≤ m.states.length ∧ Hid (Below w.heap.size w wr)) (fun iv _ => m.states.length - (intOf iv).toNat)
  case atStart => exact ⟨0, rfl, Nat.zero_le _, hide2 (Below.refl _ _)⟩
  case round =>
    obtain ⟨j, rfl, hj, H⟩ := hrel
    by_cases hlt : j < m.states.length
    · have HG1 := hide2 (HG.out j 55296 57343 wr hlt H.out)
      have HG2 := hide2 (fun w' hb => HG.out j 1114112 1114112 w' hlt hb)
      obtain ⟨b1, hb1⟩ : ∃ b1, m.goesOn j 55296 57343 = b1 := ⟨_, rfl⟩
      obtain ⟨b2, hb2⟩ : ∃ b2, m.goesOn j 1114112 1114112 = b2 := ⟨_, rfl⟩
      have HSc : Hid (Sg.ScalB m → b1 = false ∧ b2 = false) := hide2 fun hs => by rw [← hb1, ← hb2]; exact hs j hlt
      rw [hb1] at HG1
      rw [hb2] at HG2
      clear hb1 hb2
      clear HG
      cases b1
      · cases b2
        · go_wp2_with (first
            | (go_at_call 63; refine HG1.out.mono ?_; clear HG1; rintro e w2 ⟨rfl, hb2⟩; have HB2 := hide2 hb2; clear hb2)
            | (go_at_call 63; refine (HG2.out w2 HB2.out).mono ?_; clear HG2; rintro e w3 ⟨rfl, hb3⟩; have HB3 := hide2 hb3; clear hb3))
          go_roundw
          case rel => exact ⟨j + 1, by go_num, by omega, HB3⟩
          case measure => simp [intOf]; omega
        · go_wp2_with (first
            | (go_at_call 63; refine HG1.out.mono ?_; clear HG1; rintro e w2 ⟨rfl, hb2⟩; have HB2 := hide2 hb2; clear hb2)
            | (go_at_call 63; refine (HG2.out w2 HB2.out).mono ?_; clear HG2; rintro e w3 ⟨rfl, hb3⟩; have HB3 := hide2 hb3; clear hb3))
          go_ret
          exact ⟨⟨false, rfl, fun hs => by have := (HSc.out hs).2; cases this⟩, HB3.out⟩
      · go_wp2_with (go_at_call 63; refine HG1.out.mono ?_; clear HG1; rintro e w2 ⟨rfl, hb2⟩; have HB2 := hide2 hb2; clear hb2)
        go_ret
        exact ⟨⟨false, rfl, fun hs => by have := (HSc.out hs).1; cases this⟩, HB2.out⟩
    · go_wp2
      go_ret
      exact ⟨⟨true, rfl, fun _ => rfl⟩, H.out⟩
end Go.Proofs.YtlhokghgicgppaaGreatDoor
namespace Go.Proofs.YtlhokghgicgppaaGreatDoor
open Go.RowKit Go.Extern
structure BefAt (W : World) (ba n cnt : Nat) (f : Nat → Option Addr × Nat × List Int) : Prop where
 cell : ∀ j, j < n → W.cell? ⟨ba, j, none⟩ = some (.slice (f j).1 (f j).2.2.length (f j).2.1)
 row : ∀ j, j < n → RowAt 1 W (f j).1 (f j).2.1 (f j).2.2.length (intsV (f j).2.2)
 bd : ∀ j, j < n → ∀ x ∈ (f j).2.2, 0 ≤ x ∧ x < (n : Int)
 new : ∀ j, j < n → ∀ b o, (f j).1 = some ⟨b, o, none⟩ → ba < b
 apart : ∀ j j', j < n → j' < n → j ≠ j' → ∀ b o o', (f j).1 = some ⟨b, o, none⟩ → (f j').1 ≠ some ⟨b, o', none⟩
 le : ∀ j, j < n → (f j).2.2.length ≤ cnt
 free : ∀ j, W.frozen? ⟨ba, j, none⟩ = false
theorem BefAt.of {W W' : World} {ba n cnt : Nat} {f : Nat → Option Addr × Nat × List Int} (h : BefAt W ba n cnt f) {T : Nat → Nat → Prop} (hb : ba < W.heap.size) (hc : Chg T W W') (h1 : ∀ j, ¬ T ba j) (h2 : ∀ j, j < n → ∀ b o k, (f j).1 = some ⟨b, o, none⟩ → ¬ T b k) : BefAt W' ba n cnt f :=
 ⟨fun j hj => (hc.cell _ _ hb (h1 _)).trans (h.cell j hj), fun j hj => (h.row j hj).of hc (fun rb ro k e => h2 j hj rb ro k e), h.bd, h.new, h.apart, h.le, fun j => (hc.frz _ _ hb).trans (h.free j)⟩
structure Caught where
 mb : Nat
 ma : Nat
 mc : Nat
 cb : Nat
 bb : Nat
 ba : Nat
 bc : Nat
 kb : Nat
 n : Nat
 cnt : Nat
 f : Nat → Option Addr × Nat × List Int
def Caught.T (c : Caught) : Nat → Nat → Prop := fun i _ => i = c.ma ∨ i = c.cb
def trues (bs : List Bool) : Nat := bs.count true
structure Caught.At (c : Caught) (W : World) (bs : List Bool) : Prop where
 m : W.cell? ⟨c.mb, 0, none⟩ = some (.slice (some ⟨c.ma, 0, none⟩) c.n c.mc)
 ms : ∀ j, j < c.n → W.cell? ⟨c.ma, 0 + j, none⟩ = some (.bool (bs.getD j false))
 mf : ∀ j, W.frozen? ⟨c.ma, j, none⟩ = false
 ct : W.cell? ⟨c.cb, 0, none⟩ = some (.int .i64 (trues bs))
 cf : W.frozen? ⟨c.cb, 0, none⟩ = false
 b : W.cell? ⟨c.bb, 0, none⟩ = some (.slice (some ⟨c.ba, 0, none⟩) c.n c.bc)
 bf : BefAt W c.ba c.n c.cnt c.f
 k : W.cell? ⟨c.kb, 0, none⟩ = some (.func (.func 153) #[] #[.pointer (some ⟨c.mb, 0, none⟩), .pointer (some ⟨c.cb, 0, none⟩), .pointer (some ⟨c.bb, 0, none⟩), .pointer (some ⟨c.kb, 0, none⟩)])
 len : bs.length = c.n
structure Caught.Ok (c : Caught) : Prop where
 d1 : c.mb ≠ c.ma ∧ c.mb ≠ c.cb
 d2 : c.bb ≠ c.ma ∧ c.bb ≠ c.cb
 d3 : c.ba ≠ c.ma ∧ c.ba ≠ c.cb
 d4 : c.kb ≠ c.ma ∧ c.kb ≠ c.cb
 d5 : c.ma ≠ c.cb
 d6 : ∀ j, j < c.n → ∀ b o, (c.f j).1 = some ⟨b, o, none⟩ → b ≠ c.ma ∧ b ≠ c.cb
 n : c.n < 1000000
 cnt : c.cnt < 1000000000
theorem Caught.At.drewN {c : Caught} {W : World} {bs : List Bool} (h : c.At W bs) (k : Nat) : c.At (W.drewN k) bs :=
 ⟨h.m, h.ms, h.mf, h.ct, h.cf, h.b, ⟨h.bf.cell, fun j hj => (h.bf.row j hj).below ⟨rfl, rfl, rfl, Nat.le_refl _, fun _ _ => rfl⟩, h.bf.bd, h.bf.new, h.bf.apart, h.bf.le, h.bf.free⟩, h.k, h.len⟩
theorem trues_set (bs : List Bool) (s : Nat) (hs : s < bs.length) (h : bs.getD s false = false) : trues (bs.set s true) = trues bs + 1 := by
 unfold trues
 rw [List.getD_eq_getElem?_getD, List.getElem?_eq_getElem hs] at h
 rw [List.count_set hs]
 simp at h
 simp [h]
theorem trues_le (bs : List Bool) : trues bs ≤ bs.length := List.count_le_length
theorem Caught.At.mark {c : Caught} (hc : c.Ok) {W : World} {bs : List Bool} (h : c.At W bs) (s : Nat) (hs : s < c.n) (hf : bs.getD s false = false) :
  c.At ((W.setCell ⟨c.ma, 0 + s, none⟩ (.bool true)).setCell ⟨c.cb, 0, none⟩ (.int .i64 ((trues bs : Int) + 1))) (bs.set s true) ∧ Chg c.T W ((W.setCell ⟨c.ma, 0 + s, none⟩ (.bool true)).setCell ⟨c.cb, 0, none⟩ (.int .i64 ((trues bs : Int) + 1))) := by
 have hch : Chg c.T W ((W.setCell ⟨c.ma, 0 + s, none⟩ (.bool true)).setCell ⟨c.cb, 0, none⟩ (.int .i64 ((trues bs : Int) + 1))) := ((Chg.refl _ _).setCell (T := c.T) (.inl rfl) _).setCell (.inr rfl) _
 have o : ∀ b j, b ≠ c.ma ∧ b ≠ c.cb → ¬ c.T b j := fun b j hb t => by
  rcases t with t | t
  ·exact hb.1 t
  ·exact hb.2 t
 have hlen := h.len
 refine ⟨⟨(hch.cell _ _ (cell_lt h.m) (o _ _ hc.d1)).trans h.m, ?_, fun j => (hch.frz _ _ (cell_lt (h.ms s hs))).trans (h.mf j), ?_, (hch.frz _ _ (cell_lt h.ct)).trans h.cf, (hch.cell _ _ (cell_lt h.b) (o _ _ hc.d2)).trans h.b, h.bf.of (cell_lt (h.bf.cell s hs)) hch (fun j => o _ _ hc.d3) (fun j hj b o2 k e => o _ _ (hc.d6 j hj b o2 e)), (hch.cell _ _ (cell_lt h.k) (o _ _ hc.d4)).trans h.k, by rw [List.length_set]; exact hlen⟩, hch⟩
 ·intro j hj
  rw [World.cell?_setCell_other _ _ _ _ (fun e => hc.d5 (congrArg Addr.block e).symm)]
  by_cases e : j = s
  ·subst e
   rw [World.cell?_setCell_same _ _ _ (h.ms j hs), List.getD_eq_getElem?_getD, List.getElem?_set_self (by omega)]; rfl
  ·rw [World.cell?_setCell_other _ _ _ _ (fun e2 => e (by have := congrArg Addr.off e2; simp at this; omega)), h.ms j hj, List.getD_eq_getElem?_getD, List.getD_eq_getElem?_getD, List.getElem?_set_ne (fun e2 => e e2.symm)]
 ·rw [trues_set bs s (by omega) hf]
  exact World.cell?_setCell_same (u := .int .i64 (trues bs)) _ _ _ (by rw [World.cell?_setCell_other _ _ _ _ (fun e => hc.d5 (congrArg Addr.block e))]; exact h.ct)
structure Mk (c : Caught) (bs bs' : List Bool) : Prop where
 mono : ∀ j, bs.getD j false = true → bs'.getD j false = true
 zero : bs'.getD 0 false = bs.getD 0 false
 shut : ∀ j, j < c.n → bs.getD j false = false → bs'.getD j false = true → ∀ x ∈ (c.f j).2.2, x ≠ 0 → bs'.getD x.toNat false = true
theorem Mk.refl (c : Caught) (bs : List Bool) : Mk c bs bs := ⟨fun _ h => h, rfl, fun j _ h1 h2 => by rw [h1] at h2; cases h2⟩
theorem Mk.trans {c : Caught} {a b d : List Bool} (h : Mk c a b) (g : Mk c b d) : Mk c a d := by
 refine ⟨fun j hj => g.mono j (h.mono j hj), g.zero.trans h.zero, fun j hn h1 h2 x hx h0 => ?_⟩
 cases hb : b.getD j false with
 | true => exact g.mono _ (h.shut j hn h1 hb x hx h0)
 | false => exact g.shut j hn hb h2 x hx h0
theorem set_get (bs : List Bool) (s j : Nat) (hs : s < bs.length) : (bs.set s true).getD j false = if j = s then true else bs.getD j false := by
 rw [List.getD_eq_getElem?_getD, List.getD_eq_getElem?_getD]
 by_cases e : j = s
 ·subst e
  rw [if_pos rfl, List.getElem?_set_self hs]; rfl
 ·rw [if_neg e, List.getElem?_set_ne (fun e2 => e e2.symm)]
theorem mark_any (c : Caught) (hc : c.Ok) : ∀ (u : Nat) (s : Nat) (W : World) (bs : List Bool), s < c.n → c.At W bs → c.n - trues bs < u →
  Calls Tryz.prog 153 #[.int .i64 s, .pointer (some ⟨c.mb, 0, none⟩), .pointer (some ⟨c.cb, 0, none⟩), .pointer (some ⟨c.bb, 0, none⟩), .pointer (some ⟨c.kb, 0, none⟩)] W fun e W' => (∃ v, e = .returned v) ∧ ∃ bs', c.At W' bs' ∧ trues bs ≤ trues bs' ∧ Chg c.T W W' ∧ Mk c bs bs' ∧ (s ≠ 0 → bs'.getD s false = true) := by
 intro u
 induction u with
 | zero =>
  intro s W bs hs h hu
  exact absurd hu (Nat.not_lt_zero _)
 | succ u ih =>
  intro s W bs hs h hu
  have IH := hide2 ih
  clear ih
  by_cases h0 : s = 0
  ·subst h0
   have H := hide2 h
   clear h
   go_enter Tryz.func153, Tryz.ntmps153
   go_wp2
   refine bodyPost_ret (results_none rfl _ _ _) rfl ?_
   exact ⟨⟨_, rfl⟩, bs, H.out, Nat.le_refl _, Chg.refl _ _, Mk.refl _ _, fun e => absurd rfl e⟩
  ·have hm := h.m
   have hms := h.ms s hs
   rw [Nat.zero_add] at hms
   have h0' : ((s : Int) == 0) = false := beq_eq_false_iff_ne.2 (by omega)
   have hn := hc.n
   cases hb : bs.getD s false with
   | true =>
    have HBs := hide2 hb
    rw [hb] at hms
    have H := hide2 h
    clear h
    go_enter Tryz.func153, Tryz.ntmps153
    go_wp2
    refine bodyPost_ret (results_none rfl _ _ _) rfl ?_
    exact ⟨⟨_, rfl⟩, bs, H.out, Nat.le_refl _, Chg.refl _ _, Mk.refl _ _, fun _ => HBs.out⟩
   | false =>
    have HBs := hide2 hb
    have HLn := hide2 h.len
    rw [hb] at hms
    have hmf := h.mf s
    have hct := h.ct
    have hcf := h.cf
    obtain ⟨h2, hch2⟩ := h.mark hc s hs hb
    rw [Nat.zero_add] at h2 hch2
    have htr := trues_set bs s (by rw [h.len]; exact hs) hb
    have htl := trues_le bs
    rw [h.len] at htl
    obtain ⟨W2, hW2⟩ : ∃ W2, (W.setCell ⟨c.ma, s, none⟩ (.bool true)).setCell ⟨c.cb, 0, none⟩ (.int .i64 ((trues bs : Int) + 1)) = W2 := ⟨_, rfl⟩
    rw [hW2] at h2 hch2
    have hct2 : (W.setCell ⟨c.ma, s, none⟩ (.bool true)).cell? ⟨c.cb, 0, none⟩ = some (.int .i64 (trues bs)) := (World.cell?_setCell_other _ _ _ _ (fun e => hc.d5 (congrArg Addr.block e))).trans hct
    have hb2 := h2.b
    have hrow2 := h2.bf.cell s hs
    have H := hide2 h
    have H2 := hide2 h2
    have HC := hide2 hch2
    have hml := hc.d5
    have hll : (c.f s).2.2.length < 1000000000 := Nat.lt_of_le_of_lt (h2.bf.le s hs) hc.cnt
    clear h h2 hch2
    go_enter Tryz.func153, Tryz.ntmps153
    go_wp2
    go_loopw [26] (fun jv wr => ∃ (j : Nat) (bs' : List Bool), jv = .int .i64 j ∧ j ≤ (c.f s).2.2.length ∧ Hid (c.At wr bs' ∧ trues bs + 1 ≤ trues bs' ∧ Chg c.T W wr ∧ Mk c (bs.set s true) bs' ∧ ∀ i, i < j → (c.f s).2.2.getD i 0 ≠ 0 → bs'.getD ((c.f s).2.2.getD i 0).toNat false = true)) (fun jv _ => (c.f s).2.2.length - (intOf jv).toNat)
    case atStart => exact ⟨0, _, rfl, Nat.zero_le _, hide2 ⟨H2.out, by rw [htr]; omega, HC.out, Mk.refl _ _, fun i hi => absurd hi (Nat.not_lt_zero _)⟩⟩
    case round =>
     obtain ⟨j, bs', rfl, hj, HI⟩ := hrel
     by_cases hlj : j < (c.f s).2.2.length
     ·obtain ⟨nb, no, hra, hcl⟩ := nx_cell (HI.out.1.bf.row s hs) j hlj
      have hbd := HI.out.1.bf.bd s hs (c.f s).2.2[j] (List.getElem_mem hlj)
      obtain ⟨y, hy⟩ := Int.eq_ofNat_of_zero_le hbd.1
      have HGy : Hid ((c.f s).2.2.getD j 0 = (y : Int)) := hide2 (by rw [List.getD_eq_getElem?_getD, List.getElem?_eq_getElem hlj]; exact hy)
      rw [hy] at hcl hbd
      have hk := HI.out.1.k
      have htl2 := trues_le bs'
      rw [HI.out.1.len] at htl2
      have HM := hide2 (IH.out y wr bs' (by omega) HI.out.1 (by have := HI.out.2.1; omega))
      rw [hra]
      clear hy IH
      go_wp2_with (go_at_call 153; refine HM.out.mono ?_; clear HM; rintro e w3 ⟨⟨v, rfl⟩, bs3, hA3, ht3, hc3, hm3, hs3⟩; have H3 := hide2 (And.intro hA3 (And.intro ht3 hc3)); have HM3 := hide2 (And.intro hm3 hs3); clear hA3 ht3 hc3 hm3 hs3)
      go_roundw
      case rel =>
       refine ⟨j + 1, bs3, by go_num, by omega, hide2 ⟨H3.out.1, by have := HI.out.2.1; have := H3.out.2.1; omega, HI.out.2.2.1.trans H3.out.2.2, HI.out.2.2.2.1.trans HM3.out.1, fun i hi h0 => ?_⟩⟩
       by_cases e : i = j
       ·subst e
        rw [HGy.out] at h0 ⊢
        rw [Int.toNat_natCast]
        exact HM3.out.2 (by omega)
       ·exact HM3.out.1.mono _ (HI.out.2.2.2.2 i (by omega) h0)
      case measure => simp [intOf]; omega
     ·go_wp2
      go_end0
      obtain ⟨i1, i2, i3, i4, i5⟩ := HI.out
      have hsl : s < bs.length := by rw [HLn.out]; exact hs
      have hself : bs'.getD s false = true := i4.mono s (by rw [set_get bs s s hsl, if_pos rfl])
      refine ⟨⟨_, rfl⟩, bs', i1, by omega, i3, ⟨fun k hk => i4.mono k (by rw [set_get bs s k hsl]; split; rfl; exact hk), ?_, fun k hn h1 h2 x hx hx0 => ?_⟩, fun _ => hself⟩
      ·rw [i4.zero, set_get bs s 0 hsl, if_neg (by omega)]
      ·by_cases e : k = s
       ·subst e
        obtain ⟨q, hq, e2⟩ := List.mem_iff_getElem.1 hx
        have hg : (c.f k).2.2.getD q 0 = x := by rw [List.getD_eq_getElem?_getD, List.getElem?_eq_getElem hq]; exact e2
        have := i5 q (by omega) (by rw [hg]; exact hx0)
        rwa [hg] at this
       ·exact i4.shut k hn (by rw [set_get bs s k hsl, if_neg e]; exact h1) h2 x hx hx0
end Go.Proofs.YtlhokghgicgppaaGreatDoor
namespace Go.Proofs.YtlhokghgicgppaaGreatDoor
open Go.RowKit Go.Extern
theorem madeCells_at (z : Value) (n j : Nat) (h : j < n) : (madeCells #[z] n)[j]? = some z := by
 unfold madeCells
 simp [h, Nat.mod_one]
theorem BefAt.start (w : World) (n : Nat) : BefAt (w.alloc (.cells (madeCells #[.slice none 0 0] n) 24)) w.heap.size n 0 (fun _ => (none, 0, [])) :=
 ⟨fun j hj => by rw [World.cell?_alloc_at _ _ _ _ rfl, madeCells_at _ _ _ hj]; rfl, fun j hj => RowAt.nil 1 _, fun j hj x hx => absurd hx (by simp), (fun j hj b o e => by cases e), (fun j j' _ _ _ b o o' e => by cases e), fun j hj => Nat.le_refl _, fun j => World.frozen?_alloc_at _ _ _ _ rfl⟩
theorem BefAt.below {W W' : World} {ba n cnt : Nat} {f : Nat → Option Addr × Nat × List Int} (h : BefAt W ba n cnt f) (hba : ba < W.heap.size) (hb : Below W.heap.size W W') : BefAt W' ba n cnt f := h.of hba (Chg.of_below (T := fun _ _ => False) hb) (fun _ t => t) (fun _ _ _ _ _ _ t => t)
theorem BefAt.push {W W2 : World} {ba n cnt : Nat} {f : Nat → Option Addr × Nat × List Int} (h : BefAt W ba n cnt f) (hba : ba < W.heap.size) (q : Nat) (hq : q < n) (x : Int) (hx : 0 ≤ x ∧ x < (n : Int)) {ra2 : Option Addr} {rc2 : Nat}
  (hrow : RowAt 1 W2 ra2 rc2 ((f q).2.2.length + 1) (intsV (f q).2.2 ++ [.int .i64 x])) (hch : Chg (rowT (f q).1) W W2) (hmv : Moved W (f q).1 ra2) :
  BefAt (W2.setCell ⟨ba, q, none⟩ (.slice ra2 ((f q).2.2.length + 1) rc2)) ba n (cnt + 1) (fun j => if j = q then (ra2, rc2, (f q).2.2 ++ [x]) else f j) ∧ W2.cell? ⟨ba, q, none⟩ = some (.slice (f q).1 (f q).2.2.length (f q).2.1) ∧ W2.frozen? ⟨ba, q, none⟩ = false ∧ (∀ b o, ra2 = some ⟨b, o, none⟩ → (f q).1 = some ⟨b, o, none⟩ ∨ W.heap.size ≤ b) := by
 have hn1 : ∀ b o, (f q).1 = some ⟨b, o, none⟩ → ba < b := h.new q hq
 have hmv2 : ∀ b o, ra2 = some ⟨b, o, none⟩ → (f q).1 = some ⟨b, o, none⟩ ∨ W.heap.size ≤ b := by
  intro b o e
  rcases hmv with hm | ⟨rb, e2, g⟩
  ·rw [hm] at e; exact .inl e
  ·rw [e2] at e; cases e; exact .inr g
 have hn2 : ∀ b o, ra2 = some ⟨b, o, none⟩ → ba < b := by
  intro b o e
  rcases hmv2 b o e with g | g
  ·exact hn1 b o g
  ·omega
 have hnot : ∀ j, ¬ rowT (f q).1 ba j := by
  intro j t
  obtain ⟨o, e⟩ := t
  have h5 := hn1 ba o e
  omega
 have hcell : W2.cell? ⟨ba, q, none⟩ = some (.slice (f q).1 (f q).2.2.length (f q).2.1) := (hch.cell _ _ hba (hnot _)).trans (h.cell q hq)
 have hset : Chg (fun i j => i = ba ∧ j = q) W2 (W2.setCell ⟨ba, q, none⟩ (.slice ra2 ((f q).2.2.length + 1) rc2)) := Chg.setCell1 (T := fun i j => i = ba ∧ j = q) ⟨rfl, rfl⟩ _
 have hba2 : ba < W2.heap.size := by have := hch.size; omega
 refine ⟨⟨fun j hj => ?_, fun j hj => ?_, fun j hj y hy => ?_, fun j hj b o e => ?_, fun j j' hj hj' hne b o o' e e' => ?_, fun j hj => ?_, fun j => ?_⟩, hcell, (hch.frz _ _ hba).trans (h.free q), hmv2⟩
 ·by_cases e : j = q
  ·subst e
   simp only [if_true]
   rw [List.length_append]
   exact World.cell?_setCell_same _ _ _ hcell
  ·simp only [if_neg e]
   rw [World.cell?_setCell_other _ _ _ _ (fun e2 => e (congrArg Addr.off e2).symm), hch.cell _ _ hba (hnot _)]
   exact h.cell j hj
 ·by_cases e : j = q
  ·subst e
   simp only [if_true]
   rw [List.length_append, ← intsV_snoc]
   exact hrow.of hset (fun rb ro k e2 t => by have h5 := hn2 rb ro e2; have h6 := t.1; omega)
  ·simp only [if_neg e]
   refine ((h.row j hj).of hch (fun rb ro k e2 t => ?_)).of hset (fun rb ro k e2 t => by have h5 := h.new j hj rb ro e2; have h6 := t.1; omega)
   obtain ⟨o, e3⟩ := t
   exact h.apart j q hj hq e rb ro o e2 e3
 ·by_cases e : j = q
  ·subst e
   simp only [if_true] at hy
   rcases List.mem_append.1 hy with hy | hy
   ·exact h.bd j hj y hy
   ·simp only [List.mem_singleton] at hy
    subst hy
    exact hx
  ·simp only [if_neg e] at hy
   exact h.bd j hj y hy
 ·by_cases e2 : j = q
  ·subst e2
   simp only [if_true] at e
   exact hn2 b o e
  ·simp only [if_neg e2] at e
   exact h.new j hj b o e
 ·by_cases e2 : j = q
  ·have e3 : ¬ j' = q := fun e4 => hne (by rw [e2, e4])
   subst e2
   simp only [if_true] at e
   simp only [if_neg e3] at e'
   rcases hmv2 b o e with g | g
   ·exact h.apart j j' hj hj' hne b o o' g e'
   ·have h5 := (h.row j' hj').lt e'
    omega
  ·simp only [if_neg e2] at e
   by_cases e3 : j' = q
   ·subst e3
    simp only [if_true] at e'
    rcases hmv2 b o' e' with g | g
    ·exact h.apart j j' hj hj' hne b o o' e g
    ·have h5 := (h.row j hj).lt e
     omega
   ·simp only [if_neg e3] at e'
    exact h.apart j j' hj hj' hne b o o' e e'
 ·by_cases e : j = q
  ·subst e
   simp only [if_true]
   rw [List.length_append]
   have := h.le j hj
   simp only [List.length_cons, List.length_nil]; omega
  ·simp only [if_neg e]
   have := h.le j hj
   omega
 ·rw [World.frozen?_setCell, hch.frz _ _ hba]; exact h.free j
theorem Caught.At.below {c : Caught} {W W' : World} {bs : List Bool} (h : c.At W bs) (hn : 0 < c.n) (hb : Below W.heap.size W W') : c.At W' bs := by
 have hk := Kept.of_below hb
 have hms := h.ms 0 hn
 exact ⟨hk.cell _ _ _ h.m, fun j hj => hk.cell _ _ _ (h.ms j hj), fun j => (hk.frz _ _ (cell_lt hms)).trans (h.mf j), hk.cell _ _ _ h.ct, (hk.frz _ _ (cell_lt h.ct)).trans h.cf, hk.cell _ _ _ h.b, h.bf.below (cell_lt (h.bf.cell 0 hn)) hb, hk.cell _ _ _ h.k, h.len⟩
theorem rep_get (n j : Nat) : (List.replicate n false).getD j false = false := by
 rw [List.getD_eq_getElem?_getD, List.getElem?_replicate]
 split <;> rfl
theorem rep_trues (n : Nat) : trues (List.replicate n false) = 0 := by
 unfold trues
 rw [List.count_replicate]
 simp
def Sg.Leads (m : Sg.Mach) : Prop := ∃ rank : Nat → Nat, ∀ s, 0 < s → s < m.states.length → m.rule s ≠ -1 ∨ ∃ k y : Nat, k < m.width s ∧ m.next s k = (y : Int) ∧ 0 < y ∧ rank y < rank s
def Preds (m : Sg.Mach) (f : Nat → Option Addr × Nat × List Int) (i k : Nat) : Prop := ∀ i' k' y : Nat, (i' < i ∨ (i' = i ∧ k' < k)) → k' < m.width i' → m.next i' k' = (y : Int) → (i' : Int) ∈ (f y).2.2
theorem Preds.miss {m : Sg.Mach} {f : Nat → Option Addr × Nat × List Int} {i k : Nat} (h : Preds m f i k) (hn : m.next i k = -1) : Preds m f i (k + 1) := fun i' k' y hp hw e => by
 by_cases g : i' = i ∧ k' = k
 ·rw [g.1, g.2, hn] at e; omega
 ·exact h i' k' y (by omega) hw e
theorem Preds.push {m : Sg.Mach} {f : Nat → Option Addr × Nat × List Int} {i k y : Nat} (h : Preds m f i k) (hn : m.next i k = (y : Int)) (ra : Option Addr) (rc : Nat) : Preds m (fun j => if j = y then (ra, rc, (f y).2.2 ++ [(i : Int)]) else f j) i (k + 1) := fun i' k' z hp hw e => by
 have keep : (i' : Int) ∈ (f z).2.2 → (i' : Int) ∈ (if z = y then (ra, rc, (f y).2.2 ++ [(i : Int)]) else f z).2.2 := fun g => by
  by_cases e2 : z = y
  ·rw [if_pos e2]; subst e2; exact List.mem_append_left _ g
  ·rw [if_neg e2]; exact g
 by_cases g : i' = i ∧ k' = k
 ·rw [g.1, g.2, hn] at e
  have e2 : z = y := by omega
  rw [g.1]
  show (i : Int) ∈ (if z = y then (ra, rc, (f y).2.2 ++ [(i : Int)]) else f z).2.2
  rw [if_pos e2]
  exact List.mem_append_right _ (List.mem_singleton.2 rfl)
 ·exact keep (h i' k' z (by omega) hw e)
theorem Preds.next {m : Sg.Mach} {f : Nat → Option Addr × Nat × List Int} {i k : Nat} (h : Preds m f i k) (hk : ¬ k < m.width i) : Preds m f (i + 1) 0 := fun i' k' y hp hw e => h i' k' y (by
 rcases hp with hp | hp
 ·by_cases g : i' = i
  ·subst g; exact .inr ⟨rfl, by omega⟩
  ·exact .inl (by omega)
 ·omega) hw e
structure TopOk (m : Sg.Mach) (c : Caught) (bs : List Bool) (i : Nat) : Prop where
 zero : bs.getD 0 false = false
 all : ∀ s, 0 < s → s < i → m.rule s ≠ -1 → bs.getD s false = true
 shut : ∀ j, j < c.n → bs.getD j false = true → ∀ x ∈ (c.f j).2.2, x ≠ 0 → bs.getD x.toNat false = true
theorem TopOk.skip {m : Sg.Mach} {c : Caught} {bs : List Bool} {i : Nat} (h : TopOk m c bs i) (hr : m.rule i = -1) : TopOk m c bs (i + 1) := ⟨h.zero, fun s h0 hs h1 => h.all s h0 (by
 by_cases e : s = i
 ·rw [e] at h1; exact absurd hr h1
 ·omega) h1, h.shut⟩
theorem TopOk.mark {m : Sg.Mach} {c : Caught} {bs bs' : List Bool} {i : Nat} (h : TopOk m c bs i) (hm : Mk c bs bs') (hi : i ≠ 0 → bs'.getD i false = true) : TopOk m c bs' (i + 1) := by
 refine ⟨hm.zero.trans h.zero, fun s h0 hs h1 => ?_, fun j hn h2 x hx h0 => ?_⟩
 ·by_cases e : s = i
  ·rw [e]; exact hi (by omega)
  ·exact hm.mono _ (h.all s h0 (by omega) h1)
 ·cases hb : bs.getD j false with
  | true => exact hm.mono _ (h.shut j hn hb x hx h0)
  | false => exact hm.shut j hn hb h2 x hx h0
theorem trues_all : ∀ (bs : List Bool), (∀ s, s < bs.length → bs.getD s false = true) → trues bs = bs.length
 | [], _ => rfl
 | b :: r, h => by
  have h0 : b = true := h 0 (by simp)
  have ih := trues_all r (fun s hs => by have := h (s + 1) (by simpa using hs); simpa using this)
  unfold trues at ih ⊢
  rw [h0, List.count_cons_self, ih, List.length_cons]
theorem trues_but (bs : List Bool) (hn : 0 < bs.length) (h0 : bs.getD 0 false = false) (h : ∀ s, 0 < s → s < bs.length → bs.getD s false = true) : trues bs + 1 = bs.length := by
 rcases bs with _ | ⟨b, r⟩
 ·simp at hn
 ·have hb : b = false := h0
  have ih := trues_all r (fun s hs => by have := h (s + 1) (by omega) (by simpa using hs); simpa using this)
  unfold trues at ih ⊢
  rw [hb, List.count_cons_of_ne (by simp), ih, List.length_cons]
theorem leads_all {m : Sg.Mach} (hm : m.Ok) {c : Caught} {bs : List Bool} (h : TopOk m c bs m.states.length) (hp : Preds m c.f m.states.length 0) (hn : c.n = m.states.length) (hl : Sg.Leads m) : ∀ s, 0 < s → s < m.states.length → bs.getD s false = true := by
 obtain ⟨rank, hr⟩ := hl
 have key : ∀ r s, rank s < r → 0 < s → s < m.states.length → bs.getD s false = true := by
  intro r
  induction r with
  | zero => intro s h1; omega
  | succ r ih =>
   intro s h1 h0 hs
   rcases hr s h0 hs with g | ⟨k, y, g1, g2, g3, g4⟩
   ·exact h.all s h0 hs g
   ·have hy : y < m.states.length := by
     rcases hm.nexts s hs k g1 with e | ⟨_, e⟩
     ·omega
     ·omega
    have hby := ih y (by omega) g3 hy
    have := h.shut y (by omega) hby s (hp s k y (.inl hs) g1 g2) (by omega)
    rwa [Int.toNat_natCast] at this
 exact fun s => key (rank s + 1) s (by omega)
theorem allMatch_any (w : World) (B p : Nat) (m : Sg.Mach) (hm : m.Ok) (M : MachIn w B p m) (hn : m.states.length ≤ 201) (hwd : ∀ s, s < m.states.length → m.width s < 1000000) :
  Calls Tryz.prog 116 #[.pointer (some ⟨p, 0, none⟩)] w fun e w' => (∃ b : Bool, e = .returned (.bool b) ∧ (Sg.Leads m → b = true)) ∧ Below w.heap.size w w' := by
 obtain ⟨cb, co, cc, sb, so, sc, nb, no, nc, M, l1, l2, l3, l4, l5⟩ := M
 have hc1 := M.c1
 have hs0 := hm.states0
 have HM := hide2 M
 have Hm := hide2 hm
 have HW := hide2 hwd
 clear M hm hwd
 have hmk := run_make_row' (P := Tryz.prog) 246 24 (.slice none 0 0) 24 Tryz.underlying246 (by kernel_rfl) rfl .i64 .i64 m.states.length (by omega) (by omega) w
 have hc1' : ((w.alloc (.cells (madeCells #[.slice none 0 0] m.states.length) 24)).alloc (.cells #[.slice (some ⟨w.heap.size, 0, none⟩) m.states.length m.states.length] 246)).cell? ⟨p, 1, none⟩ = some (.slice (some ⟨sb, so, none⟩) m.states.length sc) := oldCell _ (oldCell _ hc1)
 go_enter Tryz.func116, Tryz.ntmps116
 go_wp2
 go_loopw [24] (fun iv wr => ∃ (i cnt : Nat) (f : Nat → Option Addr × Nat × List Int), iv = .int .i64 i ∧ i ≤ m.states.length ∧ cnt ≤ i * 1000000 ∧ wr.cell? ⟨w.heap.size + 1, 0, none⟩ = some (.slice (some ⟨w.heap.size, 0, none⟩) m.states.length m.states.length) ∧ Hid (Below w.heap.size w wr ∧ BefAt wr w.heap.size m.states.length cnt f ∧ ∀ j, j < m.states.length → ∀ b o, (f j).1 = some ⟨b, o, none⟩ → w.heap.size + 1 < b) ∧ Hid (Preds m f i 0)) (fun iv _ => m.states.length - (intOf iv).toNat)
 case atStart =>
  refine ⟨0, 0, fun _ => (none, 0, []), rfl, Nat.zero_le _, Nat.zero_le _, newCell _ _ _ _ (by simp), hide2 ⟨((Below.refl _ _).alloc (Nat.le_refl _) _).alloc (by simp) _, (BefAt.start w m.states.length).below (by simp) ((Below.refl _ _).alloc (Nat.le_refl _) _), (fun j hj b o e => by cases e)⟩, hide2 (fun i' k' y hp => by omega)⟩
 case round =>
  obtain ⟨i, cnt, f, rfl, hi, hcnt, hbv, H, HP⟩ := hrel
  by_cases hlt : i < m.states.length
  ·have Mr := HM.out.below H.out.1
   have hru := Mr.rule i hlt
   have hnx := Mr.next i hlt
   have hwi := HW.out i hlt
   have hbw := H.out.1
   have hsz : w.heap.size + 1 < wr.heap.size := cell_lt hbv
   clear Mr
   go_wp2
   go_loopw [32] (fun kv wr2 => ∃ (k cnt2 : Nat) (f2 : Nat → Option Addr × Nat × List Int), kv = .int .i64 k ∧ k ≤ m.width i ∧ cnt2 ≤ i * 1000000 + k ∧ wr2.cell? ⟨w.heap.size + 1, 0, none⟩ = some (.slice (some ⟨w.heap.size, 0, none⟩) m.states.length m.states.length) ∧ Hid (Below w.heap.size w wr2 ∧ BefAt wr2 w.heap.size m.states.length cnt2 f2 ∧ ∀ j, j < m.states.length → ∀ b o, (f2 j).1 = some ⟨b, o, none⟩ → w.heap.size + 1 < b) ∧ Hid (Preds m f2 i k)) (fun kv _ => m.width i - (intOf kv).toNat)
   case atStart => exact ⟨0, cnt, f, rfl, Nat.zero_le _, Nat.le_trans hcnt (Nat.le_add_right _ _), oldCell _ hbv, hide2 ⟨hbw.alloc hbw.size _, H.out.2.1.below (by omega) ((Below.refl _ _).alloc (Nat.le_refl _) _), H.out.2.2⟩, HP⟩
   case round =>
    obtain ⟨k, cnt2, f2, rfl, hk, hcnt2, hbv2, H2, HP2⟩ := hrel
    by_cases hlk : k < m.width i
    ·have Mr2 := HM.out.below H2.out.1
     have hto := Mr2.to i k hlt hlk
     have hnr := Hm.out.nexts i hlt k hlk
     clear Mr2
     by_cases hn1 : m.next i k = -1
     ·have HP5 := hide2 (HP2.out.miss hn1)
      rw [hn1] at hto
      go_wp2
      go_roundw
      case rel => exact ⟨k + 1, cnt2, f2, by go_num, by omega, by omega, hbv2, H2, HP5⟩
      case measure => simp [intOf]; omega
     ·obtain ⟨y, hy⟩ := Int.eq_ofNat_of_zero_le (show 0 ≤ m.next i k by rcases hnr with t | t; exact absurd t hn1; exact t.1)
      have hyl : y < m.states.length := by rcases hnr with t | t; exact absurd t hn1; have := t.2; omega
      have HNy := hide2 hy
      rw [hy] at hto hn1
      have hy1 : ((y : Int) != -1) = true := bne_iff_ne.2 hn1
      have hy2 : ((y : Int) == -1) = false := beq_eq_false_iff_ne.2 hn1
      have hsz2 : w.heap.size + 1 < wr.heap.size := cell_lt hbv2
      have hbf := H2.out.2.1
      have hcy := hbf.cell y hyl
      have hcy' : ∀ o, (wr.alloc o).cell? ⟨w.heap.size, y, none⟩ = some (.slice (f2 y).1 (f2 y).2.2.length (f2 y).2.1) := fun o => oldCell o hcy
      obtain ⟨ra2, rc2, W2, hrun, hrow, hch, hmv⟩ := append_one (w := wr.drew) 24 3 (.int .i64 0) 8 info_int rfl Tryz.underlying24 (by omega) (hbf.row y hyl).drew (.int .i64 i) rfl (by have := hbf.le y hyl; omega) 24 3
      have hbfd : BefAt wr.drew w.heap.size m.states.length cnt2 f2 := hbf.below (by omega) ((Below.refl _ _).drew)
      obtain ⟨g1, g2, g3, g4⟩ := hbfd.push (by show w.heap.size < wr.heap.size; omega) y hyl i (by omega) hrow hch hmv
      have hn2 : ∀ b o, (f2 y).1 = some ⟨b, o, none⟩ → w.heap.size + 1 < b := H2.out.2.2 y hyl
      have hbvW : W2.cell? ⟨w.heap.size + 1, 0, none⟩ = some (.slice (some ⟨w.heap.size, 0, none⟩) m.states.length m.states.length) := (hch.cell _ _ (by show w.heap.size + 1 < wr.heap.size; omega) (by
       intro t
       obtain ⟨o, e⟩ := t
       have h5 := hn2 _ o e
       omega)).trans hbv2
      obtain ⟨W5, hW5⟩ : ∃ W5, W2.setCell ⟨w.heap.size, y, none⟩ (.slice ra2 ((f2 y).2.2.length + 1) rc2) = W5 := ⟨_, rfl⟩
      have hbv5 : W5.cell? ⟨w.heap.size + 1, 0, none⟩ = some (.slice (some ⟨w.heap.size, 0, none⟩) m.states.length m.states.length) := by
       rw [← hW5]
       exact (World.cell?_setCell_other _ _ _ _ (fun e => by have := congrArg Addr.block e; simp at this)).trans hbvW
      have hb5 : Below w.heap.size w W5 := by
       rw [← hW5]
       have b1 : Below w.heap.size wr W2 := by
        have b0 : Below w.heap.size wr.drew W2 := hch.below (by show w.heap.size ≤ wr.heap.size; omega) (by
         intro k5 o5 hk5 t
         obtain ⟨o, e⟩ := t
         have h5 := hn2 k5 o e
         omega)
        exact ((Below.refl _ _).drew).trans b0
       exact (H2.out.1.trans b1).setCell (p := ⟨w.heap.size, y, none⟩) (Nat.le_refl _) _
      have hn5 : ∀ j, j < m.states.length → ∀ b o, (if j = y then (ra2, rc2, (f2 y).2.2 ++ [(i : Int)]) else f2 j).1 = some ⟨b, o, none⟩ → w.heap.size + 1 < b := by
       intro j hj b o e
       by_cases ej : j = y
       ·simp only [if_pos ej] at e
        rcases g4 b o e with g | g
        ·exact hn2 b o g
        ·have : wr.drew.heap.size = wr.heap.size := rfl
         omega
       ·simp only [if_neg ej] at e
        exact H2.out.2.2 j hj b o e
      rw [hW5] at g1
      have H5 := hide2 (And.intro hb5 (And.intro g1 hn5))
      have HP5 := hide2 (HP2.out.push HNy.out ra2 rc2)
      have Hrun := hide2 hrun
      have hbvA : ∀ o, (wr.alloc o).cell? ⟨w.heap.size + 1, 0, none⟩ = some (.slice (some ⟨w.heap.size, 0, none⟩) m.states.length m.states.length) := fun o => oldCell o hbv2
      clear hrun hrow hch hmv hbfd g1 g4 hn2 hb5 hn5 hbf hnr H2 H
      go_wp2
      refine wp_region_held_drew (S := fun w' => w'.cell? ⟨w.heap.size + 1, 0, none⟩ = some (.slice (some ⟨w.heap.size, 0, none⟩) m.states.length m.states.length)) (by kernel_rfl) hbv2 (fun hHeld => ?_)
      refine wpAnyH_take (i := 0) (v := ?_) rfl (by kernel_rfl) (by kernel_rfl) (by kernel_rfl) (fun _ _ _ h => h) (Or.inl ⟨by rfl, ?_⟩) (by assumption) ?_
      rotate_left
      ·intro w' hSw
       try dsimp only at hSw
       go_simp
       try with_reducible rfl
      try simp only [Act.put, List.setIfInBounds_toArray, List.set_cons_zero, List.set_cons_succ]
      refine wpAnyH_take (i := 1) (v := ?_) rfl (by kernel_rfl) (by kernel_rfl) (by kernel_rfl) (fun _ _ _ h => h) (Or.inl ⟨by rfl, ?_⟩) (by assumption) ?_
      rotate_left
      ·intro w' hSw
       try dsimp only at hSw
       go_simp
       try with_reducible rfl
      try simp only [Act.put, List.setIfInBounds_toArray, List.set_cons_zero, List.set_cons_succ]
      refine wpAnyH_take (i := 2) (v := ?_) rfl (by kernel_rfl) (by kernel_rfl) (by kernel_rfl) (fun _ _ _ h => h) (Or.inl ⟨by rfl, ?_⟩) (by assumption) ?_
      rotate_left
      ·intro w' hSw
       try dsimp only at hSw
       go_simp
       try with_reducible rfl
      try simp only [Act.put, List.setIfInBounds_toArray, List.set_cons_zero, List.set_cons_succ]
      refine wpAnyH_take (i := 3) (v := ?_) rfl (by kernel_rfl) (by kernel_rfl) (by kernel_rfl) (fun _ _ _ h => h) (Or.inl ⟨by rfl, ?_⟩) (by assumption) ?_
      rotate_left
      ·intro w' hSw
       try dsimp only at hSw
       go_simp
       try with_reducible rfl
      try simp only [Act.put, List.setIfInBounds_toArray, List.set_cons_zero, List.set_cons_succ]
      refine wpAnyH_take (i := 4) (v := ?_) rfl (by kernel_rfl) (by kernel_rfl) (by kernel_rfl) (fun _ _ _ h => h) (Or.inl ⟨by rfl, ?_⟩) (by assumption) ?_
      rotate_left
      ·intro w' hSw
       try dsimp only at hSw
       go_simp
       try with_reducible rfl
      try simp only [Act.put, List.setIfInBounds_toArray, List.set_cons_zero, List.set_cons_succ]
      refine wpAnyH_take (i := 6) (v := ?_) rfl (by kernel_rfl) (by kernel_rfl) (by kernel_rfl) (fun _ _ _ h => h) (Or.inl ⟨by rfl, ?_⟩) (by assumption) ?_
      rotate_left
      ·intro w' hSw
       try dsimp only at hSw
       go_simp
       try with_reducible rfl
      try simp only [Act.put, List.setIfInBounds_toArray, List.set_cons_zero, List.set_cons_succ]
      refine wpAnyH_ready (rs := [5, 7]) (by kernel_rfl) (by simp) ?_
      refine AllReadyH.cons rfl (fun K hK => ?_) (AllReadyH.cons rfl (fun K hK => ?_) AllReadyH.nil)
      ·go_simp
       refine hK.out _ _ hbv2 (fun hHeld => ?_)
       clear hK
       try simp only [Act.put, List.setIfInBounds_toArray, List.set_cons_zero, List.set_cons_succ]
       refine wpAnyH_ready (rs := [7]) (by kernel_rfl) (by simp) ?_
       refine AllReadyH.cons rfl (fun K hK => ?_) AllReadyH.nil
       go_simp
       refine hK.out _ _ (hbvA _) (fun hHeld => ?_)
       clear hK
       try simp only [Act.put, List.setIfInBounds_toArray, List.set_cons_zero, List.set_cons_succ]
       refine wpAnyH_ready (rs := [8]) (by kernel_rfl) (by simp) ?_
       refine AllReadyH.cons rfl (fun K hK => ?_) AllReadyH.nil
       refine step_append_run rfl _ _ _ _ rfl _ _ _ rfl rfl Hrun.out ?_
       refine hK.out _ _ hbvW (fun hHeld => ?_)
       clear hK
       try simp only [Act.put, List.setIfInBounds_toArray, List.set_cons_zero, List.set_cons_succ]
       refine wpAnyH_take (i := 9) (v := ?_) rfl (by kernel_rfl) (by kernel_rfl) (by kernel_rfl) (fun _ _ _ h => h) (Or.inl ⟨by rfl, ?_⟩) (by assumption) ?_
       rotate_left
       ·intro w' hSw
        try dsimp only at hSw
        go_simp
        try with_reducible rfl
       try simp only [Act.put, List.setIfInBounds_toArray, List.set_cons_zero, List.set_cons_succ]
       refine wpAnyH_ready (rs := [10]) (by kernel_rfl) (by simp) ?_
       refine AllReadyH.cons rfl (fun K hK => ?_) AllReadyH.nil
       go_simp
       refine hK.out _ _ hbv5 (fun hHeld => ?_)
       clear hK
       refine wpAnyH_done (by kernel_rfl) ?_ _
       go_wp2
       go_roundw
       case rel => exact ⟨k + 1, cnt2 + 1, _, by go_num, by omega, by omega, hbv5, H5, HP5⟩
       case measure => simp [intOf]; omega
      ·go_simp
       refine hK.out _ _ (hbvA _) (fun hHeld => ?_)
       clear hK
       try simp only [Act.put, List.setIfInBounds_toArray, List.set_cons_zero, List.set_cons_succ]
       refine wpAnyH_ready (rs := [5]) (by kernel_rfl) (by simp) ?_
       refine AllReadyH.cons rfl (fun K hK => ?_) AllReadyH.nil
       go_simp
       refine hK.out _ _ (hbvA _) (fun hHeld => ?_)
       clear hK
       try simp only [Act.put, List.setIfInBounds_toArray, List.set_cons_zero, List.set_cons_succ]
       refine wpAnyH_ready (rs := [8]) (by kernel_rfl) (by simp) ?_
       refine AllReadyH.cons rfl (fun K hK => ?_) AllReadyH.nil
       refine step_append_run rfl _ _ _ _ rfl _ _ _ rfl rfl Hrun.out ?_
       refine hK.out _ _ hbvW (fun hHeld => ?_)
       clear hK
       try simp only [Act.put, List.setIfInBounds_toArray, List.set_cons_zero, List.set_cons_succ]
       refine wpAnyH_take (i := 9) (v := ?_) rfl (by kernel_rfl) (by kernel_rfl) (by kernel_rfl) (fun _ _ _ h => h) (Or.inl ⟨by rfl, ?_⟩) (by assumption) ?_
       rotate_left
       ·intro w' hSw
        try dsimp only at hSw
        go_simp
        try with_reducible rfl
       try simp only [Act.put, List.setIfInBounds_toArray, List.set_cons_zero, List.set_cons_succ]
       refine wpAnyH_ready (rs := [10]) (by kernel_rfl) (by simp) ?_
       refine AllReadyH.cons rfl (fun K hK => ?_) AllReadyH.nil
       go_simp
       refine hK.out _ _ hbv5 (fun hHeld => ?_)
       clear hK
       refine wpAnyH_done (by kernel_rfl) ?_ _
       go_wp2
       go_roundw
       case rel => exact ⟨k + 1, cnt2 + 1, _, by go_num, by omega, by omega, hbv5, H5, HP5⟩
       case measure => simp [intOf]; omega
    ·have HP6 := hide2 (HP2.out.next hlk)
     go_wp2
     go_roundw
     case rel => exact ⟨i + 1, cnt2, f2, by go_num, by omega, by omega, hbv2, H2, HP6⟩
     case measure => simp [intOf]; omega
  ·have hbw := H.out.1
   have hsz : w.heap.size + 1 < wr.heap.size := cell_lt hbv
   have hc1r : wr.cell? ⟨p, 1, none⟩ = some (.slice (some ⟨sb, so, none⟩) m.states.length sc) := (hbw.cell (p := ⟨p, 1, none⟩) (cell_lt hc1)).trans hc1
   have hmk2 := run_make_row' (P := Tryz.prog) 299 4 (.bool false) 1 Tryz.underlying299 (by kernel_rfl) rfl .i64 .i64 m.states.length (by omega) (by omega) wr
   have hW4c : ∀ o1 o2 o3, (((((wr.alloc o1).alloc o2).alloc o3).alloc (.cells #[.nilFunc] 300))).cell? ⟨wr.heap.size + 1 + 1 + 1, 0, none⟩ = some .nilFunc := fun o1 o2 o3 => newCell _ _ _ _ (by simp)
   have hW4f : ∀ o1 o2 o3, (((((wr.alloc o1).alloc o2).alloc o3).alloc (.cells #[.nilFunc] 300))).frozen? ⟨wr.heap.size + 1 + 1 + 1, 0, none⟩ = false := fun o1 o2 o3 => newFree _ _ _ _ (by simp)
   have hst : ∀ (a1 a2 a3 a4 : Addr) (wx : World), wx.cell? ⟨wr.heap.size + 1 + 1 + 1, 0, none⟩ = some .nilFunc → wx.frozen? ⟨wr.heap.size + 1 + 1 + 1, 0, none⟩ = false → (store ⟨wr.heap.size + 1 + 1 + 1, 0, none⟩ (.func (.func 153) #[] #[.pointer (some a1), .pointer (some a2), .pointer (some a3), .pointer (some a4)])).run Tryz.prog wx = .ok () (wx.setCell ⟨wr.heap.size + 1 + 1 + 1, 0, none⟩ (.func (.func 153) #[] #[.pointer (some a1), .pointer (some a2), .pointer (some a3), .pointer (some a4)])) := fun a1 a2 a3 a4 wx h1 h2 => by
    rw [run_store _ _ _ _ _ rfl]
    simp [h1, h2]
   have hc4 : ∀ o1 o2 o3 o4, ((((wr.alloc o1).alloc o2).alloc o3).alloc o4).cell? ⟨p, 1, none⟩ = some (.slice (some ⟨sb, so, none⟩) m.states.length sc) := fun o1 o2 o3 o4 => oldCell _ (oldCell _ (oldCell _ (oldCell _ hc1r)))
   obtain ⟨c, hcd⟩ : ∃ c : Caught, c = ⟨wr.heap.size + 1, wr.heap.size, m.states.length, wr.heap.size + 1 + 1, w.heap.size + 1, w.heap.size, m.states.length, wr.heap.size + 1 + 1 + 1, m.states.length, cnt, f⟩ := ⟨_, rfl⟩
   have hcOk : c.Ok := by
    rw [hcd]
    refine ⟨⟨by show wr.heap.size + 1 ≠ wr.heap.size; omega, by show wr.heap.size + 1 ≠ wr.heap.size + 1 + 1; omega⟩, ⟨by show w.heap.size + 1 ≠ wr.heap.size; omega, by show w.heap.size + 1 ≠ wr.heap.size + 1 + 1; omega⟩, ⟨by show w.heap.size ≠ wr.heap.size; omega, by show w.heap.size ≠ wr.heap.size + 1 + 1; omega⟩, ⟨by show wr.heap.size + 1 + 1 + 1 ≠ wr.heap.size; omega, by show wr.heap.size + 1 + 1 + 1 ≠ wr.heap.size + 1 + 1; omega⟩, by show wr.heap.size ≠ wr.heap.size + 1 + 1; omega, fun j hj b o e => ?_, by show m.states.length < 1000000; omega, by show cnt < 1000000000; omega⟩
    have h5 := (H.out.2.1.row j hj).lt e
    exact ⟨by show b ≠ wr.heap.size; omega, by show b ≠ wr.heap.size + 1 + 1; omega⟩
   have hcAt : c.At ((((wr.alloc (.cells (madeCells #[.bool false] m.states.length) 4)).alloc (.cells #[.slice (some ⟨wr.heap.size, 0, none⟩) m.states.length m.states.length] 299)).alloc (.cells #[.int .i64 0] 3)).alloc (.cells #[.func (.func 153) #[] #[.pointer (some ⟨wr.heap.size + 1, 0, none⟩), .pointer (some ⟨wr.heap.size + 1 + 1, 0, none⟩), .pointer (some ⟨w.heap.size + 1, 0, none⟩), .pointer (some ⟨wr.heap.size + 1 + 1 + 1, 0, none⟩)]] 300)) (List.replicate m.states.length false) := by
    rw [hcd]
    refine ⟨oldCell _ (oldCell _ (newCell _ _ _ _ (by simp))), fun j hj => oldCell _ (oldCell _ (oldCell _ ?_)), fun j => oldFree _ (by show wr.heap.size < _; simp; omega) (oldFree _ (by show wr.heap.size < _; simp; omega) (oldFree _ (by show wr.heap.size < _; simp) (newFrees _ _ _ _ _ rfl))), ?_, oldFree _ (by show wr.heap.size + 1 + 1 < _; simp) (newFree _ _ _ _ (by simp)), oldCell _ (oldCell _ (oldCell _ (oldCell _ hbv))), ?_, newCell _ _ _ _ (by simp), by simp⟩
    ·rw [World.cell?_alloc_at _ _ _ _ rfl, Nat.zero_add, madeCells_at _ _ _ hj]
     rw [rep_get]
    ·rw [rep_trues]
     exact oldCell _ (newCell _ _ _ _ (by simp))
    ·exact H.out.2.1.below (by omega) (((((Below.refl _ _).alloc (Nat.le_refl _) _).alloc (by simp) _).alloc (by simp; omega) _).alloc (by simp; omega) _)
   have hb4 : ∀ o1 o2 o3 o4, Below w.heap.size w ((((wr.alloc o1).alloc o2).alloc o3).alloc o4) := fun o1 o2 o3 o4 => ((((hbw.alloc (by omega) _).alloc (by simp; omega) _).alloc (by simp; omega) _).alloc (by simp; omega) _)
   have hcn : c.n = m.states.length := by rw [hcd]
   have HPc : Hid (Preds m c.f m.states.length 0) := hide2 (by
    have e : i = m.states.length := by omega
    rw [hcd, ← e]; exact HP.out)
   have ekb : c.kb = wr.heap.size + 1 + 1 + 1 := by rw [hcd]
   have emb : c.mb = wr.heap.size + 1 := by rw [hcd]
   have ecb : c.cb = wr.heap.size + 1 + 1 := by rw [hcd]
   have ebb : c.bb = w.heap.size + 1 := by rw [hcd]
   have ema : c.ma = wr.heap.size := by rw [hcd]
   have hma : w.heap.size ≤ c.ma ∧ w.heap.size ≤ c.cb := by rw [ema, ecb]; omega
   have HAt := hide2 hcAt
   have HB4 := hide2 hb4
   clear hcAt hcd hb4 H HP
   go_wp2
   go_loopw [62] (fun iv wr3 => ∃ (i : Nat) (bs : List Bool), iv = .int .i64 i ∧ i ≤ m.states.length ∧ Hid (Below w.heap.size w wr3 ∧ c.At wr3 bs) ∧ Hid (TopOk m c bs i)) (fun iv _ => m.states.length - (intOf iv).toNat)
   case atStart => exact ⟨0, _, rfl, Nat.zero_le _, hide2 ⟨HB4.out _ _ _ _, HAt.out⟩, hide2 ⟨rep_get _ _, fun s _ hs => absurd hs (Nat.not_lt_zero _), fun j _ h2 => by rw [rep_get] at h2; cases h2⟩⟩
   case round =>
    obtain ⟨i3, bs, rfl, hi3, H3, HTop⟩ := hrel
    have hb3 := H3.out.1
    by_cases hlt3 : i3 < m.states.length
    ·have Mr := HM.out.below hb3
     have hru := Mr.rule i3 hlt3
     have hnx := Mr.next i3 hlt3
     have hal : ∀ o, Below w.heap.size w (wr.alloc o) ∧ c.At (wr.alloc o) bs := fun o => ⟨hb3.alloc hb3.size o, H3.out.2.below (by rw [hcn]; omega) ((Below.refl _ _).alloc (Nat.le_refl _) _)⟩
     have HAl := hide2 hal
     clear Mr hal
     by_cases hr1 : m.rule i3 = -1
     ·have HTop2 := hide2 (HTop.out.skip hr1)
      rw [hr1] at hru
      go_wp2
      go_roundw
      case rel => exact ⟨i3 + 1, bs, by go_num, by omega, hide2 (HAl.out _), HTop2⟩
      case measure => simp [intOf]; omega
     ·have hr2 : (m.rule i3 != -1) = true := bne_iff_ne.2 hr1
      have hr3 : (m.rule i3 == -1) = false := beq_eq_false_iff_ne.2 hr1
      have hk : ∀ o, (wr.alloc o).cell? ⟨c.kb, 0, none⟩ = _ := fun o => (HAl.out o).2.k
      rw [ekb, emb, ecb, ebb] at hk
      have HMk : Hid (∀ o, Calls Tryz.prog 153 #[.int .i64 i3, .pointer (some ⟨c.mb, 0, none⟩), .pointer (some ⟨c.cb, 0, none⟩), .pointer (some ⟨c.bb, 0, none⟩), .pointer (some ⟨c.kb, 0, none⟩)] (wr.alloc o) fun e w' => (∃ v, e = .returned v) ∧ ∃ bs', Hid (Below w.heap.size w w' ∧ c.At w' bs') ∧ Hid (TopOk m c bs' (i3 + 1))) := hide2 fun o => (mark_any c hcOk (c.n + 1) i3 (wr.alloc o) bs (by rw [hcn]; exact hlt3) (HAl.out o).2 (by omega)).mono (by
       rintro e w' ⟨hv, bs', h1, _, h2, h3, h4⟩
       refine ⟨hv, bs', hide2 ⟨(HAl.out o).1.trans (h2.below (HAl.out o).1.size (fun k o hk t => ?_)), h1⟩, hide2 (HTop.out.mark h3 h4)⟩
       rcases t with t | t
       ·have := hma.1; omega
       ·have := hma.2; omega)
      rw [ekb, emb, ecb, ebb] at HMk
      go_wp2_with (go_at_call 153; refine (HMk.out _).mono ?_; clear HMk; rintro e w5 ⟨⟨v, rfl⟩, bs5, H5, HT5⟩)
      go_roundw
      case rel => exact ⟨i3 + 1, bs5, by go_num, by omega, H5, HT5⟩
      case measure => simp [intOf]; omega
    ·have hct := H3.out.2.ct
     rw [ecb] at hct
     have hc1e : wr.cell? ⟨p, 1, none⟩ = some (.slice (some ⟨sb, so, none⟩) m.states.length sc) := (hb3.cell (p := ⟨p, 1, none⟩) (cell_lt hc1)).trans hc1
     have HEnd : Hid (Sg.Leads m → (trues bs : Int) = (m.states.length : Int) - 1) := hide2 fun hL => by
      have e : i3 = m.states.length := by omega
      have hlen := H3.out.2.len
      rw [hcn] at hlen
      have hT := HTop.out
      rw [e] at hT
      have := trues_but bs (by omega) hT.zero (fun s h0 hs => leads_all Hm.out hT HPc.out hcn hL s h0 (by omega))
      omega
     go_wp2
     go_quiet (fail)
     go_wp2
     go_ret
     refine ⟨⟨_, rfl, fun hL => ?_⟩, below_drewN hb3 _⟩
     have := HEnd.out hL
     first | exact beq_iff_eq.2 this | exact decide_eq_true this | (simp; omega)
end Go.Proofs.YtlhokghgicgppaaGreatDoor
