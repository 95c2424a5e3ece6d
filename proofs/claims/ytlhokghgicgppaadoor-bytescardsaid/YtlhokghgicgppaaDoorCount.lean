/- (*Machine).countKinds. -/
import Derived.Test.YtlhokghgicgppaaDoorMachine3
set_option linter.unusedSimpArgs false
set_option linter.unusedVariables false
namespace Go.Proofs.YtlhokghgicgppaaDoor
open Go.RowKit Go.Extern

/-- Tables of any kind in memory. -/
structure MadeAt (w : World) (p : Nat) (cs : List (Int × Int)) (zs : List StZ) : Prop where
  c0 : ∃ cr cc, w.cell? ⟨p, 0, none⟩ = some (.slice cr cs.length cc) ∧ RowAt 2 w cr cc cs.length (cs.flatMap cutCells)
  c1 : ∃ sr sc, w.cell? ⟨p, 1, none⟩ = some (.slice sr zs.length sc) ∧ RowAt 2 w sr sc zs.length (zs.flatMap stCells)
  rows : ∀ z ∈ zs, RowAt 1 w z.2.1 z.2.2 z.1.2.length (intsV z.1.2)
theorem MadeAt.below {w w' : World} {p : Nat} {cs : List (Int × Int)} {zs : List StZ} (h : MadeAt w p cs zs) (hb : Below w.heap.size w w') : MadeAt w' p cs zs := by
  obtain ⟨cr, cc, a1, a2⟩ := h.c0
  obtain ⟨sr, sc, b1, b2⟩ := h.c1
  have hk := Kept.of_below hb
  exact ⟨⟨cr, cc, hk.cell _ _ _ a1, a2.kept hk⟩, ⟨sr, sc, hk.cell _ _ _ b1, b2.kept hk⟩, fun z hz => (h.rows z hz).kept hk⟩
theorem Made.at_ {w w' : World} {p : Nat} {cs : List (Int × Int)} {zs : List StZ} {n1 n2 : Nat} (h : Made w w' p cs zs n1 n2) : MadeAt w' p cs zs := ⟨h.c0, h.c1, h.rows⟩
theorem cut_cells {w : World} {cr : Option Addr} {cc : Nat} {cs : List (Int × Int)} (h : RowAt 2 w cr cc cs.length (cs.flatMap cutCells)) (j : Nat) (hj : j < cs.length) : ∃ rb ro, cr = some ⟨rb, ro, none⟩ ∧ w.cell? ⟨rb, ro + j * 2, none⟩ = some (.int .i32 (cs.getD j (0, 0)).1) ∧ w.cell? ⟨rb, ro + j * 2 + 1, none⟩ = some (.int .i64 (cs.getD j (0, 0)).2) := by
  have e : cs.getD j (0, 0) = cs[j] := by rw [List.getD_eq_getElem?_getD, List.getElem?_eq_getElem hj]; rfl
  rw [e]
  rcases h.row with ⟨_, _, h0⟩ | ⟨rb, ro, rfl, _, hc, _⟩
  · omega
  · refine ⟨rb, ro, rfl, ?_, ?_⟩
    · have := hc (j * 2 + 0) (.int .i32 cs[j].1) (by rw [flat_get cutCells 2 (fun _ => rfl) cs j 0 hj (by omega)]; rfl)
      simpa using this
    · have := hc (j * 2 + 1) (.int .i64 cs[j].2) (by rw [flat_get cutCells 2 (fun _ => rfl) cs j 1 hj (by omega)]; rfl)
      rw [← Nat.add_assoc] at this; exact this

set_option maxRecDepth 100000 in
set_option maxHeartbeats 2000000 in
theorem countKinds_any (w : World) (p : Nat) (cs : List (Int × Int)) (zs : List StZ) (h : MadeAt w p cs zs) (hN : cs.length < 1000000) (hb : ∀ x ∈ cs, (0 ≤ x.1 ∧ x.1 < 2097152) ∧ (0 ≤ x.2 ∧ x.2 < 2097152)) :
    Calls Tryd.prog 31 #[.pointer (some ⟨p, 0, none⟩)] w fun e w' => e = .returned (.tuple #[.int .i64 (Sg.cntT cs).1, .bool (Sg.cntT cs).2]) ∧ Below w.heap.size w w' := by
  obtain ⟨cr, cc, hc0, hrow⟩ := h.c0
  have HR := hide2 hrow
  clear h hrow
  have H0 := hide2 (show Sg.cntT cs = Sg.cntGo cs true 0 0 from rfl)
  generalize Sg.cntT cs = r at *
  go_enter Tryd.func31, Tryd.ntmps31
  go_wp2
  go_loopw [4, 5, 13] (fun kv lv iv wr => ∃ (j k ls : Nat), kv = .int .i64 k ∧ lv = .int .i32 ls ∧ iv = .int .i64 j ∧ j ≤ cs.length ∧ k ≤ 2097152 ∧ ls ≤ 2097152 ∧ Hid (Below w.heap.size w wr ∧ r = Sg.cntGo (cs.drop j) (decide (j = 0)) k ls)) (fun _ _ iv _ => cs.length - (intOf iv).toNat)
  case atStart => exact ⟨0, 0, 0, rfl, rfl, rfl, Nat.zero_le _, by omega, by omega, hide2 ⟨Below.refl _ _, H0.out⟩⟩
  case round =>
    obtain ⟨j, k, ls, rfl, rfl, rfl, hj, hk, hls, H⟩ := hrel
    by_cases hlt : j < cs.length
    · obtain ⟨rb, ro, rfl, hlo, hki⟩ := cut_cells (HR.out.below H.out.1) j hlt
      have hbx := hb (cs.getD j (0, 0)) (by rw [List.getD_eq_getElem?_getD, List.getElem?_eq_getElem hlt]; exact List.getElem_mem _)
      have hd : cs.drop j = cs.getD j (0, 0) :: cs.drop (j + 1) := by
        rw [List.drop_eq_getElem_cons hlt, List.getD_eq_getElem?_getD, List.getElem?_eq_getElem hlt]; rfl
      have hr := H.out.2
      rw [hd] at hr
      unfold Sg.cntGo at hr
      generalize cs.getD j (0, 0) = x at *
      obtain ⟨lo, ki⟩ := x
      obtain ⟨y0, hy0⟩ := Int.eq_ofNat_of_zero_le hbx.1.1
      obtain ⟨y1, hy1⟩ := Int.eq_ofNat_of_zero_le hbx.2.1
      dsimp only at hlo hki hr hbx hy0 hy1
      subst hy0 hy1
      have hbad : ((j = 0 ∧ y0 ≠ 0) ∨ y0 < ls ∨ 1114112 < y0 ∨ k < y1) → r = (0, false) := fun t => by
        rw [hr, if_pos]
        simp only [decide_eq_true_eq]
        omega
      have hgood : ¬ ((j = 0 ∧ y0 ≠ 0) ∨ y0 < ls ∨ 1114112 < y0 ∨ k < y1) → r = Sg.cntGo (cs.drop (j + 1)) (decide (j + 1 = 0)) ((max k (y1 + 1) : Nat) : Int) ((y0 + 1 : Nat) : Int) := fun t => by
        rw [hr, if_neg]
        · rw [show (decide (j + 1 = 0)) = false by simp, show ((max k (y1 + 1) : Nat) : Int) = max (k : Int) ((y1 : Int) + 1) by omega, show ((y0 + 1 : Nat) : Int) = (y0 : Int) + 1 by omega]
        · simp only [decide_eq_true_eq]
          omega
      have HB := hide2 hbad
      have HG := hide2 hgood
      have hbw := H.out.1
      have HBw := hide2 (fun o => hbw.alloc hbw.size o)
      clear hr hd hbad hgood hbw
      go_wp2
      all_goals first
        | (go_ret2
           rw [HB.out (by omega)]
           exact ⟨rfl, HBw.out _⟩)
        | (go_roundw
           case rel => exact ⟨j + 1, max k (y1 + 1), y0 + 1, by go_num, by go_num, by go_num, by omega, by omega, by omega, hide2 ⟨HBw.out _, HG.out (by omega)⟩⟩
           case measure => simp [intOf]; omega)
    · have hr := H.out.2
      rw [List.drop_of_length_le (by omega)] at hr
      unfold Sg.cntGo at hr
      have HRr := hide2 hr
      clear hr
      go_wp2
      go_ret2
      rw [HRr.out]
      exact ⟨by simp, H.out.1⟩
end Go.Proofs.YtlhokghgicgppaaDoor
