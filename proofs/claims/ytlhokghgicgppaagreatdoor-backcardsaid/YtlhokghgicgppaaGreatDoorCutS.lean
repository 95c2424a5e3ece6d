/- (*Scanner).cut. -/
import Derived.Test.YtlhokghgicgppaaGreatDoorSpot
import Derived.Test.YtlhokghgicgppaaGreatDoorBytePure
import Derived.Laws.IdiomStrings
import Derived.Deep.CutRange
import Derived.Deep.DeepCutAuto
import Derived.Deep.RegionHeld
import Derived.Test.YtlhokghgicgppaaGreatDoorAlive
set_option linter.unusedSimpArgs false
set_option linter.unusedVariables false
set_option maxRecDepth 100000
set_option maxHeartbeats 4000000
namespace Go.Proofs.YtlhokghgicgppaaGreatDoor
open Go.RowKit Go.Extern
theorem ScAt.below {w w' : World} {sq p q nn pb n c : Nat} {ra : Option Addr} {rc : Nat} {L : Sg.Live} (h : ScAt w sq p q nn pb n c ra rc L) (hb : Below w.heap.size w w') : ScAt w' sq p q nn pb n c ra rc L :=
  have hs := cell_lt h.c0
  have hc : Chg (fun _ _ => False) w w' := Chg.of_below hb
  ⟨(hc.cell _ _ hs id).trans h.c0, h.sp.below hb, (hc.cell _ _ hs id).trans h.c3, (hc.cell _ _ hs id).trans h.c4, (hc.cell _ _ hs id).trans h.c5, h.wk.of hc (fun _ _ _ => id), (hc.cell _ _ hs id).trans h.c11, (hc.cell _ _ hs id).trans h.c12, (hc.cell _ _ hs id).trans h.c13, (hc.cell _ _ hs id).trans h.c14, h.rest.of hc (fun _ _ _ _ => id), h.own, h.cap4, h.capN, h.le⟩
def SpotOk (L : Sg.Live) : Prop := (0 ≤ L.at_ ∧ L.at_ < 1000000000000) ∧ (0 ≤ L.line ∧ L.line < 1000000000000) ∧ (0 ≤ L.col ∧ L.col < 1000000000000)
structure TokAt (w : World) (tb : Nat) (L : Sg.Live) (z : Nat) : Prop where
  t0 : w.cell? ⟨tb, 0, none⟩ = some (.int .i64 L.wk.rule)
  t1 : w.cell? ⟨tb, 1, none⟩ = some (.int .i64 L.at_)
  t2 : w.cell? ⟨tb, 2, none⟩ = some (.int .i64 L.line)
  t3 : w.cell? ⟨tb, 3, none⟩ = some (.int .i64 L.col)
  t4 : w.cell? ⟨tb, 4, none⟩ = some (.string ⟨(L.rest.take z).toArray⟩)
abbrev tokZ : Obj := .cells #[.int .i64 0, .int .i64 0, .int .i64 0, .int .i64 0, .string ⟨#[]⟩] 33
theorem tokAt_new (w : World) (L : Sg.Live) (z : Nat) : TokAt (w.alloc (.cells #[.int .i64 L.wk.rule, .int .i64 L.at_, .int .i64 L.line, .int .i64 L.col, .string ⟨(L.rest.take z).toArray⟩] 33)) w.heap.size L z := by
  refine ⟨?_, ?_, ?_, ?_, ?_⟩ <;> (rw [World.cell?_alloc_at _ _ _ _ rfl]; rfl)
theorem tokAt_set {w : World} {b : Nat} {x0 x1 x2 x3 x4 : Value} (L : Sg.Live) (z : Nat) (z0 : w.cell? ⟨b, 0, none⟩ = some x0) (z1 : w.cell? ⟨b, 1, none⟩ = some x1) (z2 : w.cell? ⟨b, 2, none⟩ = some x2) (z3 : w.cell? ⟨b, 3, none⟩ = some x3) (z4 : w.cell? ⟨b, 4, none⟩ = some x4) :
    TokAt (((((w.setCell ⟨b, 0, none⟩ (.int .i64 L.wk.rule)).setCell ⟨b, 1, none⟩ (.int .i64 L.at_)).setCell ⟨b, 2, none⟩ (.int .i64 L.line)).setCell ⟨b, 3, none⟩ (.int .i64 L.col)).setCell ⟨b, 4, none⟩ (.string ⟨(L.rest.take z).toArray⟩)) b L z := by
  have e : ∀ (X : World) (i j : Nat) (v : Value) (u : Option Value), i ≠ j → X.cell? ⟨b, j, none⟩ = u → (X.setCell ⟨b, i, none⟩ v).cell? ⟨b, j, none⟩ = u := fun X i j v u hij hu => (World.cell?_setCell_other X ⟨b, i, none⟩ ⟨b, j, none⟩ v (by simp [hij])).trans hu
  have a0 := World.cell?_setCell_same w ⟨b, 0, none⟩ (.int .i64 L.wk.rule) z0
  have a1 := e w 0 1 (.int .i64 L.wk.rule) _ (by omega) z1
  have a2 := e w 0 2 (.int .i64 L.wk.rule) _ (by omega) z2
  have a3 := e w 0 3 (.int .i64 L.wk.rule) _ (by omega) z3
  have a4 := e w 0 4 (.int .i64 L.wk.rule) _ (by omega) z4
  generalize w.setCell ⟨b, 0, none⟩ (.int .i64 L.wk.rule) = X at *
  have b0 := e X 1 0 (.int .i64 L.at_) _ (by omega) a0
  have b1 := World.cell?_setCell_same X ⟨b, 1, none⟩ (.int .i64 L.at_) a1
  have b2 := e X 1 2 (.int .i64 L.at_) _ (by omega) a2
  have b3 := e X 1 3 (.int .i64 L.at_) _ (by omega) a3
  have b4 := e X 1 4 (.int .i64 L.at_) _ (by omega) a4
  generalize X.setCell ⟨b, 1, none⟩ (.int .i64 L.at_) = Y at *
  have c0 := e Y 2 0 (.int .i64 L.line) _ (by omega) b0
  have c1 := e Y 2 1 (.int .i64 L.line) _ (by omega) b1
  have c2 := World.cell?_setCell_same Y ⟨b, 2, none⟩ (.int .i64 L.line) b2
  have c3 := e Y 2 3 (.int .i64 L.line) _ (by omega) b3
  have c4 := e Y 2 4 (.int .i64 L.line) _ (by omega) b4
  generalize Y.setCell ⟨b, 2, none⟩ (.int .i64 L.line) = Z at *
  have d0 := e Z 3 0 (.int .i64 L.col) _ (by omega) c0
  have d1 := e Z 3 1 (.int .i64 L.col) _ (by omega) c1
  have d2 := e Z 3 2 (.int .i64 L.col) _ (by omega) c2
  have d3 := World.cell?_setCell_same Z ⟨b, 3, none⟩ (.int .i64 L.col) c3
  have d4 := e Z 3 4 (.int .i64 L.col) _ (by omega) c4
  generalize Z.setCell ⟨b, 3, none⟩ (.int .i64 L.col) = V at *
  exact ⟨e V 4 0 _ _ (by omega) d0, e V 4 1 _ _ (by omega) d1, e V 4 2 _ _ (by omega) d2, e V 4 3 _ _ (by omega) d3, World.cell?_setCell_same V ⟨b, 4, none⟩ _ d4⟩
theorem five_set {w : World} {b : Nat} {x0 x1 x2 x3 x4 : Value} (v0 v1 v2 v3 v4 : Value) (z0 : w.cell? ⟨b, 6, none⟩ = some x0) (z1 : w.cell? ⟨b, 7, none⟩ = some x1) (z2 : w.cell? ⟨b, 8, none⟩ = some x2) (z3 : w.cell? ⟨b, 9, none⟩ = some x3) (z4 : w.cell? ⟨b, 10, none⟩ = some x4) :
    ∃ Y, Y = ((((w.setCell ⟨b, 6, none⟩ v0).setCell ⟨b, 7, none⟩ v1).setCell ⟨b, 8, none⟩ v2).setCell ⟨b, 9, none⟩ v3).setCell ⟨b, 10, none⟩ v4 ∧ Y.cell? ⟨b, 6, none⟩ = some v0 ∧ Y.cell? ⟨b, 7, none⟩ = some v1 ∧ Y.cell? ⟨b, 8, none⟩ = some v2 ∧ Y.cell? ⟨b, 9, none⟩ = some v3 ∧ Y.cell? ⟨b, 10, none⟩ = some v4 ∧ Chg (fun i j => i = b ∧ 6 ≤ j ∧ j ≤ 10) w Y := by
  have e : ∀ (X : World) (i j : Nat) (v : Value) (u : Option Value), i ≠ j → X.cell? ⟨b, j, none⟩ = u → (X.setCell ⟨b, i, none⟩ v).cell? ⟨b, j, none⟩ = u := fun X i j v u hij hu => (World.cell?_setCell_other X ⟨b, i, none⟩ ⟨b, j, none⟩ v (by simp [hij])).trans hu
  have g : ∀ (X : World) (i : Nat) (v : Value), (6 ≤ i ∧ i ≤ 10) → Chg (fun i j => i = b ∧ 6 ≤ j ∧ j ≤ 10) w X → Chg (fun i j => i = b ∧ 6 ≤ j ∧ j ≤ 10) w (X.setCell ⟨b, i, none⟩ v) := fun X i v hi hX => Chg.setCell (T := fun i j => i = b ∧ 6 ≤ j ∧ j ≤ 10) hX ⟨rfl, hi⟩ v
  refine ⟨_, rfl, ?_⟩
  have a0 := World.cell?_setCell_same w ⟨b, 6, none⟩ v0 z0
  have a1 := e w 6 7 v0 _ (by omega) z1
  have a2 := e w 6 8 v0 _ (by omega) z2
  have a3 := e w 6 9 v0 _ (by omega) z3
  have a4 := e w 6 10 v0 _ (by omega) z4
  have g1 := g w 6 v0 (by omega) (Chg.refl _ _)
  generalize w.setCell ⟨b, 6, none⟩ v0 = X at *
  have b0 := e X 7 6 v1 _ (by omega) a0
  have b1 := World.cell?_setCell_same X ⟨b, 7, none⟩ v1 a1
  have b2 := e X 7 8 v1 _ (by omega) a2
  have b3 := e X 7 9 v1 _ (by omega) a3
  have b4 := e X 7 10 v1 _ (by omega) a4
  have g2 := g X 7 v1 (by omega) g1
  generalize X.setCell ⟨b, 7, none⟩ v1 = Y at *
  have c0 := e Y 8 6 v2 _ (by omega) b0
  have c1 := e Y 8 7 v2 _ (by omega) b1
  have c2 := World.cell?_setCell_same Y ⟨b, 8, none⟩ v2 b2
  have c3 := e Y 8 9 v2 _ (by omega) b3
  have c4 := e Y 8 10 v2 _ (by omega) b4
  have g3 := g Y 8 v2 (by omega) g2
  generalize Y.setCell ⟨b, 8, none⟩ v2 = Z at *
  have d0 := e Z 9 6 v3 _ (by omega) c0
  have d1 := e Z 9 7 v3 _ (by omega) c1
  have d2 := e Z 9 8 v3 _ (by omega) c2
  have d3 := World.cell?_setCell_same Z ⟨b, 9, none⟩ v3 c3
  have d4 := e Z 9 10 v3 _ (by omega) c4
  have g4 := g Z 9 v3 (by omega) g3
  generalize Z.setCell ⟨b, 9, none⟩ v3 = V at *
  exact ⟨e V 10 6 _ _ (by omega) d0, e V 10 7 _ _ (by omega) d1, e V 10 8 _ _ (by omega) d2, e V 10 9 _ _ (by omega) d3, World.cell?_setCell_same V ⟨b, 10, none⟩ _ d4, g V 10 v4 (by omega) g4⟩
theorem cut_fin {w wo wc w5 F : World} {sq p q nn pb n c rb ro rc : Nat} {L : Sg.Live} {z : Nat} (hz : L.size = z) (hs1 : 1 ≤ z) (hs2 : z ≤ L.rest.length) (h : ScAt w sq p q nn pb n c (some ⟨rb, ro, none⟩) rc L) (hcc : ScAt wo sq p q nn pb n c (some ⟨rb, ro, none⟩) rc L) (hbW : Below w.heap.size w wo) (hwo : w.heap.size < wo.heap.size)
    (hS4 : SpotAt wc sq 11 (L.passT (L.rest.take z))) (hg4 : Chg (fun i j => i = sq ∧ 11 ≤ j ∧ j ≤ 11 + 2) wo wc) (ra2 : Option Addr) (rc2 : Nat) (hra : (ra2 = some ⟨rb, ro + z, none⟩ ∧ rc2 = rc - z) ∨ (ra2 = some ⟨rb, ro, none⟩ ∧ rc2 = 0 ∧ rc ≤ z))
    (hb5 : Below wc.heap.size (wc.setCell ⟨sq, 4, none⟩ (.slice ra2 (L.rest.length - z) rc2)) w5) (Y : World) (hY : Chg (fun i j => i = sq ∧ 6 ≤ j ∧ j ≤ 10) w5 Y) (k6 : Y.cell? ⟨sq, 6, none⟩ = some (.pointer (some ⟨p, 0, none⟩))) (k7 : Y.cell? ⟨sq, 7, none⟩ = some (.int .i64 0)) (k8 : Y.cell? ⟨sq, 8, none⟩ = some (.int .i64 0)) (k9 : Y.cell? ⟨sq, 9, none⟩ = some (.int .i64 (-1))) (k10 : Y.cell? ⟨sq, 10, none⟩ = some (.int .i64 0))
    (hF : Chg (fun i _ => i = w.heap.size) Y F) : ScAt F sq p q nn pb n c ra2 rc2 L.cutT ∧ Chg (fun i _ => i = sq) w F := by
  have hs0 := cell_lt h.c0
  have hso := cell_lt hcc.c0
  have hsc : sq < wc.heap.size := Nat.lt_of_lt_of_le hso hg4.size
  have hX : (wc.setCell ⟨sq, 4, none⟩ (.slice ra2 (L.rest.length - z) rc2)).heap.size = wc.heap.size := by simp
  have hs5 : sq < w5.heap.size := by have := hb5.size; omega
  have hsY : sq < Y.heap.size := Nat.lt_of_lt_of_le hs5 hY.size
  have hchX : Chg (fun i j => i = sq ∧ j = 4) wc w5 := ((Chg.refl _ wc).setCell ⟨rfl, rfl⟩ _).trans (Chg.of_below (by rw [hX]; exact hb5))
  have hU : Chg (fun i j => (i = sq ∧ (j = 4 ∨ (6 ≤ j ∧ j ≤ 13))) ∨ i = w.heap.size) wo F :=
    (((hg4.mono (fun i j _ t => .inl ⟨t.1, .inr (by omega)⟩)).trans (hchX.mono (fun i j _ t => .inl ⟨t.1, .inl t.2⟩))).trans (hY.mono (fun i j _ t => .inl ⟨t.1, .inr (by omega)⟩))).trans (hF.mono (fun i j _ t => .inr t))
  have hq := hcc.sp.hq
  have hn1 := hcc.sp.nn1
  have hnn := h.sp.nn2
  have hrb := hcc.own rb ro rfl
  have hrbw : rb < w.heap.size := by
    rcases h.rest with ⟨e, _⟩ | ⟨rb2, ro2, e2, _, _, _, g, _⟩
    · cases e
    · cases e2; exact g
  have hcell : ∀ j, j ≠ 4 → (j < 6 ∨ 13 < j) → F.cell? ⟨sq, j, none⟩ = wo.cell? ⟨sq, j, none⟩ := fun j h4 h6 => hU.cell _ _ hso (fun t => by omega)
  have hF' : ∀ j, F.cell? ⟨sq, j, none⟩ = Y.cell? ⟨sq, j, none⟩ := fun j => hF.cell _ _ hsY (fun t => by omega)
  have hY' : ∀ j, (j < 6 ∨ 10 < j) → Y.cell? ⟨sq, j, none⟩ = w5.cell? ⟨sq, j, none⟩ := fun j hj => hY.cell _ _ hs5 (fun t => by omega)
  have h5' : ∀ j, j ≠ 4 → w5.cell? ⟨sq, j, none⟩ = wc.cell? ⟨sq, j, none⟩ := fun j hj => hchX.cell _ _ hsc (fun t => hj t.2)
  have h44 : w5.cell? ⟨sq, 4, none⟩ = some (.slice ra2 (L.rest.length - z) rc2) := (hb5.cell (p := ⟨sq, 4, none⟩) hsc).trans (World.cell?_setCell_same _ _ _ ((hg4.cell _ _ hso (fun t => by omega)).trans hcc.c4))
  have hcut : L.cutT = { L.passT (L.rest.take z) with rest := L.rest.drop z, wk := Sg.Wk.zero } := by unfold Sg.Live.cutT; rw [hz]
  have hpcap : (L.passT (L.rest.take z)).cap = L.cap ∧ (L.passT (L.rest.take z)).stop = L.stop ∧ (L.passT (L.rest.take z)).src = L.src := by
    unfold Sg.Live.passT; split <;> exact ⟨rfl, rfl, rfl⟩
  have hlen : (L.rest.drop z).length = L.rest.length - z := List.length_drop
  rw [hcut]
  refine ⟨⟨(hcell 0 (by omega) (by omega)).trans hcc.c0, ?_, ?_, ?_, ?_, ?_, ?_, ?_, ?_, (hcell 14 (by omega) (by omega)).trans hcc.c14, ?_, ?_, ?_, ?_, ?_⟩, ?_⟩
  · show SpAt F sq 1 q nn pb n c (L.passT (L.rest.take z)).src
    rw [hpcap.2.2]
    refine hcc.sp.of hU (fun j t => by omega) (fun j => ?_) (fun t => by omega) (fun t => by omega) (fun b j hb _ t => by omega)
    rcases h.sp.sp with ⟨g, _⟩ | ⟨g1, _, _, _, g5, g6, _⟩
    · exact .inr g
    · have : pb < w.heap.size := by
        obtain ⟨v, hv⟩ := Option.isSome_iff_exists.1 (g6 0 (by omega)); exact cell_lt hv
      exact .inl (fun t => by omega)
  · show F.cell? ⟨sq, 3, none⟩ = some (.int .i64 ((L.passT (L.rest.take z)).cap : Nat))
    rw [hpcap.1]; exact (hcell 3 (by omega) (by omega)).trans hcc.c3
  · show F.cell? ⟨sq, 4, none⟩ = some (.slice ra2 (L.rest.drop z).length rc2)
    rw [hlen, hF', hY' 4 (by omega)]; exact h44
  · show F.cell? ⟨sq, 5, none⟩ = some (errV (L.passT (L.rest.take z)).stop)
    rw [hpcap.2.1]; exact (hcell 5 (by omega) (by omega)).trans hcc.c5
  · exact ⟨(hF' 6).trans k6, (hF' 7).trans k7, (hF' 8).trans k8, (hF' 9).trans k9, (hF' 10).trans k10, fun j => (hU.frz _ _ hso).trans (hcc.wk.fr j)⟩
  · exact ((hF' 11).trans (hY' 11 (by omega))).trans ((h5' 11 (by omega)).trans hS4.c0)
  · exact ((hF' 12).trans (hY' 12 (by omega))).trans ((h5' 12 (by omega)).trans hS4.c1)
  · exact ((hF' 13).trans (hY' 13 (by omega))).trans ((h5' 13 (by omega)).trans hS4.c2)
  · show RestAt F ra2 rc2 (L.rest.drop z)
    have hR : RestAt F (some ⟨rb, ro, none⟩) rc L.rest := hcc.rest.of hU (fun rb' ro' j e t => by cases e; omega)
    rcases hR with ⟨e, _⟩ | ⟨rb', ro', e, g1, g2, g3, g4, g5⟩
    · cases e
    cases e
    rcases hra with ⟨rfl, rfl⟩ | ⟨rfl, rfl, hrc⟩
    · refine .inr ⟨rb, ro + z, rfl, by rw [hlen]; omega, fun j hj => ?_, fun j hj => ?_, g4, g5⟩
      · rw [hlen] at hj
        have := g2 (z + j) (by omega)
        rw [← Nat.add_assoc] at this
        rw [this]; simp only [List.getD_eq_getElem?_getD, List.getElem?_drop]
      · have := g3 (z + j) (by omega)
        rw [← Nat.add_assoc] at this; exact this
    · have hnil : L.rest.drop z = [] := List.drop_of_length_le (by omega)
      rw [hnil]
      exact .inr ⟨rb, ro, rfl, Nat.le_refl _, fun j hj => by simp at hj, fun j hj => by omega, g4, g5⟩
  · intro rb' ro' e
    rcases hra with ⟨e2, _⟩ | ⟨e2, _⟩ <;> (rw [e2] at e; cases e; exact hrb)
  · show 4 ≤ (L.passT (L.rest.take z)).cap
    rw [hpcap.1]; exact hcc.cap4
  · show (L.passT (L.rest.take z)).cap ≤ 100000
    rw [hpcap.1]; exact hcc.capN
  · show (L.rest.drop z).length ≤ (L.passT (L.rest.take z)).cap
    rw [hpcap.1, hlen]; have := hcc.le; omega
  · exact (Chg.of_below hbW).trans_new hU (fun i j hi t => by omega)
theorem cut_any' (sq p q nn pb n c : Nat) (ra : Option Addr) (rc : Nat) (L : Sg.Live) (w : World) (h : ScAt w sq p q nn pb n c ra rc L) (hT : Tabs w) (hne : L.rest ≠ []) (hzl : L.wk.length ≤ L.rest.length) (hsp : SpotOk L) :
    Calls Tryz.prog 40 #[.pointer (some ⟨sq, 0, none⟩)] w fun en w' => en = .returned (tokV L.tok) ∧ (∃ ra2 rc2, ScAt w' sq p q nn pb n c ra2 rc2 L.cutT ∧ ∀ i, FP sq q pb n ra2 i → FP sq q pb n ra i) ∧ Chg (fun i _ => i = sq) w w' := by
  have hcN := h.capN
  have hle := h.le
  have hsq := cell_lt h.c0
  have hb0 : Below w.heap.size w (w.alloc tokZ) := (Below.refl _ _).alloc (Nat.le_refl _) _
  have h0 := h.below hb0
  have hT0 : Tabs (w.alloc tokZ) := ⟨fun c hc => (hb0.cell (p := ⟨_, c, none⟩) (cell_lt (hT.1 c hc))).trans (hT.1 c hc), fun i hi => ⟨(hb0.cell (p := ⟨_, 2 * i, none⟩) (cell_lt (hT.2 i hi).1)).trans (hT.2 i hi).1, (hb0.cell (p := ⟨_, 2 * i + 1, none⟩) (cell_lt (hT.2 i hi).2)).trans (hT.2 i hi).2⟩⟩
  have kz : (w.alloc tokZ).heap.size = w.heap.size + 1 := by simp
  rcases h.rest with ⟨_, _, e⟩ | ⟨rb, ro, rfl, r1, r2, r3, r4, r5⟩
  · exact absurd e hne
  have hsz : 1 ≤ L.size ∧ L.size ≤ L.rest.length := by
    unfold Sg.Live.size
    split
    · exact ⟨Sg.dec_pos _ hne, Sg.dec_le _⟩
    · omega
  have hd := dec_any L.rest (some ⟨rb, ro, none⟩) rc (w.alloc tokZ) hT0 (by
    rcases h0.rest with ⟨e, _⟩ | ⟨rb', ro', e, _, g, _⟩
    · cases e
    · exact .inr ⟨rb', ro', e, g⟩) hne
  have HD := hide2 hd
  clear hd
  have k10 : (w.alloc tokZ).cell? ⟨sq, 10, none⟩ = some (.int .i64 L.wk.length) := h0.wk.c4
  have k4 := h0.c4
  go_enter Tryz.func40, Tryz.ntmps40
  go_upto_if 11 with fail
  go_cut [3] from 5 to 19 (fun z wx => z = .int .i64 (L.size : Nat) ∧ Below (w.heap.size + 1) (w.alloc tokZ) wx)
  case first =>
    by_cases hz : L.wk.length = 0
    · have g1 : (((L.wk.length : Nat) : Int) == 0) = true := beq_iff_eq.2 (by omega)
      have hs : L.size = (Sg.dec L.rest).2 := by unfold Sg.Live.size; rw [if_pos hz]
      have Hs := hide2 hs
      clear hs
      go_wp2_with fail
      refine HD.out.mono ?_
      rintro e w1 ⟨rfl, hb⟩
      go_wp2
      go_meet
      case rel => exact ⟨by rw [Hs.out], by rw [← kz]; exact hb⟩
    · have g1 : (((L.wk.length : Nat) : Int) == 0) = false := beq_eq_false_iff_ne.2 (by omega)
      have hs : L.size = L.wk.length := by unfold Sg.Live.size; rw [if_neg hz]
      have Hs := hide2 hs
      clear hs
      go_wp2
      go_meet
      case rel => exact ⟨by rw [Hs.out], Below.refl _ _⟩
  case rest =>
    obtain ⟨rfl, hbc⟩ := hcut
    have hbw : Below w.heap.size w wc := hb0.trans (hbc.mono (by omega))
    have hc := h.below hbw
    have l9 : wc.cell? ⟨sq, 9, none⟩ = some (.int .i64 L.wk.rule) := hc.wk.c3
    have l4 := hc.c4
    have l11 := hc.c11
    have l12 := hc.c12
    have l13 := hc.c13
    have hsc : sq < wc.heap.size := cell_lt hc.c0
    have hszc : w.heap.size + 1 ≤ wc.heap.size := by have := hbc.size; omega
    clear k10 k4 h0 hT0 HD
    have hconv : ∀ W : World, (∀ j, j < L.rest.length → W.cell? ⟨rb, ro + j, none⟩ = some (.int .u8 (L.rest.getD j 0).toNat)) → (convert 60 9 (.slice (some ⟨rb, ro, none⟩) L.size rc)).run Tryz.prog W = .ok (.string ⟨(L.rest.take L.size).toArray⟩) W := fun W hW => by
      have := run_convert_bytes_back (P := Tryz.prog) W 60 9 5 ⟨rb, ro, none⟩ rc (L.rest.take L.size) Tryz.underlying60 Tryz.underlying5 Tryz.underlying9 (fun j hj => by
        rw [List.length_take] at hj
        rw [Addr.add_lit, hW j (by omega), List.getD_eq_getElem?_getD, List.getElem?_eq_getElem (by omega), List.getElem_take]; rfl)
      rw [List.length_take, Nat.min_eq_left hsz.2] at this
      exact this
    have r2c : ∀ j, j < L.rest.length → wc.cell? ⟨rb, ro + j, none⟩ = some (.int .u8 (L.rest.getD j 0).toNat) := fun j hj => (hbw.cell (p := ⟨rb, ro + j, none⟩) r4).trans (r2 j hj)
    have hrbc : rb < wc.heap.size := Nat.lt_of_lt_of_le r4 hbw.size
    have Hcv := hide2 hconv
    have Hr2c := hide2 r2c
    have hs1 := hsz.1
    have hs2 := hsz.2
    have Hsz := hide2 hsz
    have HK : Hid (∀ W, Calls Tryz.prog 66 #[.agg #[.int .i64 L.at_, .int .i64 L.line, .int .i64 L.col], .int .i64 L.wk.rule, .string ⟨(L.rest.take L.size).toArray⟩] W fun e w' => e = .returned (.agg #[.int .i64 L.wk.rule, .int .i64 L.at_, .int .i64 L.line, .int .i64 L.col, .string ⟨(L.rest.take L.size).toArray⟩]) ∧ Below W.heap.size W w' ∧
        (wc.heap.size < W.heap.size → w'.cell? ⟨wc.heap.size, 0, none⟩ = W.cell? ⟨wc.heap.size, 0, none⟩) ∧ (wc.heap.size < W.heap.size → w'.cell? ⟨wc.heap.size, 1, none⟩ = W.cell? ⟨wc.heap.size, 1, none⟩) ∧ (wc.heap.size < W.heap.size → w'.cell? ⟨wc.heap.size, 2, none⟩ = W.cell? ⟨wc.heap.size, 2, none⟩) ∧ (wc.heap.size < W.heap.size → w'.cell? ⟨wc.heap.size, 3, none⟩ = W.cell? ⟨wc.heap.size, 3, none⟩) ∧ (wc.heap.size < W.heap.size → w'.cell? ⟨wc.heap.size, 4, none⟩ = W.cell? ⟨wc.heap.size, 4, none⟩) ∧
        (∀ j, wc.heap.size < W.heap.size → w'.frozen? ⟨wc.heap.size, j, none⟩ = W.frozen? ⟨wc.heap.size, j, none⟩) ∧ (Below wc.heap.size wc W → Below wc.heap.size wc w')) := fun W => by
      refine (token_any L.at_ L.line L.col L.wk.rule (L.rest.take L.size) W).mono ?_
      rintro e w' ⟨rfl, hb⟩
      exact ⟨rfl, hb, fun g => hb.cell (p := ⟨wc.heap.size, 0, none⟩) g, fun g => hb.cell (p := ⟨wc.heap.size, 1, none⟩) g, fun g => hb.cell (p := ⟨wc.heap.size, 2, none⟩) g, fun g => hb.cell (p := ⟨wc.heap.size, 3, none⟩) g, fun g => hb.cell (p := ⟨wc.heap.size, 4, none⟩) g, fun j g => hb.frozen (p := ⟨wc.heap.size, j, none⟩) g, fun g => g.trans (hb.mono g.size)⟩
    have m1 : ¬ sq = wc.heap.size := by omega
    have m2 : ¬ wc.heap.size = sq := by omega
    clear hsz hconv
    generalize hLz : L.size = z at *
    have HLz := hide2 hLz
    clear hLz
    have Hall := hide2 (And.intro h (And.intro hc (And.intro hT (And.intro hbc (And.intro hbw (And.intro hsp (And.intro r2 (And.intro r3 (And.intro r5 (And.intro r2c hzl))))))))))
    clear h hc hT hbc hbw hsp r2 r3 r5 r2c hzl hb0 hne kz Hsz
    have HS : Hid (∀ w', Below wc.heap.size wc w' → Below wc.heap.size wc w' ∧ w'.cell? ⟨sq, 11, none⟩ = some (.int .i64 L.at_) ∧ w'.cell? ⟨sq, 12, none⟩ = some (.int .i64 L.line) ∧ w'.cell? ⟨sq, 13, none⟩ = some (.int .i64 L.col) ∧ w'.cell? ⟨sq, 9, none⟩ = some (.int .i64 L.wk.rule) ∧ w'.cell? ⟨sq, 4, none⟩ = some (.slice (some ⟨rb, ro, none⟩) L.rest.length rc) ∧ (convert 60 9 (.slice (some ⟨rb, ro, none⟩) z rc)).run Tryz.prog w' = .ok (.string ⟨(L.rest.take z).toArray⟩) w') := fun w' hb =>
      ⟨hb, (hb.cell (p := ⟨sq, 11, none⟩) hsc).trans l11, (hb.cell (p := ⟨sq, 12, none⟩) hsc).trans l12, (hb.cell (p := ⟨sq, 13, none⟩) hsc).trans l13, (hb.cell (p := ⟨sq, 9, none⟩) hsc).trans l9, (hb.cell (p := ⟨sq, 4, none⟩) hsc).trans l4, Hcv.out w' (fun j hj => (hb.cell (p := ⟨rb, ro + j, none⟩) hrbc).trans (Hr2c.out j hj))⟩
    obtain ⟨wa, hwa⟩ : ∃ wa, wc = wa := ⟨_, rfl⟩
    subst hwa
    go_upto_region 4 with fail
    go_cut [4] from 20 to 36 (fun t w3 => ∃ tb, t = .pointer (some ⟨tb, 0, none⟩) ∧ wc.heap.size ≤ tb ∧ TokAt w3 tb L z ∧ Below wc.heap.size wc w3)
    case first =>
      go_region_held (fun w' => Below wc.heap.size wc w' ∧ w'.cell? ⟨sq, 11, none⟩ = some (.int .i64 L.at_) ∧ w'.cell? ⟨sq, 12, none⟩ = some (.int .i64 L.line) ∧ w'.cell? ⟨sq, 13, none⟩ = some (.int .i64 L.col) ∧ w'.cell? ⟨sq, 9, none⟩ = some (.int .i64 L.wk.rule) ∧ w'.cell? ⟨sq, 4, none⟩ = some (.slice (some ⟨rb, ro, none⟩) L.rest.length rc) ∧ (convert 60 9 (.slice (some ⟨rb, ro, none⟩) z rc)).run Tryz.prog w' = .ok (.string ⟨(L.rest.take z).toArray⟩) w')
        ((with_reducible refine HS.out _ ?_; first
          | with_reducible exact (Below.refl _ _).drew
          | with_reducible exact ((Below.refl _ _).alloc (Nat.le_refl _) _).drew
          | with_reducible exact hw2
          | with_reducible exact hw2.alloc hw2.size _
          | with_reducible exact ((((hw2.setCell (p := ⟨wc.heap.size, 0, none⟩) (Nat.le_refl _) _).setCell (p := ⟨wc.heap.size, 1, none⟩) (Nat.le_refl _) _).setCell (p := ⟨wc.heap.size, 2, none⟩) (Nat.le_refl _) _).setCell (p := ⟨wc.heap.size, 3, none⟩) (Nat.le_refl _) _).setCell (p := ⟨wc.heap.size, 4, none⟩) (Nat.le_refl _) _))
        ((go_at_call 66; refine (HK.out _).mono ?_; rintro e w2 ⟨rfl, hb2, z0, z1, z2, z3, z4, zf, hk⟩; have hw2 : Below wc.heap.size wc w2 := hk (by first | with_reducible exact (Below.refl _ _).drew | with_reducible exact ((Below.refl _ _).alloc (Nat.le_refl _) _).drew); clear hb2 hk; simp at z0 z1 z2 z3 z4 zf))
      all_goals go_wp2_with fail
      all_goals go_meet
      · exact ⟨_, rfl, hw2.size, tokAt_new _ _ _, hw2.alloc hw2.size _⟩
      · exact ⟨_, rfl, Nat.le_refl _, tokAt_set _ _ z0 z1 z2 z3 z4, ((((hw2.setCell (p := ⟨wc.heap.size, 0, none⟩) (Nat.le_refl _) _).setCell (p := ⟨wc.heap.size, 1, none⟩) (Nat.le_refl _) _).setCell (p := ⟨wc.heap.size, 2, none⟩) (Nat.le_refl _) _).setCell (p := ⟨wc.heap.size, 3, none⟩) (Nat.le_refl _) _).setCell (p := ⟨wc.heap.size, 4, none⟩) (Nat.le_refl _) _⟩
      · exact ⟨_, rfl, Nat.le_refl _, tokAt_set _ _ z0 z1 z2 z3 z4, ((((hw2.setCell (p := ⟨wc.heap.size, 0, none⟩) (Nat.le_refl _) _).setCell (p := ⟨wc.heap.size, 1, none⟩) (Nat.le_refl _) _).setCell (p := ⟨wc.heap.size, 2, none⟩) (Nat.le_refl _) _).setCell (p := ⟨wc.heap.size, 3, none⟩) (Nat.le_refl _) _).setCell (p := ⟨wc.heap.size, 4, none⟩) (Nat.le_refl _) _⟩
    case rest =>
      obtain ⟨tb, rfl, htb, htok, hbc2⟩ := hcut
      obtain ⟨h, hc, hT, hbc, hbw, hsp, r2, r3, r5, r2c, hzl⟩ := Hall.out
      have hbW : Below w.heap.size w wc := hbw.trans (hbc2.mono hbw.size)
      have hcc := h.below hbW
      have hzs : (w.alloc tokZ).heap.size = w.heap.size + 1 := by simp
      have hres : ∀ j, wc.cell? ⟨w.heap.size, j, none⟩ = (w.alloc tokZ).cell? ⟨w.heap.size, j, none⟩ := fun j => (hbc2.cell (p := ⟨w.heap.size, j, none⟩) (by show w.heap.size < _; omega)).trans (hbc.cell (p := ⟨w.heap.size, j, none⟩) (by show w.heap.size < _; omega))
      have hresf : ∀ j, wc.frozen? ⟨w.heap.size, j, none⟩ = false := fun j => (hbc2.frozen (p := ⟨w.heap.size, j, none⟩) (by show w.heap.size < _; omega)).trans ((hbc.frozen (p := ⟨w.heap.size, j, none⟩) (by show w.heap.size < _; omega)).trans (World.frozen?_alloc_at _ _ _ _ rfl))
      have x0 : wc.cell? ⟨w.heap.size, 0, none⟩ = some (.int .i64 0) := (hres 0).trans (World.cell?_alloc_at _ _ _ _ rfl)
      have x1 : wc.cell? ⟨w.heap.size, 1, none⟩ = some (.int .i64 0) := (hres 1).trans (World.cell?_alloc_at _ _ _ _ rfl)
      have x2 : wc.cell? ⟨w.heap.size, 2, none⟩ = some (.int .i64 0) := (hres 2).trans (World.cell?_alloc_at _ _ _ _ rfl)
      have x3 : wc.cell? ⟨w.heap.size, 3, none⟩ = some (.int .i64 0) := (hres 3).trans (World.cell?_alloc_at _ _ _ _ rfl)
      have x4 : wc.cell? ⟨w.heap.size, 4, none⟩ = some (.string ⟨#[]⟩) := (hres 4).trans (World.cell?_alloc_at _ _ _ _ rfl)
      have hSp : SpotAt wc.drew sq 11 L := ⟨hcc.c11, hcc.c12, hcc.c13, hcc.sp.fr⟩
      have htl : (L.rest.take z).length < 1000000000 := by rw [List.length_take]; omega
      have hpass := pass_any sq 11 L (L.rest.take z) wc.drew htl hsp.1 hsp.2.1 hsp.2.2 hSp
      have HP : Hid (Calls Tryz.prog 67 #[.pointer (some ⟨sq, 11, none⟩), .string ⟨(L.rest.take z).toArray⟩] wc.drew fun en w' => (∃ v, en = .returned v) ∧ SpotAt w' sq 11 (L.passT (L.rest.take z)) ∧ Chg (fun i j => i = sq ∧ 11 ≤ j ∧ j ≤ 11 + 2) wc w') := by
        refine hpass.mono ?_
        rintro en w' ⟨hv, hs, hg⟩
        exact ⟨hv, hs, (Chg.drew (Chg.refl _ wc)).trans hg⟩
      have y4 := htok.t4
      have Hall2 := hide2 (And.intro h (And.intro hcc (And.intro hbW (And.intro htok (And.intro hresf hzl)))))
      have HX := hide2 (And.intro x0 (And.intro x1 (And.intro x2 (And.intro x3 x4))))
      clear Hall HS HK Hcv Hr2c h hc hT hbc hbw hsp r2 r3 r5 r2c hzl hbc2 hbW hcc hres hresf x0 x1 x2 x3 x4 hSp hpass l9 l4 l11 l12 l13 htok
      go_upto_region 5 with fail
      go_cut [] from 37 to 42 (fun w4 => SpotAt w4 sq 11 (L.passT (L.rest.take z)) ∧ Chg (fun i j => i = sq ∧ 11 ≤ j ∧ j ≤ 11 + 2) wc w4)
      case first =>
        go_region_with (go_at_call 67; refine HP.out.mono ?_; rintro e w2 ⟨⟨v, rfl⟩, hs2', hg2⟩)
        all_goals go_wp2_with fail
        all_goals go_meet
        all_goals exact ⟨hs2', hg2⟩
      case rest =>
        obtain ⟨hS4, hg4⟩ := hcut
        obtain ⟨h, hcc, hbW, htok, hresf, hzl⟩ := Hall2.out
        obtain ⟨x0, x1, x2, x3, x4⟩ := HX.out
        have hs0 := cell_lt hcc.c0
        have hg : ∀ j, (j < 11 ∨ 13 < j) → wc.cell? ⟨sq, j, none⟩ = _ := fun j hj => hg4.cell sq j hs0 (fun t => by omega)
        have y0 : wc.cell? ⟨sq, 0, none⟩ = some (.pointer (some ⟨p, 0, none⟩)) := (hg 0 (by omega)).trans hcc.c0
        have y4' : wc.cell? ⟨sq, 4, none⟩ = some (.slice (some ⟨rb, ro, none⟩) L.rest.length rc) := (hg 4 (by omega)).trans hcc.c4
        have y6 : wc.cell? ⟨sq, 6, none⟩ = some (.pointer (some ⟨p, 0, none⟩)) := (hg 6 (by omega)).trans hcc.wk.c0
        have y7 : wc.cell? ⟨sq, 7, none⟩ = some (.int .i64 L.wk.state) := (hg 7 (by omega)).trans hcc.wk.c1
        have y8 : wc.cell? ⟨sq, 8, none⟩ = some (.int .i64 L.wk.passed) := (hg 8 (by omega)).trans hcc.wk.c2
        have y9 : wc.cell? ⟨sq, 9, none⟩ = some (.int .i64 L.wk.rule) := (hg 9 (by omega)).trans hcc.wk.c3
        have y10 : wc.cell? ⟨sq, 10, none⟩ = some (.int .i64 L.wk.length) := (hg 10 (by omega)).trans hcc.wk.c4
        have fs := hS4.fr
        have htbl := cell_lt htok.t0
        have hne1 : tb ≠ sq := by omega
        have hne2 : w.heap.size ≠ sq := by omega
        have hne3 : tb ≠ w.heap.size := by omega
        have hwl := cell_lt x0
        have hgt : ∀ j, wc.cell? ⟨tb, j, none⟩ = _ := fun j => hg4.cell tb j htbl (fun t => hne1 t.1)
        have hgr : ∀ j, wc.cell? ⟨w.heap.size, j, none⟩ = _ := fun j => hg4.cell w.heap.size j hwl (fun t => hne2 t.1)
        have t0 := (hgt 0).trans htok.t0
        have t1 := (hgt 1).trans htok.t1
        have t2 := (hgt 2).trans htok.t2
        have t3 := (hgt 3).trans htok.t3
        have t4 := (hgt 4).trans htok.t4
        have q0 := (hgr 0).trans x0
        have q1 := (hgr 1).trans x1
        have q2 := (hgr 2).trans x2
        have q3 := (hgr 3).trans x3
        have q4 := (hgr 4).trans x4
        have qf : ∀ j, wc.frozen? ⟨w.heap.size, j, none⟩ = false := fun j => (hg4.frz _ _ hwl).trans (hresf j)
        have hsl4 : sq < wc.heap.size := Nat.lt_of_lt_of_le hs0 hg4.size
        have htl4 : tb < wc.heap.size := Nat.lt_of_lt_of_le htbl hg4.size
        have hwl4 : w.heap.size < wc.heap.size := Nat.lt_of_lt_of_le hwl hg4.size
        have HC := hide2 (And.intro h (And.intro hcc (And.intro hbW (And.intro hS4 (And.intro hg4 hzl)))))
        clear h hcc hbW hS4 hg4 hzl Hall2 HX x0 x1 x2 x3 x4 htok hresf hg hgt hgr y4 HP
        have n1 : ¬ sq = tb := fun e => hne1 e.symm
        have n2 : ¬ sq = w.heap.size := fun e => hne2 e.symm
        have n3 : ¬ w.heap.size = tb := fun e => hne3 e.symm
        have HO : Hid (∀ v, Calls Tryz.prog 55 #[.pointer (some ⟨p, 0, none⟩)] (wc.setCell ⟨sq, 4, none⟩ v) fun en w' => en = .returned (.agg #[.pointer (some ⟨p, 0, none⟩), .int .i64 0, .int .i64 0, .int .i64 (-1), .int .i64 0]) ∧ Below wc.heap.size (wc.setCell ⟨sq, 4, none⟩ v) w' ∧ w'.cell? ⟨sq, 6, none⟩ = some (.pointer (some ⟨p, 0, none⟩)) ∧ w'.cell? ⟨sq, 7, none⟩ = some (.int .i64 L.wk.state) ∧ w'.cell? ⟨sq, 8, none⟩ = some (.int .i64 L.wk.passed) ∧ w'.cell? ⟨sq, 9, none⟩ = some (.int .i64 L.wk.rule) ∧ w'.cell? ⟨sq, 10, none⟩ = some (.int .i64 L.wk.length) ∧ w'.cell? ⟨tb, 0, none⟩ = some (.int .i64 L.wk.rule) ∧ w'.cell? ⟨tb, 1, none⟩ = some (.int .i64 L.at_) ∧ w'.cell? ⟨tb, 2, none⟩ = some (.int .i64 L.line) ∧ w'.cell? ⟨tb, 3, none⟩ = some (.int .i64 L.col) ∧ w'.cell? ⟨tb, 4, none⟩ = some (.string ⟨(L.rest.take z).toArray⟩) ∧ w'.cell? ⟨w.heap.size, 0, none⟩ = some (.int .i64 0) ∧ w'.cell? ⟨w.heap.size, 1, none⟩ = some (.int .i64 0) ∧ w'.cell? ⟨w.heap.size, 2, none⟩ = some (.int .i64 0) ∧ w'.cell? ⟨w.heap.size, 3, none⟩ = some (.int .i64 0) ∧ w'.cell? ⟨w.heap.size, 4, none⟩ = some (.string ⟨#[]⟩) ∧ (∀ j, w'.frozen? ⟨sq, j, none⟩ = false) ∧ (∀ j, w'.frozen? ⟨w.heap.size, j, none⟩ = false)) := fun v => by
          refine (ofW_any p _).mono ?_
          rintro en w' ⟨rfl, hb⟩
          have hz0 : (wc.setCell ⟨sq, 4, none⟩ v).heap.size = wc.heap.size := by simp
          rw [hz0] at hb
          have K : ∀ (b j : Nat) (u : Value), b < wc.heap.size → ((⟨sq, 4, none⟩ : Addr) ≠ ⟨b, j, none⟩) → wc.cell? ⟨b, j, none⟩ = some u → w'.cell? ⟨b, j, none⟩ = some u := fun b j u hl hn hu =>
            (hb.cell (p := ⟨b, j, none⟩) hl).trans ((World.cell?_setCell_other _ _ _ _ hn).trans hu)
          exact ⟨rfl, hb, K sq 6 _ hsl4 (by simp) y6, K sq 7 _ hsl4 (by simp) y7, K sq 8 _ hsl4 (by simp) y8, K sq 9 _ hsl4 (by simp) y9, K sq 10 _ hsl4 (by simp) y10, K tb 0 _ htl4 (by simp <;> omega) t0, K tb 1 _ htl4 (by simp <;> omega) t1, K tb 2 _ htl4 (by simp <;> omega) t2, K tb 3 _ htl4 (by simp <;> omega) t3, K tb 4 _ htl4 (by simp <;> omega) t4, K w.heap.size 0 _ hwl4 (by simp <;> omega) q0, K w.heap.size 1 _ hwl4 (by simp <;> omega) q1, K w.heap.size 2 _ hwl4 (by simp <;> omega) q2, K w.heap.size 3 _ hwl4 (by simp <;> omega) q3, K w.heap.size 4 _ hwl4 (by simp <;> omega) q4, fun j => (hb.frozen (p := ⟨sq, j, none⟩) hsl4).trans (by rw [World.frozen?_setCell]; exact fs j), fun j => (hb.frozen (p := ⟨w.heap.size, j, none⟩) hwl4).trans (by rw [World.frozen?_setCell]; exact qf j)⟩
        rcases Nat.lt_or_ge z rc with hzr | hzr
        · go_wp2_with fail
          refine (HO.out _).mono ?_
          rintro e w5 ⟨rfl, hb5, ey6, ey7, ey8, ey9, ey10, et0, et1, et2, et3, et4, eq0, eq1, eq2, eq3, eq4, fs5, qf5⟩
          have Hb5 := hide2 hb5
          clear y6 y7 y8 y9 y10 t0 t1 t2 t3 t4 q0 q1 q2 q3 q4 fs qf hb5
          go_wp2
          obtain ⟨Y, hYe, k6, k7, k8, k9, k10, hYc⟩ := five_set (.pointer (some ⟨p, 0, none⟩)) (.int .i64 0) (.int .i64 0) (.int .i64 (-1)) (.int .i64 0) ey6 ey7 ey8 ey9 ey10
          rw [← hYe]
          have hw5 := cell_lt eq0
          have hYq : ∀ j, Y.cell? ⟨w.heap.size, j, none⟩ = w5.cell? ⟨w.heap.size, j, none⟩ := fun j => hYc.cell _ _ hw5 (fun t => hne2 t.1)
          have hTk := tokAt_set (w := Y) (b := w.heap.size) L z ((hYq 0).trans eq0) ((hYq 1).trans eq1) ((hYq 2).trans eq2) ((hYq 3).trans eq3) ((hYq 4).trans eq4)
          have hFc : Chg (fun i _ => i = w.heap.size) Y _ := Chg.setB (Chg.setB (Chg.setB (Chg.setB (Chg.setB (Chg.refl _ Y) 0 (.int .i64 L.wk.rule)) 1 (.int .i64 L.at_)) 2 (.int .i64 L.line)) 3 (.int .i64 L.col)) 4 (.string ⟨(L.rest.take z).toArray⟩)
          generalize World.setCell _ _ (Value.string ⟨(L.rest.take z).toArray⟩) = F at hTk hFc ⊢
          obtain ⟨h, hcc, hbW, hS4, hg4, hzl⟩ := HC.out
          obtain ⟨c1, c2⟩ := cut_fin HLz.out hs1 hs2 h hcc hbW hwl hS4 hg4 (some ⟨rb, ro + z, none⟩) (rc - z) (.inl ⟨rfl, rfl⟩) Hb5.out Y hYc k6 k7 k8 k9 k10 hFc
          have f0 := hTk.t0
          have f1 := hTk.t1
          have f2 := hTk.t2
          have f3 := hTk.t3
          have f4 := hTk.t4
          refine bodyPost_ret (v := tokV L.tok) ?_ rfl ⟨rfl, ⟨_, _, c1, fun i t => by rcases t with t | t | t | ⟨o, t⟩; exact .inl t; exact .inr (.inl t); exact .inr (.inr (.inl t)); cases t; exact .inr (.inr (.inr ⟨ro, rfl⟩))⟩, c2⟩
          unfold tokV Sg.Live.tok strV
          rw [HLz.out]
          simp [results, Tryz.results40, go_sem, f0, f1, f2, f3, f4]
        · obtain rfl : z = rc := by omega
          go_wp2_with fail
          refine (HO.out _).mono ?_
          rintro e w5 ⟨rfl, hb5, ey6, ey7, ey8, ey9, ey10, et0, et1, et2, et3, et4, eq0, eq1, eq2, eq3, eq4, fs5, qf5⟩
          have Hb5 := hide2 hb5
          clear y6 y7 y8 y9 y10 t0 t1 t2 t3 t4 q0 q1 q2 q3 q4 fs qf hb5
          go_wp2
          obtain ⟨Y, hYe, k6, k7, k8, k9, k10, hYc⟩ := five_set (.pointer (some ⟨p, 0, none⟩)) (.int .i64 0) (.int .i64 0) (.int .i64 (-1)) (.int .i64 0) ey6 ey7 ey8 ey9 ey10
          rw [← hYe]
          have hw5 := cell_lt eq0
          have hYq : ∀ j, Y.cell? ⟨w.heap.size, j, none⟩ = w5.cell? ⟨w.heap.size, j, none⟩ := fun j => hYc.cell _ _ hw5 (fun t => hne2 t.1)
          have hTk := tokAt_set (w := Y) (b := w.heap.size) L z ((hYq 0).trans eq0) ((hYq 1).trans eq1) ((hYq 2).trans eq2) ((hYq 3).trans eq3) ((hYq 4).trans eq4)
          have hFc : Chg (fun i _ => i = w.heap.size) Y _ := Chg.setB (Chg.setB (Chg.setB (Chg.setB (Chg.setB (Chg.refl _ Y) 0 (.int .i64 L.wk.rule)) 1 (.int .i64 L.at_)) 2 (.int .i64 L.line)) 3 (.int .i64 L.col)) 4 (.string ⟨(L.rest.take z).toArray⟩)
          generalize World.setCell _ _ (Value.string ⟨(L.rest.take z).toArray⟩) = F at hTk hFc ⊢
          obtain ⟨h, hcc, hbW, hS4, hg4, hzl⟩ := HC.out
          have e0 : L.rest.length - z = 0 := by omega
          have hb5z : Below wc.heap.size (wc.setCell ⟨sq, 4, none⟩ (.slice (some ⟨rb, ro, none⟩) (L.rest.length - z) 0)) w5 := by rw [e0]; exact Hb5.out
          obtain ⟨c1, c2⟩ := cut_fin HLz.out hs1 hs2 h hcc hbW hwl hS4 hg4 (some ⟨rb, ro, none⟩) 0 (.inr ⟨rfl, rfl, Nat.le_refl _⟩) hb5z Y hYc k6 k7 k8 k9 k10 hFc
          have f0 := hTk.t0
          have f1 := hTk.t1
          have f2 := hTk.t2
          have f3 := hTk.t3
          have f4 := hTk.t4
          refine bodyPost_ret (v := tokV L.tok) ?_ rfl ⟨rfl, ⟨_, _, c1, fun i t => t⟩, c2⟩
          unfold tokV Sg.Live.tok strV
          rw [HLz.out]
          simp [results, Tryz.results40, go_sem, f0, f1, f2, f3, f4]
end Go.Proofs.YtlhokghgicgppaaGreatDoor
