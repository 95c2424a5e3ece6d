/- (*walk.Walk).step and Alive. -/
import Derived.Test.YtlhokghgicgppaaGreatDoorIsEnd
import Derived.Test.YtlhokghgicgppaaGreatDoorReach2
import Derived.BigRegion
set_option linter.unusedSimpArgs false
set_option linter.unusedVariables false
set_option maxRecDepth 100000
set_option maxHeartbeats 4000000
namespace Go.Proofs.YtlhokghgicgppaaGreatDoor
open Go.RowKit Go.Extern
def MachIn (w : World) (B p : Nat) (m : Sg.Mach) : Prop :=
  ∃ (cb co cc sb so sc : Nat) (nb no nc : Nat → Nat), MachAt w p m cb co cc sb so sc nb no nc ∧ p < B ∧ cb < B ∧ sb < B ∧ (∀ i, i < m.states.length → nb i < B) ∧ m.cuts.length ≤ cc
theorem MachIn.of {w w' : World} {B p : Nat} {m : Sg.Mach} (M : MachIn w B p m) (hm : m.Ok) (h : ∀ (b o : Nat) (v : Value), b < B → w.cell? ⟨b, o, none⟩ = some v → w'.cell? ⟨b, o, none⟩ = some v) : MachIn w' B p m := by
  obtain ⟨cb, co, cc, sb, so, sc, nb, no, nc, M, h1, h2, h3, h4, h5⟩ := M
  exact ⟨cb, co, cc, sb, so, sc, nb, no, nc, ⟨h _ _ _ h1 M.c0, h _ _ _ h1 M.c1, fun i hi => h _ _ _ h2 (M.low i hi), fun i hi => h _ _ _ h2 (M.kind i hi), fun i hi => h _ _ _ h3 (M.rule i hi), fun i hi => h _ _ _ h3 (M.next i hi), fun i k hi hk => h _ _ _ (h4 i hi) (M.to i k hi hk)⟩, h1, h2, h3, h4, h5⟩
theorem MachIn.chg {w w' : World} {B p : Nat} {m : Sg.Mach} (M : MachIn w B p m) (hm : m.Ok) {T : Nat → Nat → Prop} (h : Chg T w w') (hT : ∀ i o, T i o → B ≤ i) : MachIn w' B p m :=
  M.of hm fun b o v hb hc => (h.cell b o (cell_lt hc) (fun t => by have := hT b o t; omega)).trans hc
structure WkAt (w : World) (q o p : Nat) (k : Sg.Wk) : Prop where
  c0 : w.cell? ⟨q, o, none⟩ = some (.pointer (some ⟨p, 0, none⟩))
  c1 : w.cell? ⟨q, o + 1, none⟩ = some (.int .i64 k.state)
  c2 : w.cell? ⟨q, o + 2, none⟩ = some (.int .i64 k.passed)
  c3 : w.cell? ⟨q, o + 3, none⟩ = some (.int .i64 k.rule)
  c4 : w.cell? ⟨q, o + 4, none⟩ = some (.int .i64 k.length)
  fr : ∀ j, w.frozen? ⟨q, j, none⟩ = false
theorem dec_bd (l : Sg.Bs) (h : l ≠ []) : 1 ≤ (Sg.dec l).2 ∧ (Sg.dec l).2 ≤ 4 := by
  unfold Sg.dec Lib.decodeN
  rw [if_neg h]
  repeat' split
  all_goals simp
theorem WkAt.set1 {w : World} {q o p : Nat} {k : Sg.Wk} (h : WkAt w q o p k) (x : Int) : WkAt (w.setCell ⟨q, o + 1, none⟩ (.int .i64 x)) q o p { k with state := x } :=
  ⟨(World.cell?_setCell_other _ _ _ _ (by simp)).trans h.c0, World.cell?_setCell_same _ _ _ h.c1, (World.cell?_setCell_other _ _ _ _ (by simp)).trans h.c2, (World.cell?_setCell_other _ _ _ _ (by simp)).trans h.c3, (World.cell?_setCell_other _ _ _ _ (by simp)).trans h.c4, fun j => by rw [World.frozen?_setCell]; exact h.fr j⟩
theorem WkAt.set2 {w : World} {q o p : Nat} {k : Sg.Wk} (h : WkAt w q o p k) (x z : Nat) : WkAt (w.setCell ⟨q, o + 2, none⟩ (.int .i64 (x + z))) q o p { k with passed := x + z } :=
  ⟨(World.cell?_setCell_other _ _ _ _ (by simp)).trans h.c0, (World.cell?_setCell_other _ _ _ _ (by simp)).trans h.c1, World.cell?_setCell_same _ _ _ h.c2, (World.cell?_setCell_other _ _ _ _ (by simp)).trans h.c3, (World.cell?_setCell_other _ _ _ _ (by simp)).trans h.c4, fun j => by rw [World.frozen?_setCell]; exact h.fr j⟩
theorem WkAt.set3 {w : World} {q o p : Nat} {k : Sg.Wk} (h : WkAt w q o p k) (x : Int) : WkAt (w.setCell ⟨q, o + 3, none⟩ (.int .i64 x)) q o p { k with rule := x } :=
  ⟨(World.cell?_setCell_other _ _ _ _ (by simp)).trans h.c0, (World.cell?_setCell_other _ _ _ _ (by simp)).trans h.c1, (World.cell?_setCell_other _ _ _ _ (by simp)).trans h.c2, World.cell?_setCell_same _ _ _ h.c3, (World.cell?_setCell_other _ _ _ _ (by simp)).trans h.c4, fun j => by rw [World.frozen?_setCell]; exact h.fr j⟩
theorem WkAt.set4 {w : World} {q o p : Nat} {k : Sg.Wk} (h : WkAt w q o p k) (x z : Nat) : WkAt (w.setCell ⟨q, o + 4, none⟩ (.int .i64 (x + z))) q o p { k with length := x + z } :=
  ⟨(World.cell?_setCell_other _ _ _ _ (by simp)).trans h.c0, (World.cell?_setCell_other _ _ _ _ (by simp)).trans h.c1, (World.cell?_setCell_other _ _ _ _ (by simp)).trans h.c2, (World.cell?_setCell_other _ _ _ _ (by simp)).trans h.c3, World.cell?_setCell_same _ _ _ h.c4, fun j => by rw [World.frozen?_setCell]; exact h.fr j⟩
theorem WkAt.drewN {w : World} {q o p : Nat} {k : Sg.Wk} (h : WkAt w q o p k) (n : Nat) : WkAt (w.drewN n) q o p k := ⟨h.c0, h.c1, h.c2, h.c3, h.c4, h.fr⟩
theorem after_ok (m : Sg.Mach) (hm : m.Ok) (s : Nat) (c : Int) (hs : s < m.states.length) : m.after s c = -1 ∨ ∃ t : Nat, m.after s c = t ∧ t < m.states.length := by
  have hi := Sg.cutIx_lt m.cuts c hm.cuts0
  have h0 := hm.kind0 _ hi
  have h1 := hm.kinds _ hi s hs
  have := hm.nexts s hs (m.kind (Sg.cutIx m.cuts c)) (by unfold Sg.Mach.kind; omega)
  rcases this with h | ⟨h2, h3⟩
  · exact .inl h
  · exact .inr ⟨(m.after s c).toNat, by unfold Sg.Mach.after; omega, by unfold Sg.Mach.after; omega⟩
theorem step_any (m : Sg.Mach) (hm : m.Ok) (k : Sg.Wk) (s : Nat) (hk : k.state = s) (hs : s < m.states.length) (hp : k.passed < 1000000000) (l : Sg.Bs) (a : Option Addr) (cap : Nat) (w : World) (hT : Tabs w) (h : SlAt w a l) (h0 : l ≠ []) (B p q o : Nat) (hB : B ≤ q)
    (Mi : MachIn w B p m) (hW : WkAt w q o p k) :
    Calls Tryz.prog 61 #[.pointer (some ⟨q, o, none⟩), .slice a l.length cap] w fun e w' => (∃ v, e = .returned v) ∧ WkAt w' q o p (Sg.stepW m k l) ∧ Chg (fun i j => i = q ∧ o < j ∧ j ≤ o + 4) w w' := by
  have hd := dec_any l a cap w hT h h0
  have hz := dec_bd l h0
  have H : Hid (Sg.stepW m k l = if (Sg.dec l).1 = 65533 ∧ (Sg.dec l).2 = 1 then { k with state := -1 }
    else if m.after s (Sg.dec l).1 = -1 then { k with state := -1, passed := k.passed + (Sg.dec l).2 }
    else if m.rule (m.after s (Sg.dec l).1).toNat = -1 then { k with state := m.after s (Sg.dec l).1, passed := k.passed + (Sg.dec l).2 }
    else ⟨m.after s (Sg.dec l).1, k.passed + (Sg.dec l).2, m.rule (m.after s (Sg.dec l).1).toNat, k.passed + (Sg.dec l).2⟩) := by
    show _ = _
    unfold Sg.stepW
    simp only [hk, Int.toNat_natCast]
  generalize (Sg.dec l).1 = r at *
  generalize (Sg.dec l).2 = z at *
  have hz1 := hz.1
  have hz2 := hz.2
  clear hz
  go_enter Tryz.func61, Tryz.ntmps61
  go_wp2_with fail
  refine hd.mono ?_
  rintro e w1 ⟨rfl, hb⟩
  clear hd
  have hq := cell_lt hW.c0
  have hW1 : WkAt w1 q o p k := ⟨(hb.cell (p := ⟨q, o, none⟩) hq).trans hW.c0, (hb.cell (p := ⟨q, o + 1, none⟩) hq).trans hW.c1, (hb.cell (p := ⟨q, o + 2, none⟩) hq).trans hW.c2, (hb.cell (p := ⟨q, o + 3, none⟩) hq).trans hW.c3, (hb.cell (p := ⟨q, o + 4, none⟩) hq).trans hW.c4, fun j => (hb.frozen (p := ⟨q, j, none⟩) hq).trans (hW.fr j)⟩
  have hch : Chg (fun i j => i = q ∧ o < j ∧ j ≤ o + 4) w w1 := Chg.of_below hb
  have hM1 : MachIn w1 B p m := Mi.chg hm hch (fun i _ t => by omega)
  obtain ⟨cb, co, cc, sb, so, sc, nb, no, nc, M, l1, l2, l3, l4, l5⟩ := hM1
  clear hb hW Mi hT h
  have hf0 := hW1.fr
  have hc1 := hW1.c1
  rw [hk] at hc1
  have hc0 := hW1.c0
  have hc2 := hW1.c2
  have Haf : Hid (Calls Tryz.prog 91 #[.pointer (some ⟨p, 0, none⟩), .int .i64 s, .int .i32 r] w1.drew fun e w' => e = .returned (.int .i64 (m.after s r)) ∧ ∃ n, w' = w1.drew.drewN n) :=
    after_any m hm s r w1.drew p cb co cc sb so sc nb no nc (M.of fun _ _ _ h => h) hs
  by_cases hbad : r = 65533 ∧ z = 1
  · obtain ⟨rfl, rfl⟩ := hbad
    go_wp2
    refine bodyPost_ret (results_none rfl _ _ _) rfl ?_
    refine ⟨⟨_, rfl⟩, ?_, hch.setCell (by omega) _⟩
    rw [H.out]
    simp only [and_self, if_true]
    exact hW1.set1 _
  · have hbad' : (r : Int) = 65533 → (z : Int) ≠ 1 := by omega
    have hgd : ((r : Int) == 65533) = true ∧ ((z : Int) == 1) = false ∨ ((r : Int) == 65533) = false := by
      by_cases e1 : (r : Int) = 65533
      · exact .inl ⟨beq_iff_eq.2 e1, beq_eq_false_iff_ne.2 (hbad' e1)⟩
      · exact .inr (beq_eq_false_iff_ne.2 e1)
    have hx := after_ok m hm s r hs
    have n1 : ¬ q = p := by omega
    have n2 : ¬ p = q := by omega
    have n3 : ¬ q = sb := by omega
    have n4 : ¬ sb = q := by omega
    have hp1 := M.c1
    have hsN := hm.statesN
    rcases hx with hx | ⟨t, hx, ht⟩
    · rw [hx] at H
      have Hx : Hid (m.after s r = -1) := hx
      rw [hx] at Haf
      clear hx
      have hfin : Hid (Sg.stepW m k l = { k with state := -1, passed := k.passed + z }) := by
        show _ = _
        rw [H.out, if_neg hbad, if_pos rfl]
      clear H
      rcases hgd with ⟨g1, g2⟩ | g1
      all_goals
        go_wp2
        go_region_with (go_at_call 91; refine Haf.out.mono ?_; rintro e w2 ⟨rfl, n2, rfl⟩)
        all_goals
          go_wp2
          refine bodyPost_ret (results_none rfl _ _ _) rfl ?_
          refine ⟨⟨_, rfl⟩, ?_, ((hch.drewN _).setCell (by omega) _).setCell (by omega) _⟩
          rw [hfin.out]
          exact ((hW1.drewN _).set1 _).set2 _ _
    · rw [hx] at H Haf
      have hr := M.rule t ht
      clear hx
      by_cases hrule : m.rule t = -1
      · have hr' : (m.rule t == -1) = true := beq_iff_eq.2 hrule
        have hfin : Hid (Sg.stepW m k l = { k with state := t, passed := k.passed + z }) := by
          show _ = _
          rw [H.out, if_neg hbad, if_neg (by omega), Int.toNat_natCast, if_pos hrule]
        clear H hrule
        rcases hgd with ⟨g1, g2⟩ | g1
        all_goals
          go_wp2
          go_region_with (go_at_call 91; refine Haf.out.mono ?_; rintro e w2 ⟨rfl, n2, rfl⟩)
          all_goals
            go_wp2
            go_quiet (fail)
            go_wp2
            refine bodyPost_end (results_none rfl _ _ _) rfl ?_
            refine ⟨⟨_, rfl⟩, ?_, (((hch.drewN _).setCell (by omega) _).setCell (by omega) _).drewN _⟩
            rw [hfin.out]
            exact (((hW1.drewN _).set1 _).set2 _ _).drewN _
      · have hr' : (m.rule t == -1) = false := beq_eq_false_iff_ne.2 hrule
        have hfin : Hid (Sg.stepW m k l = ⟨t, k.passed + z, m.rule t, k.passed + z⟩) := by
          show _ = _
          rw [H.out, if_neg hbad, if_neg (by omega), Int.toNat_natCast, if_neg hrule]
        clear H hrule
        have hc3 := hW1.c3
        have hc4 := hW1.c4
        rcases hgd with ⟨g1, g2⟩ | g1
        all_goals
          go_wp2
          go_region_with (go_at_call 91; refine Haf.out.mono ?_; rintro e w2 ⟨rfl, n2, rfl⟩)
          all_goals
            go_wp2
            go_quiet (fail)
            go_wp2
            refine bodyPost_end (results_none rfl _ _ _) rfl ?_
            refine ⟨⟨_, rfl⟩, ?_, (((((hch.drewN _).setCell (by omega) _).setCell (by omega) _).setCell (by omega) _).setCell (by omega) _).drewN _⟩
            rw [hfin.out]
            exact (((((hW1.drewN _).set1 _).set2 _ _).set3 _).set4 _ _).drewN _
end Go.Proofs.YtlhokghgicgppaaGreatDoor
