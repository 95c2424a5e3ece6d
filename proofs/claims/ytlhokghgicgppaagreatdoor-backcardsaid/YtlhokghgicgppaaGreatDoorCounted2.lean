/- counted, where it is right: the walk. -/
import Derived.Test.YtlhokghgicgppaaGreatDoorCounted
set_option linter.unusedSimpArgs false
set_option linter.unusedVariables false
set_option maxRecDepth 100000
set_option maxHeartbeats 4000000
namespace Go.Proofs.YtlhokghgicgppaaGreatDoor
open Go.RowKit Go.Extern
theorem take_sc {w wx : World} {q : Nat} {r : Sg.Rd} (h : RdSt w q wx r) :
    Calls Tryz.prog 172 #[.pointer (some ⟨q, 0, none⟩)] wx fun e w' => e = .returned (.agg #[.int .i32 r.peek.1, .int .i64 r.peek.2]) ∧ RdSt w q w' r.take.2 ∧ Chg (rulT q) wx w' :=
  (take_any wx q r h.at_).mono fun _ _ ⟨he, hs⟩ => ⟨he, h.go hs, hs.chg⟩
theorem number_sc {w wx : World} {q : Nat} {r : Sg.Rd} (h : RdSt w q wx r) :
    Calls Tryz.prog 207 #[.pointer (some ⟨q, 0, none⟩)] wx fun e w' => e = .returned (.tuple #[.int .i64 r.number.1.1, .bool r.number.1.2]) ∧ RdSt w q w' r.number.2 ∧ Chg (rulT q) wx w' :=
  (number_any wx q r h.at_).mono fun _ _ ⟨he, hs⟩ => ⟨he, h.go hs, hs.chg⟩
theorem most_sc {w wx : World} {q : Nat} {r : Sg.Rd} (h : RdSt w q wx r) :
    Calls Tryz.prog 208 #[.pointer (some ⟨q, 0, none⟩)] wx fun e w' => e = .returned (.tuple #[.int .i64 r.mostOf.1.1, .bool r.mostOf.1.2]) ∧ RdSt w q w' r.mostOf.2 ∧ Chg (rulT q) wx w' :=
  (most_any wx q r h.at_).mono fun _ _ ⟨he, hs⟩ => ⟨he, h.go hs, hs.chg⟩
theorem peek_sc {w wx : World} {q : Nat} {r : Sg.Rd} (h : RdSt w q wx r) :
    Calls Tryz.prog 142 #[.pointer (some ⟨q, 0, none⟩)] wx fun e w' => e = .returned (.agg #[.int .i32 r.peek.1, .int .i64 r.peek.2]) ∧ RdSt w q w' r ∧ Chg (rulT q) wx w' :=
  (peek_any wx q r h.at_).mono fun _ _ ⟨he, hb⟩ => ⟨he, h.below hb, Chg.of_below hb⟩
theorem places_of {D : Nat → Prop} {k : Nat} {w : World} {v : Value} {x : Sg.Node} (h : NodeAt D w k v x) (hp : Sg.plOk k x = true) : ∃ (f : Nat) (u : Value) (t : TypeId), v = .iface t u ∧ (∀ wx, (method 500 t u "Places").run Tryz.prog wx = .ok (f, u) wx) ∧ (∀ args wx, (callFunc f args).run Tryz.prog wx = .ok (.enter f args) wx) ∧
    ∀ wx, NodeAt D wx k v x → Calls Tryz.prog f #[u] wx fun e w' => e = .returned (.int .i64 (Sg.placesN k x)) ∧ Below wx.heap.size wx w' := by
  obtain ⟨f, u, t, rfl, hm, he, _⟩ := places_any k w v x h hp
  refine ⟨f, u, t, rfl, hm, he, fun wx hx => ?_⟩
  obtain ⟨f', u', t', e, hm', he', hc'⟩ := places_any k wx _ x hx hp
  cases e
  have e2 := (hm wx).symm.trans (hm' wx)
  simp only [Result.ok.injEq, Prod.mk.injEq, and_true] at e2
  rw [e2]
  exact hc' wx (Below.refl _ _)
theorem counted_any (w : World) (q : Nat) (r : Sg.Rd) (h : RdAt w q r) (B kk : Nat) (hB : q < B) (hBw : B ≤ w.heap.size) (v : Value) (a x : Sg.Node) (hk : kk ≤ 100) (hN : NodeAt (fun b => B ≤ b) w kk v a) (r' : Sg.Rd) (hx : r.counted a 100 = .ok (x, r')) :
    Calls Tryz.prog 185 #[.pointer (some ⟨q, 0, none⟩), v] w fun e w' => ∃ u, e = .returned u ∧ NodeAt (fun b => B ≤ b) w' (kk + 1) u x ∧ RdSt w q w' r' := by
  obtain ⟨rm, most, h1, rfl, h3, rfl, h5, h6, h7, h8, h9⟩ := counted_ok hx
  have hnb := number_bnd h1
  have S0 := RdSt.start h
  obtain ⟨f, u, t, rfl, hm, he, hc⟩ := places_of (NodeAt.le hk hN) h7
  have HN : Hid (∀ wx, Chg (rulT q) w wx → NodeAt (fun b => B ≤ b) wx kk (.iface t u) a) := hide2 (fun wx hw => NodeAt.of hw (fun b o hb t => by have := t.1; omega) kk _ a hN)
  have HC : Hid (∀ wx, RdSt w q wx rm.take.2 → Calls Tryz.prog f #[u] wx fun e w' => e = .returned (.int .i64 (Sg.placesN 100 a)) ∧ RdSt w q w' rm.take.2) := hide2 (fun wx hw => (hc wx (NodeAt.le hk (HN.out wx hw.chg))).mono fun e w' ⟨g1, g2⟩ => ⟨g1, hw.below g2⟩)
  have HT := hide2 (take_sc S0)
  have HNu := hide2 (fun wx (hx : RdSt w q wx r.take.2) => number_sc hx)
  have HE := hide2 (fun wx (hx : RdSt w q wx rm) => accept_sc hx 125)
  rw [accept_yes h3] at HE
  rw [h1] at HNu
  clear hc h hN hx h7 h1
  generalize Sg.placesN 100 a = pl at *
  generalize r.peek.1 = p1 at *
  generalize r.peek.2 = p2 at *
  rcases h9 with ⟨hcm, hmo⟩ | ⟨hcm, hmo, hrm⟩
  · have HA := hide2 (fun wx (hx : RdSt w q wx r.take.2.number.2) => accept_sc hx 44)
    rw [accept_yes hcm] at HA
    have HM := hide2 (fun wx (hx : RdSt w q wx r.take.2.number.2.take.2) => most_sc hx)
    rw [hmo] at HM
    clear hcm hmo h3
    generalize r.take.2.number.2.take.2 = r4 at *
    generalize r.take.2.number.2 = r3 at *
    generalize r.take.2.number.1.1 = n at *
    generalize r.take.2 = r2 at *
    generalize rm.take.2 = rf at *
    by_cases hm1 : most = -1
    · subst hm1
      clear h5
      go_enter Tryz.func185, Tryz.ntmps185
      go_wp2_with (first
        | (go_at_call 172; refine HT.out.mono ?_; clear HT; rintro e w1 ⟨rfl, S1, C1⟩)
        | (go_at_call 207; refine (HNu.out _ (RdSt.alloc (by assumption) _)).mono ?_; clear HNu; rintro e w2 ⟨rfl, S2, C2⟩)
        | (go_at_call 140; refine (HA.out _ (by assumption)).mono ?_; clear HA; rintro e w3 ⟨rfl, S3, C3⟩)
        | (go_at_call 208; refine (HM.out _ (by assumption)).mono ?_; clear HM; rintro e w4 ⟨rfl, S4, C4⟩)
        | (go_at_call 140; refine (HE.out _ (by assumption)).mono ?_; clear HE; rintro e w5 ⟨rfl, S5, C5⟩)
        | (go_at_fn f; refine (HC.out _ (by assumption)).mono ?_; clear HC; rintro e w6 ⟨rfl, S6⟩))
      go_ret
      exact ⟨_, rfl, ⟨_, rfl, HN.out _ S6.chg, hnb, h8⟩, S6⟩
    · have hge : ¬ most < n := fun g => h5 ⟨hm1, g⟩
      have b1 : decide (most < n) = false := decide_eq_false hge
      have b2 : (pl == 0) = false := by simpa using h6
      clear h5
      go_enter Tryz.func185, Tryz.ntmps185
      go_wp2_with (first
        | (go_at_call 172; refine HT.out.mono ?_; clear HT; rintro e w1 ⟨rfl, S1, C1⟩)
        | (go_at_call 207; refine (HNu.out _ (RdSt.alloc (by assumption) _)).mono ?_; clear HNu; rintro e w2 ⟨rfl, S2, C2⟩)
        | (go_at_call 140; refine (HA.out _ (by assumption)).mono ?_; clear HA; rintro e w3 ⟨rfl, S3, C3⟩)
        | (go_at_call 208; refine (HM.out _ (by assumption)).mono ?_; clear HM; rintro e w4 ⟨rfl, S4, C4⟩)
        | (go_at_call 140; refine (HE.out _ (by assumption)).mono ?_; clear HE; rintro e w5 ⟨rfl, S5, C5⟩)
        | (go_at_fn f; refine (HC.out _ (by assumption)).mono ?_; clear HC; rintro e w6 ⟨rfl, S6⟩))
      go_ret
      exact ⟨_, rfl, ⟨_, rfl, HN.out _ S6.chg, hnb, h8⟩, S6⟩
  · have HA := hide2 (fun wx (hx : RdSt w q wx r.take.2.number.2) => accept_sc hx 44)
    rw [accept_no hcm] at HA
    have hge : ¬ most < r.take.2.number.1.1 := by omega
    have hm1 : ¬ most = -1 := by omega
    clear hcm h3 h5
    subst hrm
    rw [← hmo] at HNu hge hnb ⊢
    clear hmo
    generalize r.take.2.number.2.take.2 = rf at *
    generalize r.take.2.number.2 = r3 at *
    generalize r.take.2 = r2 at *
    go_enter Tryz.func185, Tryz.ntmps185
    go_wp2_with (first
      | (go_at_call 172; refine HT.out.mono ?_; clear HT; rintro e w1 ⟨rfl, S1, C1⟩)
      | (go_at_call 207; refine (HNu.out _ (RdSt.alloc (by assumption) _)).mono ?_; clear HNu; rintro e w2 ⟨rfl, S2, C2⟩)
      | (go_at_call 140; refine (HA.out _ (by assumption)).mono ?_; clear HA; rintro e w3 ⟨rfl, S3, C3⟩)
      | (go_at_call 140; refine (HE.out _ (by assumption)).mono ?_; clear HE; rintro e w5 ⟨rfl, S5, C5⟩)
      | (go_at_fn f; refine (HC.out _ (by assumption)).mono ?_; clear HC; rintro e w6 ⟨rfl, S6⟩))
    go_ret
    exact ⟨_, rfl, ⟨_, rfl, HN.out _ S6.chg, hnb, h8⟩, S6⟩
end Go.Proofs.YtlhokghgicgppaaGreatDoor
