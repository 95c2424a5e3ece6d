/- (*Scanner).Next: the walk. -/
import Derived.Test.YtlhokghgicgppaaGreatDoorNextCalls
set_option linter.unusedSimpArgs false
set_option linter.unusedVariables false
set_option maxRecDepth 100000
set_option maxHeartbeats 4000000
namespace Go.Proofs.YtlhokghgicgppaaGreatDoor
open Go.RowKit Go.Extern
theorem next_any (m : Sg.Mach) (hm : m.Ok) (sq p q nn bm pb n c : Nat) (ra : Option Addr) (rc : Nat) (L0 : Sg.Live) (w : World) (h : NInv w sq p q nn bm m pb n c ra rc L0) :
  Calls Tryz.prog 26 #[.pointer (some ⟨sq, 0, none⟩)] w (nextPost w sq p q nn m (FP sq q pb n ra) (Sg.nextT m (L0.nf + 1) L0)) := by
 have hb0 : Below w.heap.size w (w.alloc tokZ) := (Below.refl _ _).alloc (Nat.le_refl _) _
 have hfpw : ∀ i, FP sq q pb n ra i → i < w.heap.size := fun i t => by
  rcases t with t | t | ⟨t1, t2⟩ | ⟨o, t⟩
  ·rw [t]; exact cell_lt h.sc.c0
  ·obtain ⟨la, lc, r, hx, _⟩ := h.sc.sp.src
   rw [t]; exact cell_lt hx.c0
  ·rcases h.sc.sp.sp with ⟨g, _⟩ | ⟨_, _, _, _, _, g6, _⟩
   ·omega
   ·obtain ⟨v, hv⟩ := Option.isSome_iff_exists.1 (g6 0 (by omega))
    rw [t2]; exact cell_lt hv
  ·rcases h.sc.rest with ⟨e, _⟩ | ⟨rb2, ro2, e2, _, _, _, g, _⟩
   ·rw [e] at t; cases t
   ·rw [e2] at t; cases t; exact g
 have hJ0 : nextJ w sq p q nn bm m (FP sq q pb n ra) (Sg.nextT m (L0.nf + 1) L0) (w.alloc tokZ) :=
  ⟨pb, n, c, ra, rc, L0, h.below hm hb0, rfl, Chg.of_below hb0, fun i _ t => t, by
   refine ⟨?_, ?_, ?_, ?_, ?_, fun j => World.frozen?_alloc_at _ _ _ _ rfl⟩ <;> (rw [World.cell?_alloc_at _ _ _ _ rfl]; rfl), fun t => by have := hfpw _ t; omega⟩
 generalize Sg.nextT m (L0.nf + 1) L0 = X0 at *
 generalize hF0 : FP sq q pb n ra = F0 at *
 have hnw := h.sc.sp.nn2
 clear hb0 hfpw h hF0
 have HJ0 := hide2 hJ0
 clear hJ0
 go_enter Tryz.func26, Tryz.ntmps26
 go_wp2
 refine wp_scope_loop 0 (fun a' w' => nextJ w sq p q nn bm m F0 X0 w' ∧ ∃ u4 u5 u6 u7 u8 u9 u10 u11 u12 u13 u14 u15 u16 u17 u18 u19 u20 u21 u22 u23 u24 u25 u26 u27 u28 u29 u30 u31 u32 u33 u34 u35 u36 u37 u38 u39 u40 u41 u42 u43 u44 u45 u46 u47 u48 u49 u50 u51 u52 u53 u54 u55 u56 u57 u58 u59 u60 u61 u62 u63 u64 u65 u66 u67 u68 u69 u70 u71 u72 u73 u74 u75 u76 u77 u78 u79 u80 u81 u82 u83 u84 u85 u86 u87 u88 : Value, a' = { tmps := #[.pointer (some ⟨sq, 0, none⟩), undef, .pointer (some ⟨w.heap.size, 0, none⟩), .nilIface, u4, u5, u6, u7, u8, u9, u10, u11, u12, u13, u14, u15, u16, u17, u18, u19, u20, u21, u22, u23, u24, u25, u26, u27, u28, u29, u30, u31, u32, u33, u34, u35, u36, u37, u38, u39, u40, u41, u42, u43, u44, u45, u46, u47, u48, u49, u50, u51, u52, u53, u54, u55, u56, u57, u58, u59, u60, u61, u62, u63, u64, u65, u66, u67, u68, u69, u70, u71, u72, u73, u74, u75, u76, u77, u78, u79, u80, u81, u82, u83, u84, u85, u86, u87, u88], defers := [] }) (fun _ w' => leftN sq w') _ rfl (by first | exact .inl rfl | exact .inr (.inl rfl) | exact .inr (.inr rfl)) ⟨HJ0.out, _, _, _, _, _, _, _, _, _, _, _, _, _, _, _, _, _, _, _, _, _, _, _, _, _, _, _, _, _, _, _, _, _, _, _, _, _, _, _, _, _, _, _, _, _, _, _, _, _, _, _, _, _, _, _, _, _, _, _, _, _, _, _, _, _, _, _, _, _, _, _, _, _, _, _, _, _, _, _, _, _, _, _, _, _, rfl⟩ ?_
 rintro a' wr ⟨⟨pb', n', c', ra', rc', L, hN, hX, hch, hfp, hres, hnr⟩, u4, u5, u6, u7, u8, u9, u10, u11, u12, u13, u14, u15, u16, u17, u18, u19, u20, u21, u22, u23, u24, u25, u26, u27, u28, u29, u30, u31, u32, u33, u34, u35, u36, u37, u38, u39, u40, u41, u42, u43, u44, u45, u46, u47, u48, u49, u50, u51, u52, u53, u54, u55, u56, u57, u58, u59, u60, u61, u62, u63, u64, u65, u66, u67, u68, u69, u70, u71, u72, u73, u74, u75, u76, u77, u78, u79, u80, u81, u82, u83, u84, u85, u86, u87, u88, rfl⟩
 have y14 := hN.sc.c14
 have y4 := hN.sc.c4
 have HA : Hid (Calls Tryz.prog 36 #[.pointer (some ⟨sq, 6, none⟩), .slice ra' L.rest.length rc'] wr.drew fun e w' => e = .returned (.bool ((L.walked m).alive m)) ∧ NInv w' sq p q nn bm m pb' n' c' ra' rc' (L.walked m) ∧ Chg (fun i _ => i = sq) wr w') := by
  refine (alive_next m hm sq p q nn bm pb' n' c' ra' rc' L wr.drew (hN.below hm ⟨rfl, rfl, rfl, Nat.le_refl _, fun _ _ => rfl⟩)).mono ?_
  rintro e w' ⟨h1, h2, h3⟩
  exact ⟨h1, h2, (Chg.drew (Chg.refl _ wr)).trans h3⟩
 have Hkeep := hide2 (And.intro hN (And.intro hX (And.intro hch (And.intro hfp (And.intro hres hnr)))))
 clear hN hX hch hfp hres hnr HJ0
 go_upto_region 3 with fail
 go_cut [4] from 6 to 23 (fun al w1 => al = .bool ((L.walked m).alive m) ∧ NInv w1 sq p q nn bm m pb' n' c' ra' rc' (L.walked m) ∧ Chg (fun i _ => i = sq) wr w1)
 case first =>
  go_region_with (go_at_call 36; refine HA.out.mono ?_; rintro e w2 ⟨rfl, h2, h3⟩; have H2 := hide2 h2; have H3 := hide2 h3; clear h2 h3)
  all_goals go_wp2_with fail
  all_goals go_meet
  all_goals exact ⟨rfl, H2.out, H3.out⟩
 case rest =>
  obtain ⟨rfl, hN1, hc1⟩ := hcut
  obtain ⟨hN, hX, hch, hfp, hres, hnr⟩ := Hkeep.out
  have hrs : w.heap.size ≠ sq := fun e => hnr (.inl e)
  have hsqw : sq < wr.heap.size := cell_lt hN.sc.c0
  have hres1 : ResAt wc w.heap.size := hres.of hc1 (fun j t => hrs t)
  have hch1 : Chg (fun i _ => F0 i) w wc := hch.trans_new hc1 (fun i j hi t => hfp i hi (.inl t))
  have hXe : X0 = if (L.walked m).alive m = true ∧ (L.walked m).cap ≤ (L.walked m).rest.length then (.error 10, .inr 10)
   else if (L.walked m).unsure m = true ∧ (L.walked m).stop = none then Sg.nextT m L.nf (L.walked m).more
   else if ((L.walked m).unsure m = true ∧ (L.walked m).stop ≠ some 13) ∨ (L.walked m).rest = [] then (.error ((L.walked m).stop.getD 0), .inr ((L.walked m).stop.getD 0))
   else (.ok (L.walked m).tok, .inl (L.walked m).cutT) := by
   rw [← hX]; conv => lhs; unfold Sg.nextT
  have hmo := Sg.nextT_more m (fun most k s => askN_len most k s) L hN.sc.cap4
  rw [hX] at hmo
  have hnf : leftN sq wr = L.nf := leftN_eq hN.sc
  obtain ⟨LW, hLW⟩ : ∃ LW, L.walked m = LW := ⟨_, rfl⟩
  rw [hLW] at hXe hmo hN1 ⊢
  have hun : LW.unsure m = (LW.alive m || !Sg.full LW.rest) := rfl
  have hcN := hN1.sc.capN
  have hle := hN1.sc.le
  have hc4 := hN1.sc.cap4
  have y4 := hN1.sc.c4
  have HFu := hide2 (full_any LW.rest ra' rc' wc hN1.tb (by
   rcases hN1.sc.rest with ⟨e1, _, e3⟩ | ⟨rb, ro, e1, _, g2, _⟩
   ·exact .inl ⟨e1, e3⟩
   ·exact .inr ⟨rb, ro, e1, g2⟩) (by omega))
  have z3 := hN1.sc.c3
  have z4 := hN1.sc.c4
  have z5 := hN1.sc.c5
  have HFl : Hid (∀ e W, Below wc.heap.size wc W → Calls Tryz.prog 38 #[.pointer (some ⟨sq, 0, none⟩), .iface 50 (.int .i64 e)] W fun en w' => en = .returned (.tuple #[.agg #[.int .i64 0, .int .i64 0, .int .i64 0, .int .i64 0, .string ⟨#[]⟩], .iface 50 (.int .i64 e)]) ∧ w'.cell? ⟨sq, 14, none⟩ = some (errV (some e)) ∧ Chg (fun i _ => i = sq) wc w' ∧ ResAt w' w.heap.size) := fun e W hbk => by
   refine (fail_next m sq p q nn bm pb' n' c' ra' rc' LW W (hN1.below hm hbk) w.heap.size (hres1.of (Chg.of_below (T := fun _ _ => False) hbk) (fun _ t => t)) hrs e).mono ?_
   rintro en w' ⟨g1, g2, g3, g4⟩
   exact ⟨g1, g2, (Chg.of_below hbk).trans g3, g4⟩
  have HCu : Hid (LW.rest ≠ [] → ∀ W, Below wc.heap.size wc W → Calls Tryz.prog 40 #[.pointer (some ⟨sq, 0, none⟩)] W fun en w' => en = .returned (.agg #[.int .i64 LW.wk.rule, .int .i64 LW.at_, .int .i64 LW.line, .int .i64 LW.col, .string ⟨(LW.rest.take LW.size).toArray⟩]) ∧ (∃ ra2 rc2, ScAt w' sq p q nn pb' n' c' ra2 rc2 LW.cutT ∧ ∀ i, FP sq q pb' n' ra2 i → FP sq q pb' n' ra' i) ∧ Chg (fun i _ => i = sq) wc w' ∧ ResAt w' w.heap.size) := fun hne W hbk => by
   refine (cut_next m sq p q nn bm pb' n' c' ra' rc' LW W (hN1.below hm hbk) hne w.heap.size (hres1.of (Chg.of_below (T := fun _ _ => False) hbk) (fun _ t => t)) hrs).mono ?_
   rintro en w' ⟨g1, g2, g3, g4⟩
   exact ⟨g1, g2, (Chg.of_below hbk).trans g3, g4⟩
  have HMo : Hid (¬ (LW.alive m = true ∧ LW.cap ≤ LW.rest.length) → LW.unsure m = true ∧ LW.stop = none → ∀ W, Below wc.heap.size wc W → Calls Tryz.prog 39 #[.pointer (some ⟨sq, 0, none⟩)] W fun en w' => (∃ v, en = .returned v) ∧ nextJ w sq p q nn bm m F0 X0 w' ∧ leftN sq w' < leftN sq wr) := fun k1 k2 W hbk => by
   have hlt := Sg.unsure_lt (m := m) hc4 k1 k2.1
   obtain ⟨m1, m2⟩ := hmo k1 k2
   have hszb := hbk.size
   refine (more_next m hm sq p q nn bm pb' n' c' ra' rc' LW W (hN1.below hm hbk) hlt w.heap.size (hres1.of (Chg.of_below (T := fun _ _ => False) hbk) (fun _ t => t)) hnr).mono ?_
   rintro en w' ⟨g0, pb2, n2, c2, ra2, rc2, g1, g2, g3, g4, g5⟩
   have hwl := cell_lt hres1.r0
   refine ⟨g0, ⟨pb2, n2, c2, ra2, rc2, _, g1, m1.symm, (hch1.trans (Chg.of_below hbk)).trans_new g2 (fun i j hi t => hfp i hi t), fun i hi t => hfp i hi (g3 i (by omega) t), g4, g5⟩, ?_⟩
   rw [leftN_eq g1.sc, hnf]; exact m2
  have Hfps := hide2 hfp
  have Hnr := hide2 hnr
  have Hpost : Hid (∀ w3 Y, Chg (fun i _ => i = sq) wc w3 → Chg (fun i _ => i = w.heap.size) w3 Y → Chg (fun i _ => F0 i) w Y) := fun w3 Y g1 g2 => (hch1.trans_new g1 (fun i j hi t => hfp i hi (.inl t))).trans_new g2 (fun i j hi t => by omega)
  have HXe := hide2 hXe
  have Hmo := hide2 hmo
  have hun2 : LW.alive m = true → LW.unsure m = true := fun hx => by rw [hun, hx]; rfl
  have Hun2 := hide2 hun2
  have Hne : Hid (LW.unsure m = false → LW.rest ≠ []) := fun hx e => by rw [hun, e] at hx; simp [Sg.full_nil] at hx
  have Hk3 := hide2 (And.intro hN1 (And.intro hnf (And.intro hch1 (And.intro hfp (And.intro hres1 hnr)))))
  have Hun := hide2 hun
  clear hN1 hXe hmo hnf hch1 hfp hres1 hnr hN hX hch hres hc1 hLW Hkeep HA y14 hun hun2 y4
  have hrs' : ¬ w.heap.size = sq := hrs
  have hrs2 : ¬ sq = w.heap.size := fun e => hrs e.symm
  have hal0 : LW.alive m = true ∨ LW.alive m = false := by cases LW.alive m <;> simp
  rcases hal0 with hal | hal
  ·have hun3 := Hun2.out hal
   by_cases hcap : LW.cap ≤ LW.rest.length
   ·have hX10 : X0 = (.error 10, .inr 10) := by rw [HXe.out, if_pos ⟨hal, hcap⟩]
    have HX10 := hide2 hX10
    have hcap' : ((LW.cap : Nat) : Int) ≤ LW.rest.length := by omega
    clear hX10
    rw [hal]
    go_wp2
    go_quiet (fail)
    go_wp2_with fail
    refine (HFl.out (10) _ (below_drewN (Below.refl _ _) _)).mono ?_
    rintro e w3 ⟨rfl, hd, hg3, hr3⟩
    have Hd := hide2 hd
    have Hg3 := hide2 hg3
    have q0 := hr3.r0
    have q1 := hr3.r1
    have q2 := hr3.r2
    have q3 := hr3.r3
    have q4 := hr3.r4
    have qf := hr3.fr
    clear hd hg3
    go_wp2
    simp only [Exit.jump]
    obtain ⟨Y, hYe, k0, k1, k2, k3, k4, hYc⟩ := five0 hr3 (.int .i64 0) (.int .i64 0) (.int .i64 0) (.int .i64 0) (.string ⟨#[]⟩)
    rw [← hYe]
    refine bodyPost_ret (v := .tuple #[tok0, errV (some (10))]) (by simp [results, Tryz.results26, go_sem, tok0, errV, k0, k1, k2, k3, k4]) rfl ?_
    rw [HX10.out]
    exact ⟨Hpost.out w3 Y Hg3.out hYc, rfl, rfl, (hYc.cell _ _ (cell_lt Hd.out) (fun t => hrs t.symm)).trans Hd.out⟩
   ·have hcap' : decide (((LW.cap : Nat) : Int) ≤ LW.rest.length) = false := by simp; omega
    have hk1 : ¬ (LW.alive m = true ∧ LW.cap ≤ LW.rest.length) := fun t => hcap t.2
    have Hk1 := hide2 hk1
    clear hk1
    rcases hst : LW.stop with _ | x
    ·rw [hst] at z5
     simp only [errV] at z5
     have Hst := hide2 hst
     clear hst
     rw [hal]
     go_wp2
     go_quiet (fail)
     go_wp2_with fail
     refine (HMo.out Hk1.out ⟨hun3, Hst.out⟩ _ (below_drewN (Below.refl _ _) _)).mono ?_
     rintro e w3 ⟨⟨v, rfl⟩, hJ, hlt⟩
     have HJ := hide2 hJ
     have Hlt := hide2 hlt
     clear hJ hlt
     go_wp2
     go_step3
     exact ⟨rfl, ⟨HJ.out, _, _, _, _, _, _, _, _, _, _, _, _, _, _, _, _, _, _, _, _, _, _, _, _, _, _, _, _, _, _, _, _, _, _, _, _, _, _, _, _, _, _, _, _, _, _, _, _, _, _, _, _, _, _, _, _, _, _, _, _, _, _, _, _, _, _, _, _, _, _, _, _, _, _, _, _, _, _, _, _, _, _, _, _, _, rfl⟩, Hlt.out⟩
    ·rw [hst] at z5
     simp only [errV] at z5
     by_cases hx13 : x = 13
     ·subst hx13
      have hnq := neq_errno 13 13
      rw [show ((13 : Int) != 13) = false from rfl] at hnq
      by_cases hnil : LW.rest = []
      ·have hXx : X0 = (.error 13, .inr 13) := by
        rw [HXe.out, if_neg Hk1.out, if_neg (fun t => by rw [hst] at t; cases t.2), if_pos (.inr hnil), hst]; rfl
       have HXx := hide2 hXx
       have hl0 : LW.rest.length = 0 := by rw [hnil]; rfl
       have hl0' : (((LW.rest.length : Nat) : Int) == 0) = true := beq_iff_eq.2 (by omega)
       clear hXx hst hnil
       rw [hal]
       go_wp2
       go_quiet (fail)
       go_wp2_with fail
       refine (HFl.out (13) _ (below_drewN (Below.refl _ _) _)).mono ?_
       rintro e w3 ⟨rfl, hd, hg3, hr3⟩
       have Hd := hide2 hd
       have Hg3 := hide2 hg3
       have q0 := hr3.r0
       have q1 := hr3.r1
       have q2 := hr3.r2
       have q3 := hr3.r3
       have q4 := hr3.r4
       have qf := hr3.fr
       clear hd hg3
       go_wp2
       simp only [Exit.jump]
       obtain ⟨Y, hYe, k0, k1, k2, k3, k4, hYc⟩ := five0 hr3 (.int .i64 0) (.int .i64 0) (.int .i64 0) (.int .i64 0) (.string ⟨#[]⟩)
       rw [← hYe]
       refine bodyPost_ret (v := .tuple #[tok0, errV (some (13))]) (by simp [results, Tryz.results26, go_sem, tok0, errV, k0, k1, k2, k3, k4]) rfl ?_
       rw [HXx.out]
       exact ⟨Hpost.out w3 Y Hg3.out hYc, rfl, rfl, (hYc.cell _ _ (cell_lt Hd.out) (fun t => hrs t.symm)).trans Hd.out⟩
      ·have hXx : X0 = (.ok LW.tok, .inl LW.cutT) := by
        rw [HXe.out, if_neg Hk1.out, if_neg (fun t => by rw [hst] at t; cases t.2), if_neg (fun t => by rcases t with t | t; exact t.2 hst; exact hnil t)]
       have HXx := hide2 hXx
       have Hnil := hide2 hnil
       have hl0 : 1 ≤ LW.rest.length := by rcases hx : LW.rest with _ | _; exact absurd hx hnil; simp
       have hl0' : (((LW.rest.length : Nat) : Int) == 0) = false := beq_eq_false_iff_ne.2 (by omega)
       clear hXx hst hnil
       rw [hal]
       go_wp2
       go_quiet (fail)
       go_wp2_with fail
       refine (HCu.out Hnil.out _ (below_drewN (Below.refl _ _) _)).mono ?_
       rintro e w3 ⟨rfl, hd, hg3, hr3⟩
       have Hd := hide2 hd
       have Hg3 := hide2 hg3
       have q0 := hr3.r0
       have q1 := hr3.r1
       have q2 := hr3.r2
       have q3 := hr3.r3
       have q4 := hr3.r4
       have qf := hr3.fr
       clear hd hg3
       go_wp2
       simp only [Exit.jump]
       obtain ⟨Y, hYe, k0, k1, k2, k3, k4, hYc⟩ := five0 hr3 (.int .i64 LW.wk.rule) (.int .i64 LW.at_) (.int .i64 LW.line) (.int .i64 LW.col) (.string ⟨(LW.rest.take LW.size).toArray⟩)
       rw [← hYe]
       refine bodyPost_ret (v := .tuple #[tokV LW.tok, errV none]) (by simp [results, Tryz.results26, go_sem, tokV, Sg.Live.tok, strV, errV, k0, k1, k2, k3, k4]) rfl ?_
       rw [HXx.out]
       obtain ⟨ra2, rc2, hsc, hf2⟩ := Hd.out
       exact ⟨Hpost.out w3 Y Hg3.out hYc, rfl, _, _, _, _, _, hsc.chgRes hYc (fun t => Hnr.out (hf2 _ t)) hnw, fun i hi t => Hfps.out i hi (hf2 i t)⟩
     ·have hXx : X0 = (.error x, .inr x) := by
       rw [HXe.out, if_neg Hk1.out, if_neg (fun t => by rw [hst] at t; cases t.2), if_pos (.inl ⟨hun3, by rw [hst]; intro t; cases t; exact hx13 rfl⟩), hst]; rfl
      have HXx := hide2 hXx
      have hnq := neq_errno x 13
      rw [show (x != 13) = true from bne_iff_ne.2 hx13] at hnq
      clear hXx hst
      rw [hal]
      go_wp2
      go_quiet (fail)
      go_wp2_with fail
      refine (HFl.out (x) _ (below_drewN (Below.refl _ _) _)).mono ?_
      rintro e w3 ⟨rfl, hd, hg3, hr3⟩
      have Hd := hide2 hd
      have Hg3 := hide2 hg3
      have q0 := hr3.r0
      have q1 := hr3.r1
      have q2 := hr3.r2
      have q3 := hr3.r3
      have q4 := hr3.r4
      have qf := hr3.fr
      clear hd hg3
      go_wp2
      simp only [Exit.jump]
      obtain ⟨Y, hYe, k0, k1, k2, k3, k4, hYc⟩ := five0 hr3 (.int .i64 0) (.int .i64 0) (.int .i64 0) (.int .i64 0) (.string ⟨#[]⟩)
      rw [← hYe]
      refine bodyPost_ret (v := .tuple #[tok0, errV (some (x))]) (by simp [results, Tryz.results26, go_sem, tok0, errV, k0, k1, k2, k3, k4]) rfl ?_
      rw [HXx.out]
      exact ⟨Hpost.out w3 Y Hg3.out hYc, rfl, rfl, (hYc.cell _ _ (cell_lt Hd.out) (fun t => hrs t.symm)).trans Hd.out⟩
  ·have hk1 : ¬ (LW.alive m = true ∧ LW.cap ≤ LW.rest.length) := fun t => by rw [hal] at t; cases t.1
   have Hk1 := hide2 hk1
   clear hk1
   have hnot : ∀ (x : Bool) (w : World), (Op.unary .not (.bool x)).run Tryz.prog w = .ok (.bool (!x)) w := fun _ _ => rfl
   rw [hal]
   go_wp2_with fail
   refine HFu.out.mono ?_
   rintro e w2 ⟨rfl, hb2⟩
   have hsc := cell_lt z3
   replace z3 := (hb2.cell (p := ⟨sq, 3, none⟩) hsc).trans z3
   replace z4 := (hb2.cell (p := ⟨sq, 4, none⟩) hsc).trans z4
   replace z5 := (hb2.cell (p := ⟨sq, 5, none⟩) hsc).trans z5
   have Hb2 := hide2 hb2
   clear hb2
   have hfu0 : Sg.full LW.rest = true ∨ Sg.full LW.rest = false := by cases Sg.full LW.rest <;> simp
   rcases hfu0 with hfu | hfu
   ·have hun3 : LW.unsure m = false := by rw [Hun.out, hal, hfu]; rfl
    have hne := Hne.out hun3
    have hXx : X0 = (.ok LW.tok, .inl LW.cutT) := by
     rw [HXe.out, if_neg Hk1.out, if_neg (fun t => by rw [hun3] at t; cases t.1), if_neg (fun t => by rcases t with t | t; (rw [hun3] at t; cases t.1); exact hne t)]
    have HXx := hide2 hXx
    have Hnil := hide2 hne
    have hl0 : 1 ≤ LW.rest.length := by rcases hx : LW.rest with _ | _; exact absurd hx hne; simp
    have hl0' : (((LW.rest.length : Nat) : Int) == 0) = false := beq_eq_false_iff_ne.2 (by omega)
    clear hXx hne
    rw [hfu]
    go_wp2
    go_quiet (fail)
    go_wp2_with fail
    refine (HCu.out Hnil.out _ (below_drewN Hb2.out _)).mono ?_
    rintro e w3 ⟨rfl, hd, hg3, hr3⟩
    have Hd := hide2 hd
    have Hg3 := hide2 hg3
    have q0 := hr3.r0
    have q1 := hr3.r1
    have q2 := hr3.r2
    have q3 := hr3.r3
    have q4 := hr3.r4
    have qf := hr3.fr
    clear hd hg3
    go_wp2
    simp only [Exit.jump]
    obtain ⟨Y, hYe, k0, k1, k2, k3, k4, hYc⟩ := five0 hr3 (.int .i64 LW.wk.rule) (.int .i64 LW.at_) (.int .i64 LW.line) (.int .i64 LW.col) (.string ⟨(LW.rest.take LW.size).toArray⟩)
    rw [← hYe]
    refine bodyPost_ret (v := .tuple #[tokV LW.tok, errV none]) (by simp [results, Tryz.results26, go_sem, tokV, Sg.Live.tok, strV, errV, k0, k1, k2, k3, k4]) rfl ?_
    rw [HXx.out]
    obtain ⟨ra2, rc2, hsc, hf2⟩ := Hd.out
    exact ⟨Hpost.out w3 Y Hg3.out hYc, rfl, _, _, _, _, _, hsc.chgRes hYc (fun t => Hnr.out (hf2 _ t)) hnw, fun i hi t => Hfps.out i hi (hf2 i t)⟩
   ·have hun3 : LW.unsure m = true := by rw [Hun.out, hal, hfu]; rfl
    rw [hfu]
    rcases hst : LW.stop with _ | x
    ·rw [hst] at z5
     simp only [errV] at z5
     have Hst := hide2 hst
     clear hst
     go_wp2
     go_quiet (fail)
     go_wp2_with fail
     refine (HMo.out Hk1.out ⟨hun3, Hst.out⟩ _ (below_drewN Hb2.out _)).mono ?_
     rintro e w3 ⟨⟨v, rfl⟩, hJ, hlt⟩
     have HJ := hide2 hJ
     have Hlt := hide2 hlt
     clear hJ hlt
     go_wp2
     go_step3
     exact ⟨rfl, ⟨HJ.out, _, _, _, _, _, _, _, _, _, _, _, _, _, _, _, _, _, _, _, _, _, _, _, _, _, _, _, _, _, _, _, _, _, _, _, _, _, _, _, _, _, _, _, _, _, _, _, _, _, _, _, _, _, _, _, _, _, _, _, _, _, _, _, _, _, _, _, _, _, _, _, _, _, _, _, _, _, _, _, _, _, _, _, _, _, rfl⟩, Hlt.out⟩
    ·rw [hst] at z5
     simp only [errV] at z5
     by_cases hx13 : x = 13
     ·subst hx13
      have hnq := neq_errno 13 13
      rw [show ((13 : Int) != 13) = false from rfl] at hnq
      by_cases hnil : LW.rest = []
      ·have hXx : X0 = (.error 13, .inr 13) := by
        rw [HXe.out, if_neg Hk1.out, if_neg (fun t => by rw [hst] at t; cases t.2), if_pos (.inr hnil), hst]; rfl
       have HXx := hide2 hXx
       have hl0 : LW.rest.length = 0 := by rw [hnil]; rfl
       have hl0' : (((LW.rest.length : Nat) : Int) == 0) = true := beq_iff_eq.2 (by omega)
       clear hXx hst hnil
       go_wp2
       go_quiet (fail)
       go_wp2_with fail
       refine (HFl.out (13) _ (below_drewN Hb2.out _)).mono ?_
       rintro e w3 ⟨rfl, hd, hg3, hr3⟩
       have Hd := hide2 hd
       have Hg3 := hide2 hg3
       have q0 := hr3.r0
       have q1 := hr3.r1
       have q2 := hr3.r2
       have q3 := hr3.r3
       have q4 := hr3.r4
       have qf := hr3.fr
       clear hd hg3
       go_wp2
       simp only [Exit.jump]
       obtain ⟨Y, hYe, k0, k1, k2, k3, k4, hYc⟩ := five0 hr3 (.int .i64 0) (.int .i64 0) (.int .i64 0) (.int .i64 0) (.string ⟨#[]⟩)
       rw [← hYe]
       refine bodyPost_ret (v := .tuple #[tok0, errV (some (13))]) (by simp [results, Tryz.results26, go_sem, tok0, errV, k0, k1, k2, k3, k4]) rfl ?_
       rw [HXx.out]
       exact ⟨Hpost.out w3 Y Hg3.out hYc, rfl, rfl, (hYc.cell _ _ (cell_lt Hd.out) (fun t => hrs t.symm)).trans Hd.out⟩
      ·have hXx : X0 = (.ok LW.tok, .inl LW.cutT) := by
        rw [HXe.out, if_neg Hk1.out, if_neg (fun t => by rw [hst] at t; cases t.2), if_neg (fun t => by rcases t with t | t; exact t.2 hst; exact hnil t)]
       have HXx := hide2 hXx
       have Hnil := hide2 hnil
       have hl0 : 1 ≤ LW.rest.length := by rcases hx : LW.rest with _ | _; exact absurd hx hnil; simp
       have hl0' : (((LW.rest.length : Nat) : Int) == 0) = false := beq_eq_false_iff_ne.2 (by omega)
       clear hXx hst hnil
       go_wp2
       go_quiet (fail)
       go_wp2_with fail
       refine (HCu.out Hnil.out _ (below_drewN Hb2.out _)).mono ?_
       rintro e w3 ⟨rfl, hd, hg3, hr3⟩
       have Hd := hide2 hd
       have Hg3 := hide2 hg3
       have q0 := hr3.r0
       have q1 := hr3.r1
       have q2 := hr3.r2
       have q3 := hr3.r3
       have q4 := hr3.r4
       have qf := hr3.fr
       clear hd hg3
       go_wp2
       simp only [Exit.jump]
       obtain ⟨Y, hYe, k0, k1, k2, k3, k4, hYc⟩ := five0 hr3 (.int .i64 LW.wk.rule) (.int .i64 LW.at_) (.int .i64 LW.line) (.int .i64 LW.col) (.string ⟨(LW.rest.take LW.size).toArray⟩)
       rw [← hYe]
       refine bodyPost_ret (v := .tuple #[tokV LW.tok, errV none]) (by simp [results, Tryz.results26, go_sem, tokV, Sg.Live.tok, strV, errV, k0, k1, k2, k3, k4]) rfl ?_
       rw [HXx.out]
       obtain ⟨ra2, rc2, hsc, hf2⟩ := Hd.out
       exact ⟨Hpost.out w3 Y Hg3.out hYc, rfl, _, _, _, _, _, hsc.chgRes hYc (fun t => Hnr.out (hf2 _ t)) hnw, fun i hi t => Hfps.out i hi (hf2 i t)⟩
     ·have hXx : X0 = (.error x, .inr x) := by
       rw [HXe.out, if_neg Hk1.out, if_neg (fun t => by rw [hst] at t; cases t.2), if_pos (.inl ⟨hun3, by rw [hst]; intro t; cases t; exact hx13 rfl⟩), hst]; rfl
      have HXx := hide2 hXx
      have hnq := neq_errno x 13
      rw [show (x != 13) = true from bne_iff_ne.2 hx13] at hnq
      clear hXx hst
      go_wp2
      go_quiet (fail)
      go_wp2_with fail
      refine (HFl.out (x) _ (below_drewN Hb2.out _)).mono ?_
      rintro e w3 ⟨rfl, hd, hg3, hr3⟩
      have Hd := hide2 hd
      have Hg3 := hide2 hg3
      have q0 := hr3.r0
      have q1 := hr3.r1
      have q2 := hr3.r2
      have q3 := hr3.r3
      have q4 := hr3.r4
      have qf := hr3.fr
      clear hd hg3
      go_wp2
      simp only [Exit.jump]
      obtain ⟨Y, hYe, k0, k1, k2, k3, k4, hYc⟩ := five0 hr3 (.int .i64 0) (.int .i64 0) (.int .i64 0) (.int .i64 0) (.string ⟨#[]⟩)
      rw [← hYe]
      refine bodyPost_ret (v := .tuple #[tok0, errV (some (x))]) (by simp [results, Tryz.results26, go_sem, tok0, errV, k0, k1, k2, k3, k4]) rfl ?_
      rw [HXx.out]
      exact ⟨Hpost.out w3 Y Hg3.out hYc, rfl, rfl, (hYc.cell _ _ (cell_lt Hd.out) (fun t => hrs t.symm)).trans Hd.out⟩
end Go.Proofs.YtlhokghgicgppaaGreatDoor
