/- A scanner in memory; readMore, fail. -/
import Derived.Test.YtlhokghgicgppaaGreatDoorSourceRead2
import Derived.Test.YtlhokghgicgppaaGreatDoorSortA
import Derived.Test.YtlhokghgicgppaaGreatDoorWalk
set_option linter.unusedSimpArgs false
set_option linter.unusedVariables false
set_option maxRecDepth 100000
set_option maxHeartbeats 4000000
namespace Go.Proofs.YtlhokghgicgppaaGreatDoor
open Go.RowKit Go.Extern
structure ScAt (w : World) (sq p q nn pb n c : Nat) (ra : Option Addr) (rc : Nat) (L : Sg.Live) : Prop where
  c0 : w.cell? ⟨sq, 0, none⟩ = some (.pointer (some ⟨p, 0, none⟩))
  sp : SpAt w sq 1 q nn pb n c L.src
  c3 : w.cell? ⟨sq, 3, none⟩ = some (.int .i64 L.cap)
  c4 : w.cell? ⟨sq, 4, none⟩ = some (.slice ra L.rest.length rc)
  c5 : w.cell? ⟨sq, 5, none⟩ = some (errV L.stop)
  wk : WkAt w sq 6 p L.wk
  c11 : w.cell? ⟨sq, 11, none⟩ = some (.int .i64 L.at_)
  c12 : w.cell? ⟨sq, 12, none⟩ = some (.int .i64 L.line)
  c13 : w.cell? ⟨sq, 13, none⟩ = some (.int .i64 L.col)
  c14 : w.cell? ⟨sq, 14, none⟩ = some .nilIface
  rest : RestAt w ra rc L.rest
  own : ∀ rb ro, ra = some ⟨rb, ro, none⟩ → nn ≤ rb ∧ rb ≠ sq ∧ (1 ≤ n → rb ≠ pb)
  cap4 : 4 ≤ L.cap
  capN : L.cap ≤ 100000
  le : L.rest.length ≤ L.cap
abbrev FP (sq q pb n : Nat) (ra : Option Addr) : Nat → Prop := fun i => i = sq ∨ i = q ∨ (1 ≤ n ∧ i = pb) ∨ ∃ o, ra = some ⟨i, o, none⟩
theorem sourceRead_any (sq so q nn pb n c most : Nat) (s : Sg.Src) (w : World) (h : SpAt w sq so q nn pb n c s) (hm : 1 ≤ most) (hM : most < 1000000000) :
    Calls Tryz.prog 64 #[.pointer (some ⟨sq, so, none⟩), .int .i64 most] w fun en w' =>
      ∃ a' c' pb' n' c2, en = .returned (.tuple #[.slice a' (Sg.askN most 8 s).1.1.length c', errV (Sg.askN most 8 s).1.2]) ∧ SlAt w' a' (Sg.askN most 8 s).1.1 ∧
        SpAt w' sq so q nn pb' n' c2 (Sg.askN most 8 s).2 ∧ Chg (spT sq so q pb n) w w' ∧ 1 ≤ n' ∧ ((1 ≤ n ∧ pb' = pb) ∨ w.heap.size ≤ pb') := by
  by_cases hmn : most ≤ n
  · refine (sourceRead_old sq so q nn pb n c most s w h hm hmn).mono ?_
    rintro en w' ⟨a', c', h1, h2, _, h4, h5⟩
    exact ⟨a', c', pb, n, c, h1, h2, h4, h5, by omega, .inl ⟨by omega, rfl⟩⟩
  · refine (sourceRead_new sq so q nn pb n c most s w h hm (by omega) hM).mono ?_
    rintro en w' ⟨a', c', h1, h2, _, h4, h5⟩
    exact ⟨a', c', w.heap.size, most, most, h1, h2, h4, h5, hm, .inr (Nat.le_refl _)⟩
theorem wrap_i64_small (n : Int) (h0 : 0 ≤ n) (h1 : n < 9223372036854775808) : IntKind.i64.wrap n = n := by
  simp [IntKind.wrap, IntKind.bits, IntKind.signed]
  split <;> omega
theorem askN_len (most : Nat) : ∀ (k : Nat) (s : Sg.Src), (Sg.askN most k s).1.1.length ≤ most
  | 0, s => by simp [Sg.askN]
  | k + 1, s => by
    unfold Sg.askN
    dsimp only
    split
    · exact ask1_len most s
    · exact askN_len most k _
theorem RestAt.of {w w' : World} {ra : Option Addr} {rc : Nat} {l : Sg.Bs} (h : RestAt w ra rc l) {T : Nat → Nat → Prop} (hc : Chg T w w') (hT : ∀ rb ro j, ra = some ⟨rb, ro, none⟩ → ¬ T rb j) : RestAt w' ra rc l := by
  rcases h with h | ⟨rb, ro, rfl, h1, h2, h3, h4, h5⟩
  · exact .inl h
  · exact .inr ⟨rb, ro, rfl, h1, fun j hj => (hc.cell _ _ h4 (hT rb ro _ rfl)).trans (h2 j hj), fun j hj => by rw [hc.live _ _ h4]; exact h3 j hj, Nat.lt_of_lt_of_le h4 hc.size, fun j => (hc.frz _ _ h4).trans (h5 j)⟩
theorem SpAt.of {w w' : World} {sq so q nn pb n c : Nat} {s : Sg.Src} (h : SpAt w sq so q nn pb n c s) {T : Nat → Nat → Prop} (hc : Chg T w w') (h1 : ∀ j, ¬ T q j) (h2 : ∀ j, ¬ T pb j ∨ n = 0) (h3 : ¬ T sq so) (h4 : ¬ T sq (so + 1)) (h5 : ∀ b j, b < nn → b ≠ q → ¬ T b j) : SpAt w' sq so q nn pb n c s := by
  have hs := cell_lt h.rd
  refine ⟨(hc.cell _ _ hs h3).trans h.rd, ?_, ?_, h.hq, h.nn1, Nat.le_trans h.nn2 hc.size, fun j => (hc.frz _ _ hs).trans (h.fr j), h.small, h.cN⟩
  · rcases h.sp with ⟨g0, g1⟩ | ⟨g1, g2, g3, g4, g5, g6, g7⟩
    · exact .inl ⟨g0, (hc.cell _ _ hs h4).trans g1⟩
    · have hp : pb < w.heap.size := by
        obtain ⟨v, hv⟩ := Option.isSome_iff_exists.1 (g6 0 (by omega)); exact cell_lt hv
      exact .inr ⟨g1, (hc.cell _ _ hs h4).trans g2, g3, g4, g5, fun j hj => by rw [hc.live _ _ hp]; exact g6 j hj, fun j => (hc.frz _ _ hp).trans (g7 j)⟩
  · obtain ⟨la, lc, r, hx, hy⟩ := h.src
    refine ⟨la, lc, r, hx.of (fun b j v hb hv => (hc.cell _ _ (cell_lt hv) ?_).trans hv) (fun j => hc.frz _ _ (cell_lt hx.c0)), hy⟩
    rcases hb with rfl | ⟨o, hb⟩
    · exact h1 j
    · exact h5 b j (hy b o hb).2 (hy b o hb).1
theorem WkAt.of {w w' : World} {q o p : Nat} {k : Sg.Wk} (h : WkAt w q o p k) {T : Nat → Nat → Prop} (hc : Chg T w w') (hT : ∀ j, o ≤ j → j ≤ o + 4 → ¬ T q j) : WkAt w' q o p k :=
  have hq := cell_lt h.c0
  ⟨(hc.cell _ _ hq (hT _ (by omega) (by omega))).trans h.c0, (hc.cell _ _ hq (hT _ (by omega) (by omega))).trans h.c1, (hc.cell _ _ hq (hT _ (by omega) (by omega))).trans h.c2, (hc.cell _ _ hq (hT _ (by omega) (by omega))).trans h.c3, (hc.cell _ _ hq (hT _ (by omega) (by omega))).trans h.c4, fun j => (hc.frz _ _ hq).trans (h.fr j)⟩
structure MoreOn (sq p q nn pb n c : Nat) (ra : Option Addr) (rc : Nat) (L : Sg.Live) (w w1 : World) (a' : Option Addr) (c' pb' n' c2 : Nat) (gl : Sg.Bs) (st : Option Int) (s' : Sg.Src) (ra' : Option Addr) (rc' : Nat) (w2 : World) : Prop where
  k4 : w1.cell? ⟨sq, 4, none⟩ = some (.slice ra L.rest.length rc)
  run : (Builtin.append_ #[60, 60] 60 #[.slice ra L.rest.length rc, .slice a' gl.length c']).run Tryz.prog w1 = .ok (.slice ra' (L.rest.length + gl.length) rc') w2
  j4 : w2.cell? ⟨sq, 4, none⟩ = some (.slice ra L.rest.length rc)
  j5 : w2.cell? ⟨sq, 5, none⟩ = some (errV L.stop)
  fr : ∀ j, w2.frozen? ⟨sq, j, none⟩ = false
  sc : ScAt ((w2.setCell ⟨sq, 4, none⟩ (.slice ra' (L.rest.length + gl.length) rc')).setCell ⟨sq, 5, none⟩ (errV st)) sq p q nn pb' n' c2 ra' rc' { L with rest := L.rest ++ gl, stop := st, src := s' }
  chg : Chg (fun i _ => FP sq q pb n ra i) w ((w2.setCell ⟨sq, 4, none⟩ (.slice ra' (L.rest.length + gl.length) rc')).setCell ⟨sq, 5, none⟩ (errV st))
  fp : ∀ i, i < w.heap.size → FP sq q pb' n' ra' i → FP sq q pb n ra i
theorem more_on (sq p q nn pb n c : Nat) (ra : Option Addr) (rc : Nat) (L : Sg.Live) (w : World) (h : ScAt w sq p q nn pb n c ra rc L) (w1 : World) (a' : Option Addr) (c' pb' n' c2 : Nat) (gl : Sg.Bs) (st : Option Int) (s' : Sg.Src)
    (hgl : L.rest.length + gl.length ≤ L.cap) (hsl : SlAt w1 a' gl) (hsp : SpAt w1 sq 1 q nn pb' n' c2 s') (hch : Chg (spT sq 1 q pb n) w w1) (hn' : 1 ≤ n') (hpb' : (1 ≤ n ∧ pb' = pb) ∨ w.heap.size ≤ pb') :
    ∃ ra' rc' w2, MoreOn sq p q nn pb n c ra rc L w w1 a' c' pb' n' c2 gl st s' ra' rc' w2 := by
  have hsq := cell_lt h.c0
  have hq := h.sp.hq
  have hnq := h.sp.nn1
  have hcN := h.capN
  have hnn2 := h.sp.nn2
  have hpbs : 1 ≤ n → pb ≠ sq ∧ nn ≤ pb := fun hn => by
    rcases h.sp.sp with ⟨g, _⟩ | ⟨_, _, _, g2, g3, _⟩
    · omega
    · exact ⟨g3, g2⟩
  have hpbs' : pb' ≠ sq ∧ nn ≤ pb' := by
    rcases hsp.sp with ⟨g, _⟩ | ⟨_, _, _, g2, g3, _⟩
    · omega
    · exact ⟨g3, g2⟩
  have hnot : ∀ j, j ≠ 2 → ¬ spT sq 1 q pb n sq j := fun j hj t => by
    rcases t with t | ⟨t1, t2⟩ | ⟨_, t⟩
    · omega
    · exact (hpbs t1).1 t2.symm
    · omega
  have hR1 : RestAt w1 ra rc L.rest := h.rest.of hch (fun rb ro j e t => by
    have := h.own rb ro e
    rcases t with t | ⟨t1, t2⟩ | ⟨t, _⟩
    · omega
    · exact this.2.2 t1 t2
    · exact this.2.1 t)
  obtain ⟨ra', rc', w2, hrun, hrest, hch2, hra⟩ := append_bytes w1 ra rc L.rest hR1 a' gl c' hsl (by omega) 60
  have hno2 : ∀ (i j : Nat), (∀ o, ra ≠ some ⟨i, o, none⟩) → ¬ (∃ o, ra = some ⟨i, o, none⟩) := fun i _ hx ⟨o, e⟩ => hx o e
  have hsq2 : ∀ o, ra ≠ some ⟨sq, o, none⟩ := fun o e => (h.own sq o e).2.1 rfl
  have hsz1 := hch.size
  have hsz2 := hch2.size
  have hq2 : ∀ j, j ≠ 2 → w2.cell? ⟨sq, j, none⟩ = w.cell? ⟨sq, j, none⟩ := fun j hj => (hch2.cell _ _ (by omega) (hno2 sq j hsq2)).trans (hch.cell _ _ hsq (hnot j hj))
  have hfr2 : ∀ j, w2.frozen? ⟨sq, j, none⟩ = false := fun j => (hch2.frz _ _ (by omega)).trans ((hch.frz _ _ hsq).trans (h.sp.fr j))
  have hrbw : ∀ rb ro, ra = some ⟨rb, ro, none⟩ → rb < w.heap.size := fun rb ro e => by
    rcases h.rest with ⟨e2, _⟩ | ⟨rb2, ro2, e2, _, _, _, g, _⟩
    · rw [e2] at e; cases e
    · rw [e2] at e; cases e; exact g
  have hpb1 : pb' < w1.heap.size := by
    rcases hsp.sp with ⟨g, _⟩ | ⟨g1, _, _, _, _, g6, _⟩
    · omega
    · obtain ⟨v, hv⟩ := Option.isSome_iff_exists.1 (g6 0 (by omega)); exact cell_lt hv
  have hrbpb : ∀ rb ro, ra = some ⟨rb, ro, none⟩ → rb ≠ pb' := fun rb ro e e2 => by
    rcases hpb' with ⟨g1, g2⟩ | g
    · exact (h.own rb ro e).2.2 g1 (by omega)
    · have := hrbw rb ro e; omega
  have hsp2 : SpAt w2 sq 1 q nn pb' n' c2 s' := hsp.of hch2 (fun j ⟨o, e⟩ => by have := (h.own q o e).1; omega) (fun j => .inl (fun ⟨o, e⟩ => hrbpb _ _ e rfl)) (hno2 sq 1 hsq2) (hno2 sq 2 hsq2) (fun b j hb _ ⟨o, e⟩ => by have := (h.own b o e).1; omega)
  have hown : ∀ rb ro, ra' = some ⟨rb, ro, none⟩ → nn ≤ rb ∧ rb ≠ sq ∧ (1 ≤ n' → rb ≠ pb') := fun rb ro e => by
    rcases hra with e2 | ⟨rb2, e2, g⟩
    · rw [e2] at e
      exact ⟨(h.own rb ro e).1, (h.own rb ro e).2.1, fun _ => hrbpb rb ro e⟩
    · rw [e2] at e
      cases e
      exact ⟨by omega, by omega, fun _ => by omega⟩
  have hT : Chg (fun i j => i = sq ∧ (j = 4 ∨ j = 5)) w2 ((w2.setCell ⟨sq, 4, none⟩ (.slice ra' (L.rest.length + gl.length) rc')).setCell ⟨sq, 5, none⟩ (errV st)) :=
    ((Chg.refl _ _).setCell ⟨rfl, .inl rfl⟩ _).setCell ⟨rfl, .inr rfl⟩ _
  have h4' : w2.cell? ⟨sq, 4, none⟩ = some (.slice ra L.rest.length rc) := (hq2 4 (by omega)).trans h.c4
  have h5' : w2.cell? ⟨sq, 5, none⟩ = some (errV L.stop) := (hq2 5 (by omega)).trans h.c5
  have hchF : Chg (fun i _ => FP sq q pb n ra i) w w2 := (hch.mono (fun i j _ t => by
    rcases t with t | t | t
    · exact .inr (.inl t)
    · exact .inr (.inr (.inl t))
    · exact .inl t.1)).trans_new hch2 (fun i j _ t => .inr (.inr (.inr t)))
  refine ⟨ra', rc', w2, (hch.cell _ _ hsq (hnot 4 (by omega))).trans h.c4, hrun, h4', h5', hfr2, ?_, ?_, ?_⟩
  · have hs2 : sq < w2.heap.size := by omega
    have hq3 : ∀ j, j ≠ 2 → j ≠ 4 → j ≠ 5 → ((w2.setCell ⟨sq, 4, none⟩ (.slice ra' (L.rest.length + gl.length) rc')).setCell ⟨sq, 5, none⟩ (errV st)).cell? ⟨sq, j, none⟩ = w.cell? ⟨sq, j, none⟩ := fun j h2 h4 h5 =>
      (hT.cell _ _ hs2 (fun t => by omega)).trans (hq2 j h2)
    refine ⟨(hq3 0 (by omega) (by omega) (by omega)).trans h.c0, ?_, (hq3 3 (by omega) (by omega) (by omega)).trans h.c3, ?_, ?_, ?_, (hq3 11 (by omega) (by omega) (by omega)).trans h.c11, (hq3 12 (by omega) (by omega) (by omega)).trans h.c12, (hq3 13 (by omega) (by omega) (by omega)).trans h.c13, (hq3 14 (by omega) (by omega) (by omega)).trans h.c14, ?_, hown, h.cap4, h.capN, ?_⟩
    · exact hsp2.of hT (fun j t => by omega) (fun j => .inl (fun t => hpbs'.1 t.1)) (fun t => by omega) (fun t => by omega) (fun b j hb _ t => by omega)
    · show _ = some (Value.slice ra' (L.rest ++ gl).length rc')
      rw [List.length_append]
      exact (World.cell?_setCell_other _ _ _ _ (by simp)).trans (World.cell?_setCell_same _ _ _ h4')
    · exact World.cell?_setCell_same _ _ _ ((World.cell?_setCell_other _ _ _ _ (by simp)).trans h5')
    · exact ((h.wk.of hch (fun j g1 g2 => hnot j (by omega))).of hch2 (fun j _ _ => hno2 sq j hsq2)).of hT (fun j g1 g2 t => by omega)
    · exact hrest.of hT (fun rb ro j e t => (hown rb ro e).2.1 t.1)
    · show (L.rest ++ gl).length ≤ L.cap
      rw [List.length_append]; exact hgl
  · exact (hchF.setCell (.inl rfl) _).setCell (.inl rfl) _
  · intro i hi t
    rcases t with t | t | ⟨t1, t2⟩ | ⟨o, t⟩
    · exact .inl t
    · exact .inr (.inl t)
    · rcases hpb' with ⟨g1, g2⟩ | g
      · exact .inr (.inr (.inl ⟨g1, by omega⟩))
      · omega
    · rcases hra with e2 | ⟨rb2, e2, g⟩
      · exact .inr (.inr (.inr ⟨o, by rw [← e2]; exact t⟩))
      · rw [e2] at t; cases t; omega
theorem readMore_any (sq p q nn pb n c : Nat) (ra : Option Addr) (rc : Nat) (L : Sg.Live) (w : World) (h : ScAt w sq p q nn pb n c ra rc L) (hlt : L.rest.length < L.cap) :
    Calls Tryz.prog 39 #[.pointer (some ⟨sq, 0, none⟩)] w fun en w' => (∃ v, en = .returned v) ∧
      ∃ pb' n' c' ra' rc', ScAt w' sq p q nn pb' n' c' ra' rc' L.more ∧ Chg (fun i _ => FP sq q pb n ra i) w w' ∧ (∀ i, i < w.heap.size → FP sq q pb' n' ra' i → FP sq q pb n ra i) := by
  have h3 := h.c3
  have h4 := h.c4
  have hle := h.le
  have hcN := h.capN
  have e1 : IntKind.i64.wrap ((L.cap : Int) - (L.rest.length : Int)) = ((L.cap - L.rest.length : Nat) : Int) := by rw [wrap_i64_small _ (by omega) (by omega)]; omega
  have hmo : L.more = { L with rest := L.rest ++ (Sg.askN (L.cap - L.rest.length) 8 L.src).1.1, stop := (Sg.askN (L.cap - L.rest.length) 8 L.src).1.2, src := (Sg.askN (L.cap - L.rest.length) 8 L.src).2 } := rfl
  have hal := askN_len (L.cap - L.rest.length) 8 L.src
  have hrd := sourceRead_any sq 1 q nn pb n c (L.cap - L.rest.length) L.src w.drew (h.sp.below ⟨rfl, rfl, rfl, Nat.le_refl _, fun _ _ => rfl⟩) (by omega) (by omega)
  obtain ⟨⟨⟨gl, st⟩, s'⟩, hx⟩ : ∃ x, Sg.askN (L.cap - L.rest.length) 8 L.src = x := ⟨_, rfl⟩
  rw [hx] at hmo hal hrd
  dsimp only at hmo hal hrd
  clear hx
  have HR : Hid (Calls Tryz.prog 64 #[.pointer (some ⟨sq, 1, none⟩), .int .i64 (IntKind.i64.wrap ((L.cap : Int) - (L.rest.length : Int)))] w.drew fun en w1 =>
      ∃ a' c', en = .returned (.tuple #[.slice a' gl.length c', errV st]) ∧ ∃ pb' n' c2 ra' rc' w2, MoreOn sq p q nn pb n c ra rc L w w1 a' c' pb' n' c2 gl st s' ra' rc' w2) := by
    show Calls _ _ _ _ _
    rw [e1]
    refine hrd.mono ?_
    rintro en w' ⟨a', c', pb', n', c2, g1, g2, g3, g4, g5, g6⟩
    obtain ⟨ra', rc', w2, hm⟩ := more_on sq p q nn pb n c ra rc L w h w' a' c' pb' n' c2 gl st s' (by omega) g2 g3 ((Chg.drew (Chg.refl _ w)).trans g4) g5 g6
    exact ⟨a', c', g1, pb', n', c2, ra', rc', w2, hm⟩
  clear e1 hrd
  have Hmo := hide2 hmo
  clear hmo
  go_enter Tryz.func39, Tryz.ntmps39
  go_wp2
  go_region_with (go_at_call 64; refine HR.out.mono ?_; rintro en w1 ⟨a', c', rfl, pb', n', c2, ra', rc', w2, ⟨k4, hrun, j4, j5, fr, hsc, hchg, hfp⟩⟩; have Hsc := hide2 hsc; have Hchg := hide2 hchg; have Hfp := hide2 hfp; clear hsc hchg hfp)
  all_goals rcases st with _ | x
  all_goals simp only [errV] at j5 Hsc Hchg ⊢
  all_goals have Hrun := hide2 hrun
  all_goals clear hrun
  all_goals go_wp2_with (at_builtin; refine wpList_append_run rfl _ _ _ _ rfl _ _ _ rfl rfl Hrun.out ?_)
  all_goals exact bodyPost_end (results_none rfl _ _ _) rfl ⟨⟨_, rfl⟩, _, _, _, _, _, by rw [Hmo.out]; exact Hsc.out, Hchg.out, Hfp.out⟩
end Go.Proofs.YtlhokghgicgppaaGreatDoor
