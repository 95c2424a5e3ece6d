/- (*Scanner).Next. -/
/- Next: what its walk carries. -/
/- What Next calls, in its own words. -/
import Derived.Test.YtlhokghgicgppaaGreatDoorCutS
import Derived.Test.YtlhokghgicgppaaGreatDoorBytePure
import Derived.ScopeJumps
import Derived.WalkMore
set_option linter.unusedSimpArgs false
set_option linter.unusedVariables false
set_option maxRecDepth 100000
set_option maxHeartbeats 4000000
namespace Go.Proofs.YtlhokghgicgppaaGreatDoor
open Go.RowKit Go.Extern
theorem wp_scope_loop {P : Program} {a : Act} {w : World} {Q : Exit → Act → World → Prop} {R : Code} (l : Nat) (J : Act → World → Prop) (μ : Act → World → Nat) (rest : Code) (hf : findLabel ((Code.label l).seq R) l = some rest) (hr : rest = Code.skip.seq R ∨ rest = R ∨ rest = (Code.label l).seq R) (h0 : J a w)
    (pass : ∀ a w, J a w → R.wp P (Exit.jump l (fun a' w' => J a' w' ∧ μ a' w' < μ a w) Q) a w) : (Code.scope ((Code.label l).seq R)).wp P Q a w := by
  have mono : ∀ a w, J a w → R.wp P (Exit.jump l J Q) a w := fun a w hJ => wp_mono (pass a w hJ) (fun e a' w' hq => by
    cases e <;> first | exact hq | exact ⟨hq.1, hq.2.1⟩)
  refine wp_scope_jumps l J μ hf (wp_seq (wp_label (mono a w h0))) (fun a w hJ => ?_)
  rcases hr with rfl | rfl | rfl
  · exact wp_seq (wp_skip (pass a w hJ))
  · exact pass a w hJ
  · exact wp_seq (wp_label (pass a w hJ))
structure NInv (w : World) (sq p q nn bm : Nat) (m : Sg.Mach) (pb n c : Nat) (ra : Option Addr) (rc : Nat) (L : Sg.Live) : Prop where
  sc : ScAt w sq p q nn pb n c ra rc L
  ma : MachIn w bm p m
  bq : bm ≤ q
  tb : Tabs w
  so : SpotOk L
  wk : L.wk.Ok m L.rest
  g : 4 ≤ bm
theorem NInv.below {w w' : World} {sq p q nn bm : Nat} {m : Sg.Mach} {pb n c : Nat} {ra : Option Addr} {rc : Nat} {L : Sg.Live} (hm : m.Ok) (h : NInv w sq p q nn bm m pb n c ra rc L) (hb : Below w.heap.size w w') : NInv w' sq p q nn bm m pb n c ra rc L :=
  ⟨h.sc.below hb, h.ma.chg hm (Chg.of_below (T := fun _ _ => False) hb) (fun _ _ t => t.elim), h.bq, h.tb.chg (Chg.of_below (T := fun _ _ => False) hb) h.g (fun _ _ t => t.elim), h.so, h.wk, h.g⟩
theorem alive_next (m : Sg.Mach) (hm : m.Ok) (sq p q nn bm pb n c : Nat) (ra : Option Addr) (rc : Nat) (L : Sg.Live) (w : World) (h : NInv w sq p q nn bm m pb n c ra rc L) :
    Calls Tryz.prog 36 #[.pointer (some ⟨sq, 6, none⟩), .slice ra L.rest.length rc] w fun e w' => e = .returned (.bool ((L.walked m).alive m)) ∧ NInv w' sq p q nn bm m pb n c ra rc (L.walked m) ∧ Chg (fun i _ => i = sq) w w' := by
  have hq := h.sc.sp.hq
  have hbq := h.bq
  have hn1 := h.sc.sp.nn1
  have hcN := h.sc.capN
  have hle := h.sc.le
  have fin : ∀ w', WkAt w' sq 6 p (Sg.walkTo m L.rest (L.rest.length + 1) L.wk) → Chg (wkT sq 6) w w' → NInv w' sq p q nn bm m pb n c ra rc (L.walked m) ∧ Chg (fun i _ => i = sq) w w' := fun w' hw hc => by
    have hs := cell_lt h.sc.c0
    have hcell : ∀ j, (j ≤ 6 ∨ 10 < j) → w'.cell? ⟨sq, j, none⟩ = w.cell? ⟨sq, j, none⟩ := fun j hj => hc.cell _ _ hs (fun t => by omega)
    have hTn : ∀ i o, wkT sq 6 i o → bm ≤ i := fun i o t => by omega
    refine ⟨⟨⟨(hcell 0 (by omega)).trans h.sc.c0, ?_, (hcell 3 (by omega)).trans h.sc.c3, (hcell 4 (by omega)).trans h.sc.c4, (hcell 5 (by omega)).trans h.sc.c5, hw, (hcell 11 (by omega)).trans h.sc.c11, (hcell 12 (by omega)).trans h.sc.c12, (hcell 13 (by omega)).trans h.sc.c13, (hcell 14 (by omega)).trans h.sc.c14, ?_, h.sc.own, h.sc.cap4, h.sc.capN, h.sc.le⟩, h.ma.chg hm hc hTn, h.bq, h.tb.chg hc h.g hTn, h.so, Sg.walkTo_ok m hm _ _ _ h.wk, h.g⟩, hc.mono (fun i j _ t => t.1)⟩
    · refine h.sc.sp.of hc (fun j t => by omega) (fun j => ?_) (fun t => by omega) (fun t => by omega) (fun b j hb _ t => by omega)
      rcases h.sc.sp.sp with ⟨g, _⟩ | ⟨_, _, _, _, g5, _⟩
      · exact .inr g
      · exact .inl (fun t => g5 t.1)
    · exact h.sc.rest.of hc (fun rb ro j e t => (h.sc.own rb ro e).2.1 t.1)
  rcases h.sc.rest with ⟨e1, e2, e3⟩ | ⟨rb, ro, e1, g1, g2, g3, g4, g5⟩
  · subst e1
    have hw := h.wk
    rw [e3] at hw
    have := alive_none m L.wk hw w h.tb p sq 6 rc h.sc.wk
    rw [e3]
    refine this.mono ?_
    rintro e w' ⟨rfl, k1, k2⟩
    have key := fin w' (by rw [e3]; exact k1) k2
    refine ⟨?_, key⟩
    show _ = Ending.returned (Value.bool (Sg.aliveW m L.rest (Sg.walkTo m L.rest (L.rest.length + 1) L.wk)))
    rw [e3]; rfl
  · subst e1
    refine (alive_some m hm L.wk L.rest h.wk rc w h.tb g1 (by omega) bm p sq 6 rb ro h.g (by omega) (h.sc.own rb ro rfl).2.1 h.ma h.sc.wk g2).mono ?_
    rintro e w' ⟨rfl, k1, k2⟩
    exact ⟨rfl, fin w' k1 k2⟩
def nextPost (w : World) (sq p q nn : Nat) (m : Sg.Mach) (F0 : Nat → Prop) (x : (Except Int Sg.Tok) × Sg.Sc) (en : Ending) (w' : World) : Prop :=
  Chg (fun i _ => F0 i) w w' ∧
  match x with
  | (.ok t, .inl L') => en = .returned (.tuple #[tokV t, errV none]) ∧ ∃ pb n c ra rc, ScAt w' sq p q nn pb n c ra rc L' ∧ ∀ i, i < w.heap.size → FP sq q pb n ra i → F0 i
  | (.error e, .inr e') => e = e' ∧ en = .returned (.tuple #[tok0, errV (some e)]) ∧ w'.cell? ⟨sq, 14, none⟩ = some (errV (some e))
  | _ => False
end Go.Proofs.YtlhokghgicgppaaGreatDoor
namespace Go.Proofs.YtlhokghgicgppaaGreatDoor
open Go.RowKit Go.Extern
structure ResAt (w : World) (r : Nat) : Prop where
  r0 : w.cell? ⟨r, 0, none⟩ = some (.int .i64 0)
  r1 : w.cell? ⟨r, 1, none⟩ = some (.int .i64 0)
  r2 : w.cell? ⟨r, 2, none⟩ = some (.int .i64 0)
  r3 : w.cell? ⟨r, 3, none⟩ = some (.int .i64 0)
  r4 : w.cell? ⟨r, 4, none⟩ = some (.string ⟨#[]⟩)
  fr : ∀ j, w.frozen? ⟨r, j, none⟩ = false
theorem ResAt.of {w w' : World} {r : Nat} (h : ResAt w r) {T : Nat → Nat → Prop} (hc : Chg T w w') (hT : ∀ j, ¬ T r j) : ResAt w' r :=
  have hr := cell_lt h.r0
  ⟨(hc.cell _ _ hr (hT _)).trans h.r0, (hc.cell _ _ hr (hT _)).trans h.r1, (hc.cell _ _ hr (hT _)).trans h.r2, (hc.cell _ _ hr (hT _)).trans h.r3, (hc.cell _ _ hr (hT _)).trans h.r4, fun j => (hc.frz _ _ hr).trans (h.fr j)⟩
def leftN (sq : Nat) (w : World) : Nat :=
  match w.cell? ⟨sq, 3, none⟩, w.cell? ⟨sq, 4, none⟩, w.cell? ⟨sq, 5, none⟩ with
  | some (.int _ c), some (.slice _ l _), some .nilIface => c.toNat - l + 1
  | some (.int _ c), some (.slice _ l _), _ => c.toNat - l
  | _, _, _ => 0
theorem leftN_eq {w : World} {sq p q nn pb n c : Nat} {ra : Option Addr} {rc : Nat} {L : Sg.Live} (h : ScAt w sq p q nn pb n c ra rc L) : leftN sq w = L.nf := by
  unfold leftN Sg.Live.nf
  rw [h.c3, h.c4, h.c5]
  cases hs : L.stop <;> simp [errV]
def nextJ (w : World) (sq p q nn bm : Nat) (m : Sg.Mach) (F0 : Nat → Prop) (X0 : (Except Int Sg.Tok) × Sg.Sc) (w' : World) : Prop :=
  ∃ pb n c ra rc L, NInv w' sq p q nn bm m pb n c ra rc L ∧ Sg.nextT m (L.nf + 1) L = X0 ∧ Chg (fun i _ => F0 i) w w' ∧ (∀ i, i < w.heap.size → FP sq q pb n ra i → F0 i) ∧ ResAt w' w.heap.size ∧ ¬ FP sq q pb n ra w.heap.size
theorem ScAt.chgRes {w w' : World} {sq p q nn pb n c : Nat} {ra : Option Addr} {rc : Nat} {L : Sg.Live} {r : Nat} (h : ScAt w sq p q nn pb n c ra rc L) (hc : Chg (fun i _ => i = r) w w') (hr : ¬ FP sq q pb n ra r) (hn : nn ≤ r) : ScAt w' sq p q nn pb n c ra rc L := by
  have hs := cell_lt h.c0
  have hsr : ¬ sq = r := fun e => hr (.inl e.symm)
  refine ⟨(hc.cell _ _ hs hsr).trans h.c0, ?_, (hc.cell _ _ hs hsr).trans h.c3, (hc.cell _ _ hs hsr).trans h.c4, (hc.cell _ _ hs hsr).trans h.c5, h.wk.of hc (fun _ _ _ => hsr), (hc.cell _ _ hs hsr).trans h.c11, (hc.cell _ _ hs hsr).trans h.c12, (hc.cell _ _ hs hsr).trans h.c13, (hc.cell _ _ hs hsr).trans h.c14, h.rest.of hc (fun rb ro j e t => hr (.inr (.inr (.inr ⟨ro, by rw [← t]; exact e⟩)))), h.own, h.cap4, h.capN, h.le⟩
  refine h.sp.of hc (fun j t => hr (.inr (.inl t.symm))) (fun j => ?_) hsr hsr (fun b j hb _ t => by omega)
  rcases Nat.eq_zero_or_pos n with g | g
  · exact .inr g
  · exact .inl (fun t => hr (.inr (.inr (.inl ⟨g, t.symm⟩))))
theorem neq_errno (a b : Int) (w : World) : (binOp .neq 45 (.iface 50 (.int .i64 a)) (.iface 50 (.int .i64 b))).run Tryz.prog w = .ok (.bool (a != b)) w := by
  obtain ⟨i, hi, hcmp⟩ := Option.map_eq_some_iff.1 Is.comp
  simp only [binOp]
  simp [Op.equal, Op.maxDepth, Is.run_equalIn_iface_int w 9998 a b Tryz.underlying45 Tryz.underlying50 hi hcmp]
  simp [bne]
end Go.Proofs.YtlhokghgicgppaaGreatDoor
namespace Go.Proofs.YtlhokghgicgppaaGreatDoor
open Go.RowKit Go.Extern
theorem five0 {w : World} {b : Nat} (h : ResAt w b) (v0 v1 v2 v3 v4 : Value) :
    ∃ Y, Y = ((((w.setCell ⟨b, 0, none⟩ v0).setCell ⟨b, 1, none⟩ v1).setCell ⟨b, 2, none⟩ v2).setCell ⟨b, 3, none⟩ v3).setCell ⟨b, 4, none⟩ v4 ∧ Y.cell? ⟨b, 0, none⟩ = some v0 ∧ Y.cell? ⟨b, 1, none⟩ = some v1 ∧ Y.cell? ⟨b, 2, none⟩ = some v2 ∧ Y.cell? ⟨b, 3, none⟩ = some v3 ∧ Y.cell? ⟨b, 4, none⟩ = some v4 ∧ Chg (fun i _ => i = b) w Y := by
  have e : ∀ (X : World) (i j : Nat) (v : Value) (u : Option Value), i ≠ j → X.cell? ⟨b, j, none⟩ = u → (X.setCell ⟨b, i, none⟩ v).cell? ⟨b, j, none⟩ = u := fun X i j v u hij hu => (World.cell?_setCell_other X ⟨b, i, none⟩ ⟨b, j, none⟩ v (by simp [hij])).trans hu
  refine ⟨_, rfl, ?_⟩
  have a0 := World.cell?_setCell_same w ⟨b, 0, none⟩ v0 h.r0
  have a1 := e w 0 1 v0 _ (by omega) h.r1
  have a2 := e w 0 2 v0 _ (by omega) h.r2
  have a3 := e w 0 3 v0 _ (by omega) h.r3
  have a4 := e w 0 4 v0 _ (by omega) h.r4
  have g1 := Chg.setB (Chg.refl (fun i _ => i = b) w) 0 v0
  generalize w.setCell ⟨b, 0, none⟩ v0 = X at *
  have b0 := e X 1 0 v1 _ (by omega) a0
  have b1 := World.cell?_setCell_same X ⟨b, 1, none⟩ v1 a1
  have b2 := e X 1 2 v1 _ (by omega) a2
  have b3 := e X 1 3 v1 _ (by omega) a3
  have b4 := e X 1 4 v1 _ (by omega) a4
  have g2 := Chg.setB g1 1 v1
  generalize X.setCell ⟨b, 1, none⟩ v1 = Y at *
  have c0 := e Y 2 0 v2 _ (by omega) b0
  have c1 := e Y 2 1 v2 _ (by omega) b1
  have c2 := World.cell?_setCell_same Y ⟨b, 2, none⟩ v2 b2
  have c3 := e Y 2 3 v2 _ (by omega) b3
  have c4 := e Y 2 4 v2 _ (by omega) b4
  have g3 := Chg.setB g2 2 v2
  generalize Y.setCell ⟨b, 2, none⟩ v2 = Z at *
  have d0 := e Z 3 0 v3 _ (by omega) c0
  have d1 := e Z 3 1 v3 _ (by omega) c1
  have d2 := e Z 3 2 v3 _ (by omega) c2
  have d3 := World.cell?_setCell_same Z ⟨b, 3, none⟩ v3 c3
  have d4 := e Z 3 4 v3 _ (by omega) c4
  have g4 := Chg.setB g3 3 v3
  generalize Z.setCell ⟨b, 3, none⟩ v3 = V at *
  exact ⟨e V 4 0 _ _ (by omega) d0, e V 4 1 _ _ (by omega) d1, e V 4 2 _ _ (by omega) d2, e V 4 3 _ _ (by omega) d3, World.cell?_setCell_same V ⟨b, 4, none⟩ _ d4, Chg.setB g4 4 v4⟩
theorem fail_next (m : Sg.Mach) (sq p q nn bm pb n c : Nat) (ra : Option Addr) (rc : Nat) (L : Sg.Live) (w : World) (h : NInv w sq p q nn bm m pb n c ra rc L) (r : Nat) (hr : ResAt w r) (hrs : r ≠ sq) (e : Int) :
    Calls Tryz.prog 38 #[.pointer (some ⟨sq, 0, none⟩), errV (some e)] w fun en w' => en = .returned (.tuple #[tok0, errV (some e)]) ∧ w'.cell? ⟨sq, 14, none⟩ = some (errV (some e)) ∧ Chg (fun i _ => i = sq) w w' ∧ ResAt w' r := by
  refine (fail_any sq e w (fun j hj => ?_) h.sc.sp.fr).mono ?_
  · have hsp1 : ∃ v, w.cell? ⟨sq, 2, none⟩ = some v := by
      rcases h.sc.sp.sp with ⟨_, g⟩ | ⟨_, g, _⟩
      · exact ⟨_, g⟩
      · exact ⟨_, g⟩
    match j, hj with
    | 0, _ => exact ⟨_, h.sc.c0⟩
    | 1, _ => exact ⟨_, h.sc.sp.rd⟩
    | 2, _ => exact hsp1
    | 3, _ => exact ⟨_, h.sc.c3⟩
    | 4, _ => exact ⟨_, h.sc.c4⟩
    | 5, _ => exact ⟨_, h.sc.c5⟩
    | 6, _ => exact ⟨_, h.sc.wk.c0⟩
    | 7, _ => exact ⟨_, h.sc.wk.c1⟩
    | 8, _ => exact ⟨_, h.sc.wk.c2⟩
    | 9, _ => exact ⟨_, h.sc.wk.c3⟩
    | 10, _ => exact ⟨_, h.sc.wk.c4⟩
    | 11, _ => exact ⟨_, h.sc.c11⟩
    | 12, _ => exact ⟨_, h.sc.c12⟩
    | 13, _ => exact ⟨_, h.sc.c13⟩
    | 14, _ => exact ⟨_, h.sc.c14⟩
    | k + 15, hk => omega
  · rintro en w' ⟨h1, h2, h3⟩
    exact ⟨h1, h2, h3, hr.of h3 (fun j t => hrs t)⟩
theorem cut_next (m : Sg.Mach) (sq p q nn bm pb n c : Nat) (ra : Option Addr) (rc : Nat) (L : Sg.Live) (w : World) (h : NInv w sq p q nn bm m pb n c ra rc L) (hne : L.rest ≠ []) (r : Nat) (hr : ResAt w r) (hrs : r ≠ sq) :
    Calls Tryz.prog 40 #[.pointer (some ⟨sq, 0, none⟩)] w fun en w' => en = .returned (tokV L.tok) ∧ (∃ ra2 rc2, ScAt w' sq p q nn pb n c ra2 rc2 L.cutT ∧ ∀ i, FP sq q pb n ra2 i → FP sq q pb n ra i) ∧ Chg (fun i _ => i = sq) w w' ∧ ResAt w' r := by
  refine (cut_any' sq p q nn pb n c ra rc L w h.sc h.tb hne (Nat.le_trans h.wk.2.1 h.wk.1) h.so).mono ?_
  rintro en w' ⟨h1, h2, h3⟩
  exact ⟨h1, h2, h3, hr.of h3 (fun j t => hrs t)⟩
theorem more_next (m : Sg.Mach) (hm : m.Ok) (sq p q nn bm pb n c : Nat) (ra : Option Addr) (rc : Nat) (L : Sg.Live) (w : World) (h : NInv w sq p q nn bm m pb n c ra rc L) (hlt : L.rest.length < L.cap) (r : Nat) (hr : ResAt w r) (hrf : ¬ FP sq q pb n ra r) :
    Calls Tryz.prog 39 #[.pointer (some ⟨sq, 0, none⟩)] w fun en w' => (∃ v, en = .returned v) ∧ ∃ pb' n' c' ra' rc', NInv w' sq p q nn bm m pb' n' c' ra' rc' L.more ∧ Chg (fun i _ => FP sq q pb n ra i) w w' ∧ (∀ i, i < w.heap.size → FP sq q pb' n' ra' i → FP sq q pb n ra i) ∧ ResAt w' r ∧ ¬ FP sq q pb' n' ra' r := by
  have hq := h.sc.sp.hq
  have hn1 := h.sc.sp.nn1
  have hbq := h.bq
  have hT : ∀ i (j : Nat), FP sq q pb n ra i → bm ≤ i := fun i _ t => by
    rcases t with t | t | ⟨t1, t2⟩ | ⟨o, t⟩
    · omega
    · omega
    · rcases h.sc.sp.sp with ⟨g, _⟩ | ⟨_, _, _, g4, _⟩
      · omega
      · omega
    · have := (h.sc.own i o t).1; omega
  refine (readMore_any sq p q nn pb n c ra rc L w h.sc hlt).mono ?_
  rintro en w' ⟨hv, pb', n', c', ra', rc', h1, h2, h3⟩
  exact ⟨hv, pb', n', c', ra', rc', ⟨h1, h.ma.chg hm h2 hT, h.bq, h.tb.chg h2 h.g hT, h.so, h.wk.more _, h.g⟩, h2, h3, hr.of h2 (fun j t => hrf t), fun t => hrf (h3 r (cell_lt hr.r0) t)⟩
end Go.Proofs.YtlhokghgicgppaaGreatDoor
