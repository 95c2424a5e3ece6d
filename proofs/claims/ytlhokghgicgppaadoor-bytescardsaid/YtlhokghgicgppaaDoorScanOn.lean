/- Next of a scanner that has failed; a scanner behind a token. -/
/- A scanner that goes on, as its callers see it. -/
import Derived.Test.YtlhokghgicgppaaDoorNext2
import Derived.Test.YtlhokghgicgppaaDoorAllPure
set_option linter.unusedSimpArgs false
set_option linter.unusedVariables false
namespace Go.Proofs.YtlhokghgicgppaaDoor
open Go.RowKit Go.Extern

theorem wp_scope_once {P : Program} {a : Act} {w : World} {Q : Exit → Act → World → Prop} {R : Code} (l : Nat) (rest : Code) (hf : findLabel ((Code.label l).seq R) l = some rest) (hr : rest = Code.skip.seq R ∨ rest = R ∨ rest = (Code.label l).seq R)
    (pass : R.wp P (Exit.jump l (fun _ _ => False) Q) a w) : (Code.scope ((Code.label l).seq R)).wp P Q a w := by
  refine wp_scope_loop l (fun a' w' => a' = a ∧ w' = w) (fun _ _ => 0) rest hf hr ⟨rfl, rfl⟩ ?_
  rintro _ _ ⟨rfl, rfl⟩
  refine wp_mono pass (fun e a' w' hq => ?_)
  cases e <;> first | exact hq | exact ⟨hq.1, hq.2.elim⟩

set_option maxRecDepth 100000 in
set_option maxHeartbeats 1000000 in
theorem next_dead (sq : Nat) (e : Int) (w : World) (h14 : w.cell? ⟨sq, 14, none⟩ = some (errV (some e))) :
    Calls Tryd.prog 13 #[.pointer (some ⟨sq, 0, none⟩)] w fun en w' => en = .returned (.tuple #[tok0, errV (some e)]) ∧ Below w.heap.size w w' := by
  have hs := cell_lt h14
  have h14' : (w.alloc tokZ).cell? ⟨sq, 14, none⟩ = some (errV (some e)) := by
    rw [World.cell?_alloc_lt _ _ ⟨sq, 14, none⟩ hs]; exact h14
  have n1 : ¬ sq = w.heap.size := by omega
  have n2 : ¬ w.heap.size = sq := by omega
  unfold errV at *
  go_enter Tryd.func13, Tryd.ntmps13
  go_wp2
  refine wp_scope_once 0 _ rfl (by first | exact .inl rfl | exact .inr (.inl rfl) | exact .inr (.inr rfl)) ?_
  go_wp2
  go_region
  all_goals go_wp2
  all_goals simp only [Exit.jump]
  all_goals refine bodyPost_ret (v := .tuple #[tok0, .iface 27 (.int .i64 e)]) (by simp [results, Tryd.results13, go_sem, tok0]) rfl ⟨rfl, ?_⟩
  all_goals exact below_drewN ((Below.refl _ _).alloc (Nat.le_refl _) _) 1
end Go.Proofs.YtlhokghgicgppaaDoor

namespace Go.Proofs.YtlhokghgicgppaaDoor
open Go.RowKit Go.Extern

/-- Where a scanner stands, at most. -/
def Sg.Live.SpotLe (L : Sg.Live) (B : Int) : Prop := (0 ≤ L.at_ ∧ L.at_ ≤ B) ∧ (0 ≤ L.line ∧ L.line ≤ B) ∧ (0 ≤ L.col ∧ L.col ≤ B)
theorem Sg.count_le (t : Sg.Bs) : Lib.countByte t 10 ≤ t.length := List.count_le_length
theorem Sg.pass_spot (L : Sg.Live) (t : Sg.Bs) (B : Int) (h : L.SpotLe B) : (L.passT t).SpotLe (B + 1 + t.length) := by
  obtain ⟨h1, h2, h3⟩ := h
  have hc := Sg.pass_col L t h3.1
  have hk := Sg.count_le t
  refine ⟨?_, ?_, by omega⟩
  · unfold Sg.Live.passT
    split <;> dsimp only <;> omega
  · unfold Sg.Live.passT
    split <;> dsimp only <;> omega
theorem Sg.nextT_live (m : Sg.Mach) : ∀ (f : Nat) (L : Sg.Live) (B : Int) (t : Sg.Tok) (L' : Sg.Live), L.SpotLe B → L.rest.length ≤ L.cap → 4 ≤ L.cap → Sg.nextT m f L = (.ok t, .inl L') → L'.SpotLe (B + 1 + L.cap) ∧ L'.wk = Sg.Wk.zero ∧ L'.cap = L.cap
  | 0, _, _, _, _, _, _, _, h => by simp [Sg.nextT] at h
  | f + 1, L, B, t, L', hB, hle, hc4, h => by
    unfold Sg.nextT at h
    by_cases c1 : (L.walked m).alive m = true ∧ (L.walked m).cap ≤ (L.walked m).rest.length
    · rw [if_pos c1] at h; cases h
    · rw [if_neg c1] at h
      by_cases c2 : (L.walked m).unsure m = true ∧ (L.walked m).stop = none
      · rw [if_pos c2] at h
        have hlt : (L.walked m).rest.length < (L.walked m).cap := Sg.unsure_lt (m := m) hc4 c1 c2.1
        exact Sg.nextT_live m f (L.walked m).more B t L' hB (Sg.more_le _ (Nat.le_of_lt hlt) askN_len) hc4 h
      · rw [if_neg c2] at h
        by_cases c3 : ((L.walked m).unsure m = true ∧ (L.walked m).stop ≠ some 13) ∨ (L.walked m).rest = []
        · rw [if_pos c3] at h; cases h
        · rw [if_neg c3] at h
          simp only [Prod.mk.injEq, Except.ok.injEq, Sum.inl.injEq] at h
          obtain ⟨_, rfl⟩ := h
          have hB' : (L.walked m).SpotLe B := hB
          have hle' : (L.walked m).rest.length ≤ L.cap := hle
          have hcap : (L.walked m).cap = L.cap := rfl
          generalize L.walked m = W at *
          have hp := Sg.pass_spot W (W.rest.take W.size) B hB'
          have hl : (W.rest.take W.size).length ≤ W.rest.length := by rw [List.length_take]; omega
          refine ⟨?_, rfl, ?_⟩
          · obtain ⟨p1, p2, p3⟩ := hp
            have e1 : W.cutT.at_ = (W.passT (W.rest.take W.size)).at_ := rfl
            have e2 : W.cutT.line = (W.passT (W.rest.take W.size)).line := rfl
            have e3 : W.cutT.col = (W.passT (W.rest.take W.size)).col := rfl
            unfold Sg.Live.SpotLe
            rw [e1, e2, e3]
            omega
          · rw [← hcap]; unfold Sg.Live.cutT Sg.Live.passT; dsimp only; split <;> rfl

theorem NInv.fp {w : World} {sq p q nn bm : Nat} {m : Sg.Mach} {pb n c : Nat} {ra : Option Addr} {rc : Nat} {L : Sg.Live} (h : NInv w sq p q nn bm m pb n c ra rc L) : ∀ i, FP sq q pb n ra i → bm ≤ i ∧ i < w.heap.size := fun i t => by
  have hq := h.sc.sp.hq
  have hn1 := h.sc.sp.nn1
  have hbq := h.bq
  rcases t with t | t | ⟨t1, t2⟩ | ⟨o, t⟩
  · have := cell_lt h.sc.c0; subst t; exact ⟨by omega, this⟩
  · obtain ⟨la, lc, r, hx, _⟩ := h.sc.sp.src
    have := cell_lt hx.c0
    subst t; exact ⟨by omega, this⟩
  · rcases h.sc.sp.sp with ⟨g, _⟩ | ⟨_, _, _, g4, _, g6, _⟩
    · omega
    · obtain ⟨v, hv⟩ := Option.isSome_iff_exists.1 (g6 0 (by omega))
      have := cell_lt hv
      subst t2; exact ⟨by omega, this⟩
  · have := (h.sc.own i o t).1
    rcases h.sc.rest with ⟨e, _⟩ | ⟨rb2, ro2, e2, _, _, _, g, _⟩
    · rw [e] at t; cases t
    · rw [e2] at t; cases t; exact ⟨by omega, g⟩

/-- A scanner in memory: its tables lie below bm, what it reads below nn, its own blocks are those of F, and it stands at most at B. -/
def ScanAt (w : World) (sq bm nn : Nat) (m : Sg.Mach) (L : Sg.Live) (F : Nat → Prop) (B : Int) : Prop :=
  (∃ p q pb n c ra rc, NInv w sq p q nn bm m pb n c ra rc L ∧ F = FP sq q pb n ra) ∧ L.SpotLe B
theorem ScanAt.lt {w : World} {sq bm nn : Nat} {m : Sg.Mach} {L : Sg.Live} {F : Nat → Prop} {B : Int} (h : ScanAt w sq bm nn m L F B) : ∀ i, F i → bm ≤ i ∧ i < w.heap.size := by
  obtain ⟨⟨p, q, pb, n, c, ra, rc, h, rfl⟩, _⟩ := h
  exact h.fp
theorem ScanAt.self {w : World} {sq bm nn : Nat} {m : Sg.Mach} {L : Sg.Live} {F : Nat → Prop} {B : Int} (h : ScanAt w sq bm nn m L F B) : F sq := by
  obtain ⟨⟨p, q, pb, n, c, ra, rc, h, rfl⟩, _⟩ := h
  exact .inl rfl
theorem ScAt.chgT {w w' : World} {sq p q nn pb n c : Nat} {ra : Option Addr} {rc : Nat} {L : Sg.Live} {T : Nat → Nat → Prop} (h : ScAt w sq p q nn pb n c ra rc L) (hc : Chg T w w') (hT : ∀ i o, T i o → nn ≤ i ∧ ¬ FP sq q pb n ra i) : ScAt w' sq p q nn pb n c ra rc L := by
  have hs := cell_lt h.c0
  have hsr : ∀ j, ¬ T sq j := fun j t => (hT _ _ t).2 (.inl rfl)
  refine ⟨(hc.cell _ _ hs (hsr _)).trans h.c0, ?_, (hc.cell _ _ hs (hsr _)).trans h.c3, (hc.cell _ _ hs (hsr _)).trans h.c4, (hc.cell _ _ hs (hsr _)).trans h.c5, h.wk.of hc (fun _ _ _ => hsr _), (hc.cell _ _ hs (hsr _)).trans h.c11, (hc.cell _ _ hs (hsr _)).trans h.c12, (hc.cell _ _ hs (hsr _)).trans h.c13, (hc.cell _ _ hs (hsr _)).trans h.c14, h.rest.of hc (fun rb ro j e t => (hT _ _ t).2 (.inr (.inr (.inr ⟨ro, e⟩)))), h.own, h.cap4, h.capN, h.le⟩
  refine h.sp.of hc (fun j t => (hT _ _ t).2 (.inr (.inl rfl))) (fun j => ?_) (hsr _) (hsr _) (fun b j hb _ t => by have := (hT _ _ t).1; omega)
  rcases Nat.eq_zero_or_pos n with g | g
  · exact .inr g
  · exact .inl (fun t => (hT _ _ t).2 (.inr (.inr (.inl ⟨g, rfl⟩))))
theorem ScanAt.chg {w w' : World} {sq bm nn : Nat} {m : Sg.Mach} {L : Sg.Live} {F : Nat → Prop} {B : Int} {T : Nat → Nat → Prop} (hm : m.Ok) (h : ScanAt w sq bm nn m L F B) (hc : Chg T w w') (hT : ∀ i o, T i o → nn ≤ i ∧ ¬ F i) : ScanAt w' sq bm nn m L F B := by
  obtain ⟨⟨p, q, pb, n, c, ra, rc, h, rfl⟩, hs⟩ := h
  have hq := h.bq
  have hn := h.sc.sp.hq
  have hT' : ∀ i o, T i o → bm ≤ i := fun i o t => by have := (hT i o t).1; omega
  exact ⟨⟨p, q, pb, n, c, ra, rc, ⟨h.sc.chgT hc hT, h.ma.chg hm hc hT', h.bq, h.tb.chg hc h.g hT', h.so, h.wk, h.g⟩, rfl⟩, hs⟩
theorem ScanAt.nn {w : World} {sq bm nn : Nat} {m : Sg.Mach} {L : Sg.Live} {F : Nat → Prop} {B : Int} (h : ScanAt w sq bm nn m L F B) : nn ≤ w.heap.size := by
  obtain ⟨⟨p, q, pb, n, c, ra, rc, h, rfl⟩, _⟩ := h
  exact h.sc.sp.nn2

/-- What Next leaves. -/
def onPost (w : World) (sq bm nn : Nat) (m : Sg.Mach) (F : Nat → Prop) (B : Int) (x : (Except Int Sg.Tok) × Sg.Sc) (en : Ending) (w' : World) : Prop :=
  Chg (fun i _ => F i) w w' ∧
  match x with
  | (.ok t, .inl L') => en = .returned (.tuple #[tokV t, errV none]) ∧ ∃ F', ScanAt w' sq bm nn m L' F' (B + 100001) ∧ ∀ i, i < w.heap.size → F' i → F i
  | (.error e, .inr e') => e = e' ∧ en = .returned (.tuple #[tok0, errV (some e)]) ∧ w'.cell? ⟨sq, 14, none⟩ = some (errV (some e))
  | _ => False
theorem scan_next (m : Sg.Mach) (hm : m.Ok) (sq bm nn : Nat) (L : Sg.Live) (F : Nat → Prop) (B : Int) (w : World) (h : ScanAt w sq bm nn m L F B) (hB : B < 900000000000) :
    Calls Tryd.prog 13 #[.pointer (some ⟨sq, 0, none⟩)] w (onPost w sq bm nn m F B (Sg.nextL m L)) := by
  obtain ⟨⟨p, q, pb, n, c, ra, rc, h, rfl⟩, hsp⟩ := h
  have hfp := h.fp
  refine (next_any m hm sq p q nn bm pb n c ra rc L w h).mono ?_
  rintro en w' ⟨h1, h2⟩
  refine ⟨h1, ?_⟩
  have hliv := Sg.nextT_live m (L.nf + 1) L B
  unfold Sg.nextL
  revert h2 hliv
  generalize Sg.nextT m (L.nf + 1) L = x
  intro h2 hliv
  match x, h2, hliv with
  | (.ok t, .inl L'), h2, hliv =>
    obtain ⟨h3, pb', n', c', ra', rc', h4, h5⟩ := h2
    obtain ⟨k1, k2, k3⟩ := hliv t L' hsp h.sc.le h.sc.cap4 rfl
    have hcN := h.sc.capN
    have hT : ∀ i (j : Nat), FP sq q pb n ra i → bm ≤ i := fun i _ t => (hfp i t).1
    obtain ⟨a1, a2, a3⟩ := k1
    refine ⟨h3, _, ⟨⟨p, q, pb', n', c', ra', rc', ⟨h4, h.ma.chg hm h1 hT, h.bq, h.tb.chg h1 h.g hT, ?_, ?_, h.g⟩, rfl⟩, ?_⟩, h5⟩
    · exact ⟨⟨a1.1, by omega⟩, ⟨a2.1, by omega⟩, ⟨a3.1, by omega⟩⟩
    · rw [k2]; exact Sg.Wk.zero_ok m hm _
    · exact ⟨⟨a1.1, by omega⟩, ⟨a2.1, by omega⟩, ⟨a3.1, by omega⟩⟩
  | (.error e, .inr e'), h2, _ => exact h2
  | (.ok _, .inr _), h2, _ => exact h2
  | (.error _, .inl _), h2, _ => exact h2
end Go.Proofs.YtlhokghgicgppaaDoor
