/- (*plain.Source).Read, whole. -/
import Derived.Test.YtlhokghgicgppaaDoorSrcRead3
set_option linter.unusedSimpArgs false
set_option linter.unusedVariables false
namespace Go.Proofs.YtlhokghgicgppaaDoor
open Go.RowKit Go.Extern

/-- What a Read may turn. -/
abbrev rdT (q pb po most : Nat) : Nat → Nat → Prop := fun i j => i = q ∨ (i = pb ∧ po ≤ j ∧ j < po + most)
def Apart (la : Option Addr) (q pb nn : Nat) : Prop := ∀ b o, la = some ⟨b, o, none⟩ → b ≠ q ∧ b ≠ pb ∧ b < nn

theorem PcAt.of {w w' : World} {la : Option Addr} {l : List Sg.Pc} (h : PcAt w la l) (hc : ∀ b o j v, la = some ⟨b, o, none⟩ → w.cell? ⟨b, j, none⟩ = some v → w'.cell? ⟨b, j, none⟩ = some v) : PcAt w' la l := by
  rcases h with h | ⟨b, o, rfl, h⟩
  · exact .inl h
  · exact .inr ⟨b, o, rfl, fun i hi => ⟨hc b o _ _ rfl (h i hi).1, hc b o _ _ rfl (h i hi).2.1, hc b o _ _ rfl (h i hi).2.2⟩⟩
theorem PcAt.setCell {w : World} {la : Option Addr} {l : List Sg.Pc} (h : PcAt w la l) {q pb nn : Nat} (hs : Apart la q pb nn) (j : Nat) (v : Value) : PcAt (w.setCell ⟨q, j, none⟩ v) la l :=
  h.of fun b o j' v' e hc => (World.cell?_setCell_other _ _ _ _ (fun e2 => (hs b o e).1 (congrArg Addr.block e2).symm)).trans hc
theorem SrcAt.set1 {w : World} {q : Nat} {la : Option Addr} {lc : Nat} {r : Int} {s : Sg.Src} (h : SrcAt w q la lc r s) {pb nn : Nat} (hs : Apart la q pb nn) (x : Nat) : SrcAt (w.setCell ⟨q, 1, none⟩ (.int .i64 x)) q la lc r { s with at_ := x } :=
  ⟨(World.cell?_setCell_other _ _ _ _ (by simp)).trans h.c0, World.cell?_setCell_same _ _ _ h.c1, (World.cell?_setCell_other _ _ _ _ (by simp)).trans h.c2, (World.cell?_setCell_other _ _ _ _ (by simp)).trans h.c3, fun j => by rw [World.frozen?_setCell]; exact h.fr j, h.pcs.setCell hs _ _, h.cap⟩
theorem SrcAt.set2 {w : World} {q : Nat} {la : Option Addr} {lc : Nat} {r : Int} {s : Sg.Src} (h : SrcAt w q la lc r s) {pb nn : Nat} (hs : Apart la q pb nn) (x : Nat) : SrcAt (w.setCell ⟨q, 2, none⟩ (.int .i64 x)) q la lc r { s with empty := x } :=
  ⟨(World.cell?_setCell_other _ _ _ _ (by simp)).trans h.c0, (World.cell?_setCell_other _ _ _ _ (by simp)).trans h.c1, World.cell?_setCell_same _ _ _ h.c2, (World.cell?_setCell_other _ _ _ _ (by simp)).trans h.c3, fun j => by rw [World.frozen?_setCell]; exact h.fr j, h.pcs.setCell hs _ _, h.cap⟩
theorem SrcAt.set3 {w : World} {q : Nat} {la : Option Addr} {lc : Nat} {r : Int} {s : Sg.Src} (h : SrcAt w q la lc r s) {pb nn : Nat} (hs : Apart la q pb nn) (x : Int) : SrcAt (w.setCell ⟨q, 3, none⟩ (.int .i64 x)) q la lc x s :=
  ⟨(World.cell?_setCell_other _ _ _ _ (by simp)).trans h.c0, (World.cell?_setCell_other _ _ _ _ (by simp)).trans h.c1, (World.cell?_setCell_other _ _ _ _ (by simp)).trans h.c2, World.cell?_setCell_same _ _ _ h.c3, fun j => by rw [World.frozen?_setCell]; exact h.fr j, h.pcs.setCell hs _ _, h.cap⟩
theorem SrcAt.set0 {w : World} {q : Nat} {la : Option Addr} {lc : Nat} {r : Int} {s : Sg.Src} (h : SrcAt w q la lc r s) {pb nn : Nat} {lb : Option Addr} {ld : Nat} {l : List Sg.Pc} (hs : Apart lb q pb nn) (hp : PcAt w lb l) (hd : l.length ≤ ld) : SrcAt (w.setCell ⟨q, 0, none⟩ (.slice lb l.length ld)) q lb ld r { s with l := l } :=
  ⟨World.cell?_setCell_same _ _ _ h.c0, (World.cell?_setCell_other _ _ _ _ (by simp)).trans h.c1, (World.cell?_setCell_other _ _ _ _ (by simp)).trans h.c2, (World.cell?_setCell_other _ _ _ _ (by simp)).trans h.c3, fun j => by rw [World.frozen?_setCell]; exact h.fr j, hp.setCell hs _ _, hd⟩
theorem SrcAt.of {w w' : World} {q : Nat} {la : Option Addr} {lc : Nat} {r : Int} {s : Sg.Src} (h : SrcAt w q la lc r s) (hc : ∀ b j v, (b = q ∨ ∃ o, la = some ⟨b, o, none⟩) → w.cell? ⟨b, j, none⟩ = some v → w'.cell? ⟨b, j, none⟩ = some v) (hf : ∀ j, w'.frozen? ⟨q, j, none⟩ = w.frozen? ⟨q, j, none⟩) : SrcAt w' q la lc r s :=
  ⟨hc _ _ _ (.inl rfl) h.c0, hc _ _ _ (.inl rfl) h.c1, hc _ _ _ (.inl rfl) h.c2, hc _ _ _ (.inl rfl) h.c3, fun j => (hf j).trans (h.fr j), h.pcs.of fun b o _ _ e hx => hc _ _ _ (.inr ⟨o, e⟩) hx, h.cap⟩
theorem SrcAt.drewN {w : World} {q : Nat} {la : Option Addr} {lc : Nat} {r : Int} {s : Sg.Src} (h : SrcAt w q la lc r s) (n : Nat) : SrcAt (w.drewN n) q la lc r s := h.of (fun _ _ _ _ hx => hx) (fun _ => rfl)
theorem SrcAt.below {w w' : World} {q : Nat} {la : Option Addr} {lc : Nat} {r : Int} {s : Sg.Src} (h : SrcAt w q la lc r s) (hb : Below w.heap.size w w') : SrcAt w' q la lc r s :=
  h.of (fun b j _ _ hx => (hb.cell (p := ⟨b, j, none⟩) (cell_lt hx)).trans hx) (fun j => hb.frozen (p := ⟨q, j, none⟩) (cell_lt h.c0))
theorem SrcAt.alloc {w : World} {q : Nat} {la : Option Addr} {lc : Nat} {r : Int} {s : Sg.Src} (h : SrcAt w q la lc r s) (o : Obj) : SrcAt (w.alloc o) q la lc r s := h.below ((Below.refl _ _).alloc (Nat.le_refl _) _)
theorem SrcAt.setCells {w : World} {q : Nat} {la : Option Addr} {lc : Nat} {r : Int} {s : Sg.Src} (h : SrcAt w q la lc r s) {pb nn : Nat} (hs : Apart la q pb nn) (hpq : pb ≠ q) (po : Nat) (vs : List Value) : SrcAt (w.setCells pb po vs) q la lc r s :=
  h.of (fun b j v hb hx => (World.cell?_setCells_out pb vs po w ⟨b, j, none⟩ (fun e => by
    rcases hb with hb | ⟨o, hb⟩
    · exact absurd (e.symm.trans hb) hpq
    · exact absurd e (hs b o hb).2.1)).trans hx) (fun j => World.frozen?_setCells _ _ _ _ _)
theorem SrcAt.rdW {w : World} {q : Nat} {la : Option Addr} {lc : Nat} {r : Int} {s : Sg.Src} (h : SrcAt w q la lc r s) {pb nn : Nat} (hs : Apart la q pb nn) (c : Sg.Pc) : SrcAt (rdW w q r c) q la lc (wrap64 (r + 1)) s :=
  (h.set3 hs _).alloc _
theorem Chg.setCells {T : Nat → Nat → Prop} {a : World} (b : Nat) : ∀ (vs : List Value) (o : Nat) {w : World}, Chg T a w → (∀ j, j < vs.length → T b (o + j)) → Chg T a (w.setCells b o vs)
  | [], _, _, h, _ => h
  | v :: r, o, w, h, hT => by
    rw [World.setCells]
    exact Chg.setCells b r (o + 1) (h.setCell (hT 0 (by simp)) v) (fun j hj => by
      have := hT (j + 1) (by simp; omega); rwa [show o + (j + 1) = o + 1 + j by omega] at this)
theorem Chg.rdW {T : Nat → Nat → Prop} {w : World} {q : Nat} (hT : T q 3) (r : Int) (c : Sg.Pc) : Chg T w (rdW w q r c) := ((Chg.refl _ _).setCell hT _).alloc _

/-- How a Read ends. -/
def readEnd (pb po most : Nat) (g : Sg.Got) (en : Ending) (w' : World) : Prop :=
  match g with
  | .inl (b, er) => en = .returned (.tuple #[.int .i64 b.length, errV er]) ∧ ∀ j, j < b.length → w'.cell? ⟨pb, po + j, none⟩ = some (.int .u8 (b.getD j 0).toNat)
  | .inr none => en = .returned (.tuple #[.int .i64 (-1), errV none])
  | .inr (some false) => en = .returned (.tuple #[.int .i64 ((most : Int) + 1), errV none])
  | .inr (some true) => ∃ v, en = .panicked [{ v := .iface 9 v, recovered := false }]
def SrcOk (w : World) (q pb nn : Nat) (s : Sg.Src) : Prop := ∃ la lc r, SrcAt w q la lc r s ∧ Apart la q pb nn
/-- Small enough. -/
def Small (s : Sg.Src) : Prop := s.at_ < 1000000000 ∧ s.empty < 1000000000 ∧ ∀ c ∈ s.l, c.text.length < 1000000000 ∧ c.n < 1000000000
structure ReadPost (w : World) (q pb nn po most : Nat) (x : Sg.Got × Sg.Src) (en : Ending) (w' : World) : Prop where
  ends : readEnd pb po most x.1 en w'
  src : SrcOk w' q pb nn x.2
  chg : Chg (rdT q pb po most) w w'

theorem readEnd_shape {pb po most : Nat} {g : Sg.Got} {en : Ending} {w' : World} (h : readEnd pb po most g en w') : (∃ v1 v2, en = .returned (.tuple #[v1, v2])) ∨ ∃ ch, en = .panicked ch := by
  match g, h with
  | .inl (b, er), h => exact .inl ⟨_, _, h.1⟩
  | .inr none, h => exact .inl ⟨_, _, h⟩
  | .inr (some false), h => exact .inl ⟨_, _, h⟩
  | .inr (some true), h => obtain ⟨v, h⟩ := h; exact .inr ⟨_, h⟩
set_option maxHeartbeats 1000000 in
theorem srcRead_any (q pb nn po most cap : Nat) (hpq : pb ≠ q) (hm : 1 ≤ most) (hM : most < 1000000000) : ∀ (l : List Sg.Pc) (w : World) (a e : Nat), SrcOk w q pb nn ⟨l, a, e⟩ → Small ⟨l, a, e⟩ →
    (∀ j, j < most → (w.cell? ⟨pb, po + j, none⟩).isSome = true) → (∀ j, w.frozen? ⟨pb, j, none⟩ = false) →
    Calls Tryd.prog 94 #[.pointer (some ⟨q, 0, none⟩), .slice (some ⟨pb, po, none⟩) most cap] w (ReadPost w q pb nn po most (Sg.srcRead most ⟨l, a, e⟩))
  | [], w, a, e, ⟨la, lc, r, h, hs⟩, _, _, _ => by
    rw [Sg.srcRead_nil]
    refine (read_end w q la lc r a e h _).mono ?_
    rintro en w' ⟨rfl, rfl⟩
    exact ⟨⟨rfl, fun j hj => by simp at hj⟩, ⟨la, lc, _, h.set3 hs _, hs⟩, (Chg.refl _ _).setCell (.inl rfl) _⟩
  | c :: l, w, a, e, ⟨la, lc, r, h, hs⟩, hsm, hpc, hpf => by
    obtain ⟨ha, he, hall⟩ := hsm
    have hcs := hall c (by simp)
    rcases h.pcs with hx | ⟨b, o, rfl, hpcs⟩
    · cases hx
    have hsp := hs b o rfl
    have hp0 := hpcs 0 (by simp)
    simp only [Nat.zero_mul, Nat.add_zero, List.getElem_cons_zero] at hp0
    rw [Sg.srcRead_cons]
    by_cases c1 : a < c.text.length
    · rw [if_pos c1]
      refine (read_bytes w q b o lc r c l a e h c1 hcs.1 hsp.1 hp0.1 hp0.2.1 hp0.2.2 pb po most cap hpq (fun x => hsp.2.1 x.symm) hpc hpf hm hM).mono ?_
      rintro en w' ⟨rfl, W1, rfl, n, rfl⟩
      refine ⟨⟨rfl, fun j hj => ?_⟩, ⟨_, _, _, (((((h.set3 hs _).alloc _).setCells hs hpq po _).set1 hs _).drewN n), hs⟩, ?_⟩
      · rw [World.cell?_drewN, World.cell?_setCell_other _ _ _ _ (by simp <;> omega), World.cell?_setCells_in pb _ po _ ?_ j (by unfold bytesV; simpa using hj)]
        · unfold bytesV
          simp only [List.getElem_map, List.getD_eq_getElem?_getD, List.getElem?_eq_getElem hj, Option.getD_some]
        · intro j' hj'
          have hj2 : j' < most := by unfold bytesV at hj'; simp at hj'; omega
          have hc' := hpc j' hj2
          obtain ⟨v, hv⟩ := Option.isSome_iff_exists.1 hc'
          rw [World.cell?_alloc_lt _ _ ⟨pb, po + j', none⟩ (by have := cell_lt hv; simp; omega), World.cell?_setCell_other _ _ _ _ (by simp <;> omega)]
          exact hc'
      · refine Chg.drewN (Chg.setCell (Chg.setCells pb _ po (((Chg.refl _ _).setCell (.inl rfl) _).alloc _) (fun j hj => .inr ⟨rfl, by omega, ?_⟩)) (.inl rfl) _) n
        unfold bytesV at hj; simp at hj; omega
    · rw [if_neg c1]
      have c1' : c.text.length ≤ a := by omega
      have hrd : SrcAt (rdW w q r c) q (some ⟨b, o, none⟩) lc (wrap64 (r + 1)) ⟨c :: l, a, e⟩ := h.rdW hs c
      have hch : Chg (rdT q pb po most) w (rdW w q r c) := Chg.rdW (.inl rfl) r c
      have fin : ∀ (g : Sg.Got) (en : Ending) (n : Nat), readEnd pb po most g en ((rdW w q r c).drewN n) → ReadPost w q pb nn po most (g, ⟨c :: l, a, e⟩) en ((rdW w q r c).drewN n) := fun g en n hg =>
        ⟨hg, ⟨_, _, _, hrd.drewN n, hs⟩, hch.drewN n⟩
      by_cases c2 : (e : Int) < c.n
      · rw [if_pos c2]
        refine (read_empty w q b o lc r c l a e h c1' ha he hsp.1 hp0.1 hp0.2.1 hp0.2.2 pb po most cap c2).mono ?_
        rintro en w' ⟨rfl, n, rfl⟩
        exact ⟨⟨rfl, fun j hj => by simp at hj⟩, ⟨_, _, _, (hrd.set2 hs (e + 1)).drewN n, hs⟩, (hch.setCell (.inl rfl) _).drewN n⟩
      · rw [if_neg c2]
        have c2' : c.n ≤ (e : Int) := by omega
        by_cases k1 : c.kind = 1
        · rw [if_pos (.inl k1)]
          refine (read_one w q b o lc r c l a e h c1' ha he hsp.1 hp0.1 hp0.2.1 hp0.2.2 pb po most cap hM c2' k1).mono ?_
          rintro en w' ⟨rfl, n, rfl⟩
          exact fin _ _ n ⟨rfl, fun j hj => by simp at hj⟩
        by_cases k5 : c.kind = 5
        · rw [if_pos (.inr k5)]
          refine (read_five w q b o lc r c l a e h c1' ha he hsp.1 hp0.1 hp0.2.1 hp0.2.2 pb po most cap hM c2' k5).mono ?_
          rintro en w' ⟨rfl, n, rfl⟩
          exact fin _ _ n ⟨rfl, fun j hj => by simp at hj⟩
        rw [if_neg (by omega)]
        by_cases k2 : c.kind = 2
        · rw [if_pos k2]
          refine (read_below w q b o lc r c l a e h c1' ha he hsp.1 hp0.1 hp0.2.1 hp0.2.2 pb po most cap hM c2' k2).mono ?_
          rintro en w' ⟨rfl, n, rfl⟩
          exact fin _ _ n rfl
        rw [if_neg k2]
        by_cases k3 : c.kind = 3
        · rw [if_pos k3]
          refine (read_above w q b o lc r c l a e h c1' ha he hsp.1 hp0.1 hp0.2.1 hp0.2.2 pb po most cap hM c2' k3).mono ?_
          rintro en w' ⟨rfl, n, rfl⟩
          exact fin _ _ n rfl
        rw [if_neg k3]
        by_cases k4 : c.kind = 4
        · rw [if_pos k4]
          refine (read_throws w q b o lc r c l a e h c1' ha he hsp.1 hp0.1 hp0.2.1 hp0.2.2 pb po most cap hM c2' k4).mono ?_
          rintro en w' ⟨⟨v, rfl⟩, n, rfl⟩
          exact fin _ _ n ⟨v, rfl⟩
        rw [if_neg k4]
        have hcap := h.cap
        simp only [List.length_cons] at hcap
        have hl : ∃ lb ld, ((1 < lc ∧ lb = o + 3 ∧ ld = lc - 1) ∨ (lc = 1 ∧ lb = o ∧ ld = 0)) ∧ PcAt w (some ⟨b, lb, none⟩) l ∧ l.length ≤ ld := by
          by_cases q1 : 1 < lc
          · refine ⟨_, _, .inl ⟨q1, rfl, rfl⟩, .inr ⟨b, o + 3, rfl, fun i hi => ?_⟩, by omega⟩
            have := hpcs (i + 1) (by simp; omega)
            simp only [List.getElem_cons_succ] at this
            rw [show o + 3 + i * 3 = o + (i + 1) * 3 by omega]
            exact this
          · exact ⟨_, _, .inr ⟨by omega, rfl, rfl⟩, .inl (List.eq_nil_of_length_eq_zero (by omega)), by omega⟩
        obtain ⟨lb, ld, hl, hpl, hld⟩ := hl
        have hsl : Apart (some ⟨b, lb, none⟩) q pb nn := fun b' o' e' => by cases e'; exact hsp
        have hpop : ∀ n, SrcAt (popW w q r c (.slice (some ⟨b, lb, none⟩) l.length ld) n) q (some ⟨b, lb, none⟩) ld (wrap64 (wrap64 (r + 1) - 1)) ⟨l, 0, 0⟩ := fun n =>
          ((((hrd.drewN n).set0 hsl ((hpl.setCell hsl 3 _).of (fun b' _ j v _ hx => by
            show (World.alloc _ _).cell? _ = _
            rw [World.cell?_alloc_lt _ _ ⟨b', j, none⟩ (cell_lt hx)]; exact hx)) hld).set1 hsl 0).set2 hsl 0).set3 hsl _
        have hchp : ∀ n, Chg (rdT q pb po most) w (popW w q r c (.slice (some ⟨b, lb, none⟩) l.length ld) n) := fun n =>
          ((((hch.drewN n).setCell (.inl rfl) _).setCell (.inl rfl) _).setCell (.inl rfl) _).setCell (.inl rfl) _
        have hcell : ∀ n j, (popW w q r c (.slice (some ⟨b, lb, none⟩) l.length ld) n).frozen? ⟨pb, j, none⟩ = w.frozen? ⟨pb, j, none⟩ := fun n j => by
          unfold popW rdW
          obtain ⟨v, hv⟩ := Option.isSome_iff_exists.1 (hpc 0 (by omega))
          rw [World.frozen?_setCell, World.frozen?_setCell, World.frozen?_setCell, World.frozen?_setCell, World.frozen?_drewN, World.frozen?_alloc_old _ _ ⟨pb, j, none⟩ (by have := cell_lt hv; simp; omega), World.frozen?_setCell]
        refine Calls.mono (read_pop w q b o lc r c l a e h c1' ha he hsp.1 hp0.1 hp0.2.1 hp0.2.2 pb po most cap hM c2' (beq_eq_false_iff_ne.2 k1) (beq_eq_false_iff_ne.2 k2) (beq_eq_false_iff_ne.2 k3) (beq_eq_false_iff_ne.2 k4) (beq_eq_false_iff_ne.2 k5) lb ld hl
          (fun v1 v2 w' => ReadPost w q pb nn po most (Sg.srcRead most ⟨l, 0, 0⟩) (.returned (.tuple #[v1, v2])) w')
          (fun ch w' => ReadPost w q pb nn po most (Sg.srcRead most ⟨l, 0, 0⟩) (.panicked ch) w') ?_) ?_
        · intro n
          have ih := srcRead_any q pb nn po most cap hpq hm hM l (popW w q r c (.slice (some ⟨b, lb, none⟩) l.length ld) n) 0 0 ⟨_, _, _, hpop n, hsl⟩ ⟨by show 0 < 1000000000; omega, by show 0 < 1000000000; omega, fun c' hc' => hall c' (List.mem_cons_of_mem _ hc')⟩
            (fun j hj => by
              have hc' := hpc j hj
              obtain ⟨v, hv⟩ := Option.isSome_iff_exists.1 hc'
              unfold popW rdW
              rw [World.cell?_setCell_other _ _ _ _ (by simp <;> omega), World.cell?_setCell_other _ _ _ _ (by simp <;> omega), World.cell?_setCell_other _ _ _ _ (by simp <;> omega), World.cell?_setCell_other _ _ _ _ (by simp <;> omega), World.cell?_drewN, World.cell?_alloc_lt _ _ ⟨pb, po + j, none⟩ (by have := cell_lt hv; simp; omega), World.cell?_setCell_other _ _ _ _ (by simp <;> omega)]
              exact hc')
            (fun j => (hcell n j).trans (hpf j))
          simp only [List.length_cons, Nat.add_sub_cancel]
          refine ih.mono ?_
          intro en w' hp
          have hp' : ReadPost w q pb nn po most (Sg.srcRead most ⟨l, 0, 0⟩) en w' := ⟨hp.ends, hp.src, (hchp n).trans hp.chg⟩
          rcases readEnd_shape hp.ends with ⟨v1, v2, rfl⟩ | ⟨ch, rfl⟩
          · exact .inl ⟨v1, v2, rfl, hp'⟩
          · exact .inr ⟨ch, rfl, hp'⟩
        · rintro en w' (⟨v1, v2, rfl, hp⟩ | ⟨ch, rfl, hp⟩)
          · exact hp
          · exact hp
end Go.Proofs.YtlhokghgicgppaaDoor
