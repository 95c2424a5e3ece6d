/- (*plain.Source).Read, whole. -/
/- append of bytes to bytes. -/
/- Rows of a call's own; append to them. -/
/- The layout of places in memory; the first rule of a set; what lies behind a set. -/
/- The reader of a rule, in memory. -/
/- The library's sort at runes: rows that are sorted in place; Less; insertionSortOrdered. -/
import Derived.Test.YtlhokghgicgppaaGreatDoorSrcRead3
import Derived.Test.YtlhokghgicgppaaGreatDoorFull
import Derived.Test.YtlhokghgicgppaaGreatDoorIsEnd
import Derived.Deep.Upon
import Derived.OwnWalk
import Derived.OwnWalkIn
import Derived.Test.YtlhokghgicgppaaGreatDoorSets
import Derived.Sort.AssemblyPlain
import Derived.Sort.Row
import Derived.WalkKit
import Derived.BigGuard
import Derived.BigCall
import Derived.CellFam
import Derived.Deep.Draws
import Derived.Deep.QuietTactic
import Derived.BigQuiet
set_option linter.unusedSimpArgs false
set_option linter.unusedVariables false
set_option maxRecDepth 100000
set_option maxHeartbeats 4000000
namespace Go.Proofs.YtlhokghgicgppaaGreatDoor
open Go.RowKit Go.Extern
abbrev rdT (q pb po most : Nat) : Nat → Nat → Prop := fun i j => i = q ∨ (i = pb ∧ po ≤ j ∧ j < po + most)
def Apart (la : Option Addr) (q pb nn : Nat) : Prop := ∀ b o, la = some ⟨b, o, none⟩ → b ≠ q ∧ b ≠ pb ∧ b < nn
theorem PcAt.of {w w' : World} {la : Option Addr} {l : List Sg.Pc} (h : PcAt w la l) (hc : ∀ b o j v, la = some ⟨b, o, none⟩ → w.cell? ⟨b, j, none⟩ = some v → w'.cell? ⟨b, j, none⟩ = some v) : PcAt w' la l := by
  rcases h with h | ⟨b, o, rfl, h⟩
  · exact .inl h
  · exact .inr ⟨b, o, rfl, fun i hi => ⟨hc b o _ _ rfl (h i hi).1, hc b o _ _ rfl (h i hi).2.1, hc b o _ _ rfl (h i hi).2.2⟩⟩
theorem PcAt.setCell {w : World} {la : Option Addr} {l : List Sg.Pc} (h : PcAt w la l) {q pb nn : Nat} (hs : Apart la q pb nn) (j : Nat) (v : Value) : PcAt (w.setCell ⟨q, j, none⟩ v) la l :=
  h.of fun b o j' v' e hc => (World.cell?_setCell_other _ _ _ _ (fun e2 => (hs b o e).1 (congrArg Addr.block e2).symm)).trans hc
theorem SrcAt.set1 {w : World} {q : Nat} {la : Option Addr} {lc : Nat} {r : Int} {s : Sg.Src} (h : SrcAt w q la lc r s) {pb nn : Nat} (hs : Apart la q pb nn) (x : Nat) : SrcAt (w.setCell ⟨q, 1, none⟩ (.int .i64 x)) q la lc r { s with at_ := x } :=
  ⟨(World.cell?_setCell_other _ _ _ _ (by simp)).trans h.c0, World.cell?_setCell_same _ _ _ h.c1, (World.cell?_setCell_other _ _ _ _ (by simp)).trans h.c2, (World.cell?_setCell_other _ _ _ _ (by simp)).trans h.c3, fun j => by rw [World.frozen?_setCell]; exact h.fr j, h.pcs.setCell hs _ _, h.cap⟩
theorem SrcAt.set2 {w : World} {q : Nat} {la : Option Addr} {lc : Nat} {r : Int} {s : Sg.Src} (h : SrcAt w q la lc r s) {pb nn : Nat} (hs : Apart la q pb nn) (x : Nat) : SrcAt (w.setCell ⟨q, 2, none⟩ (.int .i64 x)) q la lc r { s with empty := x } :=
  ⟨(World.cell?_setCell_other _ _ _ _ (by simp)).trans h.c0, (World.cell?_setCell_other _ _ _ _ (by simp)).trans h.c1, World.cell?_setCell_same _ _ _ h.c2, (World.cell?_setCell_other _ _ _ _ (by simp)).trans h.c3, fun j => by rw [World.frozen?_setCell]; exact h.fr j, h.pcs.setCell hs _ _, h.cap⟩
theorem SrcAt.set3 {w : World} {q : Nat} {la : Option Addr} {lc : Nat} {r : Int} {s : Sg.Src} (h : SrcAt w q la lc r s) {pb nn : Nat} (hs : Apart la q pb nn) (x : Int) : SrcAt (w.setCell ⟨q, 3, none⟩ (.int .i64 x)) q la lc x s :=
  ⟨(World.cell?_setCell_other _ _ _ _ (by simp)).trans h.c0, (World.cell?_setCell_other _ _ _ _ (by simp)).trans h.c1, (World.cell?_setCell_other _ _ _ _ (by simp)).trans h.c2, World.cell?_setCell_same _ _ _ h.c3, fun j => by rw [World.frozen?_setCell]; exact h.fr j, h.pcs.setCell hs _ _, h.cap⟩
theorem SrcAt.set0 {w : World} {q : Nat} {la : Option Addr} {lc : Nat} {r : Int} {s : Sg.Src} (h : SrcAt w q la lc r s) {pb nn : Nat} {lb : Option Addr} {ld : Nat} {l : List Sg.Pc} (hs : Apart lb q pb nn) (hp : PcAt w lb l) (hd : l.length ≤ ld) : SrcAt (w.setCell ⟨q, 0, none⟩ (.slice lb l.length ld)) q lb ld r { s with l := l } :=
  ⟨World.cell?_setCell_same _ _ _ h.c0, (World.cell?_setCell_other _ _ _ _ (by simp)).trans h.c1, (World.cell?_setCell_other _ _ _ _ (by simp)).trans h.c2, (World.cell?_setCell_other _ _ _ _ (by simp)).trans h.c3, fun j => by rw [World.frozen?_setCell]; exact h.fr j, hp.setCell hs _ _, hd⟩
theorem SrcAt.of {w w' : World} {q : Nat} {la : Option Addr} {lc : Nat} {r : Int} {s : Sg.Src} (h : SrcAt w q la lc r s) (hc : ∀ b j v, (b = q ∨ ∃ o, la = some ⟨b, o, none⟩) → w.cell? ⟨b, j, none⟩ = some v → w'.cell? ⟨b, j, none⟩ = some v) (hf : ∀ j, w'.frozen? ⟨q, j, none⟩ = w.frozen? ⟨q, j, none⟩) : SrcAt w' q la lc r s :=
  ⟨hc _ _ _ (.inl rfl) h.c0, hc _ _ _ (.inl rfl) h.c1, hc _ _ _ (.inl rfl) h.c2, hc _ _ _ (.inl rfl) h.c3, fun j => (hf j).trans (h.fr j), h.pcs.of fun b o _ _ e hx => hc _ _ _ (.inr ⟨o, e⟩) hx, h.cap⟩
theorem SrcAt.drewN {w : World} {q : Nat} {la : Option Addr} {lc : Nat} {r : Int} {s : Sg.Src} (h : SrcAt w q la lc r s) (n : Nat) : SrcAt (w.drewN n) q la lc r s := h.of (fun _ _ _ _ hx => hx) (fun _ => rfl)
theorem SrcAt.below {w w' : World} {q : Nat} {la : Option Addr} {lc : Nat} {r : Int} {s : Sg.Src} (h : SrcAt w q la lc r s) (hb : Below w.heap.size w w') : SrcAt w' q la lc r s :=
  h.of (fun b j _ _ hx => (hb.cell (p := ⟨b, j, none⟩) (cell_lt hx)).trans hx) (fun j => hb.frozen (p := ⟨q, j, none⟩) (cell_lt h.c0))
theorem SrcAt.alloc {w : World} {q : Nat} {la : Option Addr} {lc : Nat} {r : Int} {s : Sg.Src} (h : SrcAt w q la lc r s) (o : Obj) : SrcAt (w.alloc o) q la lc r s := h.below ((Below.refl _ _).alloc (Nat.le_refl _) _)
theorem SrcAt.setCells {w : World} {q : Nat} {la : Option Addr} {lc : Nat} {r : Int} {s : Sg.Src} (h : SrcAt w q la lc r s) {pb nn : Nat} (hs : Apart la q pb nn) (hpq : pb ≠ q) (po : Nat) (vs : List Value) : SrcAt (w.setCells pb po vs) q la lc r s :=
  h.of (fun b j v hb hx => (World.cell?_setCells_out pb vs po w ⟨b, j, none⟩ (fun e => by
    rcases hb with hb | ⟨o, hb⟩
    · exact absurd (e.symm.trans hb) hpq
    · exact absurd e (hs b o hb).2.1)).trans hx) (fun j => World.frozen?_setCells _ _ _ _ _)
theorem SrcAt.rdW {w : World} {q : Nat} {la : Option Addr} {lc : Nat} {r : Int} {s : Sg.Src} (h : SrcAt w q la lc r s) {pb nn : Nat} (hs : Apart la q pb nn) (c : Sg.Pc) : SrcAt (rdW w q r c) q la lc (wrap64 (r + 1)) s :=
  (h.set3 hs _).alloc _
theorem Chg.setCells {T : Nat → Nat → Prop} {a : World} (b : Nat) : ∀ (vs : List Value) (o : Nat) {w : World}, Chg T a w → (∀ j, j < vs.length → T b (o + j)) → Chg T a (w.setCells b o vs)
  | [], _, _, h, _ => h
  | v :: r, o, w, h, hT => by
    rw [World.setCells]
    exact Chg.setCells b r (o + 1) (h.setCell (hT 0 (by simp)) v) (fun j hj => by
      have := hT (j + 1) (by simp; omega); rwa [show o + (j + 1) = o + 1 + j by omega] at this)
theorem Chg.rdW {T : Nat → Nat → Prop} {w : World} {q : Nat} (hT : T q 3) (r : Int) (c : Sg.Pc) : Chg T w (rdW w q r c) := ((Chg.refl _ _).setCell hT _).alloc _
def readEnd (pb po most : Nat) (g : Sg.Got) (en : Ending) (w' : World) : Prop :=
  match g with
  | .inl (b, er) => en = .returned (.tuple #[.int .i64 b.length, errV er]) ∧ ∀ j, j < b.length → w'.cell? ⟨pb, po + j, none⟩ = some (.int .u8 (b.getD j 0).toNat)
  | .inr none => en = .returned (.tuple #[.int .i64 (-1), errV none])
  | .inr (some false) => en = .returned (.tuple #[.int .i64 ((most : Int) + 1), errV none])
  | .inr (some true) => ∃ v, en = .panicked [{ v := .iface 9 v, recovered := false }]
def SrcOk (w : World) (q pb nn : Nat) (s : Sg.Src) : Prop := ∃ la lc r, SrcAt w q la lc r s ∧ Apart la q pb nn
def Small (s : Sg.Src) : Prop := s.at_ < 1000000000 ∧ s.empty < 1000000000 ∧ ∀ c ∈ s.l, c.text.length < 1000000000 ∧ c.n < 1000000000
structure ReadPost (w : World) (q pb nn po most : Nat) (x : Sg.Got × Sg.Src) (en : Ending) (w' : World) : Prop where
  ends : readEnd pb po most x.1 en w'
  src : SrcOk w' q pb nn x.2
  chg : Chg (rdT q pb po most) w w'
theorem readEnd_shape {pb po most : Nat} {g : Sg.Got} {en : Ending} {w' : World} (h : readEnd pb po most g en w') : (∃ v1 v2, en = .returned (.tuple #[v1, v2])) ∨ ∃ ch, en = .panicked ch := by
  match g, h with
  | .inl (b, er), h => exact .inl ⟨_, _, h.1⟩
  | .inr none, h => exact .inl ⟨_, _, h⟩
  | .inr (some false), h => exact .inl ⟨_, _, h⟩
  | .inr (some true), h => obtain ⟨v, h⟩ := h; exact .inr ⟨_, h⟩
theorem srcRead_any (q pb nn po most cap : Nat) (hpq : pb ≠ q) (hm : 1 ≤ most) (hM : most < 1000000000) : ∀ (l : List Sg.Pc) (w : World) (a e : Nat), SrcOk w q pb nn ⟨l, a, e⟩ → Small ⟨l, a, e⟩ →
    (∀ j, j < most → (w.cell? ⟨pb, po + j, none⟩).isSome = true) → (∀ j, w.frozen? ⟨pb, j, none⟩ = false) →
    Calls Tryz.prog 266 #[.pointer (some ⟨q, 0, none⟩), .slice (some ⟨pb, po, none⟩) most cap] w (ReadPost w q pb nn po most (Sg.srcRead most ⟨l, a, e⟩))
  | [], w, a, e, ⟨la, lc, r, h, hs⟩, _, _, _ => by
    rw [Sg.srcRead_nil]
    refine (read_end w q la lc r a e h _).mono ?_
    rintro en w' ⟨rfl, rfl⟩
    exact ⟨⟨rfl, fun j hj => by simp at hj⟩, ⟨la, lc, _, h.set3 hs _, hs⟩, (Chg.refl _ _).setCell (.inl rfl) _⟩
  | c :: l, w, a, e, ⟨la, lc, r, h, hs⟩, hsm, hpc, hpf => by
    obtain ⟨ha, he, hall⟩ := hsm
    have hcs := hall c (by simp)
    rcases h.pcs with hx | ⟨b, o, rfl, hpcs⟩
    · cases hx
    have hsp := hs b o rfl
    have hp0 := hpcs 0 (by simp)
    simp only [Nat.zero_mul, Nat.add_zero, List.getElem_cons_zero] at hp0
    rw [Sg.srcRead_cons]
    by_cases c1 : a < c.text.length
    · rw [if_pos c1]
      refine (read_bytes w q b o lc r c l a e h c1 hcs.1 hsp.1 hp0.1 hp0.2.1 hp0.2.2 pb po most cap hpq (fun x => hsp.2.1 x.symm) hpc hpf hm hM).mono ?_
      rintro en w' ⟨rfl, W1, rfl, n, rfl⟩
      refine ⟨⟨rfl, fun j hj => ?_⟩, ⟨_, _, _, (((((h.set3 hs _).alloc _).setCells hs hpq po _).set1 hs _).drewN n), hs⟩, ?_⟩
      · rw [World.cell?_drewN, World.cell?_setCell_other _ _ _ _ (by simp <;> omega), World.cell?_setCells_in pb _ po _ ?_ j (by unfold bytesV; simpa using hj)]
        · unfold bytesV
          simp only [List.getElem_map, List.getD_eq_getElem?_getD, List.getElem?_eq_getElem hj, Option.getD_some]
        · intro j' hj'
          have hj2 : j' < most := by unfold bytesV at hj'; simp at hj'; omega
          have hc' := hpc j' hj2
          obtain ⟨v, hv⟩ := Option.isSome_iff_exists.1 hc'
          rw [World.cell?_alloc_lt _ _ ⟨pb, po + j', none⟩ (by have := cell_lt hv; simp; omega), World.cell?_setCell_other _ _ _ _ (by simp <;> omega)]
          exact hc'
      · refine Chg.drewN (Chg.setCell (Chg.setCells pb _ po (((Chg.refl _ _).setCell (.inl rfl) _).alloc _) (fun j hj => .inr ⟨rfl, by omega, ?_⟩)) (.inl rfl) _) n
        unfold bytesV at hj; simp at hj; omega
    · rw [if_neg c1]
      have c1' : c.text.length ≤ a := by omega
      have hrd : SrcAt (rdW w q r c) q (some ⟨b, o, none⟩) lc (wrap64 (r + 1)) ⟨c :: l, a, e⟩ := h.rdW hs c
      have hch : Chg (rdT q pb po most) w (rdW w q r c) := Chg.rdW (.inl rfl) r c
      have fin : ∀ (g : Sg.Got) (en : Ending) (n : Nat), readEnd pb po most g en ((rdW w q r c).drewN n) → ReadPost w q pb nn po most (g, ⟨c :: l, a, e⟩) en ((rdW w q r c).drewN n) := fun g en n hg =>
        ⟨hg, ⟨_, _, _, hrd.drewN n, hs⟩, hch.drewN n⟩
      by_cases c2 : (e : Int) < c.n
      · rw [if_pos c2]
        refine (read_empty w q b o lc r c l a e h c1' ha he hsp.1 hp0.1 hp0.2.1 hp0.2.2 pb po most cap c2).mono ?_
        rintro en w' ⟨rfl, n, rfl⟩
        exact ⟨⟨rfl, fun j hj => by simp at hj⟩, ⟨_, _, _, (hrd.set2 hs (e + 1)).drewN n, hs⟩, (hch.setCell (.inl rfl) _).drewN n⟩
      · rw [if_neg c2]
        have c2' : c.n ≤ (e : Int) := by omega
        by_cases k1 : c.kind = 1
        · rw [if_pos (.inl k1)]
          refine (read_one w q b o lc r c l a e h c1' ha he hsp.1 hp0.1 hp0.2.1 hp0.2.2 pb po most cap hM c2' k1).mono ?_
          rintro en w' ⟨rfl, n, rfl⟩
          exact fin _ _ n ⟨rfl, fun j hj => by simp at hj⟩
        by_cases k5 : c.kind = 5
        · rw [if_pos (.inr k5)]
          refine (read_five w q b o lc r c l a e h c1' ha he hsp.1 hp0.1 hp0.2.1 hp0.2.2 pb po most cap hM c2' k5).mono ?_
          rintro en w' ⟨rfl, n, rfl⟩
          exact fin _ _ n ⟨rfl, fun j hj => by simp at hj⟩
        rw [if_neg (by omega)]
        by_cases k2 : c.kind = 2
        · rw [if_pos k2]
          refine (read_below w q b o lc r c l a e h c1' ha he hsp.1 hp0.1 hp0.2.1 hp0.2.2 pb po most cap hM c2' k2).mono ?_
          rintro en w' ⟨rfl, n, rfl⟩
          exact fin _ _ n rfl
        rw [if_neg k2]
        by_cases k3 : c.kind = 3
        · rw [if_pos k3]
          refine (read_above w q b o lc r c l a e h c1' ha he hsp.1 hp0.1 hp0.2.1 hp0.2.2 pb po most cap hM c2' k3).mono ?_
          rintro en w' ⟨rfl, n, rfl⟩
          exact fin _ _ n rfl
        rw [if_neg k3]
        by_cases k4 : c.kind = 4
        · rw [if_pos k4]
          refine (read_throws w q b o lc r c l a e h c1' ha he hsp.1 hp0.1 hp0.2.1 hp0.2.2 pb po most cap hM c2' k4).mono ?_
          rintro en w' ⟨⟨v, rfl⟩, n, rfl⟩
          exact fin _ _ n ⟨v, rfl⟩
        rw [if_neg k4]
        have hcap := h.cap
        simp only [List.length_cons] at hcap
        have hl : ∃ lb ld, ((1 < lc ∧ lb = o + 3 ∧ ld = lc - 1) ∨ (lc = 1 ∧ lb = o ∧ ld = 0)) ∧ PcAt w (some ⟨b, lb, none⟩) l ∧ l.length ≤ ld := by
          by_cases q1 : 1 < lc
          · refine ⟨_, _, .inl ⟨q1, rfl, rfl⟩, .inr ⟨b, o + 3, rfl, fun i hi => ?_⟩, by omega⟩
            have := hpcs (i + 1) (by simp; omega)
            simp only [List.getElem_cons_succ] at this
            rw [show o + 3 + i * 3 = o + (i + 1) * 3 by omega]
            exact this
          · exact ⟨_, _, .inr ⟨by omega, rfl, rfl⟩, .inl (List.eq_nil_of_length_eq_zero (by omega)), by omega⟩
        obtain ⟨lb, ld, hl, hpl, hld⟩ := hl
        have hsl : Apart (some ⟨b, lb, none⟩) q pb nn := fun b' o' e' => by cases e'; exact hsp
        have hpop : ∀ n, SrcAt (popW w q r c (.slice (some ⟨b, lb, none⟩) l.length ld) n) q (some ⟨b, lb, none⟩) ld (wrap64 (wrap64 (r + 1) - 1)) ⟨l, 0, 0⟩ := fun n =>
          ((((hrd.drewN n).set0 hsl ((hpl.setCell hsl 3 _).of (fun b' _ j v _ hx => by
            show (World.alloc _ _).cell? _ = _
            rw [World.cell?_alloc_lt _ _ ⟨b', j, none⟩ (cell_lt hx)]; exact hx)) hld).set1 hsl 0).set2 hsl 0).set3 hsl _
        have hchp : ∀ n, Chg (rdT q pb po most) w (popW w q r c (.slice (some ⟨b, lb, none⟩) l.length ld) n) := fun n =>
          ((((hch.drewN n).setCell (.inl rfl) _).setCell (.inl rfl) _).setCell (.inl rfl) _).setCell (.inl rfl) _
        have hcell : ∀ n j, (popW w q r c (.slice (some ⟨b, lb, none⟩) l.length ld) n).frozen? ⟨pb, j, none⟩ = w.frozen? ⟨pb, j, none⟩ := fun n j => by
          unfold popW rdW
          obtain ⟨v, hv⟩ := Option.isSome_iff_exists.1 (hpc 0 (by omega))
          rw [World.frozen?_setCell, World.frozen?_setCell, World.frozen?_setCell, World.frozen?_setCell, World.frozen?_drewN, World.frozen?_alloc_old _ _ ⟨pb, j, none⟩ (by have := cell_lt hv; simp; omega), World.frozen?_setCell]
        refine Calls.mono (read_pop w q b o lc r c l a e h c1' ha he hsp.1 hp0.1 hp0.2.1 hp0.2.2 pb po most cap hM c2' (beq_eq_false_iff_ne.2 k1) (beq_eq_false_iff_ne.2 k2) (beq_eq_false_iff_ne.2 k3) (beq_eq_false_iff_ne.2 k4) (beq_eq_false_iff_ne.2 k5) lb ld hl
          (fun v1 v2 w' => ReadPost w q pb nn po most (Sg.srcRead most ⟨l, 0, 0⟩) (.returned (.tuple #[v1, v2])) w')
          (fun ch w' => ReadPost w q pb nn po most (Sg.srcRead most ⟨l, 0, 0⟩) (.panicked ch) w') ?_) ?_
        · intro n
          have ih := srcRead_any q pb nn po most cap hpq hm hM l (popW w q r c (.slice (some ⟨b, lb, none⟩) l.length ld) n) 0 0 ⟨_, _, _, hpop n, hsl⟩ ⟨by show 0 < 1000000000; omega, by show 0 < 1000000000; omega, fun c' hc' => hall c' (List.mem_cons_of_mem _ hc')⟩
            (fun j hj => by
              have hc' := hpc j hj
              obtain ⟨v, hv⟩ := Option.isSome_iff_exists.1 hc'
              unfold popW rdW
              rw [World.cell?_setCell_other _ _ _ _ (by simp <;> omega), World.cell?_setCell_other _ _ _ _ (by simp <;> omega), World.cell?_setCell_other _ _ _ _ (by simp <;> omega), World.cell?_setCell_other _ _ _ _ (by simp <;> omega), World.cell?_drewN, World.cell?_alloc_lt _ _ ⟨pb, po + j, none⟩ (by have := cell_lt hv; simp; omega), World.cell?_setCell_other _ _ _ _ (by simp <;> omega)]
              exact hc')
            (fun j => (hcell n j).trans (hpf j))
          simp only [List.length_cons, Nat.add_sub_cancel]
          refine ih.mono ?_
          intro en w' hp
          have hp' : ReadPost w q pb nn po most (Sg.srcRead most ⟨l, 0, 0⟩) en w' := ⟨hp.ends, hp.src, (hchp n).trans hp.chg⟩
          rcases readEnd_shape hp.ends with ⟨v1, v2, rfl⟩ | ⟨ch, rfl⟩
          · exact .inl ⟨v1, v2, rfl, hp'⟩
          · exact .inr ⟨ch, rfl, hp'⟩
        · rintro en w' (⟨v1, v2, rfl, hp⟩ | ⟨ch, rfl, hp⟩)
          · exact hp
          · exact hp
end Go.Proofs.YtlhokghgicgppaaGreatDoor
namespace Go.Proofs.YtlhokghgicgppaaGreatDoor
open Go.RowKit Go.Extern
def RestAt (w : World) (ra : Option Addr) (rc : Nat) (l : Sg.Bs) : Prop :=
  (ra = none ∧ rc = 0 ∧ l = []) ∨ ∃ rb ro, ra = some ⟨rb, ro, none⟩ ∧ l.length ≤ rc ∧ (∀ j, j < l.length → w.cell? ⟨rb, ro + j, none⟩ = some (.int .u8 (l.getD j 0).toNat)) ∧ (∀ j, j < rc → (w.cell? ⟨rb, ro + j, none⟩).isSome = true) ∧ rb < w.heap.size ∧ ∀ j, w.frozen? ⟨rb, j, none⟩ = false
theorem bytesV_get (l : Sg.Bs) (j : Nat) (u : Value) (h : (bytesV l)[j]? = some u) : j < l.length ∧ u = .int .u8 (l.getD j 0).toNat := by
  unfold bytesV at h
  rw [List.getElem?_map, Option.map_eq_some_iff] at h
  obtain ⟨x, hx, rfl⟩ := h
  obtain ⟨hl, he⟩ := List.getElem?_eq_some_iff.1 hx
  refine ⟨hl, ?_⟩
  rw [List.getD_eq_getElem?_getD, hx]; rfl
theorem bytesV_len (l : Sg.Bs) : (bytesV l).length = l.length := by unfold bytesV; simp
theorem bytesV_one (l : Sg.Bs) : ∀ u ∈ bytesV l, u.oneCell' = true := by
  intro u hu
  unfold bytesV at hu
  obtain ⟨_, _, rfl⟩ := List.mem_map.1 hu
  rfl
theorem bytesV_app (l g : Sg.Bs) : bytesV l ++ bytesV g = bytesV (l ++ g) := by unfold bytesV; simp
theorem bytesV_some (l : Sg.Bs) (j : Nat) (h : j < l.length) : (bytesV l)[j]? = some (.int .u8 (l.getD j 0).toNat) := by
  unfold bytesV
  rw [List.getElem?_map, List.getElem?_eq_getElem h, List.getD_eq_getElem?_getD, List.getElem?_eq_getElem h]; rfl
theorem restAt_own {w : World} {base : Nat} {v : Value} {l : Sg.Bs} (h : w.ownsRow base 5 1 v l.length (bytesV l)) (h0 : l ≠ []) :
    ∃ rb rc, v = .slice (some ⟨rb, 0, none⟩) l.length rc ∧ base ≤ rb ∧ RestAt w (some ⟨rb, 0, none⟩) rc l := by
  obtain ⟨_, h | ⟨g, cap, cur, rfl, hb, hg, hn, _, hs, ht⟩⟩ := h
  · have := h.2; exact absurd (List.eq_nil_of_length_eq_zero this) h0
  have hcell : ∀ j, w.cell? ⟨g, 0 + j, none⟩ = cur[j]? := fun j => by
    unfold World.cell?; simp [hg]
  refine ⟨g, cap, rfl, hb, .inr ⟨g, 0, rfl, hn, fun j hj => ?_, fun j hj => ?_, (Array.getElem?_eq_some_iff.1 hg).1, fun j => ?_⟩⟩
  · rw [hcell, ← bytesV_some l j hj, ← ht, Nat.mul_one, List.getElem?_take_of_lt hj, Array.getElem?_toList]
  · rw [hcell, Array.getElem?_eq_getElem (by omega)]; rfl
  · unfold World.frozen?; simp [hg]
theorem below_grown {w w' : World} (h : w.grownBy w' none) : Below w.heap.size w w' := ⟨h.os, h.tape, h.output, h.size, fun k hk => h.block k hk (by simp)⟩
theorem append_bytes (w : World) (ra : Option Addr) (rc : Nat) (l : Sg.Bs) (hR : RestAt w ra rc l) (ga : Option Addr) (gl : Sg.Bs) (gc : Nat) (hG : SlAt w ga gl) (hN : l.length + gl.length < 1000000000) (ty : TypeId) :
    ∃ ra' rc' w', (Builtin.append_ #[60, 60] ty #[.slice ra l.length rc, .slice ga gl.length gc]).run Tryz.prog w = .ok (.slice ra' (l.length + gl.length) rc') w' ∧
      RestAt w' ra' rc' (l ++ gl) ∧ Chg (fun i _ => ∃ o, ra = some ⟨i, o, none⟩) w w' ∧ (ra' = ra ∨ ∃ rb, ra' = some ⟨rb, 0, none⟩ ∧ w.heap.size ≤ rb) := by
  obtain ⟨i, hi, hzz⟩ := Option.map_eq_some_iff.1 (show (Tryz.prog.info? 5).map (fun i => (i.zero, i.size, i.bytes)) = some (some (.int .u8 0), 1, 1) by kernel_rfl)
  simp only [Prod.mk.injEq] at hzz
  obtain ⟨hz, hs, hb⟩ := hzz
  have hu := Tryz.underlying60
  have hle : l.length ≤ rc := by
    rcases hR with ⟨_, _, rfl⟩ | ⟨_, _, _, h, _⟩
    · simp
    · exact h
  by_cases hg0 : gl = []
  · subst hg0
    refine ⟨ra, rc, w, run_append_nothing w _ _ ty _ i hu hi ra l.length rc hle _ ?_, by rw [List.append_nil]; exact hR, Chg.refl _ _, .inl rfl⟩
    cases ga with
    | none => exact Src.ofNil w hu gc
    | some a => exact Src.ofSlice w hu a 0 gc [] (by simp) (fun j u h => by simp at h) (fun u h => by simp at h)
  · rcases hG with ⟨_, h⟩ | ⟨gb, go, rfl, hG⟩
    · exact absurd h hg0
    have hnews : ∀ j u, (bytesV gl)[j]? = some u → w.cell? ((⟨gb, go, none⟩ : Addr).add j) = some u := fun j u h => by
      obtain ⟨h1, rfl⟩ := bytesV_get gl j u h
      rw [Addr.add_lit]; exact hG j h1
    have hne : l ++ gl ≠ [] := fun e => hg0 (List.append_eq_nil_iff.1 e).2
    rcases hR with ⟨rfl, rfl, rfl⟩ | ⟨rb, ro, rfl, h1, h2, h3, h4, h5⟩
    · obtain ⟨v', w', hrun, hown, hgr, _⟩ := run_append_own (P := Tryz.prog) w w.heap.size _ ty _ i (.int .u8 0) 1 1 hu hi hz hs hb rfl (by omega) (.slice none 0 0) 0 [] (World.ownsRow_nil w _ _ 1) ⟨gb, go, none⟩ gl.length gc (bytesV gl) (by rw [bytesV_len, Nat.mul_one]) hnews (bytesV_one gl) (by unfold maxLen; simp at hN; omega) (by simp at hN; omega) (Nat.le_refl _)
      rw [List.nil_append, Nat.zero_add] at hown
      obtain ⟨rb, rc', rfl, hbase, hrest⟩ := restAt_own hown hg0
      exact ⟨some ⟨rb, 0, none⟩, rc', w', by simp only [List.length_nil, Nat.zero_add]; exact hrun, by rw [List.nil_append]; exact hrest, Chg.of_below (below_grown hgr), .inr ⟨rb, rfl, hbase⟩⟩
    · by_cases hroom : l.length + gl.length ≤ rc
      · refine ⟨some ⟨rb, ro, none⟩, rc, w.setCells rb (ro + l.length) (bytesV gl), ?_, ?_, ?_, .inl rfl⟩
        · have := run_append_room_src (P := Tryz.prog) w _ _ ty _ i hu hi rb ro l.length rc (.slice (some ⟨gb, go, none⟩) gl.length gc) gl.length (bytesV gl) (Src.ofSlice w hu ⟨gb, go, none⟩ gl.length gc (bytesV gl) (by rw [bytesV_len, hs, Nat.mul_one]) hnews (bytesV_one gl)) hroom
            (fun j hj => by rw [bytesV_len] at hj; rw [hs, Nat.mul_one, Nat.add_assoc]; exact h3 _ (by omega)) (fun j hj => h5 _)
          rw [hs, Nat.mul_one] at this; exact this
        · refine .inr ⟨rb, ro, rfl, by rw [List.length_append]; exact hroom, fun j hj => ?_, fun j hj => ?_, ?_, fun j => by rw [World.frozen?_setCells]; exact h5 j⟩
          · rw [List.length_append] at hj
            by_cases hjl : j < l.length
            · rw [World.cell?_setCells_out _ _ _ _ _ (fun _ _ => .inl (by show ro + j < _; omega)), h2 j hjl]
              simp only [List.getD_eq_getElem?_getD, List.getElem?_append_left hjl]
            · have := World.cell?_setCells_in rb (bytesV gl) (ro + l.length) w (fun j' hj' => by rw [bytesV_len] at hj'; rw [Nat.add_assoc]; exact h3 _ (by omega)) (j - l.length) (by rw [bytesV_len]; omega)
              rw [show ro + l.length + (j - l.length) = ro + j by omega] at this
              rw [this]
              have h8 := bytesV_some gl (j - l.length) (by omega)
              rw [List.getElem?_eq_getElem (by rw [bytesV_len]; omega)] at h8
              rw [h8]
              simp only [List.getD_eq_getElem?_getD, List.getElem?_append_right (Nat.le_of_not_lt hjl)]
          · have := (Chg.setCells rb (bytesV gl) (ro + l.length) (Chg.refl (fun i _ => i = rb) w) (fun _ _ => rfl)).live rb (ro + j) h4
            rw [this]; exact h3 j hj
          · have := (Chg.setCells rb (bytesV gl) (ro + l.length) (Chg.refl (fun i _ => i = rb) w) (fun _ _ => rfl)).size
            omega
        · exact Chg.setCells rb (bytesV gl) (ro + l.length) (Chg.refl _ w) (fun _ _ => ⟨ro, rfl⟩)
      · obtain ⟨v', w', hrun, hown, hgr⟩ := run_append_arg_grows (P := Tryz.prog) w _ ty _ i (.int .u8 0) 1 1 hu hi hz hs hb rfl (by omega) ⟨rb, ro, none⟩ l.length rc (bytesV l) (by rw [bytesV_len, Nat.mul_one]) (fun j u h => by
            obtain ⟨h6, rfl⟩ := bytesV_get l j u h
            rw [Addr.add_lit]; exact h2 j h6) ⟨gb, go, none⟩ gl.length gc (bytesV gl) (by rw [bytesV_len, Nat.mul_one]) hnews (by omega) (by unfold maxLen; omega) (by omega)
        rw [bytesV_app, ← List.length_append] at hown
        obtain ⟨rb', rc', rfl, hbase, hrest⟩ := restAt_own hown hne
        exact ⟨_, _, w', by rw [hrun, List.length_append], hrest, Chg.of_below (below_grown hgr), .inr ⟨rb', rfl, hbase⟩⟩
theorem wpList_append_run {P : Program} {w w' : World} {ops : Array Oper} {rest : List Oper} {o : Oper} {a : Act} {Q : Exit → Act → World → Prop} (hgd : o.guard = none) (s x : Operand) (t tx : TypeId)
    (ho : o.op = .call { callee := .builtin .append, args := #[s, x], argTypes := #[t, tx] }) (v1 v2 v : Value) (h1 : a.eval s = v1) (h2 : a.eval x = v2) (hrun : (Builtin.append_ #[t, tx] o.type #[v1, v2]).run P w = .ok v w')
    (h : wpList P ops Q rest (a.put o.dst v) w') : wpList P ops Q (o :: rest) a w := by
  refine wpList_plain hgd fun K hK => ?_
  unfold Oper.wp
  simp [execOp, ho, resolve, invoke, builtin, h1, h2, hrun, Result.andThen]
  exact hK _ _ h
end Go.Proofs.YtlhokghgicgppaaGreatDoor
namespace Go.Proofs.YtlhokghgicgppaaGreatDoor
open Go.RowKit Go.Extern
structure RowAt (sz : Nat) (w : World) (ra : Option Addr) (rc n : Nat) (l : List Value) : Prop where
  len : l.length = n * sz
  row : (ra = none ∧ rc = 0 ∧ n = 0) ∨ ∃ rb ro, ra = some ⟨rb, ro, none⟩ ∧ n ≤ rc ∧ (∀ j v, l[j]? = some v → w.cell? ⟨rb, ro + j, none⟩ = some v) ∧ (∀ j, j < rc * sz → (w.cell? ⟨rb, ro + j, none⟩).isSome = true) ∧ rb < w.heap.size ∧ ∀ j, w.frozen? ⟨rb, j, none⟩ = false
theorem RowAt.nil (sz : Nat) (w : World) : RowAt sz w none 0 0 [] := ⟨by simp, .inl ⟨rfl, rfl, rfl⟩⟩
theorem RowAt.of {sz : Nat} {w w' : World} {ra : Option Addr} {rc n : Nat} {l : List Value} (h : RowAt sz w ra rc n l) {T : Nat → Nat → Prop} (hc : Chg T w w') (hT : ∀ rb ro j, ra = some ⟨rb, ro, none⟩ → ¬ T rb j) : RowAt sz w' ra rc n l := by
  refine ⟨h.len, ?_⟩
  rcases h.row with h | ⟨rb, ro, rfl, h1, h2, h3, h4, h5⟩
  · exact .inl h
  · exact .inr ⟨rb, ro, rfl, h1, fun j v hj => (hc.cell _ _ h4 (hT rb ro _ rfl)).trans (h2 j v hj), fun j hj => by rw [hc.live _ _ h4]; exact h3 j hj, Nat.lt_of_lt_of_le h4 hc.size, fun j => (hc.frz _ _ h4).trans (h5 j)⟩
theorem RowAt.below {sz : Nat} {w w' : World} {ra : Option Addr} {rc n : Nat} {l : List Value} (h : RowAt sz w ra rc n l) (hb : Below w.heap.size w w') : RowAt sz w' ra rc n l := h.of (Chg.of_below (T := fun _ _ => False) hb) (fun _ _ _ _ t => t)
theorem RowAt.lt {sz : Nat} {w : World} {ra : Option Addr} {rc n : Nat} {l : List Value} (h : RowAt sz w ra rc n l) {b o : Nat} (e : ra = some ⟨b, o, none⟩) : b < w.heap.size := by
  rcases h.row with ⟨h, _⟩ | ⟨rb, ro, rfl, _, _, _, h4, _⟩
  · rw [h] at e; cases e
  · cases e; exact h4
theorem RowAt.le {sz : Nat} {w : World} {ra : Option Addr} {rc n : Nat} {l : List Value} (h : RowAt sz w ra rc n l) : n ≤ rc := by
  rcases h.row with ⟨_, h1, h2⟩ | ⟨rb, ro, _, h1, _⟩
  · omega
  · exact h1
theorem rowAt_own {w : World} {base e sz : Nat} {v : Value} {n : Nat} {l : List Value} (h : w.ownsRow base e sz v n l) (hl : l.length = n * sz) (h0 : n ≠ 0) :
    ∃ rb rc, v = .slice (some ⟨rb, 0, none⟩) n rc ∧ base ≤ rb ∧ RowAt sz w (some ⟨rb, 0, none⟩) rc n l := by
  obtain ⟨_, h | ⟨g, cap, cur, rfl, hb, hg, hn, _, hs, ht⟩⟩ := h
  · exact absurd h.2 h0
  have hcell : ∀ j, w.cell? ⟨g, 0 + j, none⟩ = cur[j]? := fun j => by
    unfold World.cell?; simp [hg]
  have hmul : n * sz ≤ cap * sz := Nat.mul_le_mul_right _ hn
  refine ⟨g, cap, rfl, hb, hl, .inr ⟨g, 0, rfl, hn, fun j v hj => ?_, fun j hj => ?_, (Array.getElem?_eq_some_iff.1 hg).1, fun j => ?_⟩⟩
  · have hjl : j < l.length := (List.getElem?_eq_some_iff.1 hj).1
    rw [hcell, ← hj, ← ht, List.getElem?_take_of_lt (by omega), Array.getElem?_toList]
  · rw [hcell, Array.getElem?_eq_getElem (by omega)]; rfl
  · unfold World.frozen?; simp [hg]
theorem append_row {P : Program} (w : World) (t ty e : TypeId) (i : TypeInfo) (z : Value) (sz bytes : Nat) (hu : P.underlying t = some (.slice e)) (hi : P.info? e = some i) (hz : i.zero = some z) (hs : i.size = sz) (hb : i.bytes = bytes) (hzs : z.cells.size = sz) (hsz : 0 < sz)
    (ra : Option Addr) (rc n : Nat) (l : List Value) (hR : RowAt sz w ra rc n l) (gb go m c : Nat) (hm : 0 < m) (news : List Value) (hnl : news.length = m * sz) (hnews : ∀ j u, news[j]? = some u → w.cell? ⟨gb, go + j, none⟩ = some u) (hone : ∀ u ∈ news, u.oneCell' = true)
    (h63 : n + m ≤ maxLen) (hbytes : (n + m) * bytes ≤ 140737488355328) :
    ∃ ra' rc' w', (Builtin.append_ #[t, t] ty #[.slice ra n rc, .slice (some ⟨gb, go, none⟩) m c]).run P w = .ok (.slice ra' (n + m) rc') w' ∧ RowAt sz w' ra' rc' (n + m) (l ++ news) ∧
      Chg (fun i _ => ∃ o, ra = some ⟨i, o, none⟩) w w' ∧ (ra' = ra ∨ ∃ rb, ra' = some ⟨rb, 0, none⟩ ∧ w.heap.size ≤ rb) := by
  have hnews' : ∀ j u, news[j]? = some u → w.cell? ((⟨gb, go, none⟩ : Addr).add j) = some u := fun j u h => by rw [Addr.add_lit]; exact hnews j u h
  have hll : (l ++ news).length = (n + m) * sz := by rw [List.length_append, hR.len, hnl, Nat.add_mul]
  rcases hR.row with ⟨rfl, rfl, rfl⟩ | ⟨rb, ro, rfl, h1, h2, h3, h4, h5⟩
  · have hl0 : l = [] := List.eq_nil_of_length_eq_zero (by have := hR.len; omega)
    subst hl0
    obtain ⟨v', w', hrun, hown, hgr, _⟩ := run_append_own (P := P) w w.heap.size t ty e i z sz bytes hu hi hz hs hb hzs hsz (.slice none 0 0) 0 [] (World.ownsRow_nil w _ _ sz) ⟨gb, go, none⟩ m c news hnl hnews' hone h63 hbytes (Nat.le_refl _)
    obtain ⟨rb, rc', rfl, hbase, hrow⟩ := rowAt_own hown (by simpa using hll) (by omega)
    exact ⟨_, _, w', hrun, hrow, Chg.of_below (below_grown hgr), .inr ⟨rb, rfl, hbase⟩⟩
  · by_cases hroom : n + m ≤ rc
    · have hbd : (n + m) * sz ≤ rc * sz := Nat.mul_le_mul_right _ hroom
      rw [Nat.add_mul] at hbd
      have hin : ∀ j, j < news.length → (w.cell? ⟨rb, ro + n * sz + j, none⟩).isSome = true := fun j hj => by rw [Nat.add_assoc]; exact h3 _ (by omega)
      refine ⟨some ⟨rb, ro, none⟩, rc, w.setCells rb (ro + n * sz) news, ?_, ?_, ?_, .inl rfl⟩
      · have := run_append_room_src (P := P) w t t ty e i hu hi rb ro n rc (.slice (some ⟨gb, go, none⟩) m c) m news (Src.ofSlice w hu ⟨gb, go, none⟩ m c news (by rw [hnl, hs]) hnews' hone) hroom
          (fun j hj => by rw [hs]; exact hin j hj) (fun j hj => h5 _)
        rw [hs] at this; exact this
      · have hch := Chg.setCells rb news (ro + n * sz) (Chg.refl (fun i _ => i = rb) w) (fun _ _ => rfl)
        refine ⟨hll, .inr ⟨rb, ro, rfl, hroom, fun j v hj => ?_, fun j hj => ?_, ?_, fun j => by rw [World.frozen?_setCells]; exact h5 j⟩⟩
        · by_cases hjl : j < l.length
          · rw [List.getElem?_append_left hjl] at hj
            rw [World.cell?_setCells_out _ _ _ _ _ (fun _ _ => .inl (by show ro + j < _; have := hR.len; omega))]
            exact h2 j v hj
          · rw [List.getElem?_append_right (Nat.le_of_not_lt hjl)] at hj
            have hlt : j - l.length < news.length := (List.getElem?_eq_some_iff.1 hj).1
            have := World.cell?_setCells_in rb news (ro + n * sz) w hin (j - l.length) hlt
            rw [show ro + n * sz + (j - l.length) = ro + j by have := hR.len; omega] at this
            rw [this, ← List.getElem?_eq_getElem hlt]; exact hj
        · rw [hch.live rb (ro + j) h4]; exact h3 j hj
        · have := hch.size; omega
      · exact Chg.setCells rb news (ro + n * sz) (Chg.refl _ w) (fun _ _ => ⟨ro, rfl⟩)
    · obtain ⟨v', w', hrun, hown, hgr⟩ := run_append_arg_grows (P := P) w t ty e i z sz bytes hu hi hz hs hb hzs hsz ⟨rb, ro, none⟩ n rc l hR.len (fun j u h => by rw [Addr.add_lit]; exact h2 j u h) ⟨gb, go, none⟩ m c news hnl hnews' (by omega) h63 hbytes
      obtain ⟨rb', rc', rfl, hbase, hrow⟩ := rowAt_own hown hll (by omega)
      exact ⟨_, _, w', hrun, hrow, Chg.of_below (below_grown hgr), .inr ⟨rb', rfl, hbase⟩⟩
theorem wpListIn_append_run {F : Fence} {k : Nat} {P : Program} {w w' : World} {ops : Array Oper} {rest : List Oper} {o : Oper} {a : Act} {Q : Exit → Act → World → Prop} (hgd : o.guard = none) (s x : Operand) (t tx : TypeId)
    (ho : o.op = .call { callee := .builtin .append, args := #[s, x], argTypes := #[t, tx] }) (v1 v2 v : Value) (h1 : a.eval s = v1) (h2 : a.eval x = v2) (hrun : (Builtin.append_ #[t, tx] o.type #[v1, v2]).run P w = .ok v w')
    (h : wpListIn F k P ops Q rest (a.put o.dst v) w') : wpListIn F k P ops Q (o :: rest) a w := by
  refine wpListIn_plain hgd fun K hK => ?_
  unfold Oper.wpIn
  refine ⟨?_, ?_⟩
  · simp [Oper.about, ho, resolve, Target.leads, Sem.run_pure]
  · rw [Oper.semAt_plain F _ _ (by rw [ho]; intro c hc'; cases hc')]
    simp [execOp, ho, resolve, invoke, builtin, h1, h2, hrun, Result.andThen]
    exact hK _ _ h
end Go.Proofs.YtlhokghgicgppaaGreatDoor
namespace Go.Proofs.YtlhokghgicgppaaGreatDoor
open Go.RowKit Go.Extern
def psCells (s : Nat) : List Value := [.int .u32 ((s % 4294967296 : Nat) : Int), .int .u32 ((s / 4294967296 : Nat) : Int)]
def rgCells (r : Int × Int) : List Value := [.int .i32 r.1, .int .i32 r.2]
structure LastAt (w : World) (p : Nat) (l : List Nat) : Prop where
  c : ∃ ra rc, w.cell? ⟨p, 195, none⟩ = some (.slice ra l.length rc) ∧ RowAt 2 w ra rc l.length (l.flatMap psCells)
  lt : ∀ x ∈ l, x < 18446744073709551616
  n : l.length ≤ 8
theorem below_go {a b c : World} (h : Below a.heap.size a b) (k : Below b.heap.size b c) : Below a.heap.size a c := h.trans (k.mono h.size)
theorem below_keep {a b : World} (h : Below a.heap.size a b) {i o : Nat} {v : Value} (e : a.cell? ⟨i, o, none⟩ = some v) : b.cell? ⟨i, o, none⟩ = some v := (h.cell (p := ⟨i, o, none⟩) (cell_lt e)).trans e
theorem flat_at {α : Type} (f : α → List Value) (s : Nat) (hs : ∀ x, (f x).length = s) : ∀ (l : List α) (i k : Nat) (h : i < l.length), k < s → (l.flatMap f)[i * s + k]? = (f l[i])[k]?
  | [], i, k, h, _ => absurd h (Nat.not_lt_zero _)
  | x :: r, 0, k, h, hk => by
    rw [List.flatMap_cons, Nat.zero_mul, Nat.zero_add, List.getElem?_append_left (by rw [hs]; exact hk)]; rfl
  | x :: r, i + 1, k, h, hk => by
    rw [List.flatMap_cons, List.getElem?_append_right (by rw [hs, Nat.add_mul]; omega), hs, show (i + 1) * s + k - s = i * s + k by rw [Nat.add_mul]; omega]
    exact flat_at f s hs r i k (by simpa using h) hk
theorem ps_cells {w : World} {ra : Option Addr} {rc : Nat} {l : List Nat} (h : RowAt 2 w ra rc l.length (l.flatMap psCells)) (j : Nat) (hj : j < l.length) :
    ∃ rb ro, ra = some ⟨rb, ro, none⟩ ∧ rb < w.heap.size ∧ w.cell? ⟨rb, ro + j * 2, none⟩ = some (.int .u32 ((l.getD j 0 % 4294967296 : Nat) : Int)) ∧ w.cell? ⟨rb, ro + j * 2 + 1, none⟩ = some (.int .u32 ((l.getD j 0 / 4294967296 : Nat) : Int)) := by
  have e : l.getD j 0 = l[j] := by rw [List.getD_eq_getElem?_getD, List.getElem?_eq_getElem hj]; rfl
  rw [e]
  rcases h.row with ⟨_, _, h0⟩ | ⟨rb, ro, rfl, _, hc, _, hlt, _⟩
  · omega
  · refine ⟨rb, ro, rfl, hlt, ?_, ?_⟩
    · have := hc (j * 2 + 0) (.int .u32 ((l[j] % 4294967296 : Nat) : Int)) (by rw [flat_at psCells 2 (fun _ => rfl) l j 0 hj (by omega)]; rfl)
      simpa using this
    · have := hc (j * 2 + 1) (.int .u32 ((l[j] / 4294967296 : Nat) : Int)) (by rw [flat_at psCells 2 (fun _ => rfl) l j 1 hj (by omega)]; rfl)
      rw [← Nat.add_assoc] at this; exact this
theorem rule_any (w : World) (p : Nat) (lo : Sg.Lo) (s : Nat) (hs : s < 18446744073709551616) (h : LastAt w p lo.last) :
    Calls Tryz.prog 110 #[.pointer (some ⟨p, 0, none⟩), psV s] w fun e w' => e = .returned (.int .i64 (Sg.ruleT lo s)) ∧ Below w.heap.size w w' := by
  obtain ⟨ra, rc, hc, hrow⟩ := h.c
  have HR := hide2 hrow
  have HL := hide2 h.lt
  have hN := h.n
  clear h hrow
  have H0 := hide2 (show Sg.ruleT lo s = Sg.ruleGo s lo.last 0 from rfl)
  generalize Sg.ruleT lo s = r at *
  generalize lo.last = l at *
  have hc1 : ∀ o, (w.alloc o).cell? ⟨p, 195, none⟩ = some (.slice ra l.length rc) := fun o => (((Below.refl _ _).alloc (Nat.le_refl _) o).cell (p := ⟨p, 195, none⟩) (cell_lt hc)).trans hc
  have HAnd := hide2 (fun (x : Nat) (hx : x < 18446744073709551616) (wx : World) => and_any s x hs hx wx)
  have hps : psV s = .agg #[.int .u32 ((s % 4294967296 : Nat) : Int), .int .u32 ((s / 4294967296 : Nat) : Int)] := rfl
  rw [hps]
  rw [hps] at HAnd
  clear hps hc hs
  generalize ((s % 4294967296 : Nat) : Int) = s0 at *
  generalize ((s / 4294967296 : Nat) : Int) = s1 at *
  go_enter Tryz.func110, Tryz.ntmps110
  go_wp2
  go_loopw [12] (fun iv wr => ∃ j : Nat, iv = .int .i64 j ∧ j ≤ l.length ∧ wr.cell? ⟨w.heap.size, 0, none⟩ = some (.int .u32 s0) ∧ wr.cell? ⟨w.heap.size, 1, none⟩ = some (.int .u32 s1) ∧ Hid (Below w.heap.size w wr ∧ r = Sg.ruleGo s (l.drop j) j)) (fun iv _ => l.length - (intOf iv).toNat)
  case atStart => exact ⟨0, rfl, Nat.zero_le _, by simp, by simp, hide2 ⟨(Below.refl _ _).alloc (Nat.le_refl _) _, H0.out⟩⟩
  case round =>
    obtain ⟨j, rfl, hj, b0, b1, H⟩ := hrel
    by_cases hlt : j < l.length
    · obtain ⟨rb, ro, rfl, hrl, k0, k1⟩ := ps_cells (HR.out.below H.out.1) j hlt
      have hx := HL.out (l.getD j 0) (by rw [List.getD_eq_getElem?_getD, List.getElem?_eq_getElem hlt]; exact List.getElem_mem _)
      have hd : l.drop j = l.getD j 0 :: l.drop (j + 1) := by
        rw [List.drop_eq_getElem_cons hlt, List.getD_eq_getElem?_getD, List.getElem?_eq_getElem hlt]; rfl
      have hr := H.out.2
      rw [hd] at hr
      unfold Sg.ruleGo at hr
      generalize l.getD j 0 = x at *
      have hA := fun wx => HAnd.out x hx wx
      have hpx : psV x = .agg #[.int .u32 ((x % 4294967296 : Nat) : Int), .int .u32 ((x / 4294967296 : Nat) : Int)] := rfl
      rw [hpx] at hA
      clear hpx hd hx
      generalize ((x % 4294967296 : Nat) : Int) = x0 at *
      generalize ((x / 4294967296 : Nat) : Int) = x1 at *
      have HA := hide2 hA
      have hE := fun wx => isEmpty_any (s &&& x) wx
      generalize s &&& x = y at *
      have HE := hide2 hE
      have HRr := hide2 hr
      have hbw := H.out.1
      have c0 : ∀ o, (wr.alloc o).cell? ⟨w.heap.size, 0, none⟩ = some (.int .u32 s0) := fun o => (((Below.refl _ _).alloc (Nat.le_refl _) o).cell (p := ⟨w.heap.size, 0, none⟩) (cell_lt b0)).trans b0
      have c1 : ∀ o, (wr.alloc o).cell? ⟨w.heap.size, 1, none⟩ = some (.int .u32 s1) := fun o => (((Below.refl _ _).alloc (Nat.le_refl _) o).cell (p := ⟨w.heap.size, 1, none⟩) (cell_lt b1)).trans b1
      have HBw := hide2 (fun o => hbw.alloc hbw.size o)
      clear hA hE hr hbw HAnd HR HL H0 hc1
      go_wp2_with (first
        | (go_at_call 108; refine (HA.out _).mono ?_; rintro e w2 ⟨rfl, hb2⟩)
        | (go_at_call 109; refine (HE.out _).mono ?_; rintro e w3 ⟨rfl, hb3⟩))
      all_goals
        have hbb : Below w.heap.size w w3 := below_go (below_go (HBw.out _) hb2) hb3
        have d0 : w3.cell? ⟨w.heap.size, 0, none⟩ = some (.int .u32 s0) := below_keep hb3 (below_keep hb2 (c0 _))
        have d1 : w3.cell? ⟨w.heap.size, 1, none⟩ = some (.int .u32 s1) := below_keep hb3 (below_keep hb2 (c1 _))
        have hrr := HRr.out
      · have hy : ¬ y = 0 := by rename_i hq; simpa using hq
        rw [if_neg hy] at hrr
        go_ret
        rw [hrr]
        exact ⟨rfl, hbb⟩
      · have hy : y = 0 := by rename_i hq; simpa using hq
        rw [if_pos hy] at hrr
        exact ⟨⟨j + 1, rfl, by omega, d0, d1, hide2 ⟨hbb, hrr⟩⟩, by simp [intOf]; omega⟩
    · have hr := H.out.2
      rw [List.drop_of_length_le (by omega)] at hr
      unfold Sg.ruleGo at hr
      have HRr := hide2 hr
      clear hr
      go_wp2
      go_ret
      rw [HRr.out]
      exact ⟨rfl, H.out.1⟩
end Go.Proofs.YtlhokghgicgppaaGreatDoor
namespace Go.Proofs.YtlhokghgicgppaaGreatDoor
open Go.RowKit Go.Extern
structure Sg.RdOk (r : Sg.Rd) : Prop where
  lt : r.next < r.list.length
  late : r.late = none
  last : ∀ i, r.list.length ≤ i + 1 → (r.list.getD i (-1, 0)).1 = -1
  val : ∀ i, (r.list.getD i (-1, 0)).1 = -1 ∨ (r.list.getD i (-1, 0)).1 = -2 ∨ Sg.validRune (r.list.getD i (-1, 0)).1 = true
  len : r.list.length ≤ 1000
  dep : 0 ≤ r.depth ∧ r.depth ≤ 8
theorem Sg.RdOk.take {r : Sg.Rd} (h : Sg.RdOk r) : Sg.RdOk r.take.2 := by
  unfold Sg.Rd.take Sg.Rd.peek
  by_cases e : (r.list.getD r.next (-1, 0)).1 = -1
  · simp only [e, if_true]; exact h
  · simp only [e, if_false]
    refine ⟨?_, h.late, h.last, h.val, h.len, h.dep⟩
    have := h.lt
    by_cases e2 : r.list.length ≤ r.next + 1
    · exact absurd (h.last _ e2) e
    · show r.next + 1 < r.list.length; omega
theorem Sg.RdOk.accept {r : Sg.Rd} (h : Sg.RdOk r) (v : Int) : Sg.RdOk (r.accept v).2 := by
  unfold Sg.Rd.accept
  split
  · exact h.take
  · exact h
theorem Sg.Rd.take_list (r : Sg.Rd) : r.take.2.list = r.list := by unfold Sg.Rd.take; dsimp only; split <;> rfl
theorem Sg.Rd.take_depth (r : Sg.Rd) : r.take.2.depth = r.depth := by unfold Sg.Rd.take; dsimp only; split <;> rfl
abbrev rulT (q : Nat) : Nat → Nat → Prop := fun i o => i = q ∧ (o = 2 ∨ o = 3)
structure RdAt (w : World) (q : Nat) (r : Sg.Rd) : Prop where
  ok : Sg.RdOk r
  l : ∃ lb lo lc, w.cell? ⟨q, 1, none⟩ = some (.slice (some ⟨lb, lo, none⟩) r.list.length lc) ∧ lb ≠ q ∧ (∀ i, i < r.list.length → w.cell? ⟨lb, lo + i * 2, none⟩ = some (.int .i32 (r.list.getD i (-1, 0)).1)) ∧ (∀ i, i < r.list.length → w.cell? ⟨lb, lo + i * 2 + 1, none⟩ = some (.int .i64 (r.list.getD i (-1, 0)).2))
  n : w.cell? ⟨q, 2, none⟩ = some (.int .i64 r.next)
  d : w.cell? ⟨q, 3, none⟩ = some (.int .i64 r.depth)
  e : w.cell? ⟨q, 4, none⟩ = some (.pointer none)
  z2 : w.frozen? ⟨q, 2, none⟩ = false
  z3 : w.frozen? ⟨q, 3, none⟩ = false
theorem RdAt.lt {w : World} {q : Nat} {r : Sg.Rd} (h : RdAt w q r) : q < w.heap.size := cell_lt h.n
theorem RdAt.turn {w w' : World} {q : Nat} {r r' : Sg.Rd} (h : RdAt w q r) (hc : Chg (rulT q) w w') (hl : r'.list = r.list) (ho : Sg.RdOk r') (hn : w'.cell? ⟨q, 2, none⟩ = some (.int .i64 r'.next)) (hd : w'.cell? ⟨q, 3, none⟩ = some (.int .i64 r'.depth)) : RdAt w' q r' := by
  have hq := h.lt
  obtain ⟨lb, lo, lc, h1, h2, h3, h4⟩ := h.l
  refine ⟨ho, ⟨lb, lo, lc, ?_, h2, ?_, ?_⟩, hn, hd, ?_, ?_, ?_⟩
  · rw [hl]; exact (hc.cell _ _ hq (by rintro ⟨_, h | h⟩ <;> omega)).trans h1
  · intro i hi
    rw [hl] at hi ⊢
    exact (hc.cell _ _ (cell_lt (h3 i hi)) (by rintro ⟨h, _⟩; exact h2 h)).trans (h3 i hi)
  · intro i hi
    rw [hl] at hi ⊢
    exact (hc.cell _ _ (cell_lt (h4 i hi)) (by rintro ⟨h, _⟩; exact h2 h)).trans (h4 i hi)
  · exact (hc.cell _ _ hq (by rintro ⟨_, h | h⟩ <;> omega)).trans h.e
  · exact (hc.frz _ _ hq).trans h.z2
  · exact (hc.frz _ _ hq).trans h.z3
theorem RdAt.below {w w' : World} {q : Nat} {r : Sg.Rd} (h : RdAt w q r) (hb : Below w.heap.size w w') : RdAt w' q r :=
  h.turn (Chg.of_below hb) rfl h.ok (below_keep hb h.n) (below_keep hb h.d)
theorem RdAt.of {w w' : World} {q : Nat} {r : Sg.Rd} {T : Nat → Nat → Prop} {B : Nat} (h : RdAt w q r) (hc : Chg T w w') (hB : ∀ i o, T i o → B ≤ i) (hw : w.heap.size ≤ B) : RdAt w' q r := by
  refine h.turn (hc.mono fun i o hi ht => ?_) rfl h.ok ?_ ?_
  · have := hB i o ht; omega
  · exact (hc.cell _ _ h.lt (fun ht => by have := hB _ _ ht; have := h.lt; omega)).trans h.n
  · exact (hc.cell _ _ h.lt (fun ht => by have := hB _ _ ht; have := h.lt; omega)).trans h.d
structure RdSt (w : World) (q : Nat) (wx : World) (r : Sg.Rd) : Prop where
  at_ : RdAt wx q r
  chg : Chg (rulT q) w wx
  old : ∃ lb lo n c, w.cell? ⟨q, 1, none⟩ = some (.slice (some ⟨lb, lo, none⟩) n c) ∧ lb < w.heap.size
theorem RdSt.start {w : World} {q : Nat} {r : Sg.Rd} (h : RdAt w q r) : RdSt w q w r := by
  obtain ⟨lb, lo, lc, h1, h2, h3, h4⟩ := h.l
  exact ⟨h, Chg.refl _ _, lb, lo, _, lc, h1, cell_lt (h3 _ h.ok.lt)⟩
theorem RdSt.lt {w wx : World} {q : Nat} {r : Sg.Rd} (h : RdSt w q wx r) : q < w.heap.size := by
  obtain ⟨lb, lo, n, c, h1, _⟩ := h.old
  exact cell_lt h1
theorem RdSt.step {w wx w' : World} {q : Nat} {r r' : Sg.Rd} (h : RdSt w q wx r) (ha : RdAt w' q r') (hc : Chg (rulT q) wx w') : RdSt w q w' r' := ⟨ha, h.chg.trans hc, h.old⟩
theorem RdSt.mut {w wx w' : World} {q : Nat} {r : Sg.Rd} {T : Nat → Nat → Prop} (h : RdSt w q wx r) (hc : Chg T wx w') (hT : ∀ i o, T i o → w.heap.size ≤ i) : RdSt w q w' r := by
  have hq := h.lt
  obtain ⟨lb, lo, n, c, h1, h2⟩ := h.old
  have hqs : q < wx.heap.size := h.at_.lt
  have hcw : Chg (rulT q) w w' := h.chg.trans_new hc (fun i o hi t => by have := hT i o t; omega)
  refine ⟨?_, hcw, lb, lo, n, c, h1, h2⟩
  obtain ⟨lb', lo', lc, k1, k2, k3, k4⟩ := h.at_.l
  have e := (h.chg.cell q 1 hq (by rintro ⟨_, h | h⟩ <;> omega)).trans h1
  rw [k1] at e
  simp only [Option.some.injEq, Value.slice.injEq, Addr.mk.injEq] at e
  obtain ⟨⟨rfl, rfl, _⟩, _, _⟩ := e
  have hk : ∀ o, w'.cell? ⟨q, o, none⟩ = wx.cell? ⟨q, o, none⟩ := fun o => hc.cell _ _ hqs (fun t => by have := hT _ _ t; omega)
  refine ⟨h.at_.ok, ⟨lb', lo', lc, (hk _).trans k1, k2, fun i hi => ?_, fun i hi => ?_⟩, (hk _).trans h.at_.n, (hk _).trans h.at_.d, (hk _).trans h.at_.e, (hc.frz _ _ hqs).trans h.at_.z2, (hc.frz _ _ hqs).trans h.at_.z3⟩
  · exact (hc.cell _ _ (cell_lt (k3 i hi)) (fun t => by have := hT _ _ t; omega)).trans (k3 i hi)
  · exact (hc.cell _ _ (cell_lt (k4 i hi)) (fun t => by have := hT _ _ t; omega)).trans (k4 i hi)
theorem RdSt.below {w wx w' : World} {q : Nat} {r : Sg.Rd} (h : RdSt w q wx r) (hb : Below wx.heap.size wx w') : RdSt w q w' r := h.mut (Chg.of_below (T := fun _ _ => False) hb) (fun _ _ t => t.elim)
theorem RdSt.alloc {w wx : World} {q : Nat} {r : Sg.Rd} (h : RdSt w q wx r) (o : Obj) : RdSt w q (wx.alloc o) r := h.below ((Below.refl _ _).alloc (Nat.le_refl _) o)
theorem RdSt.set {w wx : World} {q : Nat} {r : Sg.Rd} (h : RdSt w q wx r) {k : Nat} (hk : w.heap.size ≤ k) (o : Nat) (v : Value) : RdSt w q (wx.setCell ⟨k, o, none⟩ v) r :=
  h.mut (Chg.setCell1 (T := fun i _ => i = k) rfl v) (fun i o t => by omega)
theorem RdSt.drew {w wx : World} {q : Nat} {r : Sg.Rd} (h : RdSt w q wx r) : RdSt w q wx.drew r := h.mut ((Chg.refl (fun _ _ => False) _).drew) (fun _ _ t => t.elim)
theorem RdSt.size {w wx : World} {q : Nat} {r : Sg.Rd} (h : RdSt w q wx r) : w.heap.size ≤ wx.heap.size := h.chg.size
theorem RdSt.next {w wx : World} {q : Nat} {r : Sg.Rd} (h : RdSt w q wx r) (hv : r.peek.1 ≠ -1) : RdSt w q (wx.setCell ⟨q, 2, none⟩ (.int .i64 ((r.next : Int) + 1))) r.take.2 := by
  have hc : Chg (rulT q) wx (wx.setCell ⟨q, 2, none⟩ (.int .i64 ((r.next : Int) + 1))) := Chg.setCell1 ⟨rfl, .inl rfl⟩ _
  have ht : r.take.2.next = r.next + 1 := by unfold Sg.Rd.take; simp [hv]
  refine h.step (h.at_.turn hc (Sg.Rd.take_list r) h.at_.ok.take ?_ ?_) hc
  · rw [ht, show ((r.next + 1 : Nat) : Int) = (r.next : Int) + 1 by omega]; exact World.cell?_setCell_same _ _ _ h.at_.n
  · rw [Sg.Rd.take_depth]; exact (World.cell?_setCell_other _ _ _ _ (by simp)).trans h.at_.d
theorem RdSt.dep {w wx : World} {q : Nat} {r : Sg.Rd} (h : RdSt w q wx r) (d : Int) (hd : 0 ≤ d ∧ d ≤ 8) : RdSt w q (wx.setCell ⟨q, 3, none⟩ (.int .i64 d)) { r with depth := d } := by
  have hc : Chg (rulT q) wx (wx.setCell ⟨q, 3, none⟩ (.int .i64 d)) := Chg.setCell1 ⟨rfl, .inr rfl⟩ _
  have ho := h.at_.ok
  refine h.step (h.at_.turn hc rfl ⟨ho.lt, ho.late, ho.last, ho.val, ho.len, hd⟩ ?_ ?_) hc
  · exact (World.cell?_setCell_other _ _ _ _ (by simp)).trans h.at_.n
  · exact World.cell?_setCell_same _ _ _ h.at_.d
theorem RdSt.go {w wx w' : World} {q : Nat} {r r' : Sg.Rd} (h : RdSt w q wx r) (k : RdSt wx q w' r') : RdSt w q w' r' := h.step k.at_ k.chg
def scV (x : Int × Int) : Value := .agg #[.int .i32 x.1, .int .i64 x.2]
end Go.Proofs.YtlhokghgicgppaaGreatDoor
namespace Go.Proofs.YtlhokghgicgppaaGreatDoor
open Go.RowKit Go.Extern Go.Sort
abbrev rowC (blk off n : Nat) : Nat → Nat → Prop := fun i o => i = blk ∧ off ≤ o ∧ o < off + n
structure SS (w : World) (blk off n : Nat) (W : World) (d : Array Int) : Prop where
  chg : Chg (rowC blk off n) w W
  sz : d.size = n
  cell : ∀ t, t < n → W.cell? ⟨blk, off + t, none⟩ = some (.int .i32 d[t]!)
  frz : ∀ t, t < n → W.frozen? ⟨blk, off + t, none⟩ = false
  blk : blk < w.heap.size
theorem SS.drewN {w : World} {blk off n : Nat} {W : World} {d : Array Int} (h : SS w blk off n W d) (q : Nat) : SS w blk off n (W.drewN q) d :=
  ⟨h.chg.drewN q, h.sz, fun t ht => by rw [World.cell?_drewN]; exact h.cell t ht, fun t ht => by rw [World.frozen?_drewN]; exact h.frz t ht, h.blk⟩
theorem SS.drew {w : World} {blk off n : Nat} {W : World} {d : Array Int} (h : SS w blk off n W d) : SS w blk off n W.drew d := h.drewN 1
theorem SS.below {w : World} {blk off n : Nat} {W W' : World} {d : Array Int} (h : SS w blk off n W d) (hb : Go.RowKit.Below W.heap.size W W') : SS w blk off n W' d := by
  have hl : blk < W.heap.size := Nat.lt_of_lt_of_le h.blk h.chg.size
  exact ⟨h.chg.trans (Chg.of_below hb), h.sz, fun t ht => (cell_block (hb.block blk hl)).trans (h.cell t ht), fun t ht => (frozen_block (hb.block blk hl)).trans (h.frz t ht), h.blk⟩
theorem SS.set {w : World} {blk off n : Nat} {W : World} {d : Array Int} (h : SS w blk off n W d) {i : Nat} (hi : i < n) (x : Int) : SS w blk off n (W.setCell ⟨blk, off + i, none⟩ (.int .i32 x)) (d.setIfInBounds i x) := by
  refine ⟨h.chg.setCell ⟨rfl, by omega, by omega⟩ _, by rw [Array.size_setIfInBounds]; exact h.sz, fun t ht => ?_, fun t ht => by rw [World.frozen?_setCell]; exact h.frz t ht, h.blk⟩
  by_cases e : t = i
  · subst e
    rw [getElem!_set_same d t x (by rw [h.sz]; exact ht)]
    exact World.cell?_setCell_same _ _ _ (h.cell t ht)
  · rw [getElem!_set_other d i t x e]
    exact (World.cell?_setCell_other _ _ _ _ (fun q => e (by have := congrArg Addr.off q; simp at this; omega))).trans (h.cell t ht)
theorem SS.swap {w : World} {blk off n : Nat} {W : World} {d : Array Int} (h : SS w blk off n W d) {i j : Nat} (hi : i < n) (hj : j < n) {x y : Int} (hx : x = d[j]!) (hy : y = d[i]!) : SS w blk off n ((W.setCell ⟨blk, off + i, none⟩ (.int .i32 x)).setCell ⟨blk, off + j, none⟩ (.int .i32 y)) (swp d i j) := by
  subst hx hy
  exact (h.set hi _).set hj _
theorem SS.fam {w : World} {blk off n : Nat} {W : World} {d : Array Int} (h : SS w blk off n W d) : ∃ G : Nat → Int, (∀ t, G t = d[t]!) ∧ (∀ t, t < n → W.cell? ⟨blk, off + t, none⟩ = some (.int .i32 (G t))) ∧ ∀ t, t < n → W.frozen? ⟨blk, off + t, none⟩ = false :=
  ⟨fun t => d[t]!, fun _ => rfl, h.cell, h.frz⟩
theorem wr64 {x : Int} (h1 : -9223372036854775808 ≤ x) (h2 : x ≤ 9223372036854775807) : IntKind.i64.wrap x = x := by
  simp [IntKind.wrap, IntKind.bits, IntKind.signed]; split <;> omega
theorem isNaN_any (x : Int) (w : World) : Calls Tryz.prog 214 #[.int .i32 x] w fun e w' => e = .returned (.bool false) ∧ w' = w := by
  go_enter Tryz.func214, Tryz.ntmps214
  go_wp2
  go_ret
  exact ⟨by simp, rfl⟩
theorem less_any (x y : Int) (w : World) : Calls Tryz.prog 192 #[.int .i32 x, .int .i32 y] w fun e w' => e = .returned (.bool (ltInt x y)) ∧ w' = w := by
  go_enter Tryz.func192, Tryz.ntmps192
  go_wp2_with (go_at_call 214; refine (isNaN_any _ _).mono ?_; rintro e w' ⟨rfl, rfl⟩)
  go_ret
  exact ⟨rfl, rfl⟩
theorem ins_go (a j : Nat) (d : Array Int) (hj : a < j) (hl : ltInt d[j]! d[j - 1]! = true) : insInner ltInt a j d = insInner ltInt a (j - 1) (swp d j (j - 1)) := by
  obtain ⟨k, rfl⟩ : ∃ k, j = k + 1 := ⟨j - 1, by omega⟩
  rw [Nat.add_sub_cancel] at hl ⊢
  conv => lhs; unfold insInner
  rw [if_pos (by rw [hl, Bool.and_true]; exact decide_eq_true hj)]
theorem ins_stop (a j : Nat) (d : Array Int) (h : j ≤ a ∨ ltInt d[j]! d[j - 1]! = false) : insInner ltInt a j d = d := by
  cases j with
  | zero => rfl
  | succ k =>
    rw [Nat.add_sub_cancel] at h
    unfold insInner
    rw [if_neg]
    intro hc
    rw [Bool.and_eq_true, decide_eq_true_iff] at hc
    rcases h with h | h
    · omega
    · rw [hc.2] at h; cases h
theorem insertion_any (w : World) (blk off cap n a b : Nat) (W : World) (d : Array Int) (h : SS w blk off n W d) (hab : a ≤ b) (hb : b ≤ n) (hn : n < 4611686018427387904) :
    Calls Tryz.prog 186 #[.slice (some ⟨blk, off, none⟩) n cap, .int .i64 a, .int .i64 b] W fun e W' => e = .returned (.tuple #[]) ∧ SS w blk off n W' (insertionSort ltInt d a b) := by
  have H0 := hide2 h
  clear h
  go_enter Tryz.func186, Tryz.ntmps186
  go_wp2
  go_loopw [6] (fun iv wr => ∃ (i : Nat) (dk : Array Int), iv = .int .i64 i ∧ a < i ∧ i ≤ b + 1 ∧ Hid (SS w blk off n wr dk ∧ insOuter ltInt a b i dk = insOuter ltInt a b (a + 1) d)) (fun iv _ => b + 1 - (intOf iv).toNat)
  case atStart => exact ⟨a + 1, d, by go_num, by omega, by omega, hide2 ⟨H0.out, rfl⟩⟩
  case round =>
    obtain ⟨i, dk, rfl, hai, hib, H⟩ := hrel
    by_cases hlt : i < b
    · go_wp2
      go_loopw [7] (fun jv wr => ∃ (j : Nat) (dj : Array Int), jv = .int .i64 j ∧ a ≤ j ∧ j ≤ i ∧ Hid (SS w blk off n wr dj ∧ insInner ltInt a j dj = insInner ltInt a i dk)) (fun jv _ => (intOf jv).toNat)
      case atStart => exact ⟨i, dk, rfl, by omega, Nat.le_refl _, hide2 ⟨H.out.1, rfl⟩⟩
      case round =>
        obtain ⟨j, dj, rfl, haj, hji, H2⟩ := hrel
        obtain ⟨G, hG, hc, hf⟩ := H2.out.1.fam
        have HG := hide2 hG
        clear hG
        have out : (j ≤ a ∨ ltInt dj[j]! dj[j - 1]! = false) → insOuter ltInt a b (i + 1) dj = insOuter ltInt a b (a + 1) d := fun hs => by
          rw [← H.out.2]
          conv => rhs; unfold insOuter
          rw [if_pos hlt, ← H2.out.2, ins_stop a j dj hs]
        have OUT := hide2 out
        clear out
        go_wp2
        by_cases hja : a < j
        · go_quiet (first | (go_at_call 192; refine Calls.quiet_of_same (less_any _ _ _)))
          go_wp2
          · have hl : ltInt (G j) (G (j - 1)) = true := by assumption
            go_region
            all_goals go_wp2
            go_roundw
            case rel =>
              refine ⟨j - 1, swp dj j (j - 1), by congr 1; omega, by omega, by omega, hide2 ⟨?_, ?_⟩⟩
              · exact (H2.out.1.drewN (nq + 1)).swap (by omega) (by omega) (HG.out _) (HG.out _)
              · rw [← H2.out.2, ins_go a j dj hja (by rw [← HG.out, ← HG.out]; exact hl)]
            case measure => simp [intOf]; omega
          · have hl : ltInt (G j) (G (j - 1)) = false := by assumption
            go_roundw
            case rel => exact ⟨i + 1, dj, by go_num, by omega, by omega, hide2 ⟨H2.out.1.drewN nq, OUT.out (.inr (by rw [← HG.out, ← HG.out]; exact hl))⟩⟩
            case measure => simp [intOf]; omega
        · go_quiet (first | (go_at_call 192; refine Calls.quiet_of_same (less_any _ _ _)))
          go_wp2
          go_roundw
          case rel => exact ⟨i + 1, dj, by go_num, by omega, by omega, hide2 ⟨H2.out.1.drewN nq, OUT.out (.inl (by omega))⟩⟩
          case measure => simp [intOf]; omega
    · go_wp2
      go_end0
      refine ⟨rfl, ?_⟩
      have h2 := H.out.2
      conv at h2 => lhs; unfold insOuter
      rw [if_neg hlt] at h2
      show SS w blk off n _ (insOuter ltInt a b (a + 1) d)
      rw [← h2]; exact H.out.1
end Go.Proofs.YtlhokghgicgppaaGreatDoor
