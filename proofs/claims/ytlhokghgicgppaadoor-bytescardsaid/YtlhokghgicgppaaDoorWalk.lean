/- What a call has turned, cell by cell. -/
/- source.isEnd. -/
/- (*walk.Walk).step and Alive. -/
import Derived.Test.YtlhokghgicgppaaDoorMach
import Derived.RangeFuncOwn
import Derived.Test.YtlhokghgicgppaaDoorIs
import Derived.Defers
import Derived.Recover
import Derived.Laws.Pointers
import Derived.Test.YtlhokghgicgppaaDoorReach2
import Derived.BigRegion
set_option linter.unusedSimpArgs false
set_option linter.unusedVariables false
namespace Go.Proofs.YtlhokghgicgppaaDoor
open Go.RowKit Go.Extern

/-- From w to w' only the cells of T have turned; new blocks may have come. -/
structure Chg (T : Nat → Nat → Prop) (w w' : World) : Prop where
  os : w'.os = w.os
  tape : w'.tape = w.tape
  output : w'.output = w.output
  size : w.heap.size ≤ w'.heap.size
  block : ∀ k, k < w.heap.size → (∀ o, ¬ T k o) → w'.heap[k]? = w.heap[k]?
  cell : ∀ k o, k < w.heap.size → ¬ T k o → w'.cell? ⟨k, o, none⟩ = w.cell? ⟨k, o, none⟩
  frozen : ∀ k o, k < w.heap.size → ¬ T k o → w'.frozen? ⟨k, o, none⟩ = w.frozen? ⟨k, o, none⟩
  others : KeepsOthers w w'
  frz : ∀ k o, k < w.heap.size → w'.frozen? ⟨k, o, none⟩ = w.frozen? ⟨k, o, none⟩
  live : ∀ k o, k < w.heap.size → (w'.cell? ⟨k, o, none⟩).isSome = (w.cell? ⟨k, o, none⟩).isSome

theorem Chg.refl (T : Nat → Nat → Prop) (w : World) : Chg T w w := ⟨rfl, rfl, rfl, Nat.le_refl _, fun _ _ _ => rfl, fun _ _ _ _ => rfl, fun _ _ _ _ => rfl, KeepsOthers.refl _, fun _ _ _ => rfl, fun _ _ _ => rfl⟩
theorem Chg.trans {T : Nat → Nat → Prop} {a b c : World} (h : Chg T a b) (k : Chg T b c) : Chg T a c :=
  ⟨k.os.trans h.os, k.tape.trans h.tape, k.output.trans h.output, Nat.le_trans h.size k.size,
   fun i hi ht => (k.block i (Nat.lt_of_lt_of_le hi h.size) ht).trans (h.block i hi ht),
   fun i o hi ht => (k.cell i o (Nat.lt_of_lt_of_le hi h.size) ht).trans (h.cell i o hi ht),
   fun i o hi ht => (k.frozen i o (Nat.lt_of_lt_of_le hi h.size) ht).trans (h.frozen i o hi ht), h.others.trans k.others,
   fun i o hi => (k.frz i o (Nat.lt_of_lt_of_le hi h.size)).trans (h.frz i o hi), fun i o hi => (k.live i o (Nat.lt_of_lt_of_le hi h.size)).trans (h.live i o hi)⟩
/-- Later steps may turn what was not there at first. -/
theorem Chg.trans_new {T U : Nat → Nat → Prop} {a b c : World} (h : Chg T a b) (k : Chg U b c) (hU : ∀ i o, i < a.heap.size → U i o → T i o) : Chg T a c :=
  ⟨k.os.trans h.os, k.tape.trans h.tape, k.output.trans h.output, Nat.le_trans h.size k.size,
   fun i hi ht => (k.block i (Nat.lt_of_lt_of_le hi h.size) (fun o hu => ht o (hU i o hi hu))).trans (h.block i hi ht),
   fun i o hi ht => (k.cell i o (Nat.lt_of_lt_of_le hi h.size) (fun hu => ht (hU i o hi hu))).trans (h.cell i o hi ht),
   fun i o hi ht => (k.frozen i o (Nat.lt_of_lt_of_le hi h.size) (fun hu => ht (hU i o hi hu))).trans (h.frozen i o hi ht), h.others.trans k.others,
   fun i o hi => (k.frz i o (Nat.lt_of_lt_of_le hi h.size)).trans (h.frz i o hi), fun i o hi => (k.live i o (Nat.lt_of_lt_of_le hi h.size)).trans (h.live i o hi)⟩
theorem Chg.mono {T U : Nat → Nat → Prop} {a b : World} (h : Chg T a b) (hT : ∀ i o, i < a.heap.size → T i o → U i o) : Chg U a b :=
  (Chg.refl U a).trans_new h hT
theorem Chg.drewN {T : Nat → Nat → Prop} {a b : World} (h : Chg T a b) (n : Nat) : Chg T a (b.drewN n) :=
  ⟨h.os, h.tape, h.output, h.size, h.block, fun k o hk ht => by rw [World.cell?_drewN]; exact h.cell k o hk ht, fun k o hk ht => by rw [World.frozen?_drewN]; exact h.frozen k o hk ht, ⟨h.others.size, h.others.same⟩, fun k o hk => by rw [World.frozen?_drewN]; exact h.frz k o hk, fun k o hk => by rw [World.cell?_drewN]; exact h.live k o hk⟩
theorem Chg.drew {T : Nat → Nat → Prop} {a b : World} (h : Chg T a b) : Chg T a b.drew := h.drewN 1
theorem frozen_block {w w' : World} {k o : Nat} (h : w'.heap[k]? = w.heap[k]?) : w'.frozen? ⟨k, o, none⟩ = w.frozen? ⟨k, o, none⟩ := by
  unfold World.frozen?; simp only [h]
theorem cell_block {w w' : World} {k o : Nat} (h : w'.heap[k]? = w.heap[k]?) : w'.cell? ⟨k, o, none⟩ = w.cell? ⟨k, o, none⟩ := by
  unfold World.cell?; simp only [h]
theorem Chg.of_below {T : Nat → Nat → Prop} {w w' : World} (h : Below w.heap.size w w') : Chg T w w' :=
  ⟨h.os, h.tape, h.output, h.size, fun k hk _ => h.block k hk, fun _ _ hk _ => cell_block (h.block _ hk), fun _ _ hk _ => frozen_block (h.block _ hk),
   ⟨h.size, fun k _ hk _ => (h.block k (Array.getElem?_eq_some_iff.1 hk).1).trans hk⟩, fun _ _ hk => frozen_block (h.block _ hk), fun _ _ hk => by rw [cell_block (h.block _ hk)]⟩
theorem Chg.alloc {T : Nat → Nat → Prop} {a b : World} (h : Chg T a b) (o : Obj) : Chg T a (b.alloc o) :=
  h.trans (Chg.of_below ((Below.refl _ _).alloc (Nat.le_refl _) _))
theorem live_setCell (w : World) (a b : Addr) (v : Value) : ((w.setCell a v).cell? b).isSome = (w.cell? b).isSome := by
  by_cases e : a = b
  · subst e
    cases h : w.cell? a with
    | some u => rw [World.cell?_setCell_same w a v h]; rfl
    | none =>
      have : (w.setCell a v).cell? a = none := by
        unfold World.cell? at h ⊢
        simp only [World.setCell, Array.getElem?_modify, if_true]
        cases ho : w.heap[a.block]? with
        | none => rfl
        | some o =>
          rw [ho] at h
          cases o <;> simp_all
      rw [this]
  · rw [World.cell?_setCell_other w a b v e]
theorem Chg.setCell1 {T : Nat → Nat → Prop} {w : World} {k o : Nat} (hT : T k o) (v : Value) : Chg T w (w.setCell ⟨k, o, none⟩ v) :=
  ⟨rfl, rfl, rfl, (KeepsOthers.setCell _ _ _).size, fun i _ ht => Below.heap_setCell w ⟨k, o, none⟩ v i (fun e => ht o (e ▸ hT)),
   fun i p _ ht => World.cell?_setCell_other w ⟨k, o, none⟩ ⟨i, p, none⟩ v (fun e => by cases e; exact ht hT),
   fun i p _ _ => World.frozen?_setCell _ _ _ _, KeepsOthers.setCell _ _ _, fun i p _ => World.frozen?_setCell _ _ _ _, fun i p _ => live_setCell _ _ _ _⟩
theorem Chg.setCell {T : Nat → Nat → Prop} {a w : World} (h : Chg T a w) {k o : Nat} (hT : T k o) (v : Value) : Chg T a (w.setCell ⟨k, o, none⟩ v) := h.trans (Chg.setCell1 hT v)
theorem Chg.below {T : Nat → Nat → Prop} {w w' : World} (h : Chg T w w') {B : Nat} (hB : B ≤ w.heap.size) (hT : ∀ k o, k < B → ¬ T k o) : Below B w w' :=
  ⟨h.os, h.tape, h.output, h.size, fun k hk => h.block k (by omega) (fun o => hT k o hk)⟩
end Go.Proofs.YtlhokghgicgppaaDoor

namespace Go.Proofs.YtlhokghgicgppaaDoor
open Go.RowKit Go.Extern

/-- An error as the scanner meets it. -/
def errV : Option Int → Value
  | none => .nilIface
  | some n => .iface 27 (.int .i64 n)

theorem isEnd_idle (p : Addr) (w : World) :
    CallsD Tryd.prog 59 #[.pointer (some p)] .returning w fun e u' w' => e = .returned (.tuple #[]) ∧ u' = .returning ∧ w' = w := by
  refine callsD_of_wpS Tryd.func59 rfl fun c₀ cs hu => ?_
  apply wpS_seq
  apply wpS_region
  simp [wpOpsS, go_sem, recoverD, hu, Tryd.ntmps59, Exit.thenS]
  refine wpS_cond (t := false) (by simp [Act.eval, Array.replicate]) ?_
  simp only [Bool.false_eq_true, if_false]
  refine wpS_of_wp (wp_skip ?_)
  cases c₀
  simp_all [bodyPostS, results, Tryd.results59]

theorem isEnd_any (ev : Option Int) (w : World) :
    Calls Tryd.prog 53 #[errV ev] w fun e w' => e = .returned (.bool (ev == some 13)) ∧ Below w.heap.size w w' := by
  have hmf : ∀ (fn : Fn) (first cap : Array Value) (w : World), (Instr.makeFunc fn first cap).run Tryd.prog w = .ok (.func fn first cap) w := fun _ _ _ _ => rfl
  have his : ∀ W, Calls Tryd.prog 60 #[errV ev, .iface 27 (.int .i64 13)] W fun e w' => e = .returned (.bool (ev == some 13)) ∧ w' = W := fun W => by
    cases ev with
    | none => exact is_nil _ W
    | some n =>
      have := is_errno n 13 W
      rw [show (some n == some (13 : Int)) = (n == 13) from rfl]
      exact this
  have His : Hid (∀ W, Calls Tryd.prog 60 #[errV ev, .iface 27 (.int .i64 13)] W fun e w' => e = .returned (.bool (ev == some 13)) ∧ w' = W) := his
  clear his
  generalize (ev == some 13) = r at *
  generalize errV ev = v at *
  go_enter_defers Tryd.func53, Tryd.ntmps53
  go_wp2_with fail
  refine (His.out _).mono ?_
  rintro e w1 ⟨rfl, rfl⟩
  go_wp2
  refine leaves_cons (f := 59) (args := #[.pointer (some ⟨w.heap.size, 0, none⟩)]) (by simp) (by simp [go_sem]) ?_
  refine (isEnd_idle ⟨w.heap.size, 0, none⟩ _).mono ?_
  rintro e u' w'' ⟨rfl, rfl, rfl⟩
  simp [Leaves, settle, results, Tryd.results53, go_sem]
  exact (Below.refl _ _).alloc (Nat.le_refl _) _
end Go.Proofs.YtlhokghgicgppaaDoor

namespace Go.Proofs.YtlhokghgicgppaaDoor
open Go.RowKit Go.Extern

/-- Tables that lie below B. -/
def MachIn (w : World) (B p : Nat) (m : Sg.Mach) : Prop :=
  ∃ (cb co cc sb so sc : Nat) (nb no nc : Nat → Nat), MachAt w p m cb co cc sb so sc nb no nc ∧ p < B ∧ cb < B ∧ sb < B ∧ (∀ i, i < m.states.length → nb i < B) ∧ m.cuts.length ≤ cc
theorem MachIn.of {w w' : World} {B p : Nat} {m : Sg.Mach} (M : MachIn w B p m) (hm : m.Ok) (h : ∀ (b o : Nat) (v : Value), b < B → w.cell? ⟨b, o, none⟩ = some v → w'.cell? ⟨b, o, none⟩ = some v) : MachIn w' B p m := by
  obtain ⟨cb, co, cc, sb, so, sc, nb, no, nc, M, h1, h2, h3, h4, h5⟩ := M
  exact ⟨cb, co, cc, sb, so, sc, nb, no, nc, ⟨h _ _ _ h1 M.c0, h _ _ _ h1 M.c1, fun i hi => h _ _ _ h2 (M.low i hi), fun i hi => h _ _ _ h2 (M.kind i hi), fun i hi => h _ _ _ h3 (M.rule i hi), fun i hi => h _ _ _ h3 (M.next i hi), fun i k hi hk => h _ _ _ (h4 i hi) (M.to i k hi hk)⟩, h1, h2, h3, h4, h5⟩
theorem MachIn.chg {w w' : World} {B p : Nat} {m : Sg.Mach} (M : MachIn w B p m) (hm : m.Ok) {T : Nat → Nat → Prop} (h : Chg T w w') (hT : ∀ i o, T i o → B ≤ i) : MachIn w' B p m :=
  M.of hm fun b o v hb hc => (h.cell b o (cell_lt hc) (fun t => by have := hT b o t; omega)).trans hc

structure WkAt (w : World) (q o p : Nat) (k : Sg.Wk) : Prop where
  c0 : w.cell? ⟨q, o, none⟩ = some (.pointer (some ⟨p, 0, none⟩))
  c1 : w.cell? ⟨q, o + 1, none⟩ = some (.int .i64 k.state)
  c2 : w.cell? ⟨q, o + 2, none⟩ = some (.int .i64 k.passed)
  c3 : w.cell? ⟨q, o + 3, none⟩ = some (.int .i64 k.rule)
  c4 : w.cell? ⟨q, o + 4, none⟩ = some (.int .i64 k.length)
  fr : ∀ j, w.frozen? ⟨q, j, none⟩ = false

theorem dec_bd (l : Sg.Bs) (h : l ≠ []) : 1 ≤ (Sg.dec l).2 ∧ (Sg.dec l).2 ≤ 4 := by
  unfold Sg.dec Lib.decodeN
  rw [if_neg h]
  repeat' split
  all_goals simp
theorem WkAt.set1 {w : World} {q o p : Nat} {k : Sg.Wk} (h : WkAt w q o p k) (x : Int) : WkAt (w.setCell ⟨q, o + 1, none⟩ (.int .i64 x)) q o p { k with state := x } :=
  ⟨(World.cell?_setCell_other _ _ _ _ (by simp)).trans h.c0, World.cell?_setCell_same _ _ _ h.c1, (World.cell?_setCell_other _ _ _ _ (by simp)).trans h.c2, (World.cell?_setCell_other _ _ _ _ (by simp)).trans h.c3, (World.cell?_setCell_other _ _ _ _ (by simp)).trans h.c4, fun j => by rw [World.frozen?_setCell]; exact h.fr j⟩

theorem WkAt.set2 {w : World} {q o p : Nat} {k : Sg.Wk} (h : WkAt w q o p k) (x z : Nat) : WkAt (w.setCell ⟨q, o + 2, none⟩ (.int .i64 (x + z))) q o p { k with passed := x + z } :=
  ⟨(World.cell?_setCell_other _ _ _ _ (by simp)).trans h.c0, (World.cell?_setCell_other _ _ _ _ (by simp)).trans h.c1, World.cell?_setCell_same _ _ _ h.c2, (World.cell?_setCell_other _ _ _ _ (by simp)).trans h.c3, (World.cell?_setCell_other _ _ _ _ (by simp)).trans h.c4, fun j => by rw [World.frozen?_setCell]; exact h.fr j⟩
theorem WkAt.set3 {w : World} {q o p : Nat} {k : Sg.Wk} (h : WkAt w q o p k) (x : Int) : WkAt (w.setCell ⟨q, o + 3, none⟩ (.int .i64 x)) q o p { k with rule := x } :=
  ⟨(World.cell?_setCell_other _ _ _ _ (by simp)).trans h.c0, (World.cell?_setCell_other _ _ _ _ (by simp)).trans h.c1, (World.cell?_setCell_other _ _ _ _ (by simp)).trans h.c2, World.cell?_setCell_same _ _ _ h.c3, (World.cell?_setCell_other _ _ _ _ (by simp)).trans h.c4, fun j => by rw [World.frozen?_setCell]; exact h.fr j⟩
theorem WkAt.set4 {w : World} {q o p : Nat} {k : Sg.Wk} (h : WkAt w q o p k) (x z : Nat) : WkAt (w.setCell ⟨q, o + 4, none⟩ (.int .i64 (x + z))) q o p { k with length := x + z } :=
  ⟨(World.cell?_setCell_other _ _ _ _ (by simp)).trans h.c0, (World.cell?_setCell_other _ _ _ _ (by simp)).trans h.c1, (World.cell?_setCell_other _ _ _ _ (by simp)).trans h.c2, (World.cell?_setCell_other _ _ _ _ (by simp)).trans h.c3, World.cell?_setCell_same _ _ _ h.c4, fun j => by rw [World.frozen?_setCell]; exact h.fr j⟩
theorem WkAt.drewN {w : World} {q o p : Nat} {k : Sg.Wk} (h : WkAt w q o p k) (n : Nat) : WkAt (w.drewN n) q o p k := ⟨h.c0, h.c1, h.c2, h.c3, h.c4, h.fr⟩
theorem after_ok (m : Sg.Mach) (hm : m.Ok) (s : Nat) (c : Int) (hs : s < m.states.length) : m.after s c = -1 ∨ ∃ t : Nat, m.after s c = t ∧ t < m.states.length := by
  have hi := Sg.cutIx_lt m.cuts c hm.cuts0
  have h0 := hm.kind0 _ hi
  have h1 := hm.kinds _ hi s hs
  have := hm.nexts s hs (m.kind (Sg.cutIx m.cuts c)) (by unfold Sg.Mach.kind; omega)
  rcases this with h | ⟨h2, h3⟩
  · exact .inl h
  · exact .inr ⟨(m.after s c).toNat, by unfold Sg.Mach.after; omega, by unfold Sg.Mach.after; omega⟩

set_option maxRecDepth 100000 in
set_option maxHeartbeats 4000000 in
theorem step_any (m : Sg.Mach) (hm : m.Ok) (k : Sg.Wk) (s : Nat) (hk : k.state = s) (hs : s < m.states.length) (hp : k.passed < 1000000000) (l : Sg.Bs) (a : Option Addr) (cap : Nat) (w : World) (hT : Tabs w) (h : SlAt w a l) (h0 : l ≠ []) (B p q o : Nat) (hB : B ≤ q)
    (Mi : MachIn w B p m) (hW : WkAt w q o p k) :
    Calls Tryd.prog 41 #[.pointer (some ⟨q, o, none⟩), .slice a l.length cap] w fun e w' => (∃ v, e = .returned v) ∧ WkAt w' q o p (Sg.stepW m k l) ∧ Chg (fun i j => i = q ∧ o < j ∧ j ≤ o + 4) w w' := by
  have hd := dec_any l a cap w hT h h0
  have hz := dec_bd l h0
  have H : Hid (Sg.stepW m k l = if (Sg.dec l).1 = 65533 ∧ (Sg.dec l).2 = 1 then { k with state := -1 }
    else if m.after s (Sg.dec l).1 = -1 then { k with state := -1, passed := k.passed + (Sg.dec l).2 }
    else if m.rule (m.after s (Sg.dec l).1).toNat = -1 then { k with state := m.after s (Sg.dec l).1, passed := k.passed + (Sg.dec l).2 }
    else ⟨m.after s (Sg.dec l).1, k.passed + (Sg.dec l).2, m.rule (m.after s (Sg.dec l).1).toNat, k.passed + (Sg.dec l).2⟩) := by
    show _ = _
    unfold Sg.stepW
    simp only [hk, Int.toNat_natCast]
  generalize (Sg.dec l).1 = r at *
  generalize (Sg.dec l).2 = z at *
  have hz1 := hz.1
  have hz2 := hz.2
  clear hz
  go_enter Tryd.func41, Tryd.ntmps41
  go_wp2_with fail
  refine hd.mono ?_
  rintro e w1 ⟨rfl, hb⟩
  clear hd
  have hq := cell_lt hW.c0
  have hW1 : WkAt w1 q o p k := ⟨(hb.cell (p := ⟨q, o, none⟩) hq).trans hW.c0, (hb.cell (p := ⟨q, o + 1, none⟩) hq).trans hW.c1, (hb.cell (p := ⟨q, o + 2, none⟩) hq).trans hW.c2, (hb.cell (p := ⟨q, o + 3, none⟩) hq).trans hW.c3, (hb.cell (p := ⟨q, o + 4, none⟩) hq).trans hW.c4, fun j => (hb.frozen (p := ⟨q, j, none⟩) hq).trans (hW.fr j)⟩
  have hch : Chg (fun i j => i = q ∧ o < j ∧ j ≤ o + 4) w w1 := Chg.of_below hb
  have hM1 : MachIn w1 B p m := Mi.chg hm hch (fun i _ t => by omega)
  obtain ⟨cb, co, cc, sb, so, sc, nb, no, nc, M, l1, l2, l3, l4, l5⟩ := hM1
  clear hb hW Mi hT h
  have hf0 := hW1.fr
  have hc1 := hW1.c1
  rw [hk] at hc1
  have hc0 := hW1.c0
  have hc2 := hW1.c2
  have Haf : Hid (Calls Tryd.prog 50 #[.pointer (some ⟨p, 0, none⟩), .int .i64 s, .int .i32 r] w1.drew fun e w' => e = .returned (.int .i64 (m.after s r)) ∧ ∃ n, w' = w1.drew.drewN n) :=
    after_any m hm s r w1.drew p cb co cc sb so sc nb no nc (M.of fun _ _ _ h => h) hs
  by_cases hbad : r = 65533 ∧ z = 1
  · obtain ⟨rfl, rfl⟩ := hbad
    go_wp2
    refine bodyPost_ret (results_none rfl _ _ _) rfl ?_
    refine ⟨⟨_, rfl⟩, ?_, hch.setCell (by omega) _⟩
    rw [H.out]
    simp only [and_self, if_true]
    exact hW1.set1 _
  · have hbad' : (r : Int) = 65533 → (z : Int) ≠ 1 := by omega
    have hgd : ((r : Int) == 65533) = true ∧ ((z : Int) == 1) = false ∨ ((r : Int) == 65533) = false := by
      by_cases e1 : (r : Int) = 65533
      · exact .inl ⟨beq_iff_eq.2 e1, beq_eq_false_iff_ne.2 (hbad' e1)⟩
      · exact .inr (beq_eq_false_iff_ne.2 e1)
    have hx := after_ok m hm s r hs
    have n1 : ¬ q = p := by omega
    have n2 : ¬ p = q := by omega
    have n3 : ¬ q = sb := by omega
    have n4 : ¬ sb = q := by omega
    have hp1 := M.c1
    have hsN := hm.statesN
    rcases hx with hx | ⟨t, hx, ht⟩
    · rw [hx] at H
      have Hx : Hid (m.after s r = -1) := hx
      rw [hx] at Haf
      clear hx
      have hfin : Hid (Sg.stepW m k l = { k with state := -1, passed := k.passed + z }) := by
        show _ = _
        rw [H.out, if_neg hbad, if_pos rfl]
      clear H
      rcases hgd with ⟨g1, g2⟩ | g1
      all_goals
        go_wp2
        go_region_with (go_at_call 50; refine Haf.out.mono ?_; rintro e w2 ⟨rfl, n2, rfl⟩)
        all_goals
          go_wp2
          refine bodyPost_ret (results_none rfl _ _ _) rfl ?_
          refine ⟨⟨_, rfl⟩, ?_, ((hch.drewN _).setCell (by omega) _).setCell (by omega) _⟩
          rw [hfin.out]
          exact ((hW1.drewN _).set1 _).set2 _ _
    · rw [hx] at H Haf
      have hr := M.rule t ht
      clear hx
      by_cases hrule : m.rule t = -1
      · have hr' : (m.rule t == -1) = true := beq_iff_eq.2 hrule
        have hfin : Hid (Sg.stepW m k l = { k with state := t, passed := k.passed + z }) := by
          show _ = _
          rw [H.out, if_neg hbad, if_neg (by omega), Int.toNat_natCast, if_pos hrule]
        clear H hrule
        rcases hgd with ⟨g1, g2⟩ | g1
        all_goals
          go_wp2
          go_region_with (go_at_call 50; refine Haf.out.mono ?_; rintro e w2 ⟨rfl, n2, rfl⟩)
          all_goals
            go_wp2
            go_quiet (fail)
            go_wp2
            refine bodyPost_end (results_none rfl _ _ _) rfl ?_
            refine ⟨⟨_, rfl⟩, ?_, (((hch.drewN _).setCell (by omega) _).setCell (by omega) _).drewN _⟩
            rw [hfin.out]
            exact (((hW1.drewN _).set1 _).set2 _ _).drewN _
      · have hr' : (m.rule t == -1) = false := beq_eq_false_iff_ne.2 hrule
        have hfin : Hid (Sg.stepW m k l = ⟨t, k.passed + z, m.rule t, k.passed + z⟩) := by
          show _ = _
          rw [H.out, if_neg hbad, if_neg (by omega), Int.toNat_natCast, if_neg hrule]
        clear H hrule
        have hc3 := hW1.c3
        have hc4 := hW1.c4
        rcases hgd with ⟨g1, g2⟩ | g1
        all_goals
          go_wp2
          go_region_with (go_at_call 50; refine Haf.out.mono ?_; rintro e w2 ⟨rfl, n2, rfl⟩)
          all_goals
            go_wp2
            go_quiet (fail)
            go_wp2
            refine bodyPost_end (results_none rfl _ _ _) rfl ?_
            refine ⟨⟨_, rfl⟩, ?_, (((((hch.drewN _).setCell (by omega) _).setCell (by omega) _).setCell (by omega) _).setCell (by omega) _).drewN _⟩
            rw [hfin.out]
            exact (((((hW1.drewN _).set1 _).set2 _ _).set3 _).set4 _ _).drewN _
end Go.Proofs.YtlhokghgicgppaaDoor
