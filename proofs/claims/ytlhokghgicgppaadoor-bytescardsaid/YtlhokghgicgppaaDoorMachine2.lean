/- stored.machine: its parts. -/
/- stored.machine: the cuts. -/
import Derived.Test.YtlhokghgicgppaaDoorChunk
import Derived.Test.YtlhokghgicgppaaDoorRoundReg
import Derived.Test.YtlhokghgicgppaaDoorMkScan
set_option linter.unusedSimpArgs false
set_option linter.unusedVariables false
namespace Go.Proofs.YtlhokghgicgppaaDoor
open Go.RowKit Go.Extern

attribute [local go_sem] Oper.semAt_some

set_option maxRecDepth 100000 in
set_option maxHeartbeats 1000000 in
theorem chunk1_nil (n l bs bn cap k : Nat) (ra : Option Addr) (W : World) (hb : W.cell? ⟨bs, 0, none⟩ = some (.slice ra 0 cap)) (hn : W.cell? ⟨bn, 0, none⟩ = some (.int .i64 k)) :
    CallsIn Fence.wide n Tryd.prog 48 #[.func (.yield l) #[] #[], .pointer (some ⟨bs, 0, none⟩), .pointer (some ⟨bn, 0, none⟩)] W fun e W' => (∃ v, e = .returned v) ∧ W' = W := by
  refine callsIn_of_wp Tryd.func48 rfl trivial ?_ rfl
  simp only [Tryd.ntmps48, List.size_toArray, List.length_cons, List.length_nil, Nat.reduceAdd, Nat.reduceSub, Array.replicate_succ, Array.replicate_zero, List.push_toArray, List.append_toArray, List.nil_append, List.cons_append]
  gi_wp2
  gi_loopw [4] (fun iv wr => iv = .int .i64 0 ∧ wr = W) (fun _ _ => 0)
  case atStart => exact ⟨rfl, rfl⟩
  case round =>
    obtain ⟨rfl, rfl⟩ := hrel
    gi_wp2
    go_end0
    exact ⟨⟨_, rfl⟩, rfl⟩

/-- Numbers in memory. -/
def IntsAt (w : World) (a : Option Addr) (l : List Int) : Prop := l = [] ∨ ∃ b o, a = some ⟨b, o, none⟩ ∧ ∀ j, j < l.length → w.cell? ⟨b, o + j, none⟩ = some (.int .i64 (l.getD j 0))
def cutCells (c : Int × Int) : List Value := [.int .i32 c.1, .int .i64 c.2]
/-- A state, and where its row lies. -/
abbrev StZ := (Int × List Int) × (Option Addr × Nat)
def stCells (z : StZ) : List Value := [.int .i64 z.1.1, .slice z.2.1 z.1.2.length z.2.2]
theorem info_cut : (Tryd.prog.info? 102).map (fun i => (i.zero, i.size, i.bytes)) = some (some (.agg #[.int .i32 0, .int .i64 0]), 2, 16) := by kernel_rfl
theorem info_state : (Tryd.prog.info? 104).map (fun i => (i.zero, i.size, i.bytes)) = some (some (.agg #[.int .i64 0, .slice none 0 0]), 2, 32) := by kernel_rfl

/-- What the making of tables is about. -/
structure MC where
  pb : Nat
  mv : Nat
  kv : Nat
  sb : Nat
  nb : Nat
  rb : Nat
  ro : Nat
  l : List Int
  cap : Nat
  w0 : World
structure MC.Ok (c : MC) : Prop where
  pb : c.pb < c.w0.heap.size
  mv : c.mv < c.w0.heap.size
  kv : c.kv < c.w0.heap.size
  sb : c.sb < c.w0.heap.size
  nb : c.nb < c.w0.heap.size
  rb : c.rb < c.pb
  d1 : c.mv ≠ c.pb
  d2 : c.kv ≠ c.pb
  d3 : c.mv ≠ c.kv
  d4 : c.sb ≠ c.pb ∧ c.sb ≠ c.kv ∧ c.nb ≠ c.pb ∧ c.nb ≠ c.kv
  d5 : c.rb ≠ c.kv
  m : c.w0.cell? ⟨c.mv, 0, none⟩ = some (.pointer (some ⟨c.pb, 0, none⟩))
  s : c.w0.cell? ⟨c.sb, 0, none⟩ = some (.slice (some ⟨c.rb, c.ro, none⟩) c.l.length c.cap)
  n : c.w0.cell? ⟨c.nb, 0, none⟩ = some (.int .i64 2)
  cells : ∀ j, j < c.l.length → c.w0.cell? ⟨c.rb, c.ro + j, none⟩ = some (.int .i64 (c.l.getD j 0))
  bd : ∀ x ∈ c.l, 0 ≤ x ∧ x < 2097152
  fp : ∀ j, c.w0.frozen? ⟨c.pb, j, none⟩ = false
  fk : ∀ j, c.w0.frozen? ⟨c.kv, j, none⟩ = false
  even : c.l.length % 2 = 0
  small : c.l.length < 1000000
/-- Behind i cuts. -/
structure MC.C (c : MC) (i : Nat) (cs : List (Int × Int)) (cr : Option Addr) (cc kd : Nat) (W : World) : Prop where
  len : cs.length = i
  bd : ∀ x ∈ cs, (0 ≤ x.1 ∧ x.1 < 2097152) ∧ (0 ≤ x.2 ∧ x.2 < 2097152)
  cell : W.cell? ⟨c.pb, 0, none⟩ = some (.slice cr i cc)
  row : RowAt 2 W cr cc i (cs.flatMap cutCells)
  new : NewRow c.w0 cr
  kind : W.cell? ⟨c.kv, 0, none⟩ = some (.int .i64 kd)
  kd : kd ≤ 2097152
  chg : Chg (fun i _ => i = c.pb ∨ i = c.kv) c.w0 W
  one : W.cell? ⟨c.pb, 1, none⟩ = some (.slice none 0 0)
  le : 2 * i ≤ c.l.length
def MC.J (c : MC) (i : Nat) (W : World) : Prop := ∃ cs cr cc kd, c.C i cs cr cc kd W
theorem RowAt.drew {sz : Nat} {w : World} {ra : Option Addr} {rc n : Nat} {l : List Value} (h : RowAt sz w ra rc n l) : RowAt sz w.drew ra rc n l := h.below ((Below.refl _ _).drew)
theorem MC.C.drew {c : MC} {i : Nat} {cs : List (Int × Int)} {cr : Option Addr} {cc kd : Nat} {W : World} (h : c.C i cs cr cc kd W) : c.C i cs cr cc kd W.drew :=
  ⟨h.len, h.bd, h.cell, h.row.drew, h.new, h.kind, h.kd, h.chg.drew, h.one, h.le⟩
theorem MC.C.kept {c : MC} {i : Nat} {cs : List (Int × Int)} {cr : Option Addr} {cc kd : Nat} {W W' : World} (h : c.C i cs cr cc kd W) (hk : Kept W W') (hg : Chg (fun i _ => i = c.pb ∨ i = c.kv) c.w0 W') : c.C i cs cr cc kd W' :=
  ⟨h.len, h.bd, hk.cell _ _ _ h.cell, h.row.kept hk, h.new, hk.cell _ _ _ h.kind, h.kd, hg, hk.cell _ _ _ h.one, h.le⟩
theorem MC.J_own {c : MC} {β : Type} (f : β → Nat → Prop) : OwnSt c.w0.heap.size (fun (s : β) W => ∃ i, f s i ∧ c.J i W) :=
  ⟨fun _ W o ⟨i, hf, cs, cr, cc, kd, h⟩ _ => ⟨i, hf, cs, cr, cc, kd, h.kept (Kept.alloc W o) (h.chg.alloc o)⟩,
   fun _ W l r r' ⟨i, hf, cs, cr, cc, kd, h⟩ hB hl => ⟨i, hf, cs, cr, cc, kd, h.kept (Kept.loop hl) (h.chg.loop hB _)⟩⟩
theorem MC.at_ {c : MC} (hc : c.Ok) {i : Nat} {W : World} (h : c.J i W) : W.cell? ⟨c.mv, 0, none⟩ = some (.pointer (some ⟨c.pb, 0, none⟩)) ∧ W.cell? ⟨c.sb, 0, none⟩ = some (.slice (some ⟨c.rb, c.ro, none⟩) c.l.length c.cap) ∧ W.cell? ⟨c.nb, 0, none⟩ = some (.int .i64 2) ∧ (∀ j, j < c.l.length → W.cell? ⟨c.rb, c.ro + j, none⟩ = some (.int .i64 (c.l.getD j 0))) ∧ (∀ j, W.frozen? ⟨c.pb, j, none⟩ = false) ∧ ∀ j, W.frozen? ⟨c.kv, j, none⟩ = false := by
  obtain ⟨cs, cr, cc, kd, h⟩ := h
  have d4 := hc.d4
  have hpb := hc.pb
  have hrb := hc.rb
  refine ⟨(h.chg.cell _ _ hc.mv (fun t => by have := hc.d1; have := hc.d3; omega)).trans hc.m, (h.chg.cell _ _ hc.sb (fun t => by omega)).trans hc.s, (h.chg.cell _ _ hc.nb (fun t => by omega)).trans hc.n, fun j hj => (h.chg.cell _ _ (by omega) (fun t => by have := hc.d5; omega)).trans (hc.cells j hj), fun j => (h.chg.frz _ _ hc.pb).trans (hc.fp j), fun j => (h.chg.frz _ _ hc.kv).trans (hc.fk j)⟩
/-- One more cut. -/
theorem MC.C.step {c : MC} (hc : c.Ok) {i : Nat} {cs : List (Int × Int)} {cr cr2 : Option Addr} {cc cc2 kd kd2 : Nat} {W W2 : World} (h : c.C i cs cr cc kd W) (hi : 2 * i < c.l.length) (x0 x1 : Int) (h0 : 0 ≤ x0 ∧ x0 < 2097152) (h1 : 0 ≤ x1 ∧ x1 < 2097152)
    (hrow : RowAt 2 W2 cr2 cc2 (i + 1) (cs.flatMap cutCells ++ [.int .i32 x0, .int .i64 x1])) (hch : Chg (rowT cr) W W2) (hmv : Moved W cr cr2) (hk2 : kd2 ≤ 2097152) {W3 : World} (e3 : Below W2.heap.size (W2.setCell ⟨c.pb, 0, none⟩ (.slice cr2 (i + 1) cc2)) W3) :
    c.C (i + 1) (cs ++ [(x0, x1)]) cr2 cc2 kd2 (W3.setCell ⟨c.kv, 0, none⟩ (.int .i64 kd2)) ∧ KeepsOthers W (W3.setCell ⟨c.kv, 0, none⟩ (.int .i64 kd2)) := by
  have hsz := h.chg.size
  have hsz2 := hch.size
  have hpb := hc.pb
  have hkv := hc.kv
  have hn1 : ∀ b o, cr = some ⟨b, o, none⟩ → b ≠ c.pb ∧ b ≠ c.kv := by
    intro b o e
    have h5 := h.new b o e
    constructor <;> omega
  have hn2 := h.new.moved hsz hmv
  have hn3 : ∀ b o, cr2 = some ⟨b, o, none⟩ → b ≠ c.pb ∧ b ≠ c.kv := by
    intro b o e
    have h5 := hn2 b o e
    constructor <;> omega
  have c2 : ∀ b j v, (b = c.pb ∨ b = c.kv) → W.cell? ⟨b, j, none⟩ = some v → W2.cell? ⟨b, j, none⟩ = some v := fun b j v hb hv => (hch.cell _ _ (cell_lt hv) (by
    intro t
    obtain ⟨o, e⟩ := t
    have h5 := hn1 b o e
    rcases hb with hb | hb
    · exact h5.1 hb
    · exact h5.2 hb)).trans hv
  have g2 : Chg (fun i _ => i = c.pb) W2 (W2.setCell ⟨c.pb, 0, none⟩ (.slice cr2 (i + 1) cc2)) := Chg.setCell1 (T := fun i _ => i = c.pb) rfl _
  have hX : (W2.setCell ⟨c.pb, 0, none⟩ (.slice cr2 (i + 1) cc2)).heap.size = W2.heap.size := by simp
  have e3' : Below (W2.setCell ⟨c.pb, 0, none⟩ (.slice cr2 (i + 1) cc2)).heap.size (W2.setCell ⟨c.pb, 0, none⟩ (.slice cr2 (i + 1) cc2)) W3 := by rw [hX]; exact e3
  have g3 : Chg (fun i _ => i = c.pb) W2 W3 := g2.trans_new (Chg.of_below (T := fun _ _ => False) e3') (fun _ _ _ t => t.elim)
  have g4 : Chg (fun i _ => i = c.pb ∨ i = c.kv) W2 (W3.setCell ⟨c.kv, 0, none⟩ (.int .i64 kd2)) := (g3.mono (fun i j _ t => .inl t)).setCell (.inr rfl) _
  have hs3 := g3.size
  have lp : c.pb < W2.heap.size := by omega
  have q0 : W3.cell? ⟨c.pb, 0, none⟩ = some (.slice cr2 (i + 1) cc2) := (e3.cell (p := ⟨c.pb, 0, none⟩) lp).trans (World.cell?_setCell_same _ _ _ (c2 _ _ _ (.inl rfl) h.cell))
  have q1 : W3.cell? ⟨c.pb, 1, none⟩ = some (.slice none 0 0) := (e3.cell (p := ⟨c.pb, 1, none⟩) lp).trans ((World.cell?_setCell_other _ _ _ _ (by simp)).trans (c2 _ _ _ (.inl rfl) h.one))
  have q2 : W3.cell? ⟨c.kv, 0, none⟩ = some (.int .i64 kd) := (e3.cell (p := ⟨c.kv, 0, none⟩) (by show c.kv < _; omega)).trans ((World.cell?_setCell_other _ _ _ _ (fun e => hc.d2 (congrArg Addr.block e).symm)).trans (c2 _ _ _ (.inr rfl) h.kind))
  have hall : Chg (fun i _ => i = c.pb ∨ i = c.kv) c.w0 (W3.setCell ⟨c.kv, 0, none⟩ (.int .i64 kd2)) := (h.chg.trans_new hch (by
    intro a j ha t
    obtain ⟨o, e⟩ := t
    have h5 := h.new a o e
    exact absurd ha (Nat.not_lt.2 h5))).trans g4
  refine ⟨⟨by rw [List.length_append, h.len]; rfl, ?_, ?_, ?_, hn2, World.cell?_setCell_same _ _ _ q2, hk2, hall, ?_, by have := hc.even; omega⟩, hch.others.trans g4.others⟩
  · intro x hx
    rcases List.mem_append.1 hx with hx | hx
    · exact h.bd x hx
    · simp only [List.mem_singleton] at hx
      subst hx
      exact ⟨h0, h1⟩
  · exact (World.cell?_setCell_other _ _ _ _ (fun e => hc.d2 (congrArg Addr.block e))).trans q0
  · rw [List.flatMap_append]
    have : [(x0, x1)].flatMap cutCells = [.int .i32 x0, .int .i64 x1] := rfl
    rw [this]
    exact hrow.of g4 (fun rb ro j e t => by
      have h5 := hn3 rb ro e
      rcases t with t | t
      · exact h5.1 t
      · exact h5.2 t)
  · exact (World.cell?_setCell_other _ _ _ _ (fun e => hc.d2 (congrArg Addr.block e))).trans q1
end Go.Proofs.YtlhokghgicgppaaDoor

namespace Go.Proofs.YtlhokghgicgppaaDoor
open Go.RowKit Go.Extern

attribute [local go_sem] Oper.semAt_some

/-- The world in which the cuts are gone through. -/
abbrev mW1 (w : World) (rb o1 n1 cap1 : Nat) : World := ((((w.alloc (.cells #[.slice none 0 0, .slice none 0 0] 100)).alloc (.cells #[.pointer (some ⟨w.heap.size, 0, none⟩)] 37)).alloc (.cells #[.int .i64 0] 3)).alloc (.cells #[.slice (some ⟨rb, o1, none⟩) n1 cap1] 61)).alloc (.cells #[.int .i64 2] 3)
def mC1 (w : World) (rb o1 cap1 : Nat) (cuts : List Int) : MC := ⟨w.heap.size, w.heap.size + 1, w.heap.size + 1 + 1, w.heap.size + 1 + 1 + 1, w.heap.size + 1 + 1 + 1 + 1, rb, o1, cuts, cap1, mW1 w rb o1 cuts.length cap1⟩
theorem newCells (w : World) (cs : Array Value) (t : TypeId) (b j : Nat) (v : Value) (hb : b = w.heap.size) (hv : cs[j]? = some v) : (w.alloc (.cells cs t)).cell? ⟨b, j, none⟩ = some v := by
  subst hb
  rw [World.cell?_alloc_at _ _ _ _ rfl]; exact hv
theorem newFrees (w : World) (cs : Array Value) (t : TypeId) (b j : Nat) (hb : b = w.heap.size) : (w.alloc (.cells cs t)).frozen? ⟨b, j, none⟩ = false := by
  subst hb
  exact World.frozen?_alloc_at _ _ _ _ rfl
theorem mC1_ok (w : World) (rb o1 cap1 : Nat) (cuts : List Int) (hrb : rb < w.heap.size) (h1 : ∀ j, j < cuts.length → w.cell? ⟨rb, o1 + j, none⟩ = some (.int .i64 (cuts.getD j 0))) (hN1 : cuts.length < 1000000) (heven : cuts.length % 2 = 0) (hb1 : ∀ x ∈ cuts, 0 ≤ x ∧ x < 2097152) :
    (mC1 w rb o1 cap1 cuts).Ok ∧ (mC1 w rb o1 cap1 cuts).J 0 (mW1 w rb o1 cuts.length cap1) := by
  have hsz : (mW1 w rb o1 cuts.length cap1).heap.size = w.heap.size + 5 := by simp
  refine ⟨⟨by show w.heap.size < (mW1 w rb o1 cuts.length cap1).heap.size; omega, by show w.heap.size + 1 < (mW1 w rb o1 cuts.length cap1).heap.size; omega, by show w.heap.size + 1 + 1 < (mW1 w rb o1 cuts.length cap1).heap.size; omega, by show w.heap.size + 1 + 1 + 1 < (mW1 w rb o1 cuts.length cap1).heap.size; omega, by show w.heap.size + 1 + 1 + 1 + 1 < (mW1 w rb o1 cuts.length cap1).heap.size; omega, hrb, by show w.heap.size + 1 ≠ w.heap.size; omega, by show w.heap.size + 1 + 1 ≠ w.heap.size; omega, by show w.heap.size + 1 ≠ w.heap.size + 1 + 1; omega,
    ⟨by show w.heap.size + 1 + 1 + 1 ≠ w.heap.size; omega, by show w.heap.size + 1 + 1 + 1 ≠ w.heap.size + 1 + 1; omega, by show w.heap.size + 1 + 1 + 1 + 1 ≠ w.heap.size; omega, by show w.heap.size + 1 + 1 + 1 + 1 ≠ w.heap.size + 1 + 1; omega⟩, by show rb ≠ w.heap.size + 1 + 1; omega, ?_, ?_, ?_, ?_, hb1, ?_, ?_, heven, hN1⟩, [], none, 0, 0, ⟨rfl, fun x hx => absurd hx (by simp), ?_, RowAt.nil 2 _, fun b o e => (by cases e), ?_, by omega, Chg.refl _ _, ?_, by omega⟩⟩
  · exact oldCell _ (oldCell _ (oldCell _ (newCell _ _ _ _ (by show w.heap.size + 1 = _; simp))))
  · exact oldCell _ (newCell _ _ _ _ (by show w.heap.size + 1 + 1 + 1 = _; simp))
  · exact newCell _ _ _ _ (by show w.heap.size + 1 + 1 + 1 + 1 = _; simp)
  · exact fun j hj => oldCell _ (oldCell _ (oldCell _ (oldCell _ (oldCell _ (h1 j hj)))))
  · exact fun j => oldFree _ (by show w.heap.size < _; simp; omega) (oldFree _ (by show w.heap.size < _; simp; omega) (oldFree _ (by show w.heap.size < _; simp; omega) (oldFree _ (by show w.heap.size < _; simp) (newFrees _ _ _ _ _ rfl))))
  · exact fun j => oldFree _ (by show w.heap.size + 1 + 1 < _; simp) (oldFree _ (by show w.heap.size + 1 + 1 < _; simp) (newFrees _ _ _ _ _ (by show w.heap.size + 1 + 1 = _; simp)))
  · exact oldCell _ (oldCell _ (oldCell _ (oldCell _ (newCells _ _ _ _ _ _ rfl rfl))))
  · exact oldCell _ (oldCell _ (newCell _ _ _ _ (by show w.heap.size + 1 + 1 = _; simp)))
  · exact oldCell _ (oldCell _ (oldCell _ (oldCell _ (newCells _ _ _ _ _ _ rfl rfl))))
/-- The frame of the loop over the cuts. -/
def aM1 (w : World) (rb o1 o2 n1 n2 cap1 cap2 : Nat) (v : Value) : Act :=
  { tmps := #[.slice (some ⟨rb, o1, none⟩) n1 cap1, .slice (some ⟨rb, o2, none⟩) n2 cap2, undef, undef, .pointer none, .pointer (some ⟨w.heap.size + 1, 0, none⟩), .pointer (some ⟨w.heap.size + 1 + 1, 0, none⟩), v, undef, undef, undef, undef, .agg #[.slice none 0 0, .slice none 0 0], .pointer (some ⟨w.heap.size, 0, none⟩), .slice (some ⟨rb, o1, none⟩) n1 cap1, .func (.func 48) #[] #[.pointer (some ⟨w.heap.size + 1 + 1 + 1, 0, none⟩), .pointer (some ⟨w.heap.size + 1 + 1 + 1 + 1, 0, none⟩)], v, undef, undef, undef, undef, undef, undef, undef, undef, undef, undef, undef, undef, undef, undef, undef, undef, undef, undef, undef, undef, undef, undef, undef, undef, undef, undef, undef, undef, undef, undef, undef, undef, undef, undef, undef, undef, undef, undef, undef, undef, undef, undef, undef, undef, undef, undef, undef, undef, undef, undef, undef, undef, undef, undef, undef, undef, undef, undef, undef], defers := [] }
end Go.Proofs.YtlhokghgicgppaaDoor
