/- stored.machine: what the making of the states is about. -/
import Derived.Test.YtlhokghgicgppaaDoorMachine2
set_option linter.unusedSimpArgs false
set_option linter.unusedVariables false
namespace Go.Proofs.YtlhokghgicgppaaDoor
open Go.RowKit Go.Extern

def sumW (zs : List StZ) : Nat := (zs.map fun z => 1 + z.1.2.length).sum
structure MD where
  pb : Nat
  mv : Nat
  sb : Nat
  nb : Nat
  rb : Nat
  ro : Nat
  l : List Int
  cap : Nat
  k : Nat
  d1 : Nat
  w0 : World
structure MD.Ok (c : MD) : Prop where
  pb : c.pb < c.w0.heap.size
  mv : c.mv < c.w0.heap.size
  sb : c.sb < c.w0.heap.size
  nb : c.nb < c.w0.heap.size
  rb : c.rb < c.pb
  e1 : c.mv ≠ c.pb
  e2 : c.sb ≠ c.pb
  e3 : c.nb ≠ c.pb
  m : c.w0.cell? ⟨c.mv, 0, none⟩ = some (.pointer (some ⟨c.pb, 0, none⟩))
  s : c.w0.cell? ⟨c.sb, 0, none⟩ = some (.slice (some ⟨c.rb, c.ro, none⟩) c.l.length c.cap)
  n : c.w0.cell? ⟨c.nb, 0, none⟩ = some (.int .i64 c.k)
  cells : ∀ j, j < c.l.length → c.w0.cell? ⟨c.rb, c.ro + j, none⟩ = some (.int .i64 (c.l.getD j 0))
  bd : ∀ x ∈ c.l, 0 ≤ x ∧ x < 2097152
  fp : ∀ j, c.w0.frozen? ⟨c.pb, j, none⟩ = false
  k1 : 1 ≤ c.k
  small : c.l.length < 1000000
  lt1 : c.d1 < c.w0.heap.size
/-- Behind i states. -/
structure MD.D (c : MD) (i : Nat) (zs : List StZ) (sr : Option Addr) (sc : Nat) (W : World) : Prop where
  len : zs.length = i
  bd : ∀ z ∈ zs, (-1 ≤ z.1.1 ∧ z.1.1 < 2097152) ∧ ∀ x ∈ z.1.2, -1 ≤ x ∧ x < 2097152
  cell : W.cell? ⟨c.pb, 1, none⟩ = some (.slice sr i sc)
  row : RowAt 2 W sr sc i (zs.flatMap stCells)
  new : NewRow c.w0 sr
  rows : ∀ z ∈ zs, RowAt 1 W z.2.1 z.2.2 z.1.2.length (intsV z.1.2)
  apart : ∀ z ∈ zs, ∀ b o, z.2.1 = some ⟨b, o, none⟩ → c.w0.heap.size ≤ b ∧ ∀ o', sr ≠ some ⟨b, o', none⟩
  chg : Chg (fun i j => i = c.pb ∧ j = 1) c.w0 W
  sum : sumW zs = min (i * c.k) c.l.length
  dfr : W.heap[c.d1]? = some (.deferred (some []))
def MD.J (c : MD) (i : Nat) (W : World) : Prop := ∃ zs sr sc, c.D i zs sr sc W
theorem MD.D.drew {c : MD} {i : Nat} {zs : List StZ} {sr : Option Addr} {sc : Nat} {W : World} (h : c.D i zs sr sc W) : c.D i zs sr sc W.drew :=
  ⟨h.len, h.bd, h.cell, h.row.drew, h.new, fun z hz => (h.rows z hz).drew, h.apart, h.chg.drew, h.sum, h.dfr⟩
theorem MD.D.kept {c : MD} {i : Nat} {zs : List StZ} {sr : Option Addr} {sc : Nat} {W W' : World} (h : c.D i zs sr sc W) (hk : Kept W W') (hg : Chg (fun i j => i = c.pb ∧ j = 1) c.w0 W') (hd : W'.heap[c.d1]? = some (.deferred (some []))) : c.D i zs sr sc W' :=
  ⟨h.len, h.bd, hk.cell _ _ _ h.cell, h.row.kept hk, h.new, fun z hz => (h.rows z hz).kept hk, h.apart, hg, h.sum, hd⟩
theorem MD.J_own {c : MD} {β : Type} (f : β → Nat → Prop) : OwnSt c.w0.heap.size (fun (s : β) W => ∃ i, f s i ∧ c.J i W) :=
  ⟨fun _ W o ⟨i, hf, zs, sr, sc, h⟩ _ => ⟨i, hf, zs, sr, sc, h.kept (Kept.alloc W o) (h.chg.alloc o) ((Below.heap_alloc W o _ (Array.getElem?_eq_some_iff.1 h.dfr).1).trans h.dfr)⟩,
   fun _ W l r r' ⟨i, hf, zs, sr, sc, h⟩ hB hl => ⟨i, hf, zs, sr, sc, h.kept (Kept.loop hl) (h.chg.loop hB _) ((World.putObj_heap_other (by
      intro e
      have h5 := h.dfr
      first | rw [e] at h5; rw [hl] at h5; cases h5 | rw [← e] at h5; rw [hl] at h5; cases h5)).trans h.dfr)⟩⟩
theorem MD.at_ {c : MD} (hc : c.Ok) {i : Nat} {W : World} (h : c.J i W) : W.cell? ⟨c.mv, 0, none⟩ = some (.pointer (some ⟨c.pb, 0, none⟩)) ∧ W.cell? ⟨c.sb, 0, none⟩ = some (.slice (some ⟨c.rb, c.ro, none⟩) c.l.length c.cap) ∧ W.cell? ⟨c.nb, 0, none⟩ = some (.int .i64 c.k) ∧ (∀ j, j < c.l.length → W.cell? ⟨c.rb, c.ro + j, none⟩ = some (.int .i64 (c.l.getD j 0))) ∧ (∀ j, W.frozen? ⟨c.pb, j, none⟩ = false) := by
  obtain ⟨zs, sr, sc, h⟩ := h
  have hpb := hc.pb
  have hrb := hc.rb
  refine ⟨(h.chg.cell _ _ hc.mv (fun t => hc.e1 t.1)).trans hc.m, (h.chg.cell _ _ hc.sb (fun t => hc.e2 t.1)).trans hc.s, (h.chg.cell _ _ hc.nb (fun t => hc.e3 t.1)).trans hc.n, fun j hj => (h.chg.cell _ _ (by omega) (fun t => by have := t.1; omega)).trans (hc.cells j hj), fun j => (h.chg.frz _ _ hc.pb).trans (hc.fp j)⟩
/-- A state under way: its variable, and the row of what it leads to. -/
structure Und (W wr : World) (sv : Nat) (ru : Int) (xs : List Int) (j : Nat) (na : Option Addr) (nc : Nat) : Prop where
  c0 : wr.cell? ⟨sv, 0, none⟩ = some (.int .i64 ru)
  c1 : wr.cell? ⟨sv, 1, none⟩ = some (.slice na j nc)
  fr : ∀ j, wr.frozen? ⟨sv, j, none⟩ = false
  row : RowAt 1 wr na nc j (intsV (xs.take j))
  new : ∀ b o, na = some ⟨b, o, none⟩ → sv < b
  below : Below W.heap.size W wr
  others : KeepsOthers W wr
  sv : sv = W.heap.size
theorem Und.start (W : World) (ru : Int) (xs : List Int) : Und W (W.alloc (.cells #[.int .i64 ru, .slice none 0 0] 104)) W.heap.size ru xs 0 none 0 :=
  ⟨newCells _ _ _ _ _ _ rfl rfl, newCells _ _ _ _ _ _ rfl rfl, fun _ => newFrees _ _ _ _ _ rfl, RowAt.nil 1 _, (fun b o e => by cases e), (Below.refl _ _).alloc (Nat.le_refl _) _, KeepsOthers.alloc _ _, rfl⟩
theorem Und.step {W wr W2 : World} {sv : Nat} {ru : Int} {xs : List Int} {j : Nat} {na na2 : Option Addr} {nc nc2 : Nat} (h : Und W wr sv ru xs j na nc) (x : Int) (hx : xs[j]? = some x)
    (hrow : RowAt 1 W2 na2 nc2 (j + 1) (intsV (xs.take j) ++ [.int .i64 x])) (hch : Chg (rowT na) wr W2) (hmv : Moved wr na na2) :
    Und W (W2.setCell ⟨sv, 1, none⟩ (.slice na2 (j + 1) nc2)) sv ru xs (j + 1) na2 nc2 ∧ W2.cell? ⟨sv, 1, none⟩ = some (.slice na j nc) ∧ W2.frozen? ⟨sv, 1, none⟩ = false := by
  have hlt := cell_lt h.c0
  have hsv := h.sv
  have hs := h.below.size
  have hnr : ∀ j', ¬ rowT na sv j' := by
    intro j' t
    obtain ⟨o, e⟩ := t
    have h5 := h.new sv o e
    omega
  have k0 : W2.cell? ⟨sv, 0, none⟩ = some (.int .i64 ru) := (hch.cell _ _ hlt (hnr _)).trans h.c0
  have k1 : W2.cell? ⟨sv, 1, none⟩ = some (.slice na j nc) := (hch.cell _ _ hlt (hnr _)).trans h.c1
  have kf : ∀ j, W2.frozen? ⟨sv, j, none⟩ = false := fun j => (hch.frz _ _ hlt).trans (h.fr j)
  have hn2 : ∀ b o, na2 = some ⟨b, o, none⟩ → sv < b := by
    intro b o e
    rcases hmv with hm | ⟨rb, e2, g⟩
    · rw [hm] at e; exact h.new b o e
    · rw [e2] at e; cases e; omega
  have hset : Chg (fun i _ => i = sv) W2 (W2.setCell ⟨sv, 1, none⟩ (.slice na2 (j + 1) nc2)) := Chg.setCell1 (T := fun i _ => i = sv) rfl _
  refine ⟨⟨(World.cell?_setCell_other _ _ _ _ (by simp)).trans k0, World.cell?_setCell_same _ _ _ k1, fun j => by rw [World.frozen?_setCell]; exact kf j, ?_, hn2, ?_, h.others.trans (hch.others.trans (KeepsOthers.setCell _ _ _)), hsv⟩, k1, kf 1⟩
  · have : xs.take (j + 1) = xs.take j ++ [x] := by rw [List.take_add_one, hx]; rfl
    rw [this, ← intsV_snoc]
    refine hrow.of hset (fun rb ro j' e t => ?_)
    have h5 := hn2 rb ro e
    omega
  · refine h.below.trans ?_
    have b1 : Below W.heap.size wr W2 := hch.below hs (by
      intro k o hk t
      obtain ⟨o2, e⟩ := t
      have h5 := h.new k o2 e
      omega)
    have b2 : Below W.heap.size W2 (W2.setCell ⟨sv, 1, none⟩ (.slice na2 (j + 1) nc2)) := hset.below (by have := hch.size; omega) (fun k o hk t => by omega)
    exact b1.trans b2
theorem Und.drew {W wr : World} {sv : Nat} {ru : Int} {xs : List Int} {j : Nat} {na : Option Addr} {nc : Nat} (h : Und W wr sv ru xs j na nc) : Und W wr.drew sv ru xs j na nc :=
  ⟨h.c0, h.c1, h.fr, h.row.drew, h.new, h.below.drew, ⟨h.others.size, h.others.same⟩, h.sv⟩
theorem sumW_snoc (zs : List StZ) (z : StZ) : sumW (zs ++ [z]) = sumW zs + (1 + z.1.2.length) := by
  unfold sumW; simp
/-- One more state. -/
theorem MD.D.step {c : MD} (hc : c.Ok) {i : Nat} {zs : List StZ} {sr sr2 : Option Addr} {sc sc2 : Nat} {W wq W2 : World} {sv : Nat} {ru : Int} {xs : List Int} {na : Option Addr} {nc : Nat} (h : c.D i zs sr sc W) (hi : i * c.k < c.l.length)
    (hU : Und W wq sv ru xs xs.length na nc) (hru : -1 ≤ ru ∧ ru < 2097152) (hxs : ∀ x ∈ xs, -1 ≤ x ∧ x < 2097152) (hlen : 1 + xs.length = min c.k (c.l.length - i * c.k))
    (hrow : RowAt 2 W2 sr2 sc2 (i + 1) (zs.flatMap stCells ++ [.int .i64 ru, .slice na xs.length nc])) (hch : Chg (rowT sr) wq W2) (hmv : Moved wq sr sr2) :
    c.D (i + 1) (zs ++ [((ru, xs), (na, nc))]) sr2 sc2 (W2.setCell ⟨c.pb, 1, none⟩ (.slice sr2 (i + 1) sc2)) ∧ KeepsOthers W (W2.setCell ⟨c.pb, 1, none⟩ (.slice sr2 (i + 1) sc2)) ∧ W2.cell? ⟨c.pb, 1, none⟩ = some (.slice sr i sc) ∧ W2.frozen? ⟨c.pb, 1, none⟩ = false ∧ W2.cell? ⟨c.mv, 0, none⟩ = some (.pointer (some ⟨c.pb, 0, none⟩)) := by
  have hpb := hc.pb
  have hmv' := hc.mv
  have hd1 := hc.lt1
  have hs0 := h.chg.size
  have hb := hU.below
  have hs1 := hb.size
  have hs2 := hch.size
  have hsv := hU.sv
  have hnr : ∀ b, b < c.w0.heap.size → ∀ j, ¬ rowT sr b j := by
    intro b hb' j t
    obtain ⟨o, e⟩ := t
    have h5 := h.new b o e
    omega
  have hn2 : NewRow c.w0 sr2 := h.new.moved (wr := wq) (by omega) hmv
  have carry : ∀ b j v, b < c.w0.heap.size → W.cell? ⟨b, j, none⟩ = some v → W2.cell? ⟨b, j, none⟩ = some v := fun b j v hb' hv =>
    (hch.cell _ _ (by omega) (hnr b hb' j)).trans ((hb.cell (p := ⟨b, j, none⟩) (by show b < W.heap.size; omega)).trans hv)
  have c1 := carry _ _ _ hpb h.cell
  have cm := carry _ _ _ hmv' ((h.chg.cell _ _ hc.mv (fun t => hc.e1 t.1)).trans hc.m)
  have cf : W2.frozen? ⟨c.pb, 1, none⟩ = false := by
    rw [hch.frz _ _ (by omega), frozen_block (hb.block c.pb (by omega)), h.chg.frz _ _ hpb]
    exact hc.fp 1
  have hset : Chg (fun i j => i = c.pb ∧ j = 1) W2 (W2.setCell ⟨c.pb, 1, none⟩ (.slice sr2 (i + 1) sc2)) := Chg.setCell1 (T := fun i j => i = c.pb ∧ j = 1) ⟨rfl, rfl⟩ _
  have hall : KeepsOthers W (W2.setCell ⟨c.pb, 1, none⟩ (.slice sr2 (i + 1) sc2)) := hU.others.trans (hch.others.trans (KeepsOthers.setCell _ _ _))
  have hnaw : ∀ b o, na = some ⟨b, o, none⟩ → W.heap.size ≤ b ∧ b < wq.heap.size := fun b o e => ⟨by have := hU.new b o e; omega, hU.row.lt e⟩
  have hz : ∀ z ∈ zs ++ [((ru, xs), (na, nc))], RowAt 1 wq z.2.1 z.2.2 z.1.2.length (intsV z.1.2) ∧ ∀ b o, z.2.1 = some ⟨b, o, none⟩ → c.w0.heap.size ≤ b ∧ b < wq.heap.size ∧ ∀ o', sr ≠ some ⟨b, o', none⟩ := by
    intro z hz
    rcases List.mem_append.1 hz with hz | hz
    · have r1 := (h.rows z hz).below hb
      refine ⟨r1, fun b o e => ⟨(h.apart z hz b o e).1, r1.lt e, (h.apart z hz b o e).2⟩⟩
    · simp only [List.mem_singleton] at hz
      subst hz
      refine ⟨?_, fun b o e => ⟨by have := hnaw b o e; omega, (hnaw b o e).2, fun o' e' => ?_⟩⟩
      · have := hU.row
        rw [List.take_length] at this
        exact this
      · have h5 := h.row.lt e'
        have h6 := hnaw b o e
        omega
  refine ⟨⟨by rw [List.length_append, h.len]; rfl, ?_, World.cell?_setCell_same _ _ _ c1, ?_, hn2, ?_, ?_, ?_, ?_, ?_⟩, hall, c1, cf, cm⟩
  · intro z hz
    rcases List.mem_append.1 hz with hz | hz
    · exact h.bd z hz
    · simp only [List.mem_singleton] at hz
      subst hz
      exact ⟨hru, hxs⟩
  · rw [List.flatMap_append]
    have : [((ru, xs), (na, nc))].flatMap stCells = [.int .i64 ru, .slice na xs.length nc] := rfl
    rw [this]
    refine hrow.of hset (fun rb ro j e t => ?_)
    have h5 := hn2 rb ro e
    omega
  · intro z hzm
    obtain ⟨r1, r2⟩ := hz z hzm
    have r3 := r1.of hch (fun rb ro j e t => by
      obtain ⟨o', e'⟩ := t
      exact (r2 rb ro e).2.2 o' e')
    refine r3.of hset (fun rb ro j e t => ?_)
    have h5 := (r2 rb ro e).1
    omega
  · intro z hzm b o e
    obtain ⟨_, r2⟩ := hz z hzm
    refine ⟨(r2 b o e).1, fun o' e' => ?_⟩
    rcases hmv with hm | ⟨rb, e2, g⟩
    · rw [hm] at e'; exact (r2 b o e).2.2 o' e'
    · rw [e2] at e'; cases e'
      have h5 := (r2 b o e).2.1
      omega
  · refine ((h.chg.trans_new (Chg.of_below (T := fun _ _ => False) hb) (fun _ _ _ t => t.elim)).trans_new hch ?_).trans hset
    intro a j ha t
    exact absurd t (hnr a ha j)
  · rw [sumW_snoc, h.sum]
    show min (i * c.k) c.l.length + (1 + xs.length) = min ((i + 1) * c.k) c.l.length
    rw [Nat.add_mul]
    omega
  · exact hall.same _ _ h.dfr rfl

theorem chunk_in' (n : Nat) (ra : Option Addr) (len cap k : Nat) (x : Int) (hx : x = k) (h1 : 1 ≤ k) (hk : k < 1000000000) (w : World) :
    CallsIn Fence.wide n Tryd.prog 30 #[.slice ra len cap, .int .i64 x] w fun e w' => e = .returned (.func (.func 48) #[] #[.pointer (some ⟨w.heap.size, 0, none⟩), .pointer (some ⟨w.heap.size + 1, 0, none⟩)]) ∧ w' = (w.alloc (.cells #[.slice ra len cap] 61)).alloc (.cells #[.int .i64 x] 3) := by
  subst hx
  exact chunk_in n ra len cap k h1 hk w
abbrev mW2 (W : World) (rb o2 n2 cap2 : Nat) (x : Int) : World := (W.alloc (.cells #[.slice (some ⟨rb, o2, none⟩) n2 cap2] 61)).alloc (.cells #[.int .i64 x] 3)
def mD1 (pb mv : Nat) (W : World) (rb o2 cap2 kd D : Nat) (states : List Int) : MD := ⟨pb, mv, W.heap.size, W.heap.size + 1, rb, o2, states, cap2, 1 + kd, D, mW2 W rb o2 states.length cap2 (1 + (kd : Int))⟩
theorem mD1_ok (pb mv : Nat) (W : World) (rb o2 cap2 kd D : Nat) (states : List Int) (hrb : rb < pb) (hpb : pb < W.heap.size) (hmv : mv < W.heap.size) (hne : mv ≠ pb) (hm : W.cell? ⟨mv, 0, none⟩ = some (.pointer (some ⟨pb, 0, none⟩))) (h2 : ∀ j, j < states.length → W.cell? ⟨rb, o2 + j, none⟩ = some (.int .i64 (states.getD j 0))) (hb2 : ∀ x ∈ states, 0 ≤ x ∧ x < 2097152) (hN2 : states.length < 1000000)
    (hfp : ∀ j, W.frozen? ⟨pb, j, none⟩ = false) (h1 : W.cell? ⟨pb, 1, none⟩ = some (.slice none 0 0)) (hD : W.heap[D]? = some (.deferred (some []))) :
    (mD1 pb mv W rb o2 cap2 kd D states).Ok ∧ (mD1 pb mv W rb o2 cap2 kd D states).J 0 (mW2 W rb o2 states.length cap2 (1 + (kd : Int))) := by
  have hsz : (mW2 W rb o2 states.length cap2 (1 + (kd : Int))).heap.size = W.heap.size + 2 := by simp
  have hDl : D < W.heap.size := (Array.getElem?_eq_some_iff.1 hD).1
  have hbl : Below W.heap.size W (mW2 W rb o2 states.length cap2 (1 + (kd : Int))) := ((Below.refl _ _).alloc (Nat.le_refl _) _).alloc (by simp) _
  refine ⟨⟨by show pb < (mW2 W rb o2 states.length cap2 (1 + (kd : Int))).heap.size; omega, by show mv < (mW2 W rb o2 states.length cap2 (1 + (kd : Int))).heap.size; omega, by show W.heap.size < (mW2 W rb o2 states.length cap2 (1 + (kd : Int))).heap.size; omega, by show W.heap.size + 1 < (mW2 W rb o2 states.length cap2 (1 + (kd : Int))).heap.size; omega, hrb, hne, by show W.heap.size ≠ pb; omega, by show W.heap.size + 1 ≠ pb; omega, oldCell _ (oldCell _ hm), oldCell _ (newCell _ _ _ _ rfl), ?_, fun j hj => oldCell _ (oldCell _ (h2 j hj)), hb2, fun j => oldFree _ (by show pb < _; simp; omega) (oldFree _ hpb (hfp j)), by show 1 ≤ 1 + kd; omega, hN2, by show D < (mW2 W rb o2 states.length cap2 (1 + (kd : Int))).heap.size; omega⟩, [], none, 0, ⟨rfl, fun z hz => absurd hz (by simp), oldCell _ (oldCell _ h1), RowAt.nil 2 _, fun b o e => (by cases e), fun z hz => absurd hz (by simp), fun z hz => absurd hz (by simp), Chg.refl _ _, by show 0 = min (0 * _) _; simp, (hbl.block D hDl).trans hD⟩⟩
  show (mW2 W rb o2 states.length cap2 (1 + (kd : Int))).cell? ⟨W.heap.size + 1, 0, none⟩ = some (.int .i64 ((1 + kd : Nat) : Int))
  rw [show ((1 + kd : Nat) : Int) = 1 + (kd : Int) by omega]
  exact newCell _ _ _ _ (by simp)
/-- The frame of the loop over the states. -/
def aM2 (w W : World) (rb o1 o2 n1 n2 cap1 cap2 kd D : Nat) (v : Value) : Act :=
  { tmps := #[.slice (some ⟨rb, o1, none⟩) n1 cap1, .slice (some ⟨rb, o2, none⟩) n2 cap2, undef, undef, .pointer none, .pointer (some ⟨w.heap.size + 1, 0, none⟩), .pointer (some ⟨w.heap.size + 1 + 1, 0, none⟩), undef, v, undef, undef, undef, .agg #[.slice none 0 0, .slice none 0 0], .pointer (some ⟨w.heap.size, 0, none⟩), .slice (some ⟨rb, o1, none⟩) n1 cap1, .func (.func 48) #[] #[.pointer (some ⟨w.heap.size + 1 + 1 + 1, 0, none⟩), .pointer (some ⟨w.heap.size + 1 + 1 + 1 + 1, 0, none⟩)], undef, undef, undef, undef, undef, undef, undef, undef, undef, undef, undef, undef, undef, undef, undef, undef, undef, undef, undef, undef, undef, undef, undef, undef, .slice (some ⟨rb, o2, none⟩) n2 cap2, .int .i64 kd, .int .i64 (1 + (kd : Int)), .func (.func 48) #[] #[.pointer (some ⟨W.heap.size, 0, none⟩), .pointer (some ⟨W.heap.size + 1, 0, none⟩)], v, undef, undef, undef, undef, undef, undef, undef, undef, undef, undef, undef, undef, undef, undef, undef, undef, undef, undef, undef, undef, undef, undef, undef, undef, undef, undef, undef, undef, undef, undef, undef], defers := [] }
theorem below_put {B : Nat} {a b : World} (h : Below B a b) {D : Nat} (hD : B ≤ D) (o : Obj) : Below B a (b.putObj D o) :=
  ⟨h.os, h.tape, h.output, by have := h.size; simp; omega, fun k hk => (World.putObj_heap_other (by omega)).trans (h.block k hk)⟩
/-- What 'machine' makes. -/
structure Made (w w' : World) (p : Nat) (cs : List (Int × Int)) (zs : List StZ) (n1 n2 : Nat) : Prop where
  c0 : ∃ cr cc, w'.cell? ⟨p, 0, none⟩ = some (.slice cr cs.length cc) ∧ RowAt 2 w' cr cc cs.length (cs.flatMap cutCells)
  c1 : ∃ sr sc, w'.cell? ⟨p, 1, none⟩ = some (.slice sr zs.length sc) ∧ RowAt 2 w' sr sc zs.length (zs.flatMap stCells)
  rows : ∀ z ∈ zs, RowAt 1 w' z.2.1 z.2.2 z.1.2.length (intsV z.1.2)
  bc : ∀ x ∈ cs, (0 ≤ x.1 ∧ x.1 < 2097152) ∧ (0 ≤ x.2 ∧ x.2 < 2097152)
  bz : ∀ z ∈ zs, (-1 ≤ z.1.1 ∧ z.1.1 < 2097152) ∧ ∀ x ∈ z.1.2, -1 ≤ x ∧ x < 2097152
  n1 : 2 * cs.length = n1
  n2 : sumW zs = n2
  below : Below w.heap.size w w'
  new : w.heap.size ≤ p
theorem Made.kept {w w' w'' : World} {p : Nat} {cs : List (Int × Int)} {zs : List StZ} {n1 n2 : Nat} (h : Made w w' p cs zs n1 n2) (hk : Kept w' w'') (hb : Below w.heap.size w w'') : Made w w'' p cs zs n1 n2 := by
  obtain ⟨cr, cc, a1, a2⟩ := h.c0
  obtain ⟨sr, sc, b1, b2⟩ := h.c1
  exact ⟨⟨cr, cc, hk.cell _ _ _ a1, a2.kept hk⟩, ⟨sr, sc, hk.cell _ _ _ b1, b2.kept hk⟩, fun z hz => (h.rows z hz).kept hk, h.bc, h.bz, h.n1, h.n2, hb, h.new⟩
end Go.Proofs.YtlhokghgicgppaaDoor
