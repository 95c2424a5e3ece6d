/- The program's maps from sets to numbers: what they hold, look-up, store, len. -/
/- Lists that rise, each number once. -/
/- kinds. -/
/- slices.Sort at runes; slices.Compact; (*layout).lows. -/
/- states: what stands between its rounds. -/
/- states: the inner loop's invariants. -/
import Derived.Test.YtlhokghgicgppaaGreatDoorSortA
import Derived.Test.YtlhokghgicgppaaGreatDoorIsEnd
import Derived.Maps.OwnSet
import Derived.WideKeyPair
import Derived.DeepKeys4
import Derived.Test.YtlhokghgicgppaaGreatDoorSets
import Derived.Lib.SlicesCompact
import Derived.Sort.AssemblyPlain
import Derived.Test.YtlhokghgicgppaaGreatDoorCompA
import Derived.Test.YtlhokghgicgppaaGreatDoorMatching
import Derived.Maps.OwnOps
import Derived.Test.YtlhokghgicgppaaGreatDoorSortH
import Derived.Test.YtlhokghgicgppaaGreatDoorWrite
import Derived.Shelf.SlicesE.Compact
import Derived.Shelf.SlGeneric
import Derived.Ground.SlgnProg
import Derived.Test.YtlhokghgicgppaaGreatDoorRd1
import Derived.Deep.RegionHeld
set_option linter.unusedSimpArgs false
set_option linter.unusedVariables false
set_option maxRecDepth 100000
set_option maxHeartbeats 4000000
namespace Go.Proofs.YtlhokghgicgppaaGreatDoor
open Go.RowKit Go.Extern Go.Maps Go.WideMaps Go.ChangeMaps
theorem laidOut_ : laidOutB Tryz.prog = true := by kernel_rfl
theorem rowSet_ : (227 : TypeId) < Tryz.prog.types.size := of_decide_eq_true (by kernel_rfl)
theorem lawSet : KeyLaw Tryz.prog 227 := deep_law_laid laidOut_ (m := 2) (by omega) rowSet_ (by kernel_rfl) (by rw [Tryz.underlying227])
theorem keyedSet : Keyed Tryz.prog 227 := Keyed.of_law lawSet
theorem arrSet : ArrKey Tryz.prog 227 225 2 := ⟨Tryz.underlying227, by kernel_rfl, by kernel_rfl, by kernel_rfl⟩
theorem pos_succ {n k : Nat} (h : k < n) : ∃ m, n = m + 1 := ⟨n - 1, by omega⟩
theorem sizeTypes_ : ∃ m, Tryz.prog.types.size = m + 1 := pos_succ rowSet_
theorem key_ps (s : Nat) (hs : s < 18446744073709551616) : ∃ kl, keyOf Tryz.prog 227 (psV s) = some kl :=
  ⟨_, keyOf_pair arrSet Tryz.underlying225 sizeTypes_ (WalkArith.wf_u32 (by omega)) (WalkArith.wf_u32 (by omega))⟩
theorem psV_inj {s t : Nat} (h : psV s = psV t) : s = t := by
  unfold psV pv at h
  simp only [Value.agg.injEq, Array.mk.injEq, List.cons.injEq, Value.int.injEq, true_and, and_true] at h
  omega
theorem zero_int_ (w : World) : (zeroValue 3).run Tryz.prog w = .ok (.int .i64 0) w := by kernel_rfl
structure Turn (b : Nat) (w w' : World) : Prop where
  os : w'.os = w.os
  tape : w'.tape = w.tape
  output : w'.output = w.output
  size : w'.heap.size = w.heap.size
  block : ∀ i, i ≠ b → w'.heap[i]? = w.heap[i]?
theorem Turn.cell {b : Nat} {w w' : World} (h : Turn b w w') {i : Nat} (hi : i ≠ b) (o : Nat) : w'.cell? ⟨i, o, none⟩ = w.cell? ⟨i, o, none⟩ := by
  unfold World.cell?; simp only [h.block i hi]
theorem Turn.frz {b : Nat} {w w' : World} (h : Turn b w w') {i : Nat} (hi : i ≠ b) (o : Nat) : w'.frozen? ⟨i, o, none⟩ = w.frozen? ⟨i, o, none⟩ := by
  unfold World.frozen?; simp only [h.block i hi]
theorem Turn.row {b : Nat} {w w' : World} (h : Turn b w w') {sz : Nat} {ra : Option Addr} {rc n : Nat} {l : List Value} (hr : RowAt sz w ra rc n l) (hne : ∀ o, ra ≠ some ⟨b, o, none⟩) : RowAt sz w' ra rc n l := by
  refine ⟨hr.len, ?_⟩
  rcases hr.row with h0 | ⟨rb, ro, rfl, h1, h2, h3, h4, h5⟩
  · exact .inl h0
  · have hb : rb ≠ b := fun e => hne ro (by rw [e])
    exact .inr ⟨rb, ro, rfl, h1, fun j v hj => (h.cell hb _).trans (h2 j v hj), fun j hj => by rw [h.cell hb]; exact h3 j hj, by rw [h.size]; exact h4, fun j => (h.frz hb _).trans (h5 j)⟩
theorem Turn.below {b B : Nat} {w0 w w' : World} (h : Turn b w w') (hb : Below B w0 w) (hB : B ≤ b) : Below B w0 w' :=
  hb.trans ⟨h.os, h.tape, h.output, Nat.le_of_eq h.size.symm, fun k hk => h.block k (by omega)⟩
def MapAt (w : World) (b : Nat) (l : List Nat) (off : Nat) : Prop := ∃ es clock, w.heap[b]? = some (.map es clock) ∧ es.size = l.length ∧ ∀ i x, l[i]? = some x → x < 18446744073709551616 ∧ ∃ e : MapEntry, es.toList[i]? = some e ∧ e.key = psV x ∧ e.val = .int .i64 ((i + off : Nat) : Int)
theorem MapAt.made (w : World) (off : Nat) : MapAt (w.alloc (.map #[] 0)) w.heap.size [] off := ⟨#[], 0, heap_alloc_new w _, rfl, fun i x h => by simp at h⟩
theorem MapAt.lt {w : World} {b : Nat} {l : List Nat} {off : Nat} (h : MapAt w b l off) : b < w.heap.size := by
  obtain ⟨es, c, hb, _⟩ := h
  exact (Array.getElem?_eq_some_iff.1 hb).1
theorem MapAt.of {w w' : World} {b : Nat} {l : List Nat} {off : Nat} (h : MapAt w b l off) {T : Nat → Nat → Prop} (hc : Chg T w w') (hT : ∀ o, ¬ T b o) : MapAt w' b l off := by
  have hl := h.lt
  obtain ⟨es, c, hb, h1⟩ := h
  exact ⟨es, c, (hc.block b hl hT).trans hb, h1⟩
theorem MapAt.below {w w' : World} {b : Nat} {l : List Nat} {off : Nat} (h : MapAt w b l off) (hb : Below w.heap.size w w') : MapAt w' b l off := h.of (Chg.of_below (T := fun _ _ => False) hb) (fun _ t => t)
theorem MapAt.keys {w : World} {b : Nat} {es : Array MapEntry} {l : List Nat} {off : Nat} (hs : es.size = l.length) (h : ∀ i x, l[i]? = some x → x < 18446744073709551616 ∧ ∃ e : MapEntry, es.toList[i]? = some e ∧ e.key = psV x ∧ e.val = .int .i64 ((i + off : Nat) : Int)) :
    ∀ (j : Nat) (e : MapEntry), es.toList[j]? = some e → ∃ x, l[j]? = some x ∧ x < 18446744073709551616 ∧ e.key = psV x ∧ e.val = .int .i64 ((j + off : Nat) : Int) := fun j e he => by
  have hj : j < l.length := by rw [← hs, ← Array.length_toList]; exact (List.getElem?_eq_some_iff.1 he).1
  obtain ⟨h1, e', h2, h3, h4⟩ := h j l[j] (List.getElem?_eq_getElem hj)
  rw [he] at h2; cases h2
  exact ⟨_, List.getElem?_eq_getElem hj, h1, h3, h4⟩
theorem idx_lt_of {l : List Nat} {s : Nat} (h : s ∈ l) : l.idxOf s < l.length := List.idxOf_lt_length_iff.2 h
theorem MapAt.find {w : World} {b : Nat} {es : Array MapEntry} {l : List Nat} {off : Nat} (hs : es.size = l.length) (h : ∀ i x, l[i]? = some x → x < 18446744073709551616 ∧ ∃ e : MapEntry, es.toList[i]? = some e ∧ e.key = psV x ∧ e.val = .int .i64 ((i + off : Nat) : Int)) (hn : l.Nodup) {s : Nat} {kl : Lit} (hk : keyOf Tryz.prog 227 (psV s) = some kl) :
    ((Instr.findKey 227 (psV s) es.toList).run Tryz.prog w = .ok none w ∧ ¬ l.idxOf s < l.length) ∨ ((Instr.findKey 227 (psV s) es.toList).run Tryz.prog w = .ok (some (l.idxOf s, .int .i64 ((l.idxOf s + off : Nat) : Int))) w ∧ l.idxOf s < l.length) := by
  have hk' := MapAt.keys (w := w) (b := b) hs h
  rcases keyedSet.find w hk es.toList (fun e he => by
    obtain ⟨j, hj, rfl⟩ := List.getElem_of_mem he
    obtain ⟨x, _, hx, e1, _⟩ := hk' j _ (List.getElem?_eq_getElem hj)
    rw [e1]; exact key_ps x hx) with ⟨h1, h2⟩ | ⟨j, e, h1, h2, h3⟩
  · refine .inl ⟨h1, fun hi => ?_⟩
    obtain ⟨_, e, he, hkk, _⟩ := h (l.idxOf s) s (by rw [List.getElem?_eq_getElem hi, List.getElem_idxOf hi])
    exact h2 e (List.mem_of_getElem? he) hkk
  · obtain ⟨x, hx1, _, hx2, hx3⟩ := hk' j e h2
    have hxs : x = s := psV_inj (hx2.symm.trans h3)
    subst hxs
    have hi : l.idxOf x < l.length := idx_lt_of (List.mem_of_getElem? hx1)
    have hjl : j < l.length := (List.getElem?_eq_some_iff.1 hx1).1
    have hij : l.idxOf x = j := by
      have e1 : l[l.idxOf x] = x := List.getElem_idxOf hi
      have e2 : l[j] = x := (List.getElem?_eq_some_iff.1 hx1).2
      exact (List.getElem_inj hn).1 (e1.trans e2.symm)
    refine .inr ⟨?_, hi⟩
    rw [hij, h1, hx3]
theorem MapAt.look {w : World} {b : Nat} {l : List Nat} {off : Nat} (h : MapAt w b l off) (hn : l.Nodup) {s : Nat} (hs : s < 18446744073709551616) :
    (Instr.lookup 235 (.map (some b)) (psV s) true).run Tryz.prog w = .ok (.tuple #[.int .i64 (if l.idxOf s < l.length then ((l.idxOf s + off : Nat) : Int) else 0), .bool (decide (l.idxOf s < l.length))]) w := by
  obtain ⟨kl, hk⟩ := key_ps s hs
  obtain ⟨es, clock, hb, hsz, he⟩ := h
  rcases MapAt.find (w := w) (b := b) hsz he hn hk with ⟨h1, h2⟩ | ⟨h1, h2⟩
  · simp [Instr.lookup, run_underlying Tryz.underlying235, MapKept.run_getObj_map hb, keyedSet.check w _ hk, h1, zero_int_ w, Result.andThen, h2]
  · simp [Instr.lookup, run_underlying Tryz.underlying235, MapKept.run_getObj_map hb, keyedSet.check w _ hk, h1, Result.andThen, h2]
theorem MapAt.len {w : World} {b : Nat} {l : List Nat} {off : Nat} (h : MapAt w b l off) (ty : TypeId) : (Builtin.len_ #[235] ty #[.map (some b)]).run Tryz.prog w = .ok (.int .i64 l.length) w := by
  obtain ⟨es, clock, hb, hsz, he⟩ := h
  simp [Builtin.len_, run_underlying Tryz.underlying235, MapKept.run_getObj_map hb, goInt, Result.andThen, hsz]
theorem MapAt.put {w : World} {b : Nat} {l : List Nat} {off : Nat} (h : MapAt w b l off) (hn : l.Nodup) {s : Nat} (hs : s < 18446744073709551616) (hx : ¬ l.idxOf s < l.length) :
    ∃ w', (Instr.mapUpdate 235 (.map (some b)) (psV s) (.int .i64 ((l.length + off : Nat) : Int))).run Tryz.prog w = .ok () w' ∧ MapAt w' b (l ++ [s]) off ∧ Turn b w w' ∧ (l ++ [s]).Nodup := by
  obtain ⟨kl, hk⟩ := key_ps s hs
  obtain ⟨es, clock, hb, hsz, he⟩ := h
  have hbl : b < w.heap.size := (Array.getElem?_eq_some_iff.1 hb).1
  rcases MapAt.find (w := w) (b := b) hsz he hn hk with ⟨h1, h2⟩ | ⟨h1, h2⟩
  · refine ⟨setBlock w b (.map (es.push ⟨psV s, .int .i64 ((l.length + off : Nat) : Int), clock⟩) (clock + 1)), ?_, ⟨_, _, heap_setBlock_same hb _, by simp [hsz], fun i x hi => ?_⟩, ?_, ?_⟩
    · simp [Instr.mapUpdate, run_underlying Tryz.underlying235, MapKept.run_getObj_map hb, keyedSet.check w false hk, h1, MapKept.run_setObj_map _ hb, Result.andThen, setBlock]
    · by_cases hi' : i < l.length
      · rw [List.getElem?_append_left hi'] at hi
        obtain ⟨g1, e, g2, g3, g4⟩ := he i x hi
        exact ⟨g1, e, by rw [Array.toList_push, List.getElem?_append_left (by rw [Array.length_toList, hsz]; exact hi')]; exact g2, g3, g4⟩
      · have hil := (List.getElem?_eq_some_iff.1 hi).1
        rw [List.length_append] at hil
        have hie : i = l.length := by simp at hil; omega
        subst hie
        simp at hi
        subst hi
        exact ⟨hs, ⟨psV s, .int .i64 ((l.length + off : Nat) : Int), clock⟩, by rw [Array.toList_push, List.getElem?_append_right (by rw [Array.length_toList, hsz]; exact Nat.le_refl _)]; simp [hsz], rfl, rfl⟩
    · exact ⟨rfl, rfl, rfl, by simp [setBlock], fun i hi => heap_setBlock_other hb _ hi⟩
    · rw [List.nodup_append]
      refine ⟨hn, by simp, fun a ha c hc e => hx ?_⟩
      rw [List.mem_singleton.1 hc] at e
      subst e
      exact idx_lt_of ha
  · exact absurd h2 hx
end Go.Proofs.YtlhokghgicgppaaGreatDoor
namespace Go.Proofs.YtlhokghgicgppaaGreatDoor.Sg
open Go Go.Sort Go.Lib
abbrev Inc (l : List Int) : Prop := l.Pairwise (· < ·)
theorem insI_spec (x : Int) : ∀ (l : List Int), Inc l → Inc (insI x l) ∧ ∀ y, y ∈ insI x l ↔ y = x ∨ y ∈ l
  | [], _ => ⟨by simp [insI], by simp [insI]⟩
  | z :: l, h => by
    have hz := List.pairwise_cons.1 h
    obtain ⟨i1, i2⟩ := insI_spec x l hz.2
    unfold insI
    by_cases h1 : x < z
    · rw [if_pos h1]
      refine ⟨List.pairwise_cons.2 ⟨fun y hy => ?_, h⟩, fun y => by simp⟩
      rcases List.mem_cons.1 hy with rfl | hy
      · exact h1
      · have := hz.1 y hy; omega
    · rw [if_neg h1]
      by_cases h2 : x = z
      · rw [if_pos h2]
        exact ⟨h, fun y => by rw [List.mem_cons, h2]; constructor <;> (intro g; rcases g with g | g <;> simp_all)⟩
      · rw [if_neg h2]
        refine ⟨List.pairwise_cons.2 ⟨fun y hy => ?_, i1⟩, fun y => ?_⟩
        · rcases (i2 y).1 hy with rfl | hy
          · omega
          · exact hz.1 y hy
        · rw [List.mem_cons, i2, List.mem_cons]
          constructor
          · rintro (g | g | g)
            · exact .inr (.inl g)
            · exact .inl g
            · exact .inr (.inr g)
          · rintro (g | g | g)
            · exact .inr (.inl g)
            · exact .inl g
            · exact .inr (.inr g)
theorem foldI_spec : ∀ (xs l : List Int), Inc l → Inc (xs.foldl (fun a x => insI x a) l) ∧ ∀ y, y ∈ xs.foldl (fun a x => insI x a) l ↔ y ∈ xs ∨ y ∈ l
  | [], l, h => ⟨h, fun y => by simp⟩
  | x :: xs, l, h => by
    obtain ⟨i1, i2⟩ := insI_spec x l h
    obtain ⟨j1, j2⟩ := foldI_spec xs (insI x l) i1
    refine ⟨j1, fun y => ?_⟩
    rw [List.foldl_cons, j2, i2, List.mem_cons]
    constructor
    · rintro (g | g | g)
      · exact .inl (.inr g)
      · exact .inl (.inl g)
      · exact .inr g
    · rintro ((g | g) | g)
      · exact .inr (.inl g)
      · exact .inl g
      · exact .inr (.inr g)
theorem inc_ext : ∀ (a b : List Int), Inc a → Inc b → (∀ y, y ∈ a ↔ y ∈ b) → a = b
  | [], [], _, _, _ => rfl
  | [], y :: b, _, _, h => by have := (h y).2 (by simp); simp at this
  | x :: a, [], _, _, h => by have := (h x).1 (by simp); simp at this
  | x :: a, y :: b, ha, hb, h => by
    have ha' := List.pairwise_cons.1 ha
    have hb' := List.pairwise_cons.1 hb
    have hxy : x = y := by
      have h1 := (h x).1 (by simp)
      have h2 := (h y).2 (by simp)
      rcases List.mem_cons.1 h1 with e | e
      · exact e
      · rcases List.mem_cons.1 h2 with g | g
        · exact g.symm
        · have := hb'.1 x e; have := ha'.1 y g; omega
    subst hxy
    rw [inc_ext a b ha'.2 hb'.2 (fun z => ⟨fun hz => ?_, fun hz => ?_⟩)]
    · have := (h z).1 (List.mem_cons_of_mem _ hz)
      rcases List.mem_cons.1 this with e | e
      · have := ha'.1 z hz; omega
      · exact e
    · have := (h z).2 (List.mem_cons_of_mem _ hz)
      rcases List.mem_cons.1 this with e | e
      · have := hb'.1 z hz; omega
      · exact e
theorem compact_inc (d : Array Int) (hs : SortedIn ltInt 0 d.size d) : ∀ m, m ≤ d.size → Inc (compactUpTo d m) ∧ (∀ y, y ∈ compactUpTo d m ↔ ∃ j, j < m ∧ d[j]! = y)
  | 0, _ => ⟨by simp [compactUpTo], fun y => by simp [compactUpTo]⟩
  | m + 1, hm => by
    obtain ⟨i1, i2⟩ := compact_inc d hs m (by omega)
    rw [compactUpTo_succ]
    have hle : ∀ j, j < m → d[j]! ≤ d[m]! := fun j hj => by
      have := hs j m (Nat.zero_le _) hj (by omega)
      simp only [ltInt, decide_eq_false_iff_not] at this
      omega
    by_cases hk : keeps d m = true
    · rw [if_pos hk]
      refine ⟨List.pairwise_append.2 ⟨i1, by simp, fun x hx y hy => ?_⟩, fun y => ?_⟩
      · rw [List.mem_singleton] at hy
        subst hy
        obtain ⟨j, hj, rfl⟩ := (i2 x).1 hx
        unfold keeps at hk
        have hk' := of_decide_eq_true hk
        have h1 : d[m]! ≠ d[m - 1]! := by
          rcases hk' with h0 | h0
          · omega
          · exact h0
        have h2 : d[m - 1]! ≤ d[m]! := hle (m - 1) (by omega)
        have h3 : d[j]! ≤ d[m - 1]! := by
          rcases Nat.lt_or_ge j (m - 1) with g | g
          · have := hs j (m - 1) (Nat.zero_le _) g (by omega)
            simp only [ltInt, decide_eq_false_iff_not] at this
            omega
          · rw [show j = m - 1 by omega]; exact Int.le_refl _
        omega
      · rw [List.mem_append, i2, List.mem_singleton]
        constructor
        · rintro (⟨j, h1, h2⟩ | h)
          · exact ⟨j, by omega, h2⟩
          · exact ⟨m, by omega, h.symm⟩
        · rintro ⟨j, h1, h2⟩
          rcases Nat.lt_or_ge j m with g | g
          · exact .inl ⟨j, g, h2⟩
          · right; rw [← h2, show j = m by omega]
    · rw [if_neg hk, List.append_nil]
      refine ⟨i1, fun y => ?_⟩
      rw [i2]
      have hk0 : 0 < m ∧ d[m]! = d[m - 1]! := by
        unfold keeps at hk
        rw [decide_eq_true_iff] at hk
        exact ⟨Nat.pos_of_ne_zero (fun h => hk (.inl h)), Classical.not_not.1 (fun h => hk (.inr h))⟩
      constructor
      · rintro ⟨j, h1, h2⟩
        exact ⟨j, by omega, h2⟩
      · rintro ⟨j, h1, h2⟩
        rcases Nat.lt_or_ge j m with g | g
        · exact ⟨j, g, h2⟩
        · refine ⟨m - 1, by omega, ?_⟩
          rw [← hk0.2, ← h2, show j = m by omega]
theorem compact_sorted (zs : List Int) (d : Array Int) (hp : PermIn 0 zs.toArray.size zs.toArray d) (hs : SortedIn ltInt 0 zs.toArray.size d) : compactUpTo d d.size = zs.foldl (fun a x => insI x a) [] := by
  have hsz : d.size = zs.toArray.size := hp.1
  rw [← hsz] at hs
  obtain ⟨i1, i2⟩ := compact_inc d hs d.size (Nat.le_refl _)
  obtain ⟨j1, j2⟩ := foldI_spec zs [] List.Pairwise.nil
  refine inc_ext _ _ i1 j1 (fun y => ?_)
  rw [i2, j2]
  have hperm : d.toList.Perm zs := by
    have := hp.2.2
    rw [← hsz] at this
    have e1 : (d.extract 0 d.size).toList = d.toList := by simp
    have e2 : (zs.toArray.extract 0 d.size).toList = zs := by rw [hsz]; simp
    rw [e1, e2] at this; exact this
  have hm : y ∈ d.toList ↔ y ∈ zs := hperm.mem_iff
  rw [← hm]
  constructor
  · rintro ⟨j, h1, h2⟩
    left
    rw [← h2, getElem!_pos d j h1]
    exact Array.getElem_mem_toList h1
  · rintro (h | h)
    · obtain ⟨j, hj, e⟩ := List.mem_iff_getElem.1 h
      refine ⟨j, by simpa using hj, ?_⟩
      rw [getElem!_pos d j (by simpa using hj), ← e]; simp
    · simp at h
end Go.Proofs.YtlhokghgicgppaaGreatDoor.Sg
namespace Go.Proofs.YtlhokghgicgppaaGreatDoor
open Go.RowKit Go.Extern Go.Maps
structure Kp (b B : Nat) (w w' : World) : Prop where
  os : w'.os = w.os
  tape : w'.tape = w.tape
  output : w'.output = w.output
  size : w.heap.size ≤ w'.heap.size
  block : ∀ k, k < B → k ≠ b → w'.heap[k]? = w.heap[k]?
theorem Kp.refl (b B : Nat) (w : World) : Kp b B w w := ⟨rfl, rfl, rfl, Nat.le_refl _, fun _ _ _ => rfl⟩
theorem Kp.trans {b B : Nat} {u v w : World} (h : Kp b B u v) (k : Kp b B v w) : Kp b B u w :=
  ⟨k.os.trans h.os, k.tape.trans h.tape, k.output.trans h.output, Nat.le_trans h.size k.size, fun i hi hb => (k.block i hi hb).trans (h.block i hi hb)⟩
theorem Kp.of_below {b B : Nat} {w w' : World} (h : Below B w w') : Kp b B w w' := ⟨h.os, h.tape, h.output, h.size, fun k hk _ => h.block k hk⟩
theorem Kp.of_turn {b B : Nat} {w w' : World} (h : Turn b w w') : Kp b B w w' := ⟨h.os, h.tape, h.output, Nat.le_of_eq h.size.symm, fun k _ hb => h.block k hb⟩
theorem Kp.of_chg {b B : Nat} {w w' : World} {T : Nat → Nat → Prop} (h : Chg T w w') (hB : B ≤ w.heap.size) (hT : ∀ k o, k < B → ¬ T k o) : Kp b B w w' := Kp.of_below (h.below hB hT)
theorem Kp.below {b B A : Nat} {w w' : World} (h : Kp b B w w') (hA : A ≤ B) (hb : A ≤ b) : Below A w w' := ⟨h.os, h.tape, h.output, h.size, fun k hk => h.block k (by omega) (by omega)⟩
theorem Kp.row {b B : Nat} {w w' : World} (h : Kp b B w w') {sz : Nat} {ra : Option Addr} {rc n : Nat} {l : List Value} (hr : RowAt sz w ra rc n l) (hd : InD (fun k => k < B ∧ k ≠ b) ra) : RowAt sz w' ra rc n l := by
  refine ⟨hr.len, ?_⟩
  rcases hr.row with h0 | ⟨rb, ro, rfl, h1, h2, h3, h4, h5⟩
  · exact .inl h0
  · have hh := h.block rb (hd _ _ rfl).1 (hd _ _ rfl).2
    have hc : ∀ o, w'.cell? ⟨rb, o, none⟩ = w.cell? ⟨rb, o, none⟩ := fun o => by unfold World.cell?; simp only [hh]
    have hz : ∀ o, w'.frozen? ⟨rb, o, none⟩ = w.frozen? ⟨rb, o, none⟩ := fun o => by unfold World.frozen?; simp only [hh]
    exact .inr ⟨rb, ro, rfl, h1, fun j v hj => (hc _).trans (h2 j v hj), fun j hj => by rw [hc]; exact h3 j hj, Nat.lt_of_lt_of_le h4 h.size, fun j => (hz _).trans (h5 j)⟩
theorem LtAt.clsAt {D : Nat → Prop} {w : World} {p : Nat} {l : Sg.Lt} (h : LtAt D w p l) : ClsAt w p l.cls.length (fun i => l.cls.getD i []) :=
  ⟨h.fn.c0, fun i hi => by obtain ⟨ra, rc, h1, h2, _⟩ := h.cls i hi; exact ⟨ra, rc, h1, h2⟩, h.cl⟩
def i32V (z : Int) : Value := .int .i32 z
def rgOk (lo : Sg.Lo) : Bool := lo.lt.cls.all (fun s => s.all (fun r => decide (0 ≤ r.1) && decide (r.1 ≤ r.2) && decide (r.2 ≤ 1114111)) && decide (s.length ≤ 100))
def LowsAny : Prop := ∀ (B p : Nat) (w : World) (lo : Sg.Lo), LoAt B w p lo → rgOk lo = true →
  Calls Tryz.prog 106 #[.pointer (some ⟨p, 0, none⟩)] w fun e w' => ∃ ra rc, e = .returned (.slice ra (Sg.lowsOf lo).length rc) ∧ RowAt 1 w' ra rc (Sg.lowsOf lo).length ((Sg.lowsOf lo).map i32V) ∧ Below w.heap.size w w' ∧ InD (fun b => w.heap.size ≤ b) ra ∧ (Sg.lowsOf lo).length < 1000000
def ctCells (x : Int × Int) : List Value := [.int .i32 x.1, .int .i64 x.2]
theorem info_cut : (Tryz.prog.info? 168).map (fun i => (i.zero, i.size, i.bytes)) = some (some (.agg #[.int .i32 0, .int .i64 0]), 2, 16) := by kernel_rfl
def kStep (lo : Sg.Lo) (a : List (Int × Int) × List Nat) (low : Int) : List (Int × Int) × List Nat :=
  (if a.1.isEmpty || (a.1.getLastD (0, 0)).2 ≠ ((a.2.idxOf (Sg.matchT lo low) : Nat) : Int) then a.1 ++ [(low, ((a.2.idxOf (Sg.matchT lo low) : Nat) : Int))] else a.1, if a.2.idxOf (Sg.matchT lo low) < a.2.length then a.2 else a.2 ++ [Sg.matchT lo low])
theorem kStep_at (lo : Sg.Lo) (cuts : List (Int × Int)) (ks : List Nat) (low : Int) : kStep lo (cuts, ks) low =
  (if cuts.isEmpty || (cuts.getLastD (0, 0)).2 ≠ ((ks.idxOf (Sg.matchT lo low) : Nat) : Int) then cuts ++ [(low, ((ks.idxOf (Sg.matchT lo low) : Nat) : Int))] else cuts, if ks.idxOf (Sg.matchT lo low) < ks.length then ks else ks ++ [Sg.matchT lo low]) := rfl
theorem kindRows_eq (lo : Sg.Lo) : Sg.kindRows lo = (Sg.lowsOf lo).foldl (kStep lo) ([], []) := rfl
theorem matchT_eq (lo : Sg.Lo) (c : Int) : Sg.matchT lo c = matF (fun i => lo.lt.cls.getD i []) c lo.lt.cls.length := rfl
theorem LoAt.below {B : Nat} {w w' : World} {p : Nat} {lo : Sg.Lo} (h : LoAt B w p lo) (hb : Below w.heap.size w w') : LoAt B w' p lo := by
  obtain ⟨ra, rc, h1, h2, h3⟩ := h.la
  exact ⟨h.lt.below hb, below_keep hb h.f0, below_keep hb h.f1, h.fl, ⟨ra, rc, below_keep hb h1, h2.below hb, h3⟩, h.ll⟩
structure KI (m B : Nat) (w1 wr : World) (ca ka : Option Addr) (cc kc na nk : Nat) (cuts : List (Int × Int)) (ks : List Nat) : Prop where
  hna : na = cuts.length
  hnk : nk = ks.length
  rc : RowAt 2 wr ca cc na (cuts.flatMap ctCells)
  rk : RowAt 2 wr ka kc nk (ks.flatMap psCells)
  dc : InD (fun b => B ≤ b) ca
  dk : InD (fun b => B ≤ b) ka
  dis : ∀ b o o', ca = some ⟨b, o, none⟩ → ka ≠ some ⟨b, o', none⟩
  mp : MapAt wr m ks 0
  nd : ks.Nodup
  kp : Kp m B w1 wr
  lt : ∀ x ∈ ks, x < 18446744073709551616
  mB : m < B
  Bw : B ≤ wr.heap.size
theorem KI.below {m B : Nat} {w1 wr W : World} {ca ka : Option Addr} {cc kc na nk : Nat} {cuts : List (Int × Int)} {ks : List Nat} (h : KI m B w1 wr ca ka cc kc na nk cuts ks) (hb : Below wr.heap.size wr W) : KI m B w1 W ca ka cc kc na nk cuts ks :=
  ⟨h.hna, h.hnk, h.rc.below hb, h.rk.below hb, h.dc, h.dk, h.dis, h.mp.below hb, h.nd, h.kp.trans (Kp.of_below (hb.mono h.Bw)), h.lt, h.mB, Nat.le_trans h.Bw hb.size⟩
theorem moved_dis {w : World} {x y z : Option Addr} (hm : Moved w x y) (h : ∀ b o o', z = some ⟨b, o, none⟩ → x ≠ some ⟨b, o', none⟩) (hz : ∀ b o, z = some ⟨b, o, none⟩ → b < w.heap.size) : ∀ b o o', z = some ⟨b, o, none⟩ → y ≠ some ⟨b, o', none⟩ := fun b o o' e e2 => by
  rcases hm with hm | ⟨rb, hm, hr⟩
  · rw [hm] at e2; exact h b o o' e e2
  · rw [hm] at e2; cases e2; have := hz _ _ e; omega
theorem moved_ind {w : World} {x y : Option Addr} {B : Nat} (hm : Moved w x y) (h : InD (fun b => B ≤ b) x) (hB : B ≤ w.heap.size) : InD (fun b => B ≤ b) y := fun b o e => by
  rcases hm with hm | ⟨rb, hm, hr⟩
  · rw [hm] at e; exact h b o e
  · rw [hm] at e; cases e; exact Nat.le_trans hB hr
theorem KI.cut {m B : Nat} {w1 wr : World} {ca ka : Option Addr} {cc kc na nk : Nat} {cuts : List (Int × Int)} {ks : List Nat} (h : KI m B w1 wr ca ka cc kc na nk cuts ks) (hn : na < 2000000000) (low k : Int) (ty vt : TypeId) :
    ∃ ca' cc' w', (Builtin.append_ #[148, 148] ty #[.slice ca na cc, .slice (some ⟨wr.heap.size, 0, none⟩) 1 1]).run Tryz.prog (wr.alloc (.cells #[.int .i32 low, .int .i64 k] vt)) = .ok (.slice ca' (na + 1) cc') w' ∧ Hid (KI m B w1 w' ca' ka cc' kc (na + 1) nk (cuts ++ [(low, k)]) ks) := by
  obtain ⟨ca', cc', w', p1, p2, p3, p4⟩ := append_two (w := wr) 148 168 _ 16 info_cut rfl Tryz.underlying148 (by omega) h.rc (.int .i32 low) (.int .i64 k) rfl rfl hn ty vt
  have hnb : ∀ i, i < B → ∀ o, ¬ rowT ca i o := fun i hi o ⟨o', e⟩ => by have : B ≤ i := h.dc _ _ e; omega
  refine ⟨ca', cc', w', p1, hide2 ⟨by rw [List.length_append, h.hna]; rfl, h.hnk, ?_, h.rk.of p3 (fun rb ro j e ⟨o, e2⟩ => h.dis _ _ _ e2 e), moved_ind p4 h.dc h.Bw, h.dk, fun b o o' e e2 => moved_dis p4 (fun b o o' e e2 => h.dis _ _ _ e2 e) (fun b o e => h.rk.lt e) b o' o e2 e, h.mp.of p3 (fun o => hnb m h.mB o), h.nd, h.kp.trans (Kp.of_chg p3 h.Bw (fun k o hk => hnb k hk o)), h.lt, h.mB, Nat.le_trans h.Bw p3.size⟩⟩
  rw [List.flatMap_append]; exact p2
theorem KI.put {m B : Nat} {w1 wr : World} {ca ka : Option Addr} {cc kc na nk : Nat} {cuts : List (Int × Int)} {ks : List Nat} (h : KI m B w1 wr ca ka cc kc na nk cuts ks) (hn : nk < 2000000000) {s : Nat} (hs : s < 18446744073709551616) (hx : ¬ ks.idxOf s < ks.length) {a b : Int} (hps : psV s = .agg #[.int .u32 a, .int .u32 b]) (ty vt : TypeId) :
    ∃ w2, (Instr.mapUpdate 235 (.map (some m)) (.agg #[.int .u32 a, .int .u32 b]) (.int .i64 (nk : Int))).run Tryz.prog wr = .ok () w2 ∧ Turn m wr w2 ∧
    ∃ ka' kc' w', (Builtin.append_ #[161, 161] ty #[.slice ka nk kc, .slice (some ⟨w2.heap.size, 0, none⟩) 1 1]).run Tryz.prog (w2.alloc (.cells #[.int .u32 a, .int .u32 b] vt)) = .ok (.slice ka' (nk + 1) kc') w' ∧ Hid (KI m B w1 w' ca ka' cc kc' na (nk + 1) cuts (ks ++ [s])) := by
  obtain ⟨w2, q1, q2, q3, q4⟩ := h.mp.put h.nd hs hx
  rw [hps, Nat.add_zero, ← h.hnk] at q1
  have hne : ∀ {ra : Option Addr}, InD (fun b => B ≤ b) ra → ∀ o, ra ≠ some ⟨m, o, none⟩ := fun hd o e => by have : B ≤ m := hd _ _ e; have := h.mB; omega
  have rc2 := q3.row h.rc (hne h.dc)
  have rk2 := q3.row h.rk (hne h.dk)
  obtain ⟨ka', kc', w', p1, p2, p3, p4⟩ := append_two (w := w2) 161 227 _ 8 info_set rfl Tryz.underlying161 (by omega) rk2 (.int .u32 a) (.int .u32 b) rfl rfl hn ty vt
  have hnb : ∀ i, i < B → ∀ o, ¬ rowT ka i o := fun i hi o ⟨o', e⟩ => by have : B ≤ i := h.dk _ _ e; omega
  have hBw : B ≤ w2.heap.size := by rw [q3.size]; exact h.Bw
  have hcs : psCells s = [.int .u32 a, .int .u32 b] := by
    have : Value.agg (psCells s).toArray = .agg #[.int .u32 a, .int .u32 b] := hps
    simpa using this
  refine ⟨w2, q1, q3, ka', kc', w', p1, hide2 ⟨h.hna, by rw [List.length_append, h.hnk]; rfl, rc2.of p3 (fun rb ro j e ⟨o, e2⟩ => h.dis _ _ _ e e2), ?_, h.dc, moved_ind p4 h.dk hBw, moved_dis p4 h.dis (fun b o e => rc2.lt e), q2.of p3 (fun o => hnb m h.mB o), q4, (h.kp.trans (Kp.of_turn q3)).trans (Kp.of_chg p3 hBw (fun k o hk => hnb k hk o)), fun x hx => ?_, h.mB, Nat.le_trans hBw p3.size⟩⟩
  · rw [List.flatMap_append, List.flatMap_singleton, hcs]; exact p2
  · rcases List.mem_append.1 hx with g | g
    · exact h.lt x g
    · rw [List.mem_singleton.1 g]; exact hs
theorem KI.last {m B : Nat} {w1 wr : World} {ca ka : Option Addr} {cc kc n nk : Nat} {init : List (Int × Int)} {c : Int × Int} {ks : List Nat} (h : KI m B w1 wr ca ka cc kc (n + 1) nk (init ++ [c]) ks) : ∃ cb co, ca = some ⟨cb, co, none⟩ ∧ wr.cell? ⟨cb, co + n * 2 + 1, none⟩ = some (.int .i64 c.2) := by
  have hl : n = init.length := by have := h.hna; simp at this; exact this
  obtain ⟨cb, co, e, hc⟩ := row_cell h.rc (j := n * 2 + 1) (v := .int .i64 c.2) (by
    rw [flat_at ctCells 2 (fun _ => rfl) _ n 1 (by simp [hl]) (by omega)]
    simp [hl, ctCells])
  exact ⟨cb, co, e, by rw [Nat.add_assoc]; exact hc⟩
theorem wpList_lookup_run {P : Program} {w w' : World} {ops : Array Oper} {rest : List Oper} {o : Oper} {a : Act} {Q : Exit → Act → World → Prop} (hg : o.guard = none) (m x : Operand) (t : TypeId) (hop : o.op = Op.lookup t m x true)
    (vm vx v : Value) (hm : a.eval m = vm) (hx : a.eval x = vx) (hrun : (Instr.lookup t vm vx true).run P w = .ok v w') (h : wpList P ops Q rest (a.put o.dst v) w') : wpList P ops Q (o :: rest) a w := by
  refine wpList_plain hg fun K' hK' => ?_
  unfold Oper.wp
  simp [execOp, hop, hm, hx, hrun, Result.andThen]
  exact hK' _ _ h
theorem wpList_mapUpdate_run {P : Program} {w w' : World} {ops : Array Oper} {rest : List Oper} {o : Oper} {a : Act} {Q : Exit → Act → World → Prop} (hg : o.guard = none) (m x v : Operand) (t : TypeId) (hop : o.op = Op.mapUpdate t m x v)
    (vm vx vv : Value) (hm : a.eval m = vm) (hx : a.eval x = vx) (hv : a.eval v = vv) (hrun : (Instr.mapUpdate t vm vx vv).run P w = .ok () w') (h : wpList P ops Q rest (a.put o.dst undef) w') : wpList P ops Q (o :: rest) a w := by
  refine wpList_plain hg fun K' hK' => ?_
  unfold Oper.wp
  simp [execOp, hop, hm, hx, hv, hrun, Result.andThen]
  exact hK' _ _ h
end Go.Proofs.YtlhokghgicgppaaGreatDoor
namespace Go.Proofs
open Go.Shelf
def Tryz.compactRune_ren : Go.Shelf.Ren := ⟨fun | 43 => 148 | n => n, fun | 22 => 236 | 23 => 21 | 3 => 3 | 4 => 4 | 0 => 0 | n => n, fun | n => n⟩
theorem Tryz.compactRune : Go.Proofs.SlLaysE.n43 Tryz.prog Tryz.compactRune_ren := {
  mixed := by kernel_rfl
  f43 := ⟨Tryz.f148.name, by decide, Tryz.func148.trans (congrArg some (by kernel_rfl))⟩
  t0 := Tryz.underlying0
  a0 := Tryz.isAgg0
  z0 := Tryz.sizeOf0
  v0 := Tryz.zeroValue0
  t3 := Tryz.underlying3
  a3 := Tryz.isAgg3
  z3 := Tryz.sizeOf3
  v3 := Tryz.zeroValue3
  t4 := Tryz.underlying4
  a4 := Tryz.isAgg4
  z4 := Tryz.sizeOf4
  v4 := Tryz.zeroValue4
  t22 := Tryz.underlying236
  a22 := Tryz.isAgg236
  z22 := Tryz.sizeOf236
  v22 := Tryz.zeroValue236
  a23 := Tryz.isAgg21
  z23 := Tryz.sizeOf21 }
end Go.Proofs
namespace Go.Proofs.YtlhokghgicgppaaGreatDoor
open Go.RowKit Go.Extern Go.Sort Go.Lib
theorem get_bang (zs : List Int) (t : Nat) (h : t < zs.length) : zs.toArray[t]! = zs[t] := by
  rw [getElem!_pos zs.toArray t (by simpa using h)]; simp
theorem ss_of_row {w : World} {blk off rc : Nat} {zs : List Int} (h : RowAt 1 w (some ⟨blk, off, none⟩) rc zs.length (zs.map i32V)) : SS w blk off zs.length w zs.toArray := by
  rcases h.row with ⟨h0, _⟩ | ⟨rb, ro, e, h1, h2, h3, h4, h5⟩
  · cases h0
  · cases e
    refine ⟨Chg.refl _ _, by simp, fun t ht => ?_, fun t _ => h5 _, h4⟩
    rw [get_bang zs t ht]
    exact h2 t _ (by rw [List.getElem?_map, List.getElem?_eq_getElem ht]; rfl)
theorem sortR_any (w : World) (blk off rc : Nat) (zs : List Int) (h : RowAt 1 w (some ⟨blk, off, none⟩) rc zs.length (zs.map i32V)) (hn : zs.length < 1000000) :
    Calls Tryz.prog 147 #[.slice (some ⟨blk, off, none⟩) zs.length rc] w fun e w' => e = .returned (.tuple #[]) ∧ Hid (∃ d, SS w blk off zs.length w' d ∧ compactUpTo d d.size = zs.foldl (fun a x => Sg.insI x a) []) := by
  have hS := ss_of_row h
  have HB := hide2 (fun W => Any.bits_Len Tryz.bitsLen zs.length W (by omega) (by omega))
  have hbl : Lib.bitLen (zs.length : Int).toNat = Lib.bitLenAux 64 zs.length := rfl
  have hk : Lib.bitLenAux 64 zs.length ≤ 64 := by
    rcases Nat.eq_zero_or_pos zs.length with e | e
    · rw [e, Lib.bitLenAux_zero]; omega
    · have hb := Lib.bitLenAux_bounds 64 zs.length (by omega) (by omega)
      rcases Nat.lt_or_ge 20 (Lib.bitLenAux 64 zs.length) with g | g
      · have : 2 ^ 20 ≤ 2 ^ (Lib.bitLenAux 64 zs.length - 1) := Nat.pow_le_pow_right (by omega) (by omega)
        omega
      · omega
  rw [hbl] at HB
  generalize Lib.bitLenAux 64 zs.length = k at *
  have HP := hide2 (pdq_all w blk off rc zs.length hn zs.length 0 zs.length k w zs.toArray (by omega) (Nat.zero_le _) (Nat.le_refl _) hk hS (.inl rfl))
  clear hS h hbl
  go_enter Tryz.func147, Tryz.ntmps147
  go_wp2_with (first
    | (go_at_call 176; refine (HB.out _).mono ?_; rintro e w1 ⟨rfl, rfl⟩)
    | (go_at_call 175; refine HP.out.mono ?_; clear HP; rintro e w2 ⟨rfl, K2⟩))
  go_end0
  refine ⟨rfl, hide2 ?_⟩
  obtain ⟨d, k1, k2, k3⟩ := K2.out
  refine ⟨d, k1, ?_⟩
  have hz : zs.toArray.size = zs.length := by simp
  exact Sg.compact_sorted zs d (by rw [hz]; exact k2) (by rw [hz]; exact k3)
theorem zero_i32 (w : World) : (zeroValue 21).run Tryz.prog w = .ok (.int .i32 0) w := by kernel_rfl
def mixA (arr : Array Int) (d : Array Int) : Nat → Array Int
  | 0 => d
  | m + 1 => (mixA arr d m).setIfInBounds m arr[m]!
theorem mixA_size (arr d : Array Int) : ∀ m, (mixA arr d m).size = d.size
  | 0 => rfl
  | m + 1 => by unfold mixA; rw [Array.size_setIfInBounds, mixA_size arr d m]
theorem mixA_get (arr d : Array Int) : ∀ m, m ≤ d.size → ∀ t, t < d.size → (mixA arr d m)[t]! = if t < m then arr[t]! else d[t]!
  | 0, _, t, _ => by simp [mixA]
  | m + 1, hm, t, ht => by
    unfold mixA
    by_cases e : t = m
    · subst e
      rw [getElem!_set_same _ _ _ (by rw [mixA_size]; omega), if_pos (by omega)]
    · rw [getElem!_set_other _ _ _ _ e, mixA_get arr d m (by omega) t ht]
      by_cases g : t < m
      · rw [if_pos g, if_pos (by omega)]
      · rw [if_neg g, if_neg (by omega)]
theorem ss_put {w0 : World} {blk off n : Nat} {W : World} {d arr : Array Int} (h : SS w0 blk off n W d) (ha : arr.size = n) : SS w0 blk off n (putRow (Value.int .i32) W blk off arr) arr := by
  have hH : Holds (Value.int .i32) W blk off d := fun j hj => ⟨h.cell j (by rw [← h.sz]; exact hj), h.frz j (by rw [← h.sz]; exact hj)⟩
  have key : ∀ m, m ≤ n → SS w0 blk off n (putRow (Value.int .i32) W blk off (mixA arr d m)) (mixA arr d m) := by
    intro m
    induction m with
    | zero =>
      intro _
      show SS w0 blk off n (putRow (Value.int .i32) W blk off d) d
      rw [putRow_self _ _ _ _ _ hH]; exact h
    | succ m ih =>
      intro hm
      have := (ih (by omega)).set (i := m) (by omega) arr[m]!
      rw [putRow_set (Value.int .i32) W blk off (mixA arr d m) m arr[m]! (by rw [mixA_size, h.sz]; omega)] at this
      exact this
  have e : mixA arr d n = arr := by
    have hs := mixA_size arr d n
    apply Array.ext
    · rw [hs, h.sz, ha]
    · intro t h1 h2
      have := mixA_get arr d n (by rw [h.sz]; exact Nat.le_refl _) t (by rw [← hs]; exact h1)
      rw [if_pos (by omega), getElem!_pos _ t h1, getElem!_pos _ t h2] at this
      exact this
  have := key n (Nat.le_refl _)
  rw [e] at this
  exact this
theorem compactLe (d : Array Int) : (compactUpTo d d.size).length ≤ d.size := by
  unfold compactUpTo
  rw [List.length_map]
  exact Nat.le_trans (List.length_filter_le _ _) (by simp)
theorem compact_any (w0 w : World) (blk off rc n : Nat) (d : Array Int) (h : SS w0 blk off n w d) (hrc : n ≤ rc) (hn : n < 1000000) :
    Calls Tryz.prog 148 #[.slice (some ⟨blk, off, none⟩) n rc] w fun e w' => e = .returned (.slice (some ⟨blk, off, none⟩) (compactUpTo d d.size).length rc) ∧ Hid (∃ d2 : Array Int, SS w0 blk off n w' d2 ∧ (compactUpTo d d.size).length ≤ n ∧ ∀ (t : Nat) (x : Int), (compactUpTo d d.size)[t]? = some x → d2[t]! = x) := by
  have hH : Holds (Value.int .i32) w blk off d := fun j hj => ⟨h.cell j (by rw [← h.sz]; exact hj), h.frz j (by rw [← h.sz]; exact hj)⟩
  have hc := AnyE.slices_Compact Tryz.compactRune (Value.int .i32) (fun _ => rfl) (EqlAt.intD _ _ .i32) (NeqAt.intD _ _ .i32) 0 zero_i32 blk off rc d w hH (by rw [h.sz]; omega) (by rw [h.sz]; exact hrc)
  have hle := compactLe d
  have hc' : Calls Tryz.prog 148 #[.slice (some ⟨blk, off, none⟩) n rc] w fun e w' => e = .returned (.slice (some ⟨blk, off, none⟩) (compactUpTo d d.size).length rc) ∧ ∃ q, w' = putRow (Value.int .i32) (Sort.ahead w q) blk off (compactUpTo d d.size ++ List.replicate (d.size - (compactUpTo d d.size).length) 0).toArray := by
    have hz := h.sz
    subst hz
    exact hc
  refine hc'.mono ?_
  rintro e w' ⟨rfl, q, rfl⟩
  refine ⟨rfl, hide2 ⟨_, ss_put (h.drewN q) ?_, by rw [← h.sz]; exact hle, fun t x hx => ?_⟩⟩
  · simp only [List.size_toArray, List.length_append, List.length_replicate]
    rw [← h.sz]; omega
  · have ht := (List.getElem?_eq_some_iff.1 hx).1
    rw [get_bang _ t (by rw [List.length_append]; omega), List.getElem_append_left ht]
    exact (List.getElem?_eq_some_iff.1 hx).2
theorem info_rune : (Tryz.prog.info? 21).map (fun i => (i.zero, i.size, i.bytes)) = some (some (.int .i32 0), 1, 4) := by kernel_rfl
theorem append_pair {w : World} {ra : Option Addr} {rc n : Nat} {l : List Value} (hR : RowAt 1 w ra rc n l) (v u : Value) (hv : v.oneCell' = true) (hv2 : u.oneCell' = true) (hn : n < 2000000000) (ty vt : TypeId) :
    ∃ ra' rc' w', (Builtin.append_ #[236, 236] ty #[.slice ra n rc, .slice (some ⟨w.heap.size, 0, none⟩) 2 2]).run Tryz.prog (w.alloc (.cells #[v, u] vt)) = .ok (.slice ra' (n + 2) rc') w' ∧ RowAt 1 w' ra' rc' (n + 2) (l ++ [v, u]) ∧ Chg (rowT ra) w w' ∧ Moved w ra ra' := by
  obtain ⟨i, hi, hz, hs, hb⟩ := info_parts info_rune
  have hbl : Below w.heap.size w (w.alloc (.cells #[v, u] vt)) := (Below.refl _ _).alloc (Nat.le_refl _) _
  obtain ⟨ra', rc', w', h1, h2, h3, h4⟩ := append_row (P := Tryz.prog) (w.alloc (.cells #[v, u] vt)) 236 ty 21 i _ 1 4 Tryz.underlying236 hi hz hs hb rfl (by omega) ra rc n l (hR.below hbl) w.heap.size 0 2 2 (by omega) [v, u] rfl (fun j x hj => by
    match j, hj with
    | 0, hj =>
      simp only [List.getElem?_cons_zero, Option.some.injEq] at hj
      subst hj
      rw [World.cell?_alloc_at _ _ _ _ rfl]; rfl
    | 1, hj =>
      simp only [List.getElem?_cons_succ, List.getElem?_cons_zero, Option.some.injEq] at hj
      subst hj
      rw [World.cell?_alloc_at _ _ _ _ rfl]; rfl
    | j + 2, hj => simp at hj) (fun x hx => by
      simp only [List.mem_cons, List.mem_nil_iff, or_false] at hx
      rcases hx with rfl | rfl
      · exact hv
      · exact hv2) (by unfold maxLen; omega) (by omega)
  refine ⟨ra', rc', w', h1, h2, (Chg.of_below hbl).trans h3, ?_⟩
  rcases h4 with h4 | ⟨rb, e1, e2⟩
  · exact .inl h4
  · exact .inr ⟨rb, e1, by have : (w.alloc (.cells #[v, u] vt)).heap.size = w.heap.size + 1 := by simp
                           omega⟩
end Go.Proofs.YtlhokghgicgppaaGreatDoor
namespace Go.Proofs.YtlhokghgicgppaaGreatDoor
open Go.RowKit Go.Extern Go.Maps
def stCells (x : Int × Value) : List Value := [.int .i64 x.1, x.2]
def i64V (z : Int) : Value := .int .i64 z
theorem info_state : (Tryz.prog.info? 153).map (fun i => (i.zero, i.size, i.bytes)) = some (some (.agg #[.int .i64 0, .slice none 0 0]), 2, 32) := by kernel_rfl
theorem row_same {w w' : World} {i : Nat} (h : w'.heap[i]? = w.heap[i]?) (hs : w.heap.size ≤ w'.heap.size) {sz : Nat} {o rc n : Nat} {l : List Value} (hr : RowAt sz w (some ⟨i, o, none⟩) rc n l) : RowAt sz w' (some ⟨i, o, none⟩) rc n l := by
  refine ⟨hr.len, ?_⟩
  rcases hr.row with ⟨h0, _⟩ | ⟨rb, ro, e, h1, h2, h3, h4, h5⟩
  · cases h0
  · cases e
    have hc : ∀ o, w'.cell? ⟨i, o, none⟩ = w.cell? ⟨i, o, none⟩ := fun o => by unfold World.cell?; simp only [h]
    have hz : ∀ o, w'.frozen? ⟨i, o, none⟩ = w.frozen? ⟨i, o, none⟩ := fun o => by unfold World.frozen?; simp only [h]
    exact .inr ⟨i, o, rfl, h1, fun j v hj => (hc _).trans (h2 j v hj), fun j hj => by rw [hc]; exact h3 j hj, Nat.lt_of_lt_of_le h4 hs, fun j => (hz _).trans (h5 j)⟩
theorem cell_same {w w' : World} {i : Nat} (h : w'.heap[i]? = w.heap[i]?) (o : Nat) : w'.cell? ⟨i, o, none⟩ = w.cell? ⟨i, o, none⟩ := by unfold World.cell?; simp only [h]
structure SI (w : World) (lo : Sg.Lo) (m K H : Nat) (wr : World) (sa ba : Option Addr) (sc bc : Nat) (sets : List Nat) (zs : List (Int × Value)) (rows : List (List Int)) : Prop where
  rs : RowAt 2 wr sa sc (sets.length + 1) (zs.flatMap stCells)
  rb : RowAt 2 wr ba bc (sets.length + 1) ((lo.first :: sets.map (Sg.behindT lo)).flatMap psCells)
  zl : zs.map Prod.fst = -1 :: sets.map (Sg.ruleT lo)
  mp : MapAt wr m sets 1
  nd : sets.Nodup
  bel : Below w.heap.size w wr
  ds : InD (fun b => w.heap.size ≤ b ∧ b ≠ m) sa
  db : InD (fun b => w.heap.size ≤ b ∧ b ≠ m) ba
  sd : ∀ b o o', sa = some ⟨b, o, none⟩ → ba ≠ some ⟨b, o', none⟩
  mB : w.heap.size ≤ m
  lt : ∀ x ∈ sets, x < 18446744073709551616
  done : ∀ (i : Nat) (row : List Int), rows[i]? = some row → ∃ nb : Nat, zs[i]?.map Prod.snd = some (Value.slice (some ⟨nb, 0, none⟩) K K) ∧ RowAt 1 wr (some ⟨nb, 0, none⟩) K K (row.map i64V) ∧ w.heap.size ≤ nb ∧ nb ≠ m ∧ nb < H ∧ (∀ o, sa ≠ some ⟨nb, o, none⟩) ∧ (∀ o, ba ≠ some ⟨nb, o, none⟩)
theorem SI.chg {w : World} {lo : Sg.Lo} {m K H : Nat} {wr W : World} {sa ba : Option Addr} {sc bc : Nat} {sets : List Nat} {zs : List (Int × Value)} {rows : List (List Int)} (h : SI w lo m K H wr sa ba sc bc sets zs rows) {T : Nat → Nat → Prop} (hc : Chg T wr W)
    (hT : ∀ i o, T i o → w.heap.size ≤ i ∧ i ≠ m ∧ H ≤ i ∧ (∀ o, sa ≠ some ⟨i, o, none⟩) ∧ (∀ o, ba ≠ some ⟨i, o, none⟩)) : SI w lo m K H W sa ba sc bc sets zs rows :=
  ⟨h.rs.of hc (fun rb ro j e t => (hT _ _ t).2.2.2.1 ro e), h.rb.of hc (fun rb ro j e t => (hT _ _ t).2.2.2.2 ro e), h.zl, h.mp.of hc (fun o t => (hT _ _ t).2.1 rfl), h.nd, h.bel.trans (hc.below h.bel.size (fun k o hk t => by have := (hT _ _ t).1; omega)), h.ds, h.db, h.sd, h.mB, h.lt, fun i row hi => by
    obtain ⟨nb, d1, d2, d3, d4, d5, d6, d7⟩ := h.done i row hi
    exact ⟨nb, d1, d2.of hc (fun rb ro j e t => by cases e; have := (hT _ _ t).2.2.1; omega), d3, d4, d5, d6, d7⟩⟩
theorem SI.below {w : World} {lo : Sg.Lo} {m K H : Nat} {wr W : World} {sa ba : Option Addr} {sc bc : Nat} {sets : List Nat} {zs : List (Int × Value)} {rows : List (List Int)} (h : SI w lo m K H wr sa ba sc bc sets zs rows) (hb : Below wr.heap.size wr W) : SI w lo m K H W sa ba sc bc sets zs rows :=
  h.chg (Chg.of_below (T := fun _ _ => False) hb) (fun _ _ t => t.elim)
theorem SI.len {w : World} {lo : Sg.Lo} {m K H : Nat} {wr : World} {sa ba : Option Addr} {sc bc : Nat} {sets : List Nat} {zs : List (Int × Value)} {rows : List (List Int)} (h : SI w lo m K H wr sa ba sc bc sets zs rows) : zs.length = sets.length + 1 := by
  have := congrArg List.length h.zl; simpa using this
theorem moved_q {w : World} {x y : Option Addr} (hm : Moved w x y) {Q : Nat → Prop} (h : InD Q x) (hn : ∀ rb, w.heap.size ≤ rb → Q rb) : InD Q y := fun b o e => by
  rcases hm with hm | ⟨rb, hm, hr⟩
  · rw [hm] at e; exact h b o e
  · rw [hm] at e; cases e; exact hn _ hr
abbrev Aprt (m : Nat) (sa ba : Option Addr) (W W' : World) : Prop := W.heap.size ≤ W'.heap.size ∧ ∀ i, i < W.heap.size → i ≠ m → (∀ o, sa ≠ some ⟨i, o, none⟩) → (∀ o, ba ≠ some ⟨i, o, none⟩) → W'.heap[i]? = W.heap[i]?
theorem SI.add {w : World} {lo : Sg.Lo} {m K H : Nat} {W : World} {sa ba : Option Addr} {sc bc : Nat} {sets : List Nat} {zs : List (Int × Value)} {rows : List (List Int)} (h : SI w lo m K H W sa ba sc bc sets zs rows) (hH : H ≤ W.heap.size) (hn : sets.length < 1000000) {s : Nat} (hs : s < 18446744073709551616) (hx : ¬ sets.idxOf s < sets.length) {a b : Int} (hps : psV s = .agg #[.int .u32 a, .int .u32 b]) {c d : Int} (hpb : psV (Sg.behindT lo s) = .agg #[.int .u32 c, .int .u32 d]) (ty vt ty2 vt2 : TypeId) :
    ∃ W4, (Instr.mapUpdate 235 (.map (some m)) (.agg #[.int .u32 a, .int .u32 b]) (.int .i64 ((sets.length + 1 : Nat) : Int))).run Tryz.prog W = .ok () W4 ∧ Aprt m sa ba W W4 ∧ Below w.heap.size w W4 ∧
    ∀ W5, Below W4.heap.size W4 W5 → ∃ sa' sc' W6, (Builtin.append_ #[149, 149] ty #[.slice sa (sets.length + 1) sc, .slice (some ⟨W5.heap.size, 0, none⟩) 1 1]).run Tryz.prog (W5.alloc (.cells #[.int .i64 (Sg.ruleT lo s), .slice none 0 0] vt)) = .ok (.slice sa' (sets.length + 1 + 1) sc') W6 ∧ Aprt m sa ba W W6 ∧ Below w.heap.size w W6 ∧
    ∀ W7, Below W6.heap.size W6 W7 → ∃ ba' bc' W8, (Builtin.append_ #[161, 161] ty2 #[.slice ba (sets.length + 1) bc, .slice (some ⟨W7.heap.size, 0, none⟩) 1 1]).run Tryz.prog (W7.alloc (.cells #[.int .u32 c, .int .u32 d] vt2)) = .ok (.slice ba' (sets.length + 1 + 1) bc') W8 ∧ Aprt m sa ba W W8 ∧
      Hid (SI w lo m K H W8 sa' ba' sc' bc' (sets ++ [s]) (zs ++ [(Sg.ruleT lo s, .slice none 0 0)]) rows ∧ Moved W sa sa' ∧ Moved W ba ba') := by
  obtain ⟨W4, q1, q2, q3, q4⟩ := h.mp.put h.nd hs hx
  rw [hps] at q1
  have hml := h.mp.lt
  have A4 : Aprt m sa ba W W4 := ⟨Nat.le_of_eq q3.size.symm, fun i _ hi _ _ => q3.block i hi⟩
  have B4 : Below w.heap.size w W4 := q3.below h.bel h.mB
  refine ⟨W4, q1, A4, B4, fun W5 hb5 => ?_⟩
  have hne : ∀ {ra : Option Addr}, InD (fun b => w.heap.size ≤ b ∧ b ≠ m) ra → ∀ o, ra ≠ some ⟨m, o, none⟩ := fun hd o e => (hd _ _ e).2 rfl
  have rs4 := q3.row h.rs (hne h.ds)
  have rb4 := q3.row h.rb (hne h.db)
  have hs4 : W4.heap.size = W.heap.size := q3.size
  obtain ⟨sa', sc', W6, p1, p2, p3, p4⟩ := append_two (w := W5) 149 153 _ 32 info_state rfl Tryz.underlying149 (by omega) (rs4.below hb5) (.int .i64 (Sg.ruleT lo s)) (.slice none 0 0) rfl rfl (by omega) ty vt
  have c45 := Chg.of_below (T := fun _ _ => False) hb5
  have hs5 := hb5.size
  have hs6 := p3.size
  have A6 : Aprt m sa ba W W6 := ⟨by omega, fun i hi hm h1 h2 => ((p3.block i (by omega) (fun o ⟨o', e⟩ => h1 o' e)).trans (hb5.block i (by omega))).trans (A4.2 i hi hm h1 h2)⟩
  have hws : w.heap.size ≤ W.heap.size := h.bel.size
  have B6 : Below w.heap.size w W6 := (B4.trans (hb5.mono (by omega))).trans (p3.below (by omega) (fun k o hk ⟨o', e⟩ => by have := (h.ds _ _ e).1; omega))
  refine ⟨sa', sc', W6, p1, A6, B6, fun W7 hb7 => ?_⟩
  have rb6 := (rb4.below hb5).of p3 (fun rb ro j e ⟨o, e2⟩ => h.sd _ _ _ e2 e)
  obtain ⟨ba', bc', W8, r1, r2, r3, r4⟩ := append_two (w := W7) 161 227 _ 8 info_set rfl Tryz.underlying161 (by omega) (rb6.below hb7) (.int .u32 c) (.int .u32 d) rfl rfl (by omega) ty2 vt2
  have hs7 := hb7.size
  have hs8 := r3.size
  have hmv1 : Moved W sa sa' := by
    rcases p4 with e | ⟨rb, e, g⟩
    · exact .inl e
    · exact .inr ⟨rb, e, by omega⟩
  have hmv2 : Moved W ba ba' := by
    rcases r4 with e | ⟨rb, e, g⟩
    · exact .inl e
    · exact .inr ⟨rb, e, by omega⟩
  have A8 : Aprt m sa ba W W8 := ⟨by omega, fun i hi hm h1 h2 => ((r3.block i (by omega) (fun o ⟨o', e⟩ => h2 o' e)).trans (hb7.block i (by omega))).trans (A6.2 i hi hm h1 h2)⟩
  have hcs : psCells (Sg.behindT lo s) = [.int .u32 c, .int .u32 d] := by
    have : Value.agg (psCells (Sg.behindT lo s)).toArray = .agg #[.int .u32 c, .int .u32 d] := hpb
    simpa using this
  have hzl := h.len
  have nTa : ∀ o, ¬ rowT ba m o := fun o ⟨o', e⟩ => (h.db _ _ e).2 rfl
  have nSa : ∀ o, ¬ rowT sa m o := fun o ⟨o', e⟩ => (h.ds _ _ e).2 rfl
  have sdx : ∀ b o o', sa' = some ⟨b, o, none⟩ → ba ≠ some ⟨b, o', none⟩ := fun b o o' e e2 => by
    rcases p4 with e3 | ⟨rb, e3, g⟩
    · rw [e3] at e; exact h.sd _ _ _ e e2
    · rw [e3] at e; cases e; have := h.rb.lt e2; omega
  refine ⟨ba', bc', W8, r1, A8, hide2 ⟨⟨?_, ?_, ?_, ((q2.of c45 (fun o t => t)).of p3 nSa |>.of (Chg.of_below (T := fun _ _ => False) hb7) (fun o t => t)).of r3 nTa, q4, (B6.trans (hb7.mono (by omega))).trans (r3.below (by omega) (fun k o hk ⟨o', e⟩ => by have := (h.db _ _ e).1; omega)), moved_q hmv1 h.ds (fun rb g => ⟨by omega, by omega⟩), moved_q hmv2 h.db (fun rb g => ⟨by omega, by omega⟩), ?_, h.mB, ?_, ?_⟩, hmv1, hmv2⟩⟩
  · rw [List.length_append, List.flatMap_append]
    exact (p2.below hb7).of r3 (fun rb ro j e ⟨o, e2⟩ => sdx _ _ _ e e2)
  · rw [List.length_append, List.map_append, ← List.cons_append, List.flatMap_append]
    have : (List.map (Sg.behindT lo) [s]).flatMap psCells = [.int .u32 c, .int .u32 d] := by simp [hcs]
    rw [this]
    exact r2
  · rw [List.map_append, h.zl, List.map_append]; rfl
  · intro b o o' e e2
    rcases r4 with e3 | ⟨rb, e3, g⟩
    · rw [e3] at e2; exact sdx _ _ _ e e2
    · rw [e3] at e2; cases e2; have := p2.lt e; omega
  · intro x hx
    rcases List.mem_append.1 hx with g | g
    · exact h.lt x g
    · rw [List.mem_singleton.1 g]; exact hs
  · intro i row hi
    obtain ⟨nb, d1, d2, d3, d4, d5, d6, d7⟩ := h.done i row hi
    have hiz : i < zs.length := by
      cases hz : zs[i]? with
      | none => rw [hz] at d1; cases d1
      | some z => exact (List.getElem?_eq_some_iff.1 hz).1
    refine ⟨nb, by rw [List.getElem?_append_left hiz]; exact d1, row_same (A8.2 nb (by omega) d4 d6 d7) A8.1 d2, d3, d4, d5, fun o e => ?_, fun o e => ?_⟩
    · rcases hmv1 with e3 | ⟨rb, e3, g⟩
      · rw [e3] at e; exact d6 o e
      · rw [e3] at e; cases e; omega
    · rcases hmv2 with e3 | ⟨rb, e3, g⟩
      · rw [e3] at e; exact d7 o e
      · rw [e3] at e; cases e; omega
end Go.Proofs.YtlhokghgicgppaaGreatDoor
namespace Go.Proofs.YtlhokghgicgppaaGreatDoor
open Go.RowKit Go.Extern Go.Maps
def behAt (lo : Sg.Lo) (sets : List Nat) (at_ : Nat) : Nat := if at_ = 0 then lo.first else Sg.behindT lo (sets.getD (at_ - 1) 0)
theorem behAt_eq (lo : Sg.Lo) (sets : List Nat) (at_ : Nat) (h : at_ ≤ sets.length) : (lo.first :: sets.map (Sg.behindT lo))[at_]? = some (behAt lo sets at_) := by
  unfold behAt
  match at_, h with
  | 0, _ => rfl
  | k + 1, h =>
    rw [if_neg (by omega), List.getElem?_cons_succ, List.getElem?_map, List.getElem?_eq_getElem (by omega), List.getD_eq_getElem?_getD, Nat.add_sub_cancel, List.getElem?_eq_getElem (by omega)]; rfl
theorem rowsGo_step (lo : Sg.Lo) (kinds : List Nat) (f at_ : Nat) (sets : List Nat) (rows : List (List Int)) (h : at_ ≤ sets.length) : Sg.rowsGo lo kinds (f + 1) at_ sets rows = match Sg.nextRow lo (behAt lo sets at_) kinds sets [] with
      | none => none
      | some (sets', row) => Sg.rowsGo lo kinds f (at_ + 1) sets' (rows ++ [row]) := by
  rw [Sg.rowsGo, if_pos h]; rfl
theorem rowsGo_end (lo : Sg.Lo) (kinds : List Nat) (f at_ : Nat) (sets : List Nat) (rows : List (List Int)) (h : ¬ at_ ≤ sets.length) : Sg.rowsGo lo kinds f at_ sets rows = some (sets, rows) := by
  cases f with
  | zero => rfl
  | succ f => rw [Sg.rowsGo, if_neg h]
theorem behindT_eq (lo : Sg.Lo) (s : Nat) : Sg.behindT lo s = Sg.behGo lo.lt.follow s lo.lt.follow.length := rfl
theorem SI.up {w : World} {lo : Sg.Lo} {m K H H' : Nat} {wr : World} {sa ba : Option Addr} {sc bc : Nat} {sets : List Nat} {zs : List (Int × Value)} {rows : List (List Int)} (h : SI w lo m K H wr sa ba sc bc sets zs rows) (hH : H ≤ H') : SI w lo m K H' wr sa ba sc bc sets zs rows :=
  ⟨h.rs, h.rb, h.zl, h.mp, h.nd, h.bel, h.ds, h.db, h.sd, h.mB, h.lt, fun i row hi => by
    obtain ⟨nb, d1, d2, d3, d4, d5, d6⟩ := h.done i row hi
    exact ⟨nb, d1, d2, d3, d4, Nat.lt_of_lt_of_le d5 hH, d6⟩⟩
def padded (K : Nat) (out : List Int) : List Int := out ++ List.replicate (K - out.length) 0
theorem padded_len (K : Nat) (out : List Int) (h : out.length ≤ K) : (padded K out).length = K := by unfold padded; rw [List.length_append, List.length_replicate]; omega
theorem padded_set (K : Nat) (out : List Int) (z : Int) (h : out.length < K) : (padded K out).set out.length z = padded K (out ++ [z]) := by
  unfold padded
  rw [List.set_append_right _ _ (Nat.le_refl _), Nat.sub_self, List.length_append, List.append_assoc]
  obtain ⟨n, hn⟩ : ∃ n, K - out.length = n + 1 := ⟨K - out.length - 1, by omega⟩
  rw [hn, List.replicate_succ, List.set_cons_zero]
  congr 2
  rw [show K - (out.length + [z].length) = n by simp; omega]
  rfl
structure NI (w : World) (lo : Sg.Lo) (m K H nb : Nat) (wr : World) (sa ba : Option Addr) (sc bc : Nat) (sets : List Nat) (zs : List (Int × Value)) (rows : List (List Int)) (out : List Int) : Prop where
  si : SI w lo m K H wr sa ba sc bc sets zs rows
  row : RowAt 1 wr (some ⟨nb, 0, none⟩) K K ((padded K out).map i64V)
  nH : H ≤ nb
  nw : w.heap.size ≤ nb
  nm : nb ≠ m
  ns : ∀ o, sa ≠ some ⟨nb, o, none⟩
  nb_ : ∀ o, ba ≠ some ⟨nb, o, none⟩
theorem NI.below {w : World} {lo : Sg.Lo} {m K H nb : Nat} {wr W : World} {sa ba : Option Addr} {sc bc : Nat} {sets : List Nat} {zs : List (Int × Value)} {rows : List (List Int)} {out : List Int} (h : NI w lo m K H nb wr sa ba sc bc sets zs rows out) (hb : Below wr.heap.size wr W) : NI w lo m K H nb W sa ba sc bc sets zs rows out :=
  ⟨h.si.below hb, h.row.below hb, h.nH, h.nw, h.nm, h.ns, h.nb_⟩
theorem NI.cell {w : World} {lo : Sg.Lo} {m K H nb : Nat} {wr : World} {sa ba : Option Addr} {sc bc : Nat} {sets : List Nat} {zs : List (Int × Value)} {rows : List (List Int)} {out : List Int} (h : NI w lo m K H nb wr sa ba sc bc sets zs rows out) (hj : out.length < K) : (∃ v, wr.cell? ⟨nb, 0 + out.length, none⟩ = some v) ∧ wr.frozen? ⟨nb, 0 + out.length, none⟩ = false := by
  rcases h.row.row with ⟨h0, _⟩ | ⟨rb, ro, e, _, _, h3, _, h5⟩
  · cases h0
  · cases e
    refine ⟨?_, h5 _⟩
    have := h3 out.length (by omega)
    exact Option.isSome_iff_exists.1 this
theorem NI.put {w : World} {lo : Sg.Lo} {m K H nb : Nat} {wr : World} {sa ba : Option Addr} {sc bc : Nat} {sets : List Nat} {zs : List (Int × Value)} {rows : List (List Int)} {out : List Int} (h : NI w lo m K H nb wr sa ba sc bc sets zs rows out) (hj : out.length < K) (z : Int) : NI w lo m K H nb (wr.setCell ⟨nb, 0 + out.length, none⟩ (.int .i64 z)) sa ba sc bc sets zs rows (out ++ [z]) := by
  have hc : Chg (fun i _ => i = nb) wr (wr.setCell ⟨nb, 0 + out.length, none⟩ (.int .i64 z)) := Chg.setCell1 (T := fun i _ => i = nb) rfl _
  refine ⟨h.si.chg hc (fun i o e => by subst e; exact ⟨h.nw, h.nm, h.nH, h.ns, h.nb_⟩), ?_, h.nH, h.nw, h.nm, h.ns, h.nb_⟩
  obtain ⟨⟨v0, hv0⟩, hz0⟩ := h.cell hj
  have hpl := padded_len K out (by omega)
  refine ⟨by rw [List.length_map, padded_len K _ (by simp; omega)]; omega, ?_⟩
  rcases h.row.row with ⟨h0, _⟩ | ⟨rb, ro, e, h1, h2, h3, h4, h5⟩
  · cases h0
  · cases e
    refine .inr ⟨nb, 0, rfl, h1, fun j v hjv => ?_, fun j hj2 => by rw [hc.live _ _ h4]; exact h3 j hj2, Nat.lt_of_lt_of_le h4 hc.size, fun j => (hc.frz _ _ h4).trans (h5 j)⟩
    rw [← padded_set K out z hj, List.getElem?_map, List.getElem?_set] at hjv
    by_cases hjo : out.length = j
    · subst hjo
      rw [if_pos rfl, if_pos (by omega)] at hjv
      have e : Value.int .i64 z = v := by simpa [i64V] using hjv
      rw [← e]
      exact World.cell?_setCell_same _ _ _ hv0
    · rw [if_neg hjo] at hjv
      rw [World.cell?_setCell_other _ _ _ _ (fun e => hjo (by have := congrArg Addr.off e; simpa using this))]
      exact h2 j v (by rw [List.getElem?_map]; exact hjv)
theorem NI.of_add {w : World} {lo : Sg.Lo} {m K H nb : Nat} {wr W : World} {sa ba sa' ba' : Option Addr} {sc bc sc' bc' : Nat} {sets sets' : List Nat} {zs zs' : List (Int × Value)} {rows : List (List Int)} {out : List Int} (h : NI w lo m K H nb wr sa ba sc bc sets zs rows out) (ha : Aprt m sa ba wr W) (hs : SI w lo m K H W sa' ba' sc' bc' sets' zs' rows) (h1 : Moved wr sa sa') (h2 : Moved wr ba ba') : NI w lo m K H nb W sa' ba' sc' bc' sets' zs' rows out := by
  have hl : nb < wr.heap.size := h.row.lt rfl
  refine ⟨hs, row_same (ha.2 nb hl h.nm h.ns h.nb_) ha.1 h.row, h.nH, h.nw, h.nm, fun o e => ?_, fun o e => ?_⟩
  · rcases h1 with e3 | ⟨rb, e3, g⟩
    · rw [e3] at e; exact h.ns o e
    · rw [e3] at e; cases e; omega
  · rcases h2 with e3 | ⟨rb, e3, g⟩
    · rw [e3] at e; exact h.nb_ o e
    · rw [e3] at e; cases e; omega
theorem LoAt.lastAt {B : Nat} {w : World} {p : Nat} {lo : Sg.Lo} (h : LoAt B w p lo) (h8 : lo.last.length ≤ 8) : LastAt w p lo.last := by
  obtain ⟨ra, rc, h1, h2, _⟩ := h.la
  exact ⟨⟨ra, rc, h1, h2⟩, h.ll, h8⟩
theorem LoAt.folAt {B : Nat} {w : World} {p : Nat} {lo : Sg.Lo} (h : LoAt B w p lo) : FolAt w p lo.lt.follow := by
  have hl := h.lt.len
  have hn := h.lt.n
  exact ⟨by rw [hl]; exact h.lt.fn.c0, fun i hi => h.lt.fn.f0 i (by omega), fun i hi => h.lt.fn.f1 i (by omega), h.lt.lt, by rw [hl]; exact hn⟩
theorem behAt_lt {B : Nat} {w : World} {p : Nat} {lo : Sg.Lo} (h : LoAt B w p lo) (sets : List Nat) (at_ : Nat) : behAt lo sets at_ < 18446744073709551616 := by
  unfold behAt
  split
  · exact h.fl
  · exact Sg.behGo_lt _ _ h.lt.lt _
end Go.Proofs.YtlhokghgicgppaaGreatDoor
