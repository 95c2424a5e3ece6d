/- A range over a function whose iterator turns cells of its own between two rounds. -/
/- What a scanner is made of abides where cells abide. -/
/- Tokens; the iterator that it gives. -/
import Derived.RangeFuncNested
import Derived.RangeFuncBound
import Derived.RangeFuncCalls
import Derived.RangeFuncLeaves
import Derived.Test.YtlhokghgicgppaaDoorScanOn
import Derived.Test.YtlhokghgicgppaaDoorRoundReg
import Derived.OwnWalkIn
import Derived.TacticsInMore
import Derived.LoopIn
import Derived.RangeFuncBox
set_option linter.unusedSimpArgs false
set_option linter.unusedVariables false
namespace Go.Proofs.YtlhokghgicgppaaDoor
open Go.RowKit
variable {F : Fence} {n : Nat} {P : Program}

/-- The loop's record and the block of its deferred calls, between two rounds. -/
def RecAt (l D : Nat) (ready : Loop) (W : World) : Prop := W.heap[l]? = some (.loop ready) ∧ W.heap[D]? = some (.deferred (some []))
theorem RecAt.keep {l D : Nat} {r : Loop} {A B : World} (h : RecAt l D r A) (k : KeepsOthers A B) : RecAt l D r B :=
  ⟨k.same _ _ h.1 rfl, k.same _ _ h.2 rfl⟩

/-- How a round is left. -/
def stPost {α : Type} (B : Nat) (I : List α → World → Prop) (Ix : Code → List α → World → Prop) (xs : List α) (W : World) : Exit → Act → World → Prop
  | .normal, _, W' => KeepsFrom B W W' ∧ I xs W'
  | .ret, _, W' => KeepsFrom B W W' ∧ Ix .ret xs W'
  | .exit id, _, W' => KeepsFrom B W W' ∧ Ix (.exit id) xs W'
  | .goto t, _, W' => KeepsFrom B W W' ∧ Ix (.goto t) xs W'
  | .panic _, _, _ => False
  | .outgrown, _, _ => False

/-- 'I': between two rounds, the iterator being at work; 'Iy': as yield is called with x; 'Ix': a round has left. -/
theorem wpIn_rangeFunc_st {α : Type} {g : Operand} {ps : Array Tmp} {assign body : Code} {Q : Exit → Act → World → Prop} {a : Act} {w : World}
    (hro : F.round = none) (h1 : 1 ≤ n) {gf : Nat} {lb : Array Value} (hg : a.eval g = .func (.func gf) #[] lb) (hFg : F.fn gf) (eg : ∀ args w, (callFunc gf args).run P w = .ok (.enter gf args) w)
    {encs : α → Array Value} {S Sp : List α → Prop} (hps : ∀ x, (encs x).size = ps.size)
    (I : List α → World → Prop) (Iy : List α × α → World → Prop) (Ix : Code → List α → World → Prop) (hI : OwnFrom w.heap.size I) (hIy : OwnFrom w.heap.size Iy) (hIx : ∀ c, OwnFrom w.heap.size (Ix c)) (h0 : I [] w)
    (hseq : ∀ (l D : Nat) (ready : Loop) (dn : Code → Loop),
      (∀ (pre : List α) (x : α) (W : World), Iy (pre, x) W → RecAt l D ready W → YieldAt F (n - 1 - 1) P l (encs x) W fun e W' =>
        (e = .returned (.bool true) ∧ I (pre ++ [x]) W' ∧ RecAt l D ready W') ∨ (e = .returned (.bool false) ∧ ∃ c, Ix c (pre ++ [x]) W' ∧ RecAt l D (dn c) W')) →
      ∀ W, I [] W → RecAt l D ready W → CallsIn F (n - 1) P gf (#[.func (.yield l) #[] #[]] ++ lb) W fun e W' => (∃ v, e = .returned v) ∧
        ((∃ xs, S xs ∧ I xs W' ∧ RecAt l D ready W') ∨ (∃ pre c, Sp pre ∧ Ix c pre W' ∧ RecAt l D (dn c) W')))
    (a₁ : α → Act)
    (hassign : ∀ (l : Nat) (x : α) (W : World) (K : Act → World → Prop), K (a₁ x) W →
      assign.wpIn (F.inRound l) (n - 1 - 1) P (Exit.then K (fun _ _ _ => False)) { tmps := (ps.zip (encs x)).foldl (fun t (p, v) => t.setIfInBounds p v) a.tmps, defers := [] } W)
    (hbody : ∀ (l : Nat) (pre : List α) (x : α) (W : World), Iy (pre, x) W → body.wpIn (F.inRound l) (n - 1 - 1) P (stPost w.heap.size I Ix (pre ++ [x]) W) (a₁ x) W)
    (hdone : ∀ (D : Nat) (xs : List α) (W : World), w.heap.size ≤ D → S xs → I xs W → W.heap[D]? = some (.deferred (some [])) → Q .normal { a with defers := { target := .collected D, args := #[] } :: a.defers } W)
    (hstop : ∀ (D : Nat) (c : Code) (pre : List α) (W : World), w.heap.size ≤ D → Sp pre → Ix c pre W → W.heap[D]? = some (.deferred (some [])) → c.wpIn F n P Q { a with defers := { target := .collected D, args := #[] } :: a.defers } W) :
    (Code.rangeFunc g ps assign body).wpIn F n P Q a w := by
  refine wpIn_rangeFunc ?_
  intro fn hfn
  rw [hro]
  obtain ⟨rec, hrec⟩ : ∃ rec : LoopState → Option Code → Loop, rec = fun st pe => { state := st, pending := pe, fn, tmps := a.tmps, params := ps, assign, body, defers := w.heap.size } := ⟨_, rfl⟩
  obtain ⟨W1, hW1⟩ : ∃ W1, (w.alloc (.deferred (some []))).alloc (.loop (rec .ready none)) = W1 := ⟨_, rfl⟩
  have hL1 : W1.heap[w.heap.size + 1]? = some (.loop (rec .ready none)) := by
    rw [← hW1]; have := World.alloc_heap_new (w.alloc (.deferred (some []))) (.loop (rec .ready none)); rwa [World.size_alloc] at this
  have hK1 : W1.heap[w.heap.size]? = some (.deferred (some [])) := by
    rw [← hW1]; exact (Below.heap_alloc _ _ _ (by simp)).trans (World.alloc_heap_new w _)
  have hI1 : I [] W1 := by rw [← hW1]; exact hI.alloc _ (hI.alloc _ h0)
  refine ⟨w.heap.size + 1, [{ target := .collected w.heap.size, args := #[] }], W1, { target := .fn (.func gf) lb, args := #[.func (.yield (w.heap.size + 1)) #[] #[]] }, W1, gf,
    #[.func (.yield (w.heap.size + 1)) #[] #[]] ++ lb, W1, ?_, ?_, ?_, ?_, fun _ => h1, ?_⟩
  · rw [← hW1, hrec]; exact run_enterLoop_outer _ _ _ _ _
  · simp only [resolve, hg]
    simp [go_sem]
  · intro f' hf'; simp [Target.leads] at hf'; subst hf'; exact hFg
  · simp [invoke, go_sem, eg]
  · refine (hseq (w.heap.size + 1) w.heap.size (rec .ready none) (fun c => rec .done (some c)) ?_ W1 hI1 ⟨hL1, hK1⟩).mono ?_
    · rintro pre x W hi ⟨hl, hk⟩
      have hlt : w.heap.size + 1 < W.heap.size := (Array.getElem?_eq_some_iff.1 hl).1
      have hy := run_yield (P := P) (args := encs x) hl (by rw [hrec]; exact hps x)
      rw [hrec] at hy
      refine ⟨fn, _, assign, body, hy, roundIn_of_wpIn hfn (hassign _ x W _ ⟨_, run_beginRound hl (by rw [hrec]), ?_⟩)⟩
      have hl2 : (W.putObj (w.heap.size + 1) (.loop { rec .ready none with state := .busy })).heap[w.heap.size + 1]? = some (.loop { rec .ready none with state := .busy }) := World.putObj_heap_same hlt
      have hk2 : (W.putObj (w.heap.size + 1) (.loop { rec .ready none with state := .busy })).heap[w.heap.size]? = some (.deferred (some [])) := (World.putObj_heap_other (by omega)).trans hk
      refine wpIn_mono (hbody _ pre x _ (hIy.putObj _ hi (by omega) hl rfl)) ?_
      have fin : ∀ (jump : Option Code) (W3 : World), KeepsFrom w.heap.size (W.putObj (w.heap.size + 1) (.loop { rec .ready none with state := .busy })) W3 →
          (Instr.endRound (w.heap.size + 1) jump).run P W3 = .ok (.bool jump.isNone) (W3.putObj (w.heap.size + 1) (.loop (rec (if jump.isNone then .ready else .done) jump))) ∧
          W3.heap[w.heap.size + 1]? = some (.loop { rec .ready none with state := .busy }) ∧
          (W3.putObj (w.heap.size + 1) (.loop (rec (if jump.isNone then .ready else .done) jump))).heap[w.heap.size + 1]? = some (.loop (rec (if jump.isNone then .ready else .done) jump)) ∧
          (W3.putObj (w.heap.size + 1) (.loop (rec (if jump.isNone then .ready else .done) jump))).heap[w.heap.size]? = some (.deferred (some [])) := fun jump W3 hk3 => by
        have hl3 := hk3.same _ _ (by omega) hl2 rfl
        have := run_endRound (P := P) jump hl3
        rw [hrec] at this ⊢
        exact ⟨this, by rw [hrec] at hl3; exact hl3, World.putObj_heap_same (Array.getElem?_eq_some_iff.1 hl3).1, (World.putObj_heap_other (by omega)).trans (hk3.same _ _ (Nat.le_refl _) hk2 rfl)⟩
      rintro e a3 W3 hp
      cases e with
      | normal =>
        obtain ⟨hk3, hi3⟩ := hp
        obtain ⟨hr, hl3, hl4, hk4⟩ := fin none W3 hk3
        exact ⟨_, _, hr, .inl ⟨rfl, hI.putObj _ hi3 (by omega) hl3 rfl, hl4, hk4⟩⟩
      | ret =>
        obtain ⟨hk3, hi3⟩ := hp
        obtain ⟨hr, hl3, hl4, hk4⟩ := fin (some .ret) W3 hk3
        exact ⟨_, _, hr, .inr ⟨rfl, .ret, (hIx _).putObj _ hi3 (by omega) hl3 rfl, hl4, hk4⟩⟩
      | exit id =>
        obtain ⟨hk3, hi3⟩ := hp
        obtain ⟨hr, hl3, hl4, hk4⟩ := fin (some (.exit id)) W3 hk3
        exact ⟨_, _, hr, .inr ⟨rfl, .exit id, (hIx _).putObj _ hi3 (by omega) hl3 rfl, hl4, hk4⟩⟩
      | goto t =>
        obtain ⟨hk3, hi3⟩ := hp
        obtain ⟨hr, hl3, hl4, hk4⟩ := fin (some (.goto t)) W3 hk3
        exact ⟨_, _, hr, .inr ⟨rfl, .goto t, (hIx _).putObj _ hi3 (by omega) hl3 rfl, hl4, hk4⟩⟩
      | panic ch => exact hp.elim
      | outgrown => exact hp.elim
    · rintro e W2 ⟨⟨v, rfl⟩, (⟨xs, hS, hi, hl, hk⟩ | ⟨pre, c, hSp, hi, hl, hk⟩)⟩
      · exact ⟨none, _, by have := run_endLoop (P := P) hl (by rw [hrec]; simp); rw [hrec] at this; exact this, hdone _ xs _ (Nat.le_refl _) hS (hI.putObj _ hi (by omega) hl rfl) ((World.putObj_heap_other (by omega)).trans hk)⟩
      · exact ⟨some c, _, by have := run_endLoop (P := P) hl (by rw [hrec]; simp); rw [hrec] at this; exact this, hstop _ c pre _ (Nat.le_refl _) hSp ((hIx c).putObj _ hi (by omega) hl rfl) ((World.putObj_heap_other (by omega)).trans hk)⟩

/-- What abides new blocks that are no cells, and the turns of a loop's record. -/
structure OwnSt {β : Type} (B : Nat) (I : β → World → Prop) : Prop where
  alloc' : ∀ s W (o : Obj), I s W → o.isCells = false → I s (W.alloc o)
  put' : ∀ s W l (r r' : Loop), I s W → B ≤ l → W.heap[l]? = some (.loop r) → I s (W.putObj l (.loop r'))
theorem OwnSt.putObj {β : Type} {B : Nat} {I : β → World → Prop} (h : OwnSt B I) {s : β} {W : World} {l : Nat} {r r' : Loop} (hs : I s W) (hB : B ≤ l) (hl : W.heap[l]? = some (.loop r)) : I s (W.putObj l (.loop r')) := h.put' s W l r r' hs hB hl

/-- The same where the loop's variables are laid in blocks of their own: 'Iz': they are laid, the body begins. -/
theorem wpIn_rangeFunc_st2 {α : Type} {g : Operand} {ps : Array Tmp} {assign body : Code} {Q : Exit → Act → World → Prop} {a : Act} {w : World}
    (hro : F.round = none) (h1 : 1 ≤ n) {gf : Nat} {lb : Array Value} (hg : a.eval g = .func (.func gf) #[] lb) (hFg : F.fn gf) (eg : ∀ args w, (callFunc gf args).run P w = .ok (.enter gf args) w)
    {encs : α → Array Value} {S Sp : List α → Prop} (hps : ∀ x, (encs x).size = ps.size)
    (I : List α → World → Prop) (Iy : List α × α → World → Prop) (Ix : Code → List α → World → Prop) (Iz : List α × α × Act → World → Prop) (hIz : OwnSt w.heap.size Iz) (hI : OwnSt w.heap.size I) (hIy : OwnSt w.heap.size Iy) (hIx : ∀ c, OwnSt w.heap.size (Ix c)) (h0 : I [] w)
    (hseq : ∀ (l D : Nat) (ready : Loop) (dn : Code → Loop),
      (∀ (pre : List α) (x : α) (W : World), Iy (pre, x) W → RecAt l D ready W → YieldAt F (n - 1 - 1) P l (encs x) W fun e W' =>
        (e = .returned (.bool true) ∧ I (pre ++ [x]) W' ∧ RecAt l D ready W') ∨ (e = .returned (.bool false) ∧ ∃ c, Ix c (pre ++ [x]) W' ∧ RecAt l D (dn c) W')) →
      ∀ W, I [] W → RecAt l D ready W → CallsIn F (n - 1) P gf (#[.func (.yield l) #[] #[]] ++ lb) W fun e W' => (∃ v, e = .returned v) ∧
        ((∃ xs, S xs ∧ I xs W' ∧ RecAt l D ready W') ∨ (∃ pre c, Sp pre ∧ Ix c pre W' ∧ RecAt l D (dn c) W')))
    (hassign : ∀ (l : Nat) (pre : List α) (x : α) (W : World), Iy (pre, x) W →
      assign.wpIn (F.inRound l) (n - 1 - 1) P (Exit.then (fun a' W1 => KeepsFrom w.heap.size W W1 ∧ Iz (pre, x, a') W1) (fun _ _ _ => False)) { tmps := (ps.zip (encs x)).foldl (fun t (p, v) => t.setIfInBounds p v) a.tmps, defers := [] } W)
    (hbody : ∀ (l : Nat) (pre : List α) (x : α) (a' : Act) (W : World), Iz (pre, x, a') W → body.wpIn (F.inRound l) (n - 1 - 1) P (stPost w.heap.size I Ix (pre ++ [x]) W) a' W)
    (hdone : ∀ (D : Nat) (xs : List α) (W : World), w.heap.size ≤ D → S xs → I xs W → W.heap[D]? = some (.deferred (some [])) → Q .normal { a with defers := { target := .collected D, args := #[] } :: a.defers } W)
    (hstop : ∀ (D : Nat) (c : Code) (pre : List α) (W : World), w.heap.size ≤ D → Sp pre → Ix c pre W → W.heap[D]? = some (.deferred (some [])) → c.wpIn F n P Q { a with defers := { target := .collected D, args := #[] } :: a.defers } W) :
    (Code.rangeFunc g ps assign body).wpIn F n P Q a w := by
  refine wpIn_rangeFunc ?_
  intro fn hfn
  rw [hro]
  obtain ⟨rec, hrec⟩ : ∃ rec : LoopState → Option Code → Loop, rec = fun st pe => { state := st, pending := pe, fn, tmps := a.tmps, params := ps, assign, body, defers := w.heap.size } := ⟨_, rfl⟩
  obtain ⟨W1, hW1⟩ : ∃ W1, (w.alloc (.deferred (some []))).alloc (.loop (rec .ready none)) = W1 := ⟨_, rfl⟩
  have hL1 : W1.heap[w.heap.size + 1]? = some (.loop (rec .ready none)) := by
    rw [← hW1]; have := World.alloc_heap_new (w.alloc (.deferred (some []))) (.loop (rec .ready none)); rwa [World.size_alloc] at this
  have hK1 : W1.heap[w.heap.size]? = some (.deferred (some [])) := by
    rw [← hW1]; exact (Below.heap_alloc _ _ _ (by simp)).trans (World.alloc_heap_new w _)
  have hI1 : I [] W1 := by rw [← hW1]; exact hI.alloc' _ _ _ (hI.alloc' _ _ _ h0 rfl) rfl
  refine ⟨w.heap.size + 1, [{ target := .collected w.heap.size, args := #[] }], W1, { target := .fn (.func gf) lb, args := #[.func (.yield (w.heap.size + 1)) #[] #[]] }, W1, gf,
    #[.func (.yield (w.heap.size + 1)) #[] #[]] ++ lb, W1, ?_, ?_, ?_, ?_, fun _ => h1, ?_⟩
  · rw [← hW1, hrec]; exact run_enterLoop_outer _ _ _ _ _
  · simp only [resolve, hg]
    simp [go_sem]
  · intro f' hf'; simp [Target.leads] at hf'; subst hf'; exact hFg
  · simp [invoke, go_sem, eg]
  · refine (hseq (w.heap.size + 1) w.heap.size (rec .ready none) (fun c => rec .done (some c)) ?_ W1 hI1 ⟨hL1, hK1⟩).mono ?_
    · rintro pre x W hi ⟨hl, hk⟩
      have hlt : w.heap.size + 1 < W.heap.size := (Array.getElem?_eq_some_iff.1 hl).1
      have hy := run_yield (P := P) (args := encs x) hl (by rw [hrec]; exact hps x)
      rw [hrec] at hy
      refine ⟨fn, _, assign, body, hy, roundIn_of_wpIn hfn (wpIn_mono (hassign _ pre x W hi) ?_)⟩
      intro e0 a0 Wb hq0
      cases e0 <;> first | exact hq0 | skip
      obtain ⟨hkb, hzb⟩ := hq0
      have hlb := hkb.same _ _ (by omega) hl rfl
      have hltb : w.heap.size + 1 < Wb.heap.size := (Array.getElem?_eq_some_iff.1 hlb).1
      have hkb2 := hkb.same _ _ (Nat.le_refl _) hk rfl
      refine ⟨_, run_beginRound hlb (by rw [hrec]), ?_⟩
      have hl2 : (Wb.putObj (w.heap.size + 1) (.loop { rec .ready none with state := .busy })).heap[w.heap.size + 1]? = some (.loop { rec .ready none with state := .busy }) := World.putObj_heap_same hltb
      have hk2 : (Wb.putObj (w.heap.size + 1) (.loop { rec .ready none with state := .busy })).heap[w.heap.size]? = some (.deferred (some [])) := (World.putObj_heap_other (by omega)).trans hkb2
      refine wpIn_mono (hbody _ pre x a0 _ (hIz.putObj hzb (by omega) hlb)) ?_
      have fin : ∀ (jump : Option Code) (W3 : World), KeepsFrom w.heap.size (Wb.putObj (w.heap.size + 1) (.loop { rec .ready none with state := .busy })) W3 →
          (Instr.endRound (w.heap.size + 1) jump).run P W3 = .ok (.bool jump.isNone) (W3.putObj (w.heap.size + 1) (.loop (rec (if jump.isNone then .ready else .done) jump))) ∧
          W3.heap[w.heap.size + 1]? = some (.loop { rec .ready none with state := .busy }) ∧
          (W3.putObj (w.heap.size + 1) (.loop (rec (if jump.isNone then .ready else .done) jump))).heap[w.heap.size + 1]? = some (.loop (rec (if jump.isNone then .ready else .done) jump)) ∧
          (W3.putObj (w.heap.size + 1) (.loop (rec (if jump.isNone then .ready else .done) jump))).heap[w.heap.size]? = some (.deferred (some [])) := fun jump W3 hk3 => by
        have hl3 := hk3.same _ _ (by omega) hl2 rfl
        have := run_endRound (P := P) jump hl3
        rw [hrec] at this ⊢
        exact ⟨this, by rw [hrec] at hl3; exact hl3, World.putObj_heap_same (Array.getElem?_eq_some_iff.1 hl3).1, (World.putObj_heap_other (by omega)).trans (hk3.same _ _ (Nat.le_refl _) hk2 rfl)⟩
      rintro e a3 W3 hp
      cases e with
      | normal =>
        obtain ⟨hk3, hi3⟩ := hp
        obtain ⟨hr, hl3, hl4, hk4⟩ := fin none W3 hk3
        exact ⟨_, _, hr, .inl ⟨rfl, hI.putObj hi3 (by omega) hl3, hl4, hk4⟩⟩
      | ret =>
        obtain ⟨hk3, hi3⟩ := hp
        obtain ⟨hr, hl3, hl4, hk4⟩ := fin (some .ret) W3 hk3
        exact ⟨_, _, hr, .inr ⟨rfl, .ret, (hIx _).putObj hi3 (by omega) hl3, hl4, hk4⟩⟩
      | exit id =>
        obtain ⟨hk3, hi3⟩ := hp
        obtain ⟨hr, hl3, hl4, hk4⟩ := fin (some (.exit id)) W3 hk3
        exact ⟨_, _, hr, .inr ⟨rfl, .exit id, (hIx _).putObj hi3 (by omega) hl3, hl4, hk4⟩⟩
      | goto t =>
        obtain ⟨hk3, hi3⟩ := hp
        obtain ⟨hr, hl3, hl4, hk4⟩ := fin (some (.goto t)) W3 hk3
        exact ⟨_, _, hr, .inr ⟨rfl, .goto t, (hIx _).putObj hi3 (by omega) hl3, hl4, hk4⟩⟩
      | panic ch => exact hp.elim
      | outgrown => exact hp.elim
    · rintro e W2 ⟨⟨v, rfl⟩, (⟨xs, hS, hi, hl, hk⟩ | ⟨pre, c, hSp, hi, hl, hk⟩)⟩
      · exact ⟨none, _, by have := run_endLoop (P := P) hl (by rw [hrec]; simp); rw [hrec] at this; exact this, hdone _ xs _ (Nat.le_refl _) hS (hI.putObj hi (by omega) hl) ((World.putObj_heap_other (by omega)).trans hk)⟩
      · exact ⟨some c, _, by have := run_endLoop (P := P) hl (by rw [hrec]; simp); rw [hrec] at this; exact this, hstop _ c pre _ (Nat.le_refl _) hSp ((hIx c).putObj hi (by omega) hl) ((World.putObj_heap_other (by omega)).trans hk)⟩
end Go.Proofs.YtlhokghgicgppaaDoor

namespace Go.Proofs.YtlhokghgicgppaaDoor
open Go.RowKit Go.Extern

structure Kept (w w' : World) : Prop where
  size : w.heap.size ≤ w'.heap.size
  cell : ∀ (k o : Nat) (v : Value), w.cell? ⟨k, o, none⟩ = some v → w'.cell? ⟨k, o, none⟩ = some v
  frz : ∀ (k j : Nat), k < w.heap.size → w'.frozen? ⟨k, j, none⟩ = w.frozen? ⟨k, j, none⟩
theorem Kept.of_below {w w' : World} (h : Below w.heap.size w w') : Kept w w' :=
  ⟨h.size, fun _ _ _ hv => (cell_block (h.block _ (cell_lt hv))).trans hv, fun _ _ hk => frozen_block (h.block _ hk)⟩
theorem Kept.alloc (w : World) (o : Obj) : Kept w (w.alloc o) := Kept.of_below ((Below.refl _ _).alloc (Nat.le_refl _) _)
theorem Kept.loop {w : World} {l : Nat} {r r' : Loop} (hl : w.heap[l]? = some (.loop r)) : Kept w (w.putObj l (.loop r')) := by
  have hlt : l < w.heap.size := (Array.getElem?_eq_some_iff.1 hl).1
  have hnew : (w.putObj l (.loop r')).heap[l]? = some (.loop r') := World.putObj_heap_same hlt
  have hoth : ∀ k, k ≠ l → (w.putObj l (.loop r')).heap[k]? = w.heap[k]? := fun k hk => World.putObj_heap_other (fun e => hk (by first | exact e | exact e.symm))
  refine ⟨by simp, fun k o v hv => ?_, fun k j hk => ?_⟩
  · by_cases e : k = l
    · subst e; unfold World.cell? at hv; simp [hl] at hv
    · exact (cell_block (hoth k e)).trans hv
  · by_cases e : k = l
    · subst e; unfold World.frozen?; simp [hl, hnew]
    · exact frozen_block (hoth k e)
theorem Kept.some {w w' : World} (hk : Kept w w') {k o : Nat} (h : (w.cell? ⟨k, o, none⟩).isSome = true) : (w'.cell? ⟨k, o, none⟩).isSome = true := by
  obtain ⟨v, hv⟩ := Option.isSome_iff_exists.1 h
  rw [hk.cell _ _ _ hv]; rfl
theorem RestAt.kept {w w' : World} {ra : Option Addr} {rc : Nat} {l : Sg.Bs} (h : RestAt w ra rc l) (hk : Kept w w') : RestAt w' ra rc l := by
  rcases h with h | ⟨rb, ro, rfl, h1, h2, h3, h4, h5⟩
  · exact .inl h
  · exact .inr ⟨rb, ro, rfl, h1, fun j hj => hk.cell _ _ _ (h2 j hj), fun j hj => hk.some (h3 j hj), Nat.lt_of_lt_of_le h4 hk.size, fun j => (hk.frz _ j h4).trans (h5 j)⟩
theorem SpAt.kept {w w' : World} {sq so q nn pb n c : Nat} {s : Sg.Src} (h : SpAt w sq so q nn pb n c s) (hk : Kept w w') : SpAt w' sq so q nn pb n c s := by
  refine ⟨hk.cell _ _ _ h.rd, ?_, ?_, h.hq, h.nn1, Nat.le_trans h.nn2 hk.size, fun j => (hk.frz _ j (cell_lt h.rd)).trans (h.fr j), h.small, h.cN⟩
  · rcases h.sp with ⟨g0, g1⟩ | ⟨g1, g2, g3, g4, g5, g6, g7⟩
    · exact .inl ⟨g0, hk.cell _ _ _ g1⟩
    · obtain ⟨v, hv⟩ := Option.isSome_iff_exists.1 (g6 0 (by omega))
      exact .inr ⟨g1, hk.cell _ _ _ g2, g3, g4, g5, fun j hj => hk.some (g6 j hj), fun j => (hk.frz _ j (cell_lt hv)).trans (g7 j)⟩
  · obtain ⟨la, lc, r, hx, hy⟩ := h.src
    exact ⟨la, lc, r, hx.of (fun b j v _ hv => hk.cell _ _ _ hv) (fun j => hk.frz _ j (cell_lt hx.c0)), hy⟩
theorem WkAt.kept {w w' : World} {q o p : Nat} {k : Sg.Wk} (h : WkAt w q o p k) (hk : Kept w w') : WkAt w' q o p k :=
  ⟨hk.cell _ _ _ h.c0, hk.cell _ _ _ h.c1, hk.cell _ _ _ h.c2, hk.cell _ _ _ h.c3, hk.cell _ _ _ h.c4, fun j => (hk.frz _ j (cell_lt h.c0)).trans (h.fr j)⟩
theorem ScAt.kept {w w' : World} {sq p q nn pb n c : Nat} {ra : Option Addr} {rc : Nat} {L : Sg.Live} (h : ScAt w sq p q nn pb n c ra rc L) (hk : Kept w w') : ScAt w' sq p q nn pb n c ra rc L :=
  ⟨hk.cell _ _ _ h.c0, h.sp.kept hk, hk.cell _ _ _ h.c3, hk.cell _ _ _ h.c4, hk.cell _ _ _ h.c5, h.wk.kept hk, hk.cell _ _ _ h.c11, hk.cell _ _ _ h.c12, hk.cell _ _ _ h.c13, hk.cell _ _ _ h.c14, h.rest.kept hk, h.own, h.cap4, h.capN, h.le⟩
theorem Tabs.kept {w w' : World} (h : Tabs w) (hk : Kept w w') : Tabs w' :=
  ⟨fun c hc => hk.cell _ _ _ (h.1 c hc), fun i hi => ⟨hk.cell _ _ _ (h.2 i hi).1, hk.cell _ _ _ (h.2 i hi).2⟩⟩
theorem ScanAt.kept {w w' : World} {sq bm nn : Nat} {m : Sg.Mach} {L : Sg.Live} {F : Nat → Prop} {B : Int} (hm : m.Ok) (h : ScanAt w sq bm nn m L F B) (hk : Kept w w') : ScanAt w' sq bm nn m L F B := by
  obtain ⟨⟨p, q, pb, n, c, ra, rc, h, rfl⟩, hs⟩ := h
  exact ⟨⟨p, q, pb, n, c, ra, rc, ⟨h.sc.kept hk, h.ma.of hm (fun b o v _ hv => hk.cell _ _ _ hv), h.bq, h.tb.kept hk, h.so, h.wk, h.g⟩, rfl⟩, hs⟩
end Go.Proofs.YtlhokghgicgppaaDoor

namespace Go.Proofs.YtlhokghgicgppaaDoor
open Go.RowKit Go.Extern

attribute [local go_sem] Oper.semAt_some

abbrev tyTok : TypeId := 34
def tokCells (t : Sg.Tok) : List Value := [.int .i64 t.rule, .int .i64 t.at_, .int .i64 t.line, .int .i64 t.col, strV t.text]
def encY : Except Int Sg.Tok → Array Value
  | .ok t => #[tokV t, errV none]
  | .error e => #[tok0, errV (some e)]

/-- What All is about. -/
structure AC where
  sq : Nat
  bm : Nat
  nn : Nat
  m : Sg.Mach
  ts : List Sg.Tok
  e0 : Int
  most : Nat
  F0 : Nat → Prop
  B0 : Int
  ob : Nat
  tb : Nat
  r4 : Nat
  r5 : Nat
  w0 : World
structure AC.Ok (c : AC) : Prop where
  hm : c.m.Ok
  b0 : 0 ≤ c.B0
  b1 : c.B0 < 500000000000
  lt : c.ts.length < c.most
  le : c.most ≤ 3000
  nob : ¬ c.F0 c.ob
  ntb : ¬ c.F0 c.tb
  lob : c.ob < c.w0.heap.size
  ltb : c.tb < c.w0.heap.size
  nn : c.nn ≤ c.ob
  ne : c.tb ≠ c.ob
  box : c.w0.cell? ⟨c.tb, 0, none⟩ = some (.pointer (some ⟨c.sq, 0, none⟩))
def AC.T (c : AC) : Nat → Nat → Prop := fun i _ => c.F0 i ∨ i = c.ob

/-- The scanner behind k tokens. -/
structure AC.St (c : AC) (k : Nat) (L : Sg.Live) (F : Nat → Prop) (W : World) : Prop where
  scan : ScanAt W c.sq c.bm c.nn c.m L F (c.B0 + k * 100001)
  fp : ∀ i, i < c.w0.heap.size → F i → c.F0 i
  all : Sg.allT c.m (c.most - k) L = (c.ts.drop k, some c.e0)
  le : k ≤ c.ts.length
/-- What has been gathered: j tokens. -/
structure AC.Out (c : AC) (j : Nat) (F : Nat → Prop) (ra : Option Addr) (rc : Nat) (W : World) : Prop where
  cell : W.cell? ⟨c.ob, 0, none⟩ = some (.slice ra j rc)
  free : W.frozen? ⟨c.ob, 0, none⟩ = false
  row : RowAt 5 W ra rc j ((c.ts.take j).flatMap tokCells)
  nf : ∀ b o, ra = some ⟨b, o, none⟩ → ¬ F b ∧ c.w0.heap.size ≤ b
  chg : Chg c.T c.w0 W
def AC.I (c : AC) (xs : List (Except Int Sg.Tok)) (W : World) : Prop :=
  ∃ k L F ra rc, xs = (c.ts.take k).map .ok ∧ c.St k L F W ∧ c.Out k F ra rc W
def AC.Iy (c : AC) (x : List (Except Int Sg.Tok) × Except Int Sg.Tok) (W : World) : Prop :=
  (∃ k L F ra rc t, x = ((c.ts.take k).map .ok, .ok t) ∧ c.ts.drop k = t :: c.ts.drop (k + 1) ∧ c.St (k + 1) L F W ∧ c.Out k F ra rc W) ∨
  (∃ ra rc, x = (c.ts.map .ok, .error c.e0) ∧ c.Out c.ts.length (fun _ => False) ra rc W ∧ W.cell? ⟨c.sq, 14, none⟩ = some (errV (some c.e0)))
def AC.Ix (c : AC) (code : Code) (xs : List (Except Int Sg.Tok)) (W : World) : Prop :=
  code = .ret ∧ xs = c.ts.map .ok ++ [.error c.e0] ∧ ∃ ra rc, W.cell? ⟨c.r4, 0, none⟩ = some (.slice ra c.ts.length rc) ∧ W.cell? ⟨c.r5, 0, none⟩ = some (errV (some c.e0)) ∧
    (RowAt 5 W ra rc c.ts.length (c.ts.flatMap tokCells) ∧ ∀ b o, ra = some ⟨b, o, none⟩ → c.w0.heap.size ≤ b) ∧ W.cell? ⟨c.sq, 14, none⟩ = some (errV (some c.e0)) ∧ Chg (fun i _ => c.F0 i ∨ i = c.ob ∨ i = c.r4 ∨ i = c.r5) c.w0 W

/-! ### what abides -/
theorem Chg.loop {T : Nat → Nat → Prop} {a w : World} (h : Chg T a w) {l : Nat} (hl : a.heap.size ≤ l) (o : Obj) : Chg T a (w.putObj l o) := by
  have hoth : ∀ k, k < a.heap.size → (w.putObj l o).heap[k]? = w.heap[k]? := fun k hk => World.putObj_heap_other (by omega)
  refine ⟨h.os, h.tape, h.output, by have := h.size; simp; omega, fun k hk ht => (hoth k hk).trans (h.block k hk ht), fun k j hk ht => (cell_block (hoth k hk)).trans (h.cell k j hk ht), fun k j hk ht => (frozen_block (hoth k hk)).trans (h.frozen k j hk ht), ⟨by have := h.size; simp; omega, fun k o' hk hc => ?_⟩, fun k j hk => (frozen_block (hoth k hk)).trans (h.frz k j hk), fun k j hk => by rw [cell_block (hoth k hk)]; exact h.live k j hk⟩
  exact (hoth k (Array.getElem?_eq_some_iff.1 hk).1).trans (h.others.same k o' hk hc)
theorem RowAt.kept {sz : Nat} {w w' : World} {ra : Option Addr} {rc n : Nat} {l : List Value} (h : RowAt sz w ra rc n l) (hk : Kept w w') : RowAt sz w' ra rc n l := by
  refine ⟨h.len, ?_⟩
  rcases h.row with h | ⟨rb, ro, rfl, h1, h2, h3, h4, h5⟩
  · exact .inl h
  · exact .inr ⟨rb, ro, rfl, h1, fun j v hj => hk.cell _ _ _ (h2 j v hj), fun j hj => hk.some (h3 j hj), Nat.lt_of_lt_of_le h4 hk.size, fun j => (hk.frz _ j h4).trans (h5 j)⟩
theorem AC.St.kept {c : AC} (hc : c.Ok) {k : Nat} {L : Sg.Live} {F : Nat → Prop} {W W' : World} (h : c.St k L F W) (hk : Kept W W') : c.St k L F W' := ⟨h.scan.kept hc.hm hk, h.fp, h.all, h.le⟩
theorem AC.Out.kept {c : AC} {j : Nat} {F : Nat → Prop} {ra : Option Addr} {rc : Nat} {W W' : World} (h : c.Out j F ra rc W) (hk : Kept W W') (hc : Chg c.T c.w0 W') : c.Out j F ra rc W' :=
  ⟨hk.cell _ _ _ h.cell, (hk.frz _ _ (cell_lt h.cell)).trans h.free, h.row.kept hk, h.nf, hc⟩
theorem AC.Out.alloc {c : AC} {j : Nat} {F : Nat → Prop} {ra : Option Addr} {rc : Nat} {W : World} (h : c.Out j F ra rc W) (o : Obj) : c.Out j F ra rc (W.alloc o) := h.kept (Kept.alloc W o) (h.chg.alloc o)
theorem AC.Out.loop {c : AC} {j : Nat} {F : Nat → Prop} {ra : Option Addr} {rc : Nat} {W : World} (h : c.Out j F ra rc W) {l : Nat} {r : Loop} (hB : c.w0.heap.size ≤ l) (hl : W.heap[l]? = some (.loop r)) (r' : Loop) : c.Out j F ra rc (W.putObj l (.loop r')) := h.kept (Kept.loop hl) (h.chg.loop hB _)
theorem AC.Out.below {c : AC} {j : Nat} {F : Nat → Prop} {ra : Option Addr} {rc : Nat} {W W' : World} (h : c.Out j F ra rc W) (hb : Below W.heap.size W W') : c.Out j F ra rc W' := h.kept (Kept.of_below hb) (h.chg.trans_new (Chg.of_below (T := fun _ _ => False) hb) (fun _ _ _ t => t.elim))
theorem AC.I_own {c : AC} (hc : c.Ok) : OwnSt c.w0.heap.size c.I :=
  ⟨fun _ W o ⟨k, L, F, ra, rc, e, h1, h2⟩ _ => ⟨k, L, F, ra, rc, e, h1.kept hc (Kept.alloc W o), h2.alloc o⟩,
   fun _ W l r r' ⟨k, L, F, ra, rc, e, h1, h2⟩ hB hl => ⟨k, L, F, ra, rc, e, h1.kept hc (Kept.loop hl), h2.loop hB hl r'⟩⟩
theorem AC.Iy_kept {c : AC} (hc : c.Ok) {x : List (Except Int Sg.Tok) × Except Int Sg.Tok} {W W' : World} (h : c.Iy x W) (hk : Kept W W') (hg : Chg c.T c.w0 W → Chg c.T c.w0 W') : c.Iy x W' := by
  rcases h with ⟨k, L, F, ra, rc, t, e, e2, h1, h2⟩ | ⟨ra, rc, e, h1, h2⟩
  · exact .inl ⟨k, L, F, ra, rc, t, e, e2, h1.kept hc hk, h2.kept hk (hg h2.chg)⟩
  · exact .inr ⟨ra, rc, e, h1.kept hk (hg h1.chg), hk.cell _ _ _ h2⟩
theorem AC.Iy_own {c : AC} (hc : c.Ok) : OwnSt c.w0.heap.size c.Iy :=
  ⟨fun _ W o h _ => AC.Iy_kept hc h (Kept.alloc W o) (fun g => g.alloc o), fun _ W l r r' h hB hl => AC.Iy_kept hc h (Kept.loop hl) (fun g => g.loop hB _)⟩
theorem AC.Iy_below {c : AC} (hc : c.Ok) {x : List (Except Int Sg.Tok) × Except Int Sg.Tok} {W W' : World} (h : c.Iy x W) (hb : Below W.heap.size W W') : c.Iy x W' :=
  AC.Iy_kept hc h (Kept.of_below hb) (fun g => g.trans_new (Chg.of_below (T := fun _ _ => False) hb) (fun _ _ _ t => t.elim))
theorem AC.Ix_own {c : AC} (code : Code) : OwnSt c.w0.heap.size (c.Ix code) :=
  ⟨fun _ W o ⟨e1, e2, ra, rc, h1, h2, h3, h4, h5⟩ _ => ⟨e1, e2, ra, rc, (Kept.alloc W o).cell _ _ _ h1, (Kept.alloc W o).cell _ _ _ h2, ⟨h3.1.kept (Kept.alloc W o), h3.2⟩, (Kept.alloc W o).cell _ _ _ h4, h5.alloc o⟩,
   fun _ W l r r' ⟨e1, e2, ra, rc, h1, h2, h3, h4, h5⟩ hB hl => ⟨e1, e2, ra, rc, (Kept.loop hl).cell _ _ _ h1, (Kept.loop hl).cell _ _ _ h2, ⟨h3.1.kept (Kept.loop hl), h3.2⟩, (Kept.loop hl).cell _ _ _ h4, h5.loop hB _⟩⟩
def outLen (ob : Nat) (W : World) : Nat :=
  match W.cell? ⟨ob, 0, none⟩ with
  | some (.slice _ n _) => n
  | _ => 0
theorem AC.Out.len {c : AC} {j : Nat} {F : Nat → Prop} {ra : Option Addr} {rc : Nat} {W : World} (h : c.Out j F ra rc W) : outLen c.ob W = j := by
  unfold outLen
  rw [h.cell]
/-- One more. -/
theorem AC.St.step {c : AC} (hc : c.Ok) {k : Nat} {L : Sg.Live} {F : Nat → Prop} {W : World} (h : c.St k L F W) :
    (∃ t L', Sg.nextL c.m L = (.ok t, .inl L') ∧ c.ts.drop k = t :: c.ts.drop (k + 1) ∧ Sg.allT c.m (c.most - (k + 1)) L' = (c.ts.drop (k + 1), some c.e0) ∧ k < c.ts.length) ∨
    ((∃ s, Sg.nextL c.m L = (.error c.e0, s)) ∧ k = c.ts.length) := by
  have h1 := hc.lt
  have h2 := h.le
  obtain ⟨n, hn⟩ : ∃ n, c.most - k = n + 1 := ⟨c.most - k - 1, by omega⟩
  have ha := h.all
  rw [hn] at ha
  unfold Sg.allT at ha
  revert ha
  generalize hx : Sg.nextL c.m L = x
  intro ha
  match x, hx, ha with
  | (.ok t, .inl L'), hx, ha =>
    simp only [Prod.mk.injEq] at ha
    have hlt : k < c.ts.length := by
      rcases Nat.lt_or_ge k c.ts.length with g | g
      · exact g
      · rw [List.drop_of_length_le g] at ha; cases ha.1
    have hd := List.drop_eq_getElem_cons hlt
    rw [hd] at ha
    simp only [List.cons.injEq] at ha
    refine .inl ⟨t, L', rfl, by rw [hd, ha.1.1], ?_, hlt⟩
    rw [show c.most - (k + 1) = n by omega, ← ha.1.2, ← ha.2]
  | (.error e, s), hx, ha =>
    simp only [Prod.mk.injEq, Option.some.injEq] at ha
    refine .inr ⟨⟨s, by rw [ha.2]⟩, ?_⟩
    have := congrArg List.length ha.1
    rw [List.length_nil, List.length_drop] at this
    omega
  | (.ok t, .inr e), hx, ha =>
    exact absurd hx (Sg.nextL_no c.m L t e)
end Go.Proofs.YtlhokghgicgppaaDoor
