/- The machine in memory; the functions that read it. -/
/- What a call has turned, cell by cell. -/
/- A region that draws its order, and whose last operation waits for all others: behind that one nothing need be held. -/
/- source.isEnd. -/
import Derived.Test.YtlhokghgicgppaaGreatDoorProg
import Derived.Test.YtlhokghgicgppaaGreatDoorBytePure
import Derived.WalkKit
import Derived.LoopTactic
import Derived.Deep.QuietTactic
import Derived.BigQuiet
import Derived.Below
import Derived.Deep.DeepFit
import Derived.RangeFuncOwn
import Derived.Deep.RegionHeld3
import Derived.Test.YtlhokghgicgppaaGreatDoorIs
import Derived.Defers
import Derived.Recover
import Derived.Laws.Pointers
set_option linter.unusedSimpArgs false
set_option linter.unusedVariables false
set_option maxRecDepth 100000
set_option maxHeartbeats 4000000
namespace Go.Proofs.YtlhokghgicgppaaGreatDoor
open Go.RowKit Go.Extern
theorem ret_int {k : IntKind} {a b : Int} (h : a = b) : Ending.returned (.int k a) = .returned (.int k b) := by rw [h]
theorem ret_bool {a b : Bool} (h : b = a) : Ending.returned (.bool a) = .returned (.bool b) := by rw [h]
theorem below_drewN {B : Nat} {a w : World} (h : Below B a w) : ∀ n, Below B a (w.drewN n) := fun n => by
  exact ⟨h.os, h.tape, h.output, h.size, h.block⟩
structure MachAt (w : World) (p : Nat) (m : Sg.Mach) (cb co cc sb so sc : Nat) (nb no nc : Nat → Nat) : Prop where
  c0 : w.cell? ⟨p, 0, none⟩ = some (.slice (some ⟨cb, co, none⟩) m.cuts.length cc)
  c1 : w.cell? ⟨p, 1, none⟩ = some (.slice (some ⟨sb, so, none⟩) m.states.length sc)
  low : ∀ i, i < m.cuts.length → w.cell? ⟨cb, co + i * 2, none⟩ = some (.int .i32 (Sg.lowAt m.cuts i))
  kind : ∀ i, i < m.cuts.length → w.cell? ⟨cb, co + i * 2 + 1, none⟩ = some (.int .i64 (Sg.kindAt m.cuts i))
  rule : ∀ i, i < m.states.length → w.cell? ⟨sb, so + i * 2, none⟩ = some (.int .i64 (m.rule i))
  next : ∀ i, i < m.states.length → w.cell? ⟨sb, so + i * 2 + 1, none⟩ = some (.slice (some ⟨nb i, no i, none⟩) (m.width i) (nc i))
  to : ∀ i k, i < m.states.length → k < m.width i → w.cell? ⟨nb i, no i + k, none⟩ = some (.int .i64 (m.next i k))
theorem cut_any (m : Sg.Mach) (c : Int) (w : World) (p cb co cc sb so sc : Nat) (nb no nc : Nat → Nat) (M : MachAt w p m cb co cc sb so sc nb no nc)
    (h0 : 0 < m.cuts.length) (hN : m.cuts.length < 1000000000) :
    Calls Tryz.prog 92 #[.pointer (some ⟨p, 0, none⟩), .int .i32 c] w fun e w' => e = .returned (.int .i64 (Sg.cutIx m.cuts c : Nat)) ∧ ∃ n, w' = w.drewN n := by
  have hc0 := M.c0
  go_enter Tryz.func92, Tryz.ntmps92
  go_wp2
  go_quiet (fail)
  go_wp2
  go_loopw [5, 6] (fun lo hi wr => ∃ a b n : Nat, lo = .int .i64 a ∧ hi = .int .i64 b ∧ wr = w.drewN n ∧ a < b ∧ b ≤ m.cuts.length ∧ Sg.cutGo m.cuts c (b - a) a b = Sg.cutIx m.cuts c) (fun lo hi _ => (intOf hi - intOf lo).toNat)
  case atStart => exact ⟨0, m.cuts.length, _, rfl, rfl, rfl, h0, Nat.le_refl _, rfl⟩
  case round =>
    obtain ⟨a, b, n, rfl, rfl, rfl, hab, hb, hgo⟩ := hrel
    by_cases h1 : 1 < b - a
    · have hl := M.low ((a + b) / 2) (by omega)
      have hst := Sg.cutGo_step m.cuts c a b h1
      have Hst : Hid (Sg.cutGo m.cuts c (b - a) a b = _) := hst
      clear hst
      by_cases h2 : Sg.lowAt m.cuts ((a + b) / 2) ≤ c
      · go_wp2
        go_roundw
        case rel => exact ⟨(a + b) / 2, b, _, by go_num, rfl, rfl, by omega, hb, by rw [← hgo, Hst.out, if_pos h2]⟩
        case measure => simp [intOf]; omega
      · go_wp2
        go_roundw
        case rel => exact ⟨a, (a + b) / 2, _, rfl, by go_num, rfl, by omega, by omega, by rw [← hgo, Hst.out, if_neg h2]⟩
        case measure => simp [intOf]; omega
    · have h1' : ¬ (1 : Int) < (b : Int) - a := by omega
      go_wp2
      go_ret
      exact ⟨ret_int (by rw [← hgo, Sg.cutGo_end _ _ _ _ _ h1]), _, rfl⟩
theorem MachAt.of {w w' : World} {p : Nat} {m : Sg.Mach} {cb co cc sb so sc : Nat} {nb no nc : Nat → Nat} (M : MachAt w p m cb co cc sb so sc nb no nc)
    (h : ∀ (b o : Nat) (v : Value), w.cell? ⟨b, o, none⟩ = some v → w'.cell? ⟨b, o, none⟩ = some v) : MachAt w' p m cb co cc sb so sc nb no nc :=
  ⟨h _ _ _ M.c0, h _ _ _ M.c1, fun i hi => h _ _ _ (M.low i hi), fun i hi => h _ _ _ (M.kind i hi), fun i hi => h _ _ _ (M.rule i hi), fun i hi => h _ _ _ (M.next i hi), fun i k hi hk => h _ _ _ (M.to i k hi hk)⟩
theorem MachAt.drewN {w : World} {p : Nat} {m : Sg.Mach} {cb co cc sb so sc : Nat} {nb no nc : Nat → Nat} (M : MachAt w p m cb co cc sb so sc nb no nc) (n : Nat) : MachAt (w.drewN n) p m cb co cc sb so sc nb no nc :=
  M.of fun _ _ _ h => by simpa using h
theorem after_any (m : Sg.Mach) (hm : m.Ok) (s : Nat) (c : Int) (w : World) (p cb co cc sb so sc : Nat) (nb no nc : Nat → Nat) (M : MachAt w p m cb co cc sb so sc nb no nc)
    (hs : s < m.states.length) :
    Calls Tryz.prog 91 #[.pointer (some ⟨p, 0, none⟩), .int .i64 s, .int .i32 c] w fun e w' => e = .returned (.int .i64 (m.after s c)) ∧ ∃ n, w' = w.drewN n := by
  have hc0 := M.c0
  have hc1 := M.c1
  have hi := Sg.cutIx_lt m.cuts c hm.cuts0
  have hN := hm.cutsN
  have hsN := hm.statesN
  have hw := hm.nextN s hs
  have hk0 := hm.kind0 _ hi
  have hk1 := hm.kinds _ hi s hs
  have hk := M.kind _ hi
  have hx := M.next s hs
  have H : Hid (m.after s c = m.next s (Sg.kindAt m.cuts (Sg.cutIx m.cuts c)).toNat) := rfl
  obtain ⟨k, hkk⟩ := Int.eq_ofNat_of_zero_le hk0
  rw [hkk] at hk hk1 H
  simp only [Int.toNat_natCast] at H
  have ht := M.to s k hs (by omega)
  clear hk0 hkk
  have hcut : ∀ n, Calls Tryz.prog 92 #[.pointer (some ⟨p, 0, none⟩), .int .i32 c] (w.drewN n) fun e w'' => e = .returned (.int .i64 (Sg.cutIx m.cuts c : Nat)) ∧ ∃ k, w'' = w.drewN k :=
    fun n => Calls.quiet_of (cut_any m c _ p cb co cc sb so sc nb no nc (M.drewN n) hm.cuts0 hN)
  generalize Sg.cutIx m.cuts c = i at *
  have Hcut : Hid (∀ n, Calls Tryz.prog 92 #[.pointer (some ⟨p, 0, none⟩), .int .i32 c] (w.drewN n) fun e w'' => e = .returned (.int .i64 (i : Nat)) ∧ ∃ k, w'' = w.drewN k) := hcut
  clear hcut
  go_enter Tryz.func91, Tryz.ntmps91
  go_wp2
  go_quiet ((go_at_call 92; exact Hcut.out _))
  go_wp2
  go_ret
  exact ⟨ret_int H.out.symm, _, rfl⟩
theorem cell_lt {w : World} {b o : Nat} {v : Value} (h : w.cell? ⟨b, o, none⟩ = some v) : b < w.heap.size := by
  rcases Nat.lt_or_ge b w.heap.size with k | k
  · exact k
  · simp [World.cell?, Array.getElem?_eq_none k] at h
theorem MachAt.below {w w' : World} {p : Nat} {m : Sg.Mach} {cb co cc sb so sc : Nat} {nb no nc : Nat → Nat} (M : MachAt w p m cb co cc sb so sc nb no nc) (hb : Below w.heap.size w w') : MachAt w' p m cb co cc sb so sc nb no nc :=
  M.of fun b o _ h => (hb.cell (p := ⟨b, o, none⟩) (cell_lt h)).trans h
theorem goesGo_cons (m : Sg.Mach) (s : Nat) (high : Int) (j : Nat) (h : j < m.cuts.length) :
    m.goesGo s high (m.cuts.drop j) = if high < Sg.lowAt m.cuts j then false else if m.next s (Sg.kindAt m.cuts j).toNat = -1 then m.goesGo s high (m.cuts.drop (j + 1)) else true := by
  rw [List.drop_eq_getElem_cons h]
  simp only [Sg.Mach.goesGo, Sg.lowAt, Sg.kindAt, List.getD_eq_getElem?_getD, List.getElem?_eq_getElem h, Option.getD_some]
theorem goesOn_any (m : Sg.Mach) (hm : m.Ok) (s : Nat) (low high : Int) (w : World) (p cb co cc sb so sc : Nat) (nb no nc : Nat → Nat) (M : MachAt w p m cb co cc sb so sc nb no nc)
    (hs : s < m.states.length) (hcap : m.cuts.length ≤ cc) :
    Calls Tryz.prog 63 #[.pointer (some ⟨p, 0, none⟩), .int .i64 s, .int .i32 low, .int .i32 high] w fun e w' => e = .returned (.bool (m.goesOn s low high)) ∧ Below w.heap.size w w' := by
  have hc0 := M.c0
  have hi := Sg.cutIx_lt m.cuts low hm.cuts0
  have hN := hm.cutsN
  have hsN := hm.statesN
  have hw := hm.nextN s hs
  have H : Hid (m.goesOn s low high = m.goesGo s high (m.cuts.drop (Sg.cutIx m.cuts low))) := rfl
  have hcut : ∀ n, Calls Tryz.prog 92 #[.pointer (some ⟨p, 0, none⟩), .int .i32 low] (w.drewN n) fun e w'' => e = .returned (.int .i64 (Sg.cutIx m.cuts low : Nat)) ∧ ∃ k, w'' = w.drewN k :=
    fun n => Calls.quiet_of (cut_any m low _ p cb co cc sb so sc nb no nc (M.drewN n) hm.cuts0 hN)
  generalize Sg.cutIx m.cuts low = i at *
  generalize m.goesOn s low high = r at *
  have Hcut : Hid (∀ n, Calls Tryz.prog 92 #[.pointer (some ⟨p, 0, none⟩), .int .i32 low] (w.drewN n) fun e w'' => e = .returned (.int .i64 (i : Nat)) ∧ ∃ k, w'' = w.drewN k) := hcut
  clear hcut
  go_enter Tryz.func63, Tryz.ntmps63
  go_wp2
  go_quiet ((go_at_call 92; exact Hcut.out _))
  go_wp2
  go_loopw [20] (fun k wr => ∃ j : Nat, k = .int .i64 j ∧ j ≤ m.cuts.length - i ∧ Below w.heap.size w wr ∧ r = m.goesGo s high (m.cuts.drop (i + j))) (fun k _ => m.cuts.length - i - (intOf k).toNat)
  case atStart => exact ⟨0, rfl, Nat.zero_le _, below_drewN (Below.refl _ _) _, H.out⟩
  case round =>
    obtain ⟨j, rfl, hj, hb, hr⟩ := hrel
    have Mr := M.below hb
    have hstep := goesGo_cons m s high (i + j)
    have Hs : Hid (i + j < m.cuts.length → _) := hstep
    clear hstep
    have Hr : Hid (r = m.goesGo s high (m.cuts.drop (i + j))) := hr
    clear hr
    by_cases hlt : j < m.cuts.length - i
    · have hl : wr.cell? ⟨cb, co + i * 2 + j * 2, none⟩ = some (.int .i32 (Sg.lowAt m.cuts (i + j))) := by
        have := Mr.low (i + j) (by omega); rwa [show co + (i + j) * 2 = co + i * 2 + j * 2 by omega] at this
      have hk : wr.cell? ⟨cb, co + i * 2 + j * 2 + 1, none⟩ = some (.int .i64 (Sg.kindAt m.cuts (i + j))) := by
        have := Mr.kind (i + j) (by omega); rwa [show co + (i + j) * 2 + 1 = co + i * 2 + j * 2 + 1 by omega] at this
      have hs' := (Hs.out (by omega))
      rw [← Hr.out] at hs'
      have hk0 := hm.kind0 (i + j) (by omega)
      have hk1 := hm.kinds (i + j) (by omega) s hs
      have ht := Mr.to s (Sg.kindAt m.cuts (i + j)).toNat hs (by omega)
      obtain ⟨k, hkk⟩ := Int.eq_ofNat_of_zero_le hk0
      rw [hkk] at hk hk1 hs' ht
      simp only [Int.toNat_natCast] at hs' ht
      have Hs2 : Hid (r = _) := hs'
      clear hs' hk0 hkk Hs
      have hp1 := cell_lt Mr.c1
      have hp2 := cell_lt (Mr.next s hs)
      have hp3 := cell_lt ht
      have hc1 : ∀ o, (wr.alloc o).cell? ⟨p, 1, none⟩ = some (.slice (some ⟨sb, so, none⟩) m.states.length sc) := fun o => by
        rw [World.cell?_alloc_lt _ _ ⟨p, 1, none⟩ hp1]; exact Mr.c1
      have hx : ∀ o, (wr.alloc o).cell? ⟨sb, so + s * 2 + 1, none⟩ = some (.slice (some ⟨nb s, no s, none⟩) (m.width s) (nc s)) := fun o => by
        rw [World.cell?_alloc_lt _ _ ⟨sb, so + s * 2 + 1, none⟩ hp2]; exact Mr.next s hs
      have hy : ∀ o, (wr.alloc o).cell? ⟨nb s, no s + k, none⟩ = some (.int .i64 (m.next s k)) := fun o => by
        rw [World.cell?_alloc_lt _ _ ⟨nb s, no s + k, none⟩ hp3]; exact ht
      by_cases h1 : high < Sg.lowAt m.cuts (i + j)
      · go_wp2
        go_ret
        refine ⟨ret_bool (by rw [Hs2.out, if_pos h1]), ?_⟩
        exact hb.alloc (by have := hb.size; omega) _
      · have h1' : Sg.lowAt m.cuts (i + j) ≤ high := by omega
        by_cases h2 : m.next s k = -1
        · have h2' : (m.next s k == -1) = true := beq_iff_eq.2 h2
          have H2 : Hid (m.next s k = -1) := h2
          clear h2
          go_wp2
          go_quiet (fail)
          go_wp2
          go_roundw
          case rel => exact ⟨j + 1, by go_num, by omega, below_drewN (hb.alloc (by have := hb.size; omega) _) _, by rw [Hs2.out, if_neg (by omega), if_pos H2.out]; rfl⟩
          case measure => simp [intOf]; omega
        · have h2' : (m.next s k == -1) = false := beq_eq_false_iff_ne.2 h2
          have H2 : Hid (¬ m.next s k = -1) := h2
          clear h2
          go_wp2
          go_quiet (fail)
          go_wp2
          go_ret
          exact ⟨ret_bool (by rw [Hs2.out, if_neg (by omega), if_neg H2.out]), below_drewN (hb.alloc (by have := hb.size; omega) _) _⟩
    · go_wp2
      go_ret
      refine ⟨ret_bool ?_, hb⟩
      rw [Hr.out, List.drop_of_length_le (by omega)]; rfl
end Go.Proofs.YtlhokghgicgppaaGreatDoor
namespace Go.Proofs.YtlhokghgicgppaaGreatDoor
open Go.RowKit Go.Extern
structure Chg (T : Nat → Nat → Prop) (w w' : World) : Prop where
  os : w'.os = w.os
  tape : w'.tape = w.tape
  output : w'.output = w.output
  size : w.heap.size ≤ w'.heap.size
  block : ∀ k, k < w.heap.size → (∀ o, ¬ T k o) → w'.heap[k]? = w.heap[k]?
  cell : ∀ k o, k < w.heap.size → ¬ T k o → w'.cell? ⟨k, o, none⟩ = w.cell? ⟨k, o, none⟩
  frozen : ∀ k o, k < w.heap.size → ¬ T k o → w'.frozen? ⟨k, o, none⟩ = w.frozen? ⟨k, o, none⟩
  others : KeepsOthers w w'
  frz : ∀ k o, k < w.heap.size → w'.frozen? ⟨k, o, none⟩ = w.frozen? ⟨k, o, none⟩
  live : ∀ k o, k < w.heap.size → (w'.cell? ⟨k, o, none⟩).isSome = (w.cell? ⟨k, o, none⟩).isSome
theorem Chg.refl (T : Nat → Nat → Prop) (w : World) : Chg T w w := ⟨rfl, rfl, rfl, Nat.le_refl _, fun _ _ _ => rfl, fun _ _ _ _ => rfl, fun _ _ _ _ => rfl, KeepsOthers.refl _, fun _ _ _ => rfl, fun _ _ _ => rfl⟩
theorem Chg.trans {T : Nat → Nat → Prop} {a b c : World} (h : Chg T a b) (k : Chg T b c) : Chg T a c :=
  ⟨k.os.trans h.os, k.tape.trans h.tape, k.output.trans h.output, Nat.le_trans h.size k.size,
   fun i hi ht => (k.block i (Nat.lt_of_lt_of_le hi h.size) ht).trans (h.block i hi ht),
   fun i o hi ht => (k.cell i o (Nat.lt_of_lt_of_le hi h.size) ht).trans (h.cell i o hi ht),
   fun i o hi ht => (k.frozen i o (Nat.lt_of_lt_of_le hi h.size) ht).trans (h.frozen i o hi ht), h.others.trans k.others,
   fun i o hi => (k.frz i o (Nat.lt_of_lt_of_le hi h.size)).trans (h.frz i o hi), fun i o hi => (k.live i o (Nat.lt_of_lt_of_le hi h.size)).trans (h.live i o hi)⟩
theorem Chg.trans_new {T U : Nat → Nat → Prop} {a b c : World} (h : Chg T a b) (k : Chg U b c) (hU : ∀ i o, i < a.heap.size → U i o → T i o) : Chg T a c :=
  ⟨k.os.trans h.os, k.tape.trans h.tape, k.output.trans h.output, Nat.le_trans h.size k.size,
   fun i hi ht => (k.block i (Nat.lt_of_lt_of_le hi h.size) (fun o hu => ht o (hU i o hi hu))).trans (h.block i hi ht),
   fun i o hi ht => (k.cell i o (Nat.lt_of_lt_of_le hi h.size) (fun hu => ht (hU i o hi hu))).trans (h.cell i o hi ht),
   fun i o hi ht => (k.frozen i o (Nat.lt_of_lt_of_le hi h.size) (fun hu => ht (hU i o hi hu))).trans (h.frozen i o hi ht), h.others.trans k.others,
   fun i o hi => (k.frz i o (Nat.lt_of_lt_of_le hi h.size)).trans (h.frz i o hi), fun i o hi => (k.live i o (Nat.lt_of_lt_of_le hi h.size)).trans (h.live i o hi)⟩
theorem Chg.mono {T U : Nat → Nat → Prop} {a b : World} (h : Chg T a b) (hT : ∀ i o, i < a.heap.size → T i o → U i o) : Chg U a b :=
  (Chg.refl U a).trans_new h hT
theorem Chg.drewN {T : Nat → Nat → Prop} {a b : World} (h : Chg T a b) (n : Nat) : Chg T a (b.drewN n) :=
  ⟨h.os, h.tape, h.output, h.size, h.block, fun k o hk ht => by rw [World.cell?_drewN]; exact h.cell k o hk ht, fun k o hk ht => by rw [World.frozen?_drewN]; exact h.frozen k o hk ht, ⟨h.others.size, h.others.same⟩, fun k o hk => by rw [World.frozen?_drewN]; exact h.frz k o hk, fun k o hk => by rw [World.cell?_drewN]; exact h.live k o hk⟩
theorem Chg.drew {T : Nat → Nat → Prop} {a b : World} (h : Chg T a b) : Chg T a b.drew := h.drewN 1
theorem frozen_block {w w' : World} {k o : Nat} (h : w'.heap[k]? = w.heap[k]?) : w'.frozen? ⟨k, o, none⟩ = w.frozen? ⟨k, o, none⟩ := by
  unfold World.frozen?; simp only [h]
theorem cell_block {w w' : World} {k o : Nat} (h : w'.heap[k]? = w.heap[k]?) : w'.cell? ⟨k, o, none⟩ = w.cell? ⟨k, o, none⟩ := by
  unfold World.cell?; simp only [h]
theorem Chg.of_below {T : Nat → Nat → Prop} {w w' : World} (h : Below w.heap.size w w') : Chg T w w' :=
  ⟨h.os, h.tape, h.output, h.size, fun k hk _ => h.block k hk, fun _ _ hk _ => cell_block (h.block _ hk), fun _ _ hk _ => frozen_block (h.block _ hk),
   ⟨h.size, fun k _ hk _ => (h.block k (Array.getElem?_eq_some_iff.1 hk).1).trans hk⟩, fun _ _ hk => frozen_block (h.block _ hk), fun _ _ hk => by rw [cell_block (h.block _ hk)]⟩
theorem Chg.alloc {T : Nat → Nat → Prop} {a b : World} (h : Chg T a b) (o : Obj) : Chg T a (b.alloc o) :=
  h.trans (Chg.of_below ((Below.refl _ _).alloc (Nat.le_refl _) _))
theorem live_setCell (w : World) (a b : Addr) (v : Value) : ((w.setCell a v).cell? b).isSome = (w.cell? b).isSome := by
  by_cases e : a = b
  · subst e
    cases h : w.cell? a with
    | some u => rw [World.cell?_setCell_same w a v h]; rfl
    | none =>
      have : (w.setCell a v).cell? a = none := by
        unfold World.cell? at h ⊢
        simp only [World.setCell, Array.getElem?_modify, if_true]
        cases ho : w.heap[a.block]? with
        | none => rfl
        | some o =>
          rw [ho] at h
          cases o <;> simp_all
      rw [this]
  · rw [World.cell?_setCell_other w a b v e]
theorem Chg.setCell1 {T : Nat → Nat → Prop} {w : World} {k o : Nat} (hT : T k o) (v : Value) : Chg T w (w.setCell ⟨k, o, none⟩ v) :=
  ⟨rfl, rfl, rfl, (KeepsOthers.setCell _ _ _).size, fun i _ ht => Below.heap_setCell w ⟨k, o, none⟩ v i (fun e => ht o (e ▸ hT)),
   fun i p _ ht => World.cell?_setCell_other w ⟨k, o, none⟩ ⟨i, p, none⟩ v (fun e => by cases e; exact ht hT),
   fun i p _ _ => World.frozen?_setCell _ _ _ _, KeepsOthers.setCell _ _ _, fun i p _ => World.frozen?_setCell _ _ _ _, fun i p _ => live_setCell _ _ _ _⟩
theorem Chg.setCell {T : Nat → Nat → Prop} {a w : World} (h : Chg T a w) {k o : Nat} (hT : T k o) (v : Value) : Chg T a (w.setCell ⟨k, o, none⟩ v) := h.trans (Chg.setCell1 hT v)
theorem Chg.below {T : Nat → Nat → Prop} {w w' : World} (h : Chg T w w') {B : Nat} (hB : B ≤ w.heap.size) (hT : ∀ k o, k < B → ¬ T k o) : Below B w w' :=
  ⟨h.os, h.tape, h.output, h.size, fun k hk => h.block k (by omega) (fun o => hT k o hk)⟩
end Go.Proofs.YtlhokghgicgppaaGreatDoor
namespace Go.Proofs.YtlhokghgicgppaaGreatDoor
variable {P : Program} {ops : Array Oper} {Q : Exit → Act → World → Prop} {md : Region.Mode} {S : World → Prop} {z : Nat}
def wpLast (P : Program) (md : Region.Mode) (ops : Array Oper) (Q : Exit → Act → World → Prop) (S : World → Prop) (z : Nat) : Nat → Array Bool → Act → World → Prop
  | 0, li, a, w => Region.ready md ops li = [] ∧ Q .normal a w
  | f + 1, li, a, w => (Region.ready md ops li = [] → Q .normal a w) ∧
    ∀ i ∈ Region.ready md ops li, wpOp P ops Q i (fun a' w' => (i ≠ z → li.getD z true = false → S w') ∧ wpLast P md ops Q S z f (li.setIfInBounds i true) a' w') a w
theorem any_of_last : ∀ (f : Nat) (li : Array Bool) (a : Act) (w : World), wpLast P md ops Q S z f li a w → wpAny P md ops Q f li a w
  | 0, _, _, _, h => h
  | f + 1, _, _, _, h => ⟨h.1, fun i hi => wpOp_mono (fun a' w' h' => any_of_last f _ a' w' h'.2) (h.2 i hi)⟩
def waits (md : Region.Mode) (ops : Array Oper) (z i : Nat) : Bool := match ops[z]? with
  | none => false
  | some o => o.after.any fun e => Region.binds md e && e.on == i
theorem not_ready {i j : Nat} {li : Array Bool} {oj : Oper} (hoj : ops[j]? = some oj) (hr : i ∈ Region.ready md ops li) (hj : j ∈ Region.ready md ops li) : ∀ e ∈ oj.after, Region.binds md e = true → e.on ≠ i := by
  intro e he hb heq
  obtain ⟨_, o, ho, hall⟩ := mem_ready.1 hj
  rw [hoj] at ho
  cases ho
  have h1 := hall e he hb
  have h0 := (mem_ready.1 hr).1
  rw [heq] at h1
  rcases Nat.lt_or_ge i li.size with h' | h'
  · simp [h'] at h0 h1; rw [h0] at h1; cases h1
  · simp [Array.getElem?_eq_none h'] at h1
theorem last_first {i : Nat} {oi : Oper} {v : Value} (hi : ops[i]? = some oi) (hz : waits md ops z i = true) (hiz : i ≠ z) (hsel : ∀ (j : Nat) (o : Oper) cs b, ops[j]? = some o → o.op ≠ .select cs b)
    (hQ : ∀ c a w, Q (.panic c) (a.put oi.dst v) w → Q (.panic c) a w) : ∀ (f : Nat) (li : Array Bool) (a : Act) (w : World),
      (∀ j oj, ops[j]? = some oj → j ≠ i → li.getD j true = false → (∀ e ∈ oj.after, Region.binds md e = true → e.on ≠ i) → oi.apart ops oj = true) →
      li.getD z true = false → i ∈ Region.ready md ops li → YieldsIf P ops S oi v a → S w →
      wpLast P md ops Q S z f (li.setIfInBounds i true) (a.put oi.dst v) w → wpLast P md ops Q S z (f + 1) li a w := by
  intro f
  induction f with
  | zero =>
    intro li a w _ _ hr hy hS H
    refine ⟨fun h => (by rw [h] at hr; cases hr), fun j hj => ?_⟩
    by_cases hji : j = i
    · subst hji; exact hy.wpOp hi hS ⟨fun _ _ => hS, H⟩
    · have := ready_mono hj hji
      rw [H.1] at this
      cases this
  | succ f ih =>
    intro li a w hfree hzl hr hy hS H
    refine ⟨fun h => (by rw [h] at hr; cases hr), fun j hj => ?_⟩
    by_cases hji : j = i
    · subst hji; exact hy.wpOp hi hS ⟨fun _ _ => hS, H⟩
    · obtain ⟨hjun, oj, hoj, _⟩ := mem_ready.1 hj
      have hnot := not_ready hoj hr hj
      have hjz : j ≠ z := by
        rintro rfl
        unfold waits at hz
        rw [hoj] at hz
        obtain ⟨k, hk, he⟩ := Array.any_eq_true.1 hz
        rw [Bool.and_eq_true] at he
        exact hnot _ (Array.getElem_mem hk) he.1 (by simpa using he.2)
      have h1 := wpOp_mono (fun a' w' (h : (j ≠ z → (li.setIfInBounds i true).getD z true = false → S w') ∧ _) => (⟨h.1 hjz (by rw [getD_set_ne true hiz]; exact hzl), h.2⟩ : S w' ∧ _)) (H.2 j (ready_mono hj hji))
      have h2 := wpOp_putIf hoj (hfree j oj hoj hji hjun hnot) (fun cs b => hsel i oi cs b hi) (fun cs b => hsel j oj cs b hoj) hQ hy h1
      refine wpOp_mono (fun a' w' h3 => ⟨fun _ _ => h3.2.1, ih (li.setIfInBounds j true) a' w' (fun k ok hk hki hun hno => ?_) (by rw [getD_set_ne true hjz]; exact hzl) (ready_mono hr (Ne.symm hji)) h3.1 h3.2.1 ?_⟩) h2
      · refine hfree k ok hk hki ?_ hno
        by_cases hjk : j = k
        · subst hjk; exact hjun
        · rw [getD_set_ne true hjk] at hun; exact hun
      · rw [Array.setIfInBounds_comm _ _ hji]
        exact h3.2.2
theorem last_take {i : Nat} {oi : Oper} {v : Value} {f : Nat} {li : Array Bool} {a : Act} {w : World} (hi : ops[i]? = some oi) (hz : waits md ops z i = true) (hiz : i ≠ z) (hzl : li.getD z true = false)
    (hs : Region.noSelect ops = true) (hf : Region.free md ops li i = true) (hr : (Region.ready md ops li).contains i = true)
    (hQ : ∀ c a w, Q (.panic c) (a.put oi.dst v) w → Q (.panic c) a w) (hy : YieldsIf P ops S oi v a) (hS : S w)
    (h : wpLast P md ops Q S z f (li.setIfInBounds i true) (a.put oi.dst v) w) : wpLast P md ops Q S z (f + 1) li a w :=
  last_first hi hz hiz (Region.noSelect_spec hs) hQ f li a w (Region.free_spec hi hf) hzl (by simpa using hr) hy hS h
theorem last_pure1 {i : Nat} {oi : Oper} {v : Value} (hi : ops[i]? = some oi) (hiz : i ≠ z) (hsel : ∀ (j : Nat) (o : Oper) cs b, ops[j]? = some o → o.op ≠ .select cs b)
    (hQ : ∀ c a w, Q (.panic c) (a.put oi.dst v) w → Q (.panic c) a w) : ∀ (f : Nat) (li : Array Bool) (a : Act) (w : World),
      (∀ j oj, ops[j]? = some oj → j ≠ i → li.getD j true = false → (∀ e ∈ oj.after, Region.binds md e = true → e.on ≠ i) → oi.apart ops oj = true) →
      (li.getD z true = false → S w) → i ∈ Region.ready md ops li → YieldsIf P ops (fun _ => True) oi v a →
      wpLast P md ops Q S z f (li.setIfInBounds i true) (a.put oi.dst v) w → wpLast P md ops Q S z (f + 1) li a w := by
  intro f
  induction f with
  | zero =>
    intro li a w _ hS hr hy H
    refine ⟨fun h => (by rw [h] at hr; cases hr), fun j hj => ?_⟩
    by_cases hji : j = i
    · subst hji; exact hy.wpOp hi trivial ⟨fun _ => hS, H⟩
    · have := ready_mono hj hji
      rw [H.1] at this
      cases this
  | succ f ih =>
    intro li a w hfree hS hr hy H
    refine ⟨fun h => (by rw [h] at hr; cases hr), fun j hj => ?_⟩
    by_cases hji : j = i
    · subst hji; exact hy.wpOp hi trivial ⟨fun _ => hS, H⟩
    · obtain ⟨hjun, oj, hoj, _⟩ := mem_ready.1 hj
      have hnot := not_ready hoj hr hj
      have h2 := wpOp_putIf hoj (hfree j oj hoj hji hjun hnot) (fun cs b => hsel i oi cs b hi) (fun cs b => hsel j oj cs b hoj) hQ hy (H.2 j (ready_mono hj hji))
      refine wpOp_mono (fun a' w' h3 => ?_) h2
      have hS' : j ≠ z → li.getD z true = false → S w' := fun h1 h2 => h3.2.1 h1 (by rw [getD_set_ne true hiz]; exact h2)
      refine ⟨hS', ih (li.setIfInBounds j true) a' w' (fun k ok hk hki hun hno => ?_) (fun h0 => ?_) (ready_mono hr (Ne.symm hji)) h3.1 ?_⟩
      · refine hfree k ok hk hki ?_ hno
        by_cases hjk : j = k
        · subst hjk; exact hjun
        · rw [getD_set_ne true hjk] at hun; exact hun
      · by_cases hjz : j = z
        · subst hjz
          rw [Array.getD_eq_getD_getElem?, Array.getElem?_setIfInBounds] at h0
          split at h0
          · split at h0 <;> cases h0
          · exact absurd rfl (by assumption)
        · exact hS' hjz (by rw [getD_set_ne true hjz] at h0; exact h0)
      · rw [Array.setIfInBounds_comm _ _ hji]
        exact h3.2.2
theorem last_pure {i : Nat} {oi : Oper} {v : Value} {f : Nat} {li : Array Bool} {a : Act} {w : World} (hi : ops[i]? = some oi) (hiz : i ≠ z)
    (hs : Region.noSelect ops = true) (hf : Region.free md ops li i = true) (hr : (Region.ready md ops li).contains i = true)
    (hQ : ∀ c a w, Q (.panic c) (a.put oi.dst v) w → Q (.panic c) a w) (hy : YieldsIf P ops (fun _ => True) oi v a) (hS : S w)
    (h : wpLast P md ops Q S z f (li.setIfInBounds i true) (a.put oi.dst v) w) : wpLast P md ops Q S z (f + 1) li a w :=
  last_pure1 hi hiz (Region.noSelect_spec hs) hQ f li a w (Region.free_spec hi hf) (fun _ => hS) (by simpa using hr) hy h
theorem last_step {i : Nat} {o : Oper} {f : Nat} {li : Array Bool} {a : Act} {w : World} (ho : ops[i]? = some o) (hr : Region.ready md ops li = [i])
    (h : ∀ K' : Act → World → Prop, Shut (∀ a w, (i ≠ z → li.getD z true = false → S w) → wpLast P md ops Q S z f (li.setIfInBounds i true) a w → K' a w) → if Region.wanted o (yielded ops a.tmps) = true then Oper.wp P o a w K' Q else K' (a.put o.dst undef) w) : wpLast P md ops Q S z (f + 1) li a w := by
  refine ⟨fun h0 => (by rw [hr] at h0; cases h0), fun j hj => ?_⟩
  rw [hr] at hj
  obtain rfl := List.mem_singleton.1 hj
  exact wpOp_step ho (fun K' hK => h K' (fun a w hS hW => hK a w ⟨hS, hW⟩))
theorem last_done {li : Array Bool} {a : Act} {w : World} (hr : Region.ready md ops li = []) (h : Q .normal a w) : ∀ f, wpLast P md ops Q S z f li a w
  | 0 => ⟨hr, h⟩
  | _ + 1 => ⟨fun _ => h, by rw [hr]; simp⟩
theorem wp_region_last {id : Nat} {a : Act} {w : World} (S : World → Prop) (z : Nat) (hm : P.follows .mixedOrders = true) (hS : S w.drew)
    (h : S w.drew → wpLast P .any ops Q S z ops.size (Array.replicate ops.size false) a w.drew) : (Code.region id ops true).wp P Q a w :=
  wp_region_any hm (any_of_last _ _ _ _ (h hS))
end Go.Proofs.YtlhokghgicgppaaGreatDoor
namespace Go.Proofs.YtlhokghgicgppaaGreatDoor
open Go.RowKit Go.Extern
def errV : Option Int → Value
  | none => .nilIface
  | some n => .iface 50 (.int .i64 n)
theorem isEnd_idle (p : Addr) (w : World) :
    CallsD Tryz.prog 133 #[.pointer (some p)] .returning w fun e u' w' => e = .returned (.tuple #[]) ∧ u' = .returning ∧ w' = w := by
  refine callsD_of_wpS Tryz.func133 rfl fun c₀ cs hu => ?_
  apply wpS_seq
  apply wpS_region
  simp [wpOpsS, go_sem, recoverD, hu, Tryz.ntmps133, Exit.thenS]
  refine wpS_cond (t := false) (by simp [Act.eval, Array.replicate]) ?_
  simp only [Bool.false_eq_true, if_false]
  refine wpS_of_wp (wp_skip ?_)
  cases c₀
  simp_all [bodyPostS, results, Tryz.results133]
theorem isEnd_any (ev : Option Int) (w : World) :
    Calls Tryz.prog 94 #[errV ev] w fun e w' => e = .returned (.bool (ev == some 13)) ∧ Below w.heap.size w w' := by
  have hmf : ∀ (fn : Fn) (first cap : Array Value) (w : World), (Instr.makeFunc fn first cap).run Tryz.prog w = .ok (.func fn first cap) w := fun _ _ _ _ => rfl
  have his : ∀ W, Calls Tryz.prog 134 #[errV ev, .iface 50 (.int .i64 13)] W fun e w' => e = .returned (.bool (ev == some 13)) ∧ w' = W := fun W => by
    cases ev with
    | none => exact is_nil _ W
    | some n =>
      have := is_errno n 13 W
      rw [show (some n == some (13 : Int)) = (n == 13) from rfl]
      exact this
  have His : Hid (∀ W, Calls Tryz.prog 134 #[errV ev, .iface 50 (.int .i64 13)] W fun e w' => e = .returned (.bool (ev == some 13)) ∧ w' = W) := his
  clear his
  generalize (ev == some 13) = r at *
  generalize errV ev = v at *
  go_enter_defers Tryz.func94, Tryz.ntmps94
  go_wp2_with fail
  refine (His.out _).mono ?_
  rintro e w1 ⟨rfl, rfl⟩
  go_wp2
  refine leaves_cons (f := 133) (args := #[.pointer (some ⟨w.heap.size, 0, none⟩)]) (by simp) (by simp [go_sem]) ?_
  refine (isEnd_idle ⟨w.heap.size, 0, none⟩ _).mono ?_
  rintro e u' w'' ⟨rfl, rfl, rfl⟩
  simp [Leaves, settle, results, Tryz.results94, go_sem]
  exact (Below.refl _ _).alloc (Nat.le_refl _) _
end Go.Proofs.YtlhokghgicgppaaGreatDoor
