/- The machine in memory; the functions that read it. -/
import Derived.Test.YtlhokghgicgppaaDoorProg
import Derived.Test.YtlhokghgicgppaaDoorSpec2
import Derived.WalkKit
import Derived.LoopTactic
import Derived.Deep.QuietTactic
import Derived.BigQuiet
import Derived.Below
import Derived.Deep.DeepFit
set_option linter.unusedSimpArgs false
set_option linter.unusedVariables false
namespace Go.Proofs.YtlhokghgicgppaaDoor
open Go.RowKit Go.Extern

theorem ret_int {k : IntKind} {a b : Int} (h : a = b) : Ending.returned (.int k a) = .returned (.int k b) := by rw [h]
theorem ret_bool {a b : Bool} (h : b = a) : Ending.returned (.bool a) = .returned (.bool b) := by rw [h]
theorem below_drewN {B : Nat} {a w : World} (h : Below B a w) : ∀ n, Below B a (w.drewN n) := fun n => by
  exact ⟨h.os, h.tape, h.output, h.size, h.block⟩
/-- Tables as they lie in memory. -/
structure MachAt (w : World) (p : Nat) (m : Sg.Mach) (cb co cc sb so sc : Nat) (nb no nc : Nat → Nat) : Prop where
  c0 : w.cell? ⟨p, 0, none⟩ = some (.slice (some ⟨cb, co, none⟩) m.cuts.length cc)
  c1 : w.cell? ⟨p, 1, none⟩ = some (.slice (some ⟨sb, so, none⟩) m.states.length sc)
  low : ∀ i, i < m.cuts.length → w.cell? ⟨cb, co + i * 2, none⟩ = some (.int .i32 (Sg.lowAt m.cuts i))
  kind : ∀ i, i < m.cuts.length → w.cell? ⟨cb, co + i * 2 + 1, none⟩ = some (.int .i64 (Sg.kindAt m.cuts i))
  rule : ∀ i, i < m.states.length → w.cell? ⟨sb, so + i * 2, none⟩ = some (.int .i64 (m.rule i))
  next : ∀ i, i < m.states.length → w.cell? ⟨sb, so + i * 2 + 1, none⟩ = some (.slice (some ⟨nb i, no i, none⟩) (m.width i) (nc i))
  to : ∀ i k, i < m.states.length → k < m.width i → w.cell? ⟨nb i, no i + k, none⟩ = some (.int .i64 (m.next i k))

set_option maxRecDepth 100000 in
set_option maxHeartbeats 1000000 in
theorem cut_any (m : Sg.Mach) (c : Int) (w : World) (p cb co cc sb so sc : Nat) (nb no nc : Nat → Nat) (M : MachAt w p m cb co cc sb so sc nb no nc)
    (h0 : 0 < m.cuts.length) (hN : m.cuts.length < 1000000000) :
    Calls Tryd.prog 51 #[.pointer (some ⟨p, 0, none⟩), .int .i32 c] w fun e w' => e = .returned (.int .i64 (Sg.cutIx m.cuts c : Nat)) ∧ ∃ n, w' = w.drewN n := by
  have hc0 := M.c0
  go_enter Tryd.func51, Tryd.ntmps51
  go_wp2
  go_quiet (fail)
  go_wp2
  go_loopw [5, 6] (fun lo hi wr => ∃ a b n : Nat, lo = .int .i64 a ∧ hi = .int .i64 b ∧ wr = w.drewN n ∧ a < b ∧ b ≤ m.cuts.length ∧ Sg.cutGo m.cuts c (b - a) a b = Sg.cutIx m.cuts c) (fun lo hi _ => (intOf hi - intOf lo).toNat)
  case atStart => exact ⟨0, m.cuts.length, _, rfl, rfl, rfl, h0, Nat.le_refl _, rfl⟩
  case round =>
    obtain ⟨a, b, n, rfl, rfl, rfl, hab, hb, hgo⟩ := hrel
    by_cases h1 : 1 < b - a
    · have hl := M.low ((a + b) / 2) (by omega)
      have hst := Sg.cutGo_step m.cuts c a b h1
      have Hst : Hid (Sg.cutGo m.cuts c (b - a) a b = _) := hst
      clear hst
      by_cases h2 : Sg.lowAt m.cuts ((a + b) / 2) ≤ c
      · go_wp2
        go_roundw
        case rel => exact ⟨(a + b) / 2, b, _, by go_num, rfl, rfl, by omega, hb, by rw [← hgo, Hst.out, if_pos h2]⟩
        case measure => simp [intOf]; omega
      · go_wp2
        go_roundw
        case rel => exact ⟨a, (a + b) / 2, _, rfl, by go_num, rfl, by omega, by omega, by rw [← hgo, Hst.out, if_neg h2]⟩
        case measure => simp [intOf]; omega
    · have h1' : ¬ (1 : Int) < (b : Int) - a := by omega
      go_wp2
      go_ret
      exact ⟨ret_int (by rw [← hgo, Sg.cutGo_end _ _ _ _ _ h1]), _, rfl⟩
theorem MachAt.of {w w' : World} {p : Nat} {m : Sg.Mach} {cb co cc sb so sc : Nat} {nb no nc : Nat → Nat} (M : MachAt w p m cb co cc sb so sc nb no nc)
    (h : ∀ (b o : Nat) (v : Value), w.cell? ⟨b, o, none⟩ = some v → w'.cell? ⟨b, o, none⟩ = some v) : MachAt w' p m cb co cc sb so sc nb no nc :=
  ⟨h _ _ _ M.c0, h _ _ _ M.c1, fun i hi => h _ _ _ (M.low i hi), fun i hi => h _ _ _ (M.kind i hi), fun i hi => h _ _ _ (M.rule i hi), fun i hi => h _ _ _ (M.next i hi), fun i k hi hk => h _ _ _ (M.to i k hi hk)⟩
theorem MachAt.drewN {w : World} {p : Nat} {m : Sg.Mach} {cb co cc sb so sc : Nat} {nb no nc : Nat → Nat} (M : MachAt w p m cb co cc sb so sc nb no nc) (n : Nat) : MachAt (w.drewN n) p m cb co cc sb so sc nb no nc :=
  M.of fun _ _ _ h => by simpa using h

set_option maxRecDepth 100000 in
set_option maxHeartbeats 1000000 in
theorem after_any (m : Sg.Mach) (hm : m.Ok) (s : Nat) (c : Int) (w : World) (p cb co cc sb so sc : Nat) (nb no nc : Nat → Nat) (M : MachAt w p m cb co cc sb so sc nb no nc)
    (hs : s < m.states.length) :
    Calls Tryd.prog 50 #[.pointer (some ⟨p, 0, none⟩), .int .i64 s, .int .i32 c] w fun e w' => e = .returned (.int .i64 (m.after s c)) ∧ ∃ n, w' = w.drewN n := by
  have hc0 := M.c0
  have hc1 := M.c1
  have hi := Sg.cutIx_lt m.cuts c hm.cuts0
  have hN := hm.cutsN
  have hsN := hm.statesN
  have hw := hm.nextN s hs
  have hk0 := hm.kind0 _ hi
  have hk1 := hm.kinds _ hi s hs
  have hk := M.kind _ hi
  have hx := M.next s hs
  have H : Hid (m.after s c = m.next s (Sg.kindAt m.cuts (Sg.cutIx m.cuts c)).toNat) := rfl
  obtain ⟨k, hkk⟩ := Int.eq_ofNat_of_zero_le hk0
  rw [hkk] at hk hk1 H
  simp only [Int.toNat_natCast] at H
  have ht := M.to s k hs (by omega)
  clear hk0 hkk
  have hcut : ∀ n, Calls Tryd.prog 51 #[.pointer (some ⟨p, 0, none⟩), .int .i32 c] (w.drewN n) fun e w'' => e = .returned (.int .i64 (Sg.cutIx m.cuts c : Nat)) ∧ ∃ k, w'' = w.drewN k :=
    fun n => Calls.quiet_of (cut_any m c _ p cb co cc sb so sc nb no nc (M.drewN n) hm.cuts0 hN)
  generalize Sg.cutIx m.cuts c = i at *
  have Hcut : Hid (∀ n, Calls Tryd.prog 51 #[.pointer (some ⟨p, 0, none⟩), .int .i32 c] (w.drewN n) fun e w'' => e = .returned (.int .i64 (i : Nat)) ∧ ∃ k, w'' = w.drewN k) := hcut
  clear hcut
  go_enter Tryd.func50, Tryd.ntmps50
  go_wp2
  go_quiet ((go_at_call 51; exact Hcut.out _))
  go_wp2
  go_ret
  exact ⟨ret_int H.out.symm, _, rfl⟩
theorem cell_lt {w : World} {b o : Nat} {v : Value} (h : w.cell? ⟨b, o, none⟩ = some v) : b < w.heap.size := by
  rcases Nat.lt_or_ge b w.heap.size with k | k
  · exact k
  · simp [World.cell?, Array.getElem?_eq_none k] at h
theorem MachAt.below {w w' : World} {p : Nat} {m : Sg.Mach} {cb co cc sb so sc : Nat} {nb no nc : Nat → Nat} (M : MachAt w p m cb co cc sb so sc nb no nc) (hb : Below w.heap.size w w') : MachAt w' p m cb co cc sb so sc nb no nc :=
  M.of fun b o _ h => (hb.cell (p := ⟨b, o, none⟩) (cell_lt h)).trans h
theorem goesGo_cons (m : Sg.Mach) (s : Nat) (high : Int) (j : Nat) (h : j < m.cuts.length) :
    m.goesGo s high (m.cuts.drop j) = if high < Sg.lowAt m.cuts j then false else if m.next s (Sg.kindAt m.cuts j).toNat = -1 then m.goesGo s high (m.cuts.drop (j + 1)) else true := by
  rw [List.drop_eq_getElem_cons h]
  simp only [Sg.Mach.goesGo, Sg.lowAt, Sg.kindAt, List.getD_eq_getElem?_getD, List.getElem?_eq_getElem h, Option.getD_some]

set_option maxRecDepth 100000 in
set_option maxHeartbeats 1000000 in
theorem goesOn_any (m : Sg.Mach) (hm : m.Ok) (s : Nat) (low high : Int) (w : World) (p cb co cc sb so sc : Nat) (nb no nc : Nat → Nat) (M : MachAt w p m cb co cc sb so sc nb no nc)
    (hs : s < m.states.length) (hcap : m.cuts.length ≤ cc) :
    Calls Tryd.prog 43 #[.pointer (some ⟨p, 0, none⟩), .int .i64 s, .int .i32 low, .int .i32 high] w fun e w' => e = .returned (.bool (m.goesOn s low high)) ∧ Below w.heap.size w w' := by
  have hc0 := M.c0
  have hi := Sg.cutIx_lt m.cuts low hm.cuts0
  have hN := hm.cutsN
  have hsN := hm.statesN
  have hw := hm.nextN s hs
  have H : Hid (m.goesOn s low high = m.goesGo s high (m.cuts.drop (Sg.cutIx m.cuts low))) := rfl
  have hcut : ∀ n, Calls Tryd.prog 51 #[.pointer (some ⟨p, 0, none⟩), .int .i32 low] (w.drewN n) fun e w'' => e = .returned (.int .i64 (Sg.cutIx m.cuts low : Nat)) ∧ ∃ k, w'' = w.drewN k :=
    fun n => Calls.quiet_of (cut_any m low _ p cb co cc sb so sc nb no nc (M.drewN n) hm.cuts0 hN)
  generalize Sg.cutIx m.cuts low = i at *
  generalize m.goesOn s low high = r at *
  have Hcut : Hid (∀ n, Calls Tryd.prog 51 #[.pointer (some ⟨p, 0, none⟩), .int .i32 low] (w.drewN n) fun e w'' => e = .returned (.int .i64 (i : Nat)) ∧ ∃ k, w'' = w.drewN k) := hcut
  clear hcut
  go_enter Tryd.func43, Tryd.ntmps43
  go_wp2
  go_quiet ((go_at_call 51; exact Hcut.out _))
  go_wp2
  go_loopw [20] (fun k wr => ∃ j : Nat, k = .int .i64 j ∧ j ≤ m.cuts.length - i ∧ Below w.heap.size w wr ∧ r = m.goesGo s high (m.cuts.drop (i + j))) (fun k _ => m.cuts.length - i - (intOf k).toNat)
  case atStart => exact ⟨0, rfl, Nat.zero_le _, below_drewN (Below.refl _ _) _, H.out⟩
  case round =>
    obtain ⟨j, rfl, hj, hb, hr⟩ := hrel
    have Mr := M.below hb
    have hstep := goesGo_cons m s high (i + j)
    have Hs : Hid (i + j < m.cuts.length → _) := hstep
    clear hstep
    have Hr : Hid (r = m.goesGo s high (m.cuts.drop (i + j))) := hr
    clear hr
    by_cases hlt : j < m.cuts.length - i
    · have hl : wr.cell? ⟨cb, co + i * 2 + j * 2, none⟩ = some (.int .i32 (Sg.lowAt m.cuts (i + j))) := by
        have := Mr.low (i + j) (by omega); rwa [show co + (i + j) * 2 = co + i * 2 + j * 2 by omega] at this
      have hk : wr.cell? ⟨cb, co + i * 2 + j * 2 + 1, none⟩ = some (.int .i64 (Sg.kindAt m.cuts (i + j))) := by
        have := Mr.kind (i + j) (by omega); rwa [show co + (i + j) * 2 + 1 = co + i * 2 + j * 2 + 1 by omega] at this
      have hs' := (Hs.out (by omega))
      rw [← Hr.out] at hs'
      have hk0 := hm.kind0 (i + j) (by omega)
      have hk1 := hm.kinds (i + j) (by omega) s hs
      have ht := Mr.to s (Sg.kindAt m.cuts (i + j)).toNat hs (by omega)
      obtain ⟨k, hkk⟩ := Int.eq_ofNat_of_zero_le hk0
      rw [hkk] at hk hk1 hs' ht
      simp only [Int.toNat_natCast] at hs' ht
      have Hs2 : Hid (r = _) := hs'
      clear hs' hk0 hkk Hs
      have hp1 := cell_lt Mr.c1
      have hp2 := cell_lt (Mr.next s hs)
      have hp3 := cell_lt ht
      have hc1 : ∀ o, (wr.alloc o).cell? ⟨p, 1, none⟩ = some (.slice (some ⟨sb, so, none⟩) m.states.length sc) := fun o => by
        rw [World.cell?_alloc_lt _ _ ⟨p, 1, none⟩ hp1]; exact Mr.c1
      have hx : ∀ o, (wr.alloc o).cell? ⟨sb, so + s * 2 + 1, none⟩ = some (.slice (some ⟨nb s, no s, none⟩) (m.width s) (nc s)) := fun o => by
        rw [World.cell?_alloc_lt _ _ ⟨sb, so + s * 2 + 1, none⟩ hp2]; exact Mr.next s hs
      have hy : ∀ o, (wr.alloc o).cell? ⟨nb s, no s + k, none⟩ = some (.int .i64 (m.next s k)) := fun o => by
        rw [World.cell?_alloc_lt _ _ ⟨nb s, no s + k, none⟩ hp3]; exact ht
      by_cases h1 : high < Sg.lowAt m.cuts (i + j)
      · go_wp2
        go_ret
        refine ⟨ret_bool (by rw [Hs2.out, if_pos h1]), ?_⟩
        exact hb.alloc (by have := hb.size; omega) _
      · have h1' : Sg.lowAt m.cuts (i + j) ≤ high := by omega
        by_cases h2 : m.next s k = -1
        · have h2' : (m.next s k == -1) = true := beq_iff_eq.2 h2
          have H2 : Hid (m.next s k = -1) := h2
          clear h2
          go_wp2
          go_quiet (fail)
          go_wp2
          go_roundw
          case rel => exact ⟨j + 1, by go_num, by omega, below_drewN (hb.alloc (by have := hb.size; omega) _) _, by rw [Hs2.out, if_neg (by omega), if_pos H2.out]; rfl⟩
          case measure => simp [intOf]; omega
        · have h2' : (m.next s k == -1) = false := beq_eq_false_iff_ne.2 h2
          have H2 : Hid (¬ m.next s k = -1) := h2
          clear h2
          go_wp2
          go_quiet (fail)
          go_wp2
          go_ret
          exact ⟨ret_bool (by rw [Hs2.out, if_neg (by omega), if_neg H2.out]), below_drewN (hb.alloc (by have := hb.size; omega) _) _⟩
    · go_wp2
      go_ret
      refine ⟨ret_bool ?_, hb⟩
      rw [Hr.out, List.drop_of_length_le (by omega)]; rfl
end Go.Proofs.YtlhokghgicgppaaDoor
