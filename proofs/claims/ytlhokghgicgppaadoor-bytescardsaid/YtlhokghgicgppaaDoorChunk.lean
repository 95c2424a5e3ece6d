/- slices.Chunk. -/
import Derived.Test.YtlhokghgicgppaaDoorNumbers
import Derived.Test.YtlhokghgicgppaaDoorTokens2
import Derived.Sort.LoopGhostIn
set_option linter.unusedSimpArgs false
set_option linter.unusedVariables false
namespace Go.Proofs.YtlhokghgicgppaaDoor
open Go.RowKit Go.Extern

attribute [local go_sem] Oper.semAt_some

set_option maxHeartbeats 1000000 in
theorem chunk_in (n : Nat) (ra : Option Addr) (len cap k : Nat) (h1 : 1 ≤ k) (hk : k < 1000000000) (w : World) :
    CallsIn Fence.wide n Tryd.prog 30 #[.slice ra len cap, .int .i64 k] w fun e w' => e = .returned (.func (.func 48) #[] #[.pointer (some ⟨w.heap.size, 0, none⟩), .pointer (some ⟨w.heap.size + 1, 0, none⟩)]) ∧ w' = (w.alloc (.cells #[.slice ra len cap] 61)).alloc (.cells #[.int .i64 k] 3) := by
  have h1' : ¬ (k : Int) < 1 := by omega
  refine callsIn_of_wp Tryd.func30 rfl trivial ?_ rfl
  simp only [Tryd.ntmps30, List.size_toArray, List.length_cons, List.length_nil, Nat.reduceAdd, Nat.reduceSub, Array.replicate_succ, Array.replicate_zero, List.push_toArray, List.append_toArray, List.nil_append, List.cons_append]
  gi_wp2
  go_ret
  exact ⟨rfl, by simp⟩

set_option maxRecDepth 100000 in
set_option maxHeartbeats 2000000 in
/-- The iterator: whatever the loop's body does that keeps J. -/
theorem chunk1_in (n l bs bn rb ro len cap k : Nat) (h1 : 1 ≤ k) (hk : k < 1000000000) (hlen : len < 1000000000) (J : Nat → World → Prop)
    (hJ : ∀ i W, J i W → W.cell? ⟨bs, 0, none⟩ = some (.slice (some ⟨rb, ro, none⟩) len cap) ∧ W.cell? ⟨bn, 0, none⟩ = some (.int .i64 k)) (hcap : len ≤ cap)
    (hdraw : ∀ i W, J i W → J i W.drew)
    (hY : ∀ i W, J i W → i * k < len → YieldAt Fence.wide (n - 1) Tryd.prog l #[.slice (some ⟨rb, ro + i * k, none⟩) (min k (len - i * k)) (min k (len - i * k))] W fun e W' => e = .returned (.bool true) ∧ J (i + 1) W')
    (W : World) (h0 : J 0 W) :
    CallsIn Fence.wide n Tryd.prog 48 #[.func (.yield l) #[] #[], .pointer (some ⟨bs, 0, none⟩), .pointer (some ⟨bn, 0, none⟩)] W fun e W' => (∃ v, e = .returned v) ∧ ∃ i, len ≤ i * k ∧ (i = 0 ∨ (i - 1) * k < len) ∧ J i W' := by
  have hdd : ∀ k : Nat, (Fence.wide.depth.isSome = true → 1 ≤ k) := fun k h => by cases h
  refine callsIn_of_wp Tryd.func48 rfl trivial ?_ rfl
  simp only [Tryd.ntmps48, List.size_toArray, List.length_cons, List.length_nil, Nat.reduceAdd, Nat.reduceSub, Array.replicate_succ, Array.replicate_zero, List.push_toArray, List.append_toArray, List.nil_append, List.cons_append]
  gi_wp2
  gi_loopw [4] (fun iv wr => ∃ i : Nat, iv = .int .i64 (i * k : Nat) ∧ (i = 0 ∨ (i - 1) * k < len) ∧ J i wr) (fun iv _ => len + k - (intOf iv).toNat)
  case atStart => exact ⟨0, by simp, .inl rfl, h0⟩
  case round =>
    obtain ⟨i, rfl, hi, hj⟩ := hrel
    obtain ⟨hb, hn⟩ := hJ i wr hj
    by_cases hlt : i * k < len
    · obtain ⟨fn, tmps, assign, body, hy, hR⟩ := hY i wr.drew (hdraw i wr hj) hlt
      have hik : (i + 1) * k = i * k + k := by rw [Nat.add_mul]; omega
      have Hk := hide2 hik
      have Hj := hide2 hj
      have HJ := hide2 hJ
      clear hY hik hj hJ hdraw
      generalize hx : i * k = x at *
      have Hx := hide2 hx
      clear hx
      have emin : min k (len - x) = ((x : Int) + min (k : Int) ((len - x : Nat) : Int)).toNat - x := by omega
      rw [emin] at hy
      have HR := hide2 hR
      clear hR emin
      gi_wp2
      gi_region
      all_goals gi_wp2
      all_goals refine ⟨hdd _, HR.out.mono ?_⟩
      all_goals rintro e W3 ⟨rfl, hJ3⟩
      all_goals have hn3 := (HJ.out _ _ hJ3).2
      all_goals have HJ3 := hide2 hJ3
      all_goals clear hJ3 hy
      all_goals gi_wp2
      all_goals go_roundw
      case rel => exact ⟨i + 1, by rw [Hk.out]; go_num, .inr (by show i * k < len; rw [Hx.out]; exact hlt), HJ3.out⟩
      case measure => simp [intOf]; omega
    · gi_wp2
      go_end0
      exact ⟨⟨_, rfl⟩, i, by omega, hi, hj⟩
end Go.Proofs.YtlhokghgicgppaaDoor
