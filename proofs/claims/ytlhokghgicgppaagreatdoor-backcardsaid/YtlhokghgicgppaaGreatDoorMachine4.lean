/- stored.numbers. -/
/- A region that draws its order, within a round of a range over a function. -/
/- slices.Chunk. -/
/- stored.machine: its parts. -/
/- stored.machine: the cuts. -/
/- stored.machine: what the making of the states is about. -/
/- stored.machine: the walk. -/
import Derived.Test.YtlhokghgicgppaaGreatDoorWrite
import Derived.Laws.IdiomStrings
import Derived.Test.YtlhokghgicgppaaGreatDoorSortA
import Derived.Deep.RegionHeldLaw
import Derived.OrdersIn
import Derived.Test.YtlhokghgicgppaaGreatDoorAll
import Derived.Sort.LoopGhostIn
import Derived.Test.YtlhokghgicgppaaGreatDoorToks
set_option linter.unusedSimpArgs false
set_option linter.unusedVariables false
set_option maxRecDepth 100000
set_option maxHeartbeats 4000000
namespace Go.Proofs.YtlhokghgicgppaaGreatDoor
open Go.RowKit Go.Extern
def intsV (l : List Int) : List Value := l.map (Value.int .i64)
theorem intsV_snoc (l : List Int) (x : Int) : intsV l ++ [.int .i64 x] = intsV (l ++ [x]) := by unfold intsV; simp
theorem intsV_get (l : List Int) (j : Nat) (h : j < l.length) : (intsV l)[j]? = some (.int .i64 (l.getD j 0)) := by
 unfold intsV
 rw [List.getElem?_map, List.getElem?_eq_getElem h, List.getD_eq_getElem?_getD, List.getElem?_eq_getElem h]; rfl
theorem conv_str (w : World) (s : Sg.Bs) : ∃ cap w1, (convert 9 60 (.string ⟨s.toArray⟩)).run Tryz.prog w = .ok (.slice (some ⟨w.heap.size, 0, none⟩) s.length cap) w1 ∧ Below w.heap.size w w1 ∧ (∀ j, j < s.length → w1.cell? ⟨w.heap.size, 0 + j, none⟩ = some (.int .u8 (s.getD j 0).toNat)) ∧ w.heap.size < w1.heap.size := by
 have h := run_bytes_of_string (P := Tryz.prog) w 9 60 5 ⟨s.toArray⟩ Tryz.underlying9 Tryz.underlying60 Tryz.underlying5
 have e : (ByteArray.mk s.toArray).size = s.length := by simp [ByteArray.size]
 rw [e] at h
 refine ⟨_, _, h, ((Below.refl _ _).drew).alloc (Nat.le_refl _) _, fun j hj => ?_, by simp⟩
 have hb := bytesRow_at ⟨s.toArray⟩ (grownCap w s.length 0 5) j (by simpa using hj)
 have hnew := World.alloc_heap_new w.drew (.cells (bytesRow ⟨s.toArray⟩ (grownCap w s.length 0 5)) 5 ((bytesRow ⟨s.toArray⟩ (grownCap w s.length 0 5)).size, (bytesRow ⟨s.toArray⟩ (grownCap w s.length 0 5)).size + 1))
 rw [Nat.zero_add]
 unfold World.cell?
 have hsz : w.drew.heap.size = w.heap.size := rfl
 rw [hsz] at hnew
 simp only [hnew]
 simp only [hb]
 simp [List.getD_eq_getElem?_getD, List.getElem?_eq_getElem hj]
theorem numbers_any (s : Sg.Bs) (hs : s.length < 1000000) (w : World) :
  Calls Tryz.prog 76 #[.string ⟨s.toArray⟩] w fun e w' => ∃ ra rc, e = .returned (.slice ra (Sg.numbersT s).length rc) ∧ RowAt 1 w' ra rc (Sg.numbersT s).length (intsV (Sg.numbersT s)) ∧ NewRow w ra ∧ Below w.heap.size w w' := by
 obtain ⟨cap, w1, hcv, hb1, hcs, hlt1⟩ := conv_str w s
 go_enter Tryz.func76, Tryz.ntmps76
 go_wp2
 go_loopw [3, 4, 5, 11] (fun lv nv sv iv wr => ∃ (j k n : Nat) (ra : Option Addr) (rc : Nat) (l : List Int), j ≤ s.length ∧ k ≤ 3 ∧ iv = .int .i64 j ∧ sv = .int .i64 (7 * k : Nat) ∧ nv = .int .i64 n ∧ lv = .slice ra l.length rc ∧ n < 2 ^ (7 * k) ∧ Hid (RowAt 1 wr ra rc l.length (intsV l) ∧ NewRow w1 ra ∧ Below w1.heap.size w1 wr ∧ l ++ Sg.numGo (s.drop j) n (7 * k) = Sg.numbersT s ∧ l.length ≤ j)) (fun _ _ _ iv _ => s.length - (intOf iv).toNat)
 case atStart => exact ⟨0, 0, 0, none, 0, [], Nat.zero_le _, Nat.zero_le _, rfl, rfl, rfl, rfl, by decide, hide2 ⟨RowAt.nil 1 _, (fun b o e => by cases e), Below.refl _ _, rfl, Nat.le_refl _⟩⟩
 case round =>
  obtain ⟨j, k, n, ra, rc, l, hj, hk, rfl, rfl, rfl, rfl, hn, H⟩ := hrel
  have fin : ∀ e : Sg.numbersT s = l, ∃ ra1 rc1, (Ending.returned (.slice ra l.length rc) = .returned (.slice ra1 (Sg.numbersT s).length rc1)) ∧ RowAt 1 wr ra1 rc1 (Sg.numbersT s).length (intsV (Sg.numbersT s)) ∧ NewRow w ra1 ∧ Below w.heap.size w wr := fun e => by
   obtain ⟨g1, g2, g3, _, _⟩ := H.out
   rw [e]
   exact ⟨ra, rc, rfl, g1, fun b o e => by have := g2 b o e; omega, hb1.trans (g3.mono (Nat.le_of_lt hlt1))⟩
  have Fin := hide2 fin
  clear fin
  by_cases hlt : j < s.length
  ·have hc : wr.cell? ⟨w.heap.size, j, none⟩ = some (.int .u8 (s.getD j 0).toNat) := by
    have := (H.out.2.2.1.cell (p := ⟨w.heap.size, 0 + j, none⟩) hlt1).trans (hcs j hlt)
    rwa [Nat.zero_add] at this
   have hd : s.drop j = s.getD j 0 :: s.drop (j + 1) := by
    rw [List.drop_eq_getElem_cons hlt, List.getD_eq_getElem?_getD, List.getElem?_eq_getElem hlt]; rfl
   have hbl : (s.getD j 0).toNat < 256 := (s.getD j 0).toNat_lt
   have hgo : l ++ Sg.numGo (s.getD j 0 :: s.drop (j + 1)) n (7 * k) = Sg.numbersT s := by rw [← hd]; exact H.out.2.2.2.1
   generalize s.getD j 0 = b at *
   unfold Sg.numGo at hgo
   have Hgo := hide2 hgo
   have Hap := fun v hv => append_one (w := wr) 24 3 (.int .i64 0) 8 info_int rfl Tryz.underlying24 (by omega) H.out.1 v hv (by have := H.out.2.2.2.2; omega) 24 3
   have HA := hide2 Hap
   clear Hap hd hgo hcs hcv
   rcases (show k = 0 ∨ k = 1 ∨ k = 2 ∨ k = 3 by omega) with rfl | rfl | rfl | rfl
   ·have hkn : ((n + b.toNat % 128 * 2 ^ (7 * 0) : Nat) : Int) = (n : Int) + (b.toNat : Int) % 128 := by
     have : (2 : Nat) ^ (7 * 0) = 1 := by decide
     rw [this]; omega
    have hnb : n + b.toNat % 128 * 2 ^ (7 * 0) < 2 ^ (7 * 1) := by
     have h1 : (2 : Nat) ^ (7 * 0) = 1 := by decide
     have h2 : (2 : Nat) ^ (7 * 1) = 128 := by decide
     rw [h1] at hn ⊢
     rw [h2]; omega
    by_cases hb : b.toNat < 128
    ·go_wp2_with (at_builtin; obtain ⟨ra2, rc2, w2, hrun, hrow, hch, hmv⟩ := HA.out (.int .i64 ((n : Int) + (b.toNat : Int) % 128)) rfl; refine wpList_append_run rfl _ _ _ _ rfl _ _ _ rfl rfl hrun ?_; have H2 := hide2 (And.intro hrow (And.intro hch hmv)); clear hrun hrow hch hmv HA)
     go_roundw
     case rel =>
      obtain ⟨g1, g2, g3, _, g5⟩ := H.out
      obtain ⟨k1, k2, k3⟩ := H2.out
      have g4 := Hgo.out
      rw [if_neg (by omega), if_pos hb, hkn] at g4
      rw [intsV_snoc] at k1
      refine ⟨j + 1, 0, 0, ra2, rc2, l ++ [(n : Int) + (b.toNat : Int) % 128], by omega, by omega, by go_num, rfl, rfl, by rw [List.length_append]; rfl, by decide, hide2 ⟨by rw [List.length_append]; exact k1, g2.moved g3.size k3, g3.trans (below_rowT k2 g2 g3.size), ?_, by rw [List.length_append]; simp only [List.length_cons, List.length_nil]; omega⟩⟩
      rw [List.append_assoc]; exact g4
     case measure => simp [intOf]; omega
    ·go_wp2
     go_roundw
     case rel =>
      obtain ⟨g1, g2, g3, _, g5⟩ := H.out
      have g4 := Hgo.out
      rw [if_neg (by omega), if_neg hb] at g4
      exact ⟨j + 1, 1, n + b.toNat % 128 * 2 ^ (7 * 0), ra, rc, l, by omega, by omega, by go_num, rfl, by rw [hkn], rfl, hnb, hide2 ⟨g1, g2, g3, g4, by omega⟩⟩
     case measure => simp [intOf]; omega
   ·have hkn : ((n + b.toNat % 128 * 2 ^ (7 * 1) : Nat) : Int) = (n : Int) + (b.toNat : Int) % 128 * 128 := by
     have : (2 : Nat) ^ (7 * 1) = 128 := by decide
     rw [this]; omega
    have hnb : n + b.toNat % 128 * 2 ^ (7 * 1) < 2 ^ (7 * 2) := by
     have h1 : (2 : Nat) ^ (7 * 1) = 128 := by decide
     have h2 : (2 : Nat) ^ (7 * 2) = 16384 := by decide
     rw [h1] at hn ⊢
     rw [h2]; omega
    by_cases hb : b.toNat < 128
    ·go_wp2_with (at_builtin; obtain ⟨ra2, rc2, w2, hrun, hrow, hch, hmv⟩ := HA.out (.int .i64 ((n : Int) + (b.toNat : Int) % 128 * 128)) rfl; refine wpList_append_run rfl _ _ _ _ rfl _ _ _ rfl rfl hrun ?_; have H2 := hide2 (And.intro hrow (And.intro hch hmv)); clear hrun hrow hch hmv HA)
     go_roundw
     case rel =>
      obtain ⟨g1, g2, g3, _, g5⟩ := H.out
      obtain ⟨k1, k2, k3⟩ := H2.out
      have g4 := Hgo.out
      rw [if_neg (by omega), if_pos hb, hkn] at g4
      rw [intsV_snoc] at k1
      refine ⟨j + 1, 0, 0, ra2, rc2, l ++ [(n : Int) + (b.toNat : Int) % 128 * 128], by omega, by omega, by go_num, rfl, rfl, by rw [List.length_append]; rfl, by decide, hide2 ⟨by rw [List.length_append]; exact k1, g2.moved g3.size k3, g3.trans (below_rowT k2 g2 g3.size), ?_, by rw [List.length_append]; simp only [List.length_cons, List.length_nil]; omega⟩⟩
      rw [List.append_assoc]; exact g4
     case measure => simp [intOf]; omega
    ·go_wp2
     go_roundw
     case rel =>
      obtain ⟨g1, g2, g3, _, g5⟩ := H.out
      have g4 := Hgo.out
      rw [if_neg (by omega), if_neg hb] at g4
      exact ⟨j + 1, 2, n + b.toNat % 128 * 2 ^ (7 * 1), ra, rc, l, by omega, by omega, by go_num, rfl, by rw [hkn], rfl, hnb, hide2 ⟨g1, g2, g3, g4, by omega⟩⟩
     case measure => simp [intOf]; omega
   ·have hkn : ((n + b.toNat % 128 * 2 ^ (7 * 2) : Nat) : Int) = (n : Int) + (b.toNat : Int) % 128 * 16384 := by
     have : (2 : Nat) ^ (7 * 2) = 16384 := by decide
     rw [this]; omega
    have hnb : n + b.toNat % 128 * 2 ^ (7 * 2) < 2 ^ (7 * 3) := by
     have h1 : (2 : Nat) ^ (7 * 2) = 16384 := by decide
     have h2 : (2 : Nat) ^ (7 * 3) = 2097152 := by decide
     rw [h1] at hn ⊢
     rw [h2]; omega
    by_cases hb : b.toNat < 128
    ·go_wp2_with (at_builtin; obtain ⟨ra2, rc2, w2, hrun, hrow, hch, hmv⟩ := HA.out (.int .i64 ((n : Int) + (b.toNat : Int) % 128 * 16384)) rfl; refine wpList_append_run rfl _ _ _ _ rfl _ _ _ rfl rfl hrun ?_; have H2 := hide2 (And.intro hrow (And.intro hch hmv)); clear hrun hrow hch hmv HA)
     go_roundw
     case rel =>
      obtain ⟨g1, g2, g3, _, g5⟩ := H.out
      obtain ⟨k1, k2, k3⟩ := H2.out
      have g4 := Hgo.out
      rw [if_neg (by omega), if_pos hb, hkn] at g4
      rw [intsV_snoc] at k1
      refine ⟨j + 1, 0, 0, ra2, rc2, l ++ [(n : Int) + (b.toNat : Int) % 128 * 16384], by omega, by omega, by go_num, rfl, rfl, by rw [List.length_append]; rfl, by decide, hide2 ⟨by rw [List.length_append]; exact k1, g2.moved g3.size k3, g3.trans (below_rowT k2 g2 g3.size), ?_, by rw [List.length_append]; simp only [List.length_cons, List.length_nil]; omega⟩⟩
      rw [List.append_assoc]; exact g4
     case measure => simp [intOf]; omega
    ·go_wp2
     go_roundw
     case rel =>
      obtain ⟨g1, g2, g3, _, g5⟩ := H.out
      have g4 := Hgo.out
      rw [if_neg (by omega), if_neg hb] at g4
      exact ⟨j + 1, 3, n + b.toNat % 128 * 2 ^ (7 * 2), ra, rc, l, by omega, by omega, by go_num, rfl, by rw [hkn], rfl, hnb, hide2 ⟨g1, g2, g3, g4, by omega⟩⟩
     case measure => simp [intOf]; omega
   ·go_wp2
    go_ret
    exact Fin.out (by rw [← Hgo.out]; simp)
  ·have hd : s.drop j = [] := List.drop_of_length_le (by omega)
   go_wp2
   go_ret
   exact Fin.out (by rw [← H.out.2.2.2.1, hd]; simp [Sg.numGo])
end Go.Proofs.YtlhokghgicgppaaGreatDoor
namespace Go.Proofs.YtlhokghgicgppaaGreatDoor
open Go.RowKit Go.Extern
variable {P : Program} {ops : Array Oper} {Q : Exit → Act → World → Prop}
theorem opIn_of_op {l n : Nat} {o : Oper} {a : Act} {w : World} {K : Act → World → Prop} (hd : ∀ c, o.op ≠ .defer c) (h : o.wp P a w K Q) : o.wpIn (Fence.wide.inRound l) n P a w K Q := by
  refine ⟨fun _ _ => trivial, ?_⟩
  rw [Oper.semAt_plain _ _ _ hd]
  unfold Oper.wp at h
  generalize (execOp a.eval o).run P w = r at *
  cases r with
  | ok x w' =>
    cases x <;> simp only [Oper.upon] at h <;> simp only [Oper.uponIn] <;>
      first
        | exact h
        | exact ⟨(fun t => by cases t), callsIn_wide.2 h⟩
        | exact ⟨(fun t => by cases t), fun c cs _ => let ⟨v, w', r, s⟩ := h c cs; ⟨v, w', r, stepsIn_wide.2 s⟩⟩
  | halt x w' => cases x <;> simp only [Oper.upon] at h <;> simp only [Oper.uponIn] <;> exact h
theorem anyIn_of_any {l n : Nat} {md : Region.Mode} (hd : ∀ (i : Nat) (o : Oper), ops[i]? = some o → ∀ c, o.op ≠ .defer c) (hL : ¬ LetsOut Q) : ∀ (fuel : Nat) (listed : Array Bool) (a : Act) (w : World), wpAny P md ops Q fuel listed a w → wpAnyIn (Fence.wide.inRound l) n P md ops Q fuel listed a w
  | 0, _, _, _, h => h
  | fuel + 1, listed, a, w, h => by
    refine ⟨h.1, fun i hi => ?_⟩
    have := wpOp_mono (fun a w hh => anyIn_of_any (l := l) (n := n) hd hL fuel (listed.setIfInBounds i true) a w hh) (h.2 i hi)
    unfold wpOp at this
    unfold wpOpIn
    split
    · simpa [*] using this
    · rename_i o ho
      simp only [ho] at this
      split
      · rename_i hw
        simp only [hw, if_true] at this
        rcases this with this | this
        · exact opIn_of_op (hd i o ho) this
        · exact absurd this.2 hL
      · rename_i hw
        simp only [hw] at this
        exact ⟨fun _ _ => trivial, this⟩
theorem wpIn_round_held {l n id : Nat} {a : Act} {w : World} (S : World → Prop) (hm : P.follows .mixedOrders = true) (hd : ops.toList.all (fun o => match o.op with | .defer _ => false | _ => true) = true) (hL : ¬ LetsOut Q) (hS : S w.drew)
    (h : S w.drew → wpAnyH P .any ops Q S ops.size (Array.replicate ops.size false) a w.drew) : (Code.region id ops true).wpIn (Fence.wide.inRound l) n P Q a w := by
  refine wpIn_region_any hm (anyIn_of_any (fun i o ho c hc => ?_) hL _ _ _ _ (wpAny_of_held _ _ _ _ (h hS)))
  have hmem : o ∈ ops.toList := by
    have : ops.toList[i]? = some o := by rw [Array.getElem?_toList]; exact ho
    exact List.mem_of_getElem? this
  have := List.all_eq_true.1 hd o hmem
  rw [hc] at this
  cases this
theorem step_append_run {o : Oper} {a : Act} {w w' : World} {K : Act → World → Prop} {E : Prop}
    (hg : o.guard = none) (s x : Operand) (t tx : TypeId) (hop : o.op = Op.call { callee := Callee.builtin Builtin.append, args := #[s, x], argTypes := #[t, tx] })
    (v1 v2 v : Value) (h1 : a.eval s = v1) (h2 : a.eval x = v2) (hrun : (Builtin.append_ #[t, tx] o.type #[v1, v2]).run P w = .ok v w') (hK : K (a.put o.dst v) w') :
    if Region.wanted o (yielded ops a.tmps) = true then Oper.wp P o a w K Q else E := by
  have hw : Region.wanted o (yielded ops a.tmps) = true := by simp [Region.wanted, hg]
  rw [if_pos hw]
  unfold Oper.wp
  simp [execOp, hop, resolve, invoke, builtin, h1, h2, hrun, Result.andThen]
  exact hK
end Go.Proofs.YtlhokghgicgppaaGreatDoor
namespace Go.Proofs.YtlhokghgicgppaaGreatDoor
open Go.RowKit Go.Extern
attribute [local go_sem] Oper.semAt_some
theorem chunk_in (n : Nat) (ra : Option Addr) (len cap k : Nat) (h1 : 1 ≤ k) (hk : k < 1000000000) (w : World) :
    CallsIn Fence.wide n Tryz.prog 112 #[.slice ra len cap, .int .i64 k] w fun e w' => e = .returned (.func (.func 152) #[] #[.pointer (some ⟨w.heap.size, 0, none⟩), .pointer (some ⟨w.heap.size + 1, 0, none⟩)]) ∧ w' = (w.alloc (.cells #[.slice ra len cap] 24)).alloc (.cells #[.int .i64 k] 3) := by
  have h1' : ¬ (k : Int) < 1 := by omega
  refine callsIn_of_wp Tryz.func112 rfl trivial ?_ rfl
  simp only [Tryz.ntmps112, List.size_toArray, List.length_cons, List.length_nil, Nat.reduceAdd, Nat.reduceSub, Array.replicate_succ, Array.replicate_zero, List.push_toArray, List.append_toArray, List.nil_append, List.cons_append]
  gi_wp2
  go_ret
  exact ⟨rfl, by simp⟩
theorem chunk1_in (n l bs bn rb ro len cap k : Nat) (h1 : 1 ≤ k) (hk : k < 1000000000) (hlen : len < 1000000000) (J : Nat → World → Prop)
    (hJ : ∀ i W, J i W → W.cell? ⟨bs, 0, none⟩ = some (.slice (some ⟨rb, ro, none⟩) len cap) ∧ W.cell? ⟨bn, 0, none⟩ = some (.int .i64 k)) (hcap : len ≤ cap)
    (hdraw : ∀ i W, J i W → J i W.drew)
    (hY : ∀ i W, J i W → i * k < len → YieldAt Fence.wide (n - 1) Tryz.prog l #[.slice (some ⟨rb, ro + i * k, none⟩) (min k (len - i * k)) (min k (len - i * k))] W fun e W' => e = .returned (.bool true) ∧ J (i + 1) W')
    (W : World) (h0 : J 0 W) :
    CallsIn Fence.wide n Tryz.prog 152 #[.func (.yield l) #[] #[], .pointer (some ⟨bs, 0, none⟩), .pointer (some ⟨bn, 0, none⟩)] W fun e W' => (∃ v, e = .returned v) ∧ ∃ i, len ≤ i * k ∧ (i = 0 ∨ (i - 1) * k < len) ∧ J i W' := by
  have hdd : ∀ k : Nat, (Fence.wide.depth.isSome = true → 1 ≤ k) := fun k h => by cases h
  refine callsIn_of_wp Tryz.func152 rfl trivial ?_ rfl
  simp only [Tryz.ntmps152, List.size_toArray, List.length_cons, List.length_nil, Nat.reduceAdd, Nat.reduceSub, Array.replicate_succ, Array.replicate_zero, List.push_toArray, List.append_toArray, List.nil_append, List.cons_append]
  gi_wp2
  gi_loopw [4] (fun iv wr => ∃ i : Nat, iv = .int .i64 (i * k : Nat) ∧ (i = 0 ∨ (i - 1) * k < len) ∧ J i wr) (fun iv _ => len + k - (intOf iv).toNat)
  case atStart => exact ⟨0, by simp, .inl rfl, h0⟩
  case round =>
    obtain ⟨i, rfl, hi, hj⟩ := hrel
    obtain ⟨hb, hn⟩ := hJ i wr hj
    by_cases hlt : i * k < len
    · obtain ⟨fn, tmps, assign, body, hy, hR⟩ := hY i wr.drew (hdraw i wr hj) hlt
      have hik : (i + 1) * k = i * k + k := by rw [Nat.add_mul]; omega
      have Hk := hide2 hik
      have Hj := hide2 hj
      have HJ := hide2 hJ
      clear hY hik hj hJ hdraw
      generalize hx : i * k = x at *
      have Hx := hide2 hx
      clear hx
      have emin : min k (len - x) = ((x : Int) + min (k : Int) ((len - x : Nat) : Int)).toNat - x := by omega
      rw [emin] at hy
      have HR := hide2 hR
      clear hR emin
      gi_wp2
      gi_region
      all_goals gi_wp2
      all_goals refine ⟨hdd _, HR.out.mono ?_⟩
      all_goals rintro e W3 ⟨rfl, hJ3⟩
      all_goals have hn3 := (HJ.out _ _ hJ3).2
      all_goals have HJ3 := hide2 hJ3
      all_goals clear hJ3 hy
      all_goals gi_wp2
      all_goals go_roundw
      case rel => exact ⟨i + 1, by rw [Hk.out]; go_num, .inr (by show i * k < len; rw [Hx.out]; exact hlt), HJ3.out⟩
      case measure => simp [intOf]; omega
    · gi_wp2
      go_end0
      exact ⟨⟨_, rfl⟩, i, by omega, hi, hj⟩
end Go.Proofs.YtlhokghgicgppaaGreatDoor
namespace Go.Proofs.YtlhokghgicgppaaGreatDoor
open Go.RowKit Go.Extern
attribute [local go_sem] Oper.semAt_some
def cutCells (c : Int × Int) : List Value := [.int .i32 c.1, .int .i64 c.2]
abbrev StZ := (Int × List Int) × (Option Addr × Nat)
def stzCells (z : StZ) : List Value := [.int .i64 z.1.1, .slice z.2.1 z.1.2.length z.2.2]
theorem info_cutM : (Tryz.prog.info? 168).map (fun i => (i.zero, i.size, i.bytes)) = some (some (.agg #[.int .i32 0, .int .i64 0]), 2, 16) := by kernel_rfl
theorem info_stateM : (Tryz.prog.info? 153).map (fun i => (i.zero, i.size, i.bytes)) = some (some (.agg #[.int .i64 0, .slice none 0 0]), 2, 32) := by kernel_rfl
def Sg.cutsV (l : List Int) (i : Nat) : List (Int × Int) := (List.range i).map fun j => (l.getD (j * 2) 0, l.getD (j * 2 + 1) 0)
def Sg.kdOf (cs : List (Int × Int)) : Nat := cs.foldl (fun a c => max a (1 + c.2.toNat)) 0
def Sg.stV (l : List Int) (k j : Nat) : Int × List Int := (l.getD (j * k) 0 - 1, ((l.drop (j * k + 1)).take (min k (l.length - j * k) - 1)).map (· - 1))
def Sg.statesV (l : List Int) (k i : Nat) : List (Int × List Int) := (List.range i).map (Sg.stV l k)
theorem Sg.cutsV_succ (l : List Int) (i : Nat) : Sg.cutsV l (i + 1) = Sg.cutsV l i ++ [(l.getD (i * 2) 0, l.getD (i * 2 + 1) 0)] := by unfold Sg.cutsV; rw [List.range_succ, List.map_append]; rfl
theorem Sg.statesV_succ (l : List Int) (k i : Nat) : Sg.statesV l k (i + 1) = Sg.statesV l k i ++ [Sg.stV l k i] := by unfold Sg.statesV; rw [List.range_succ, List.map_append]; rfl
theorem Sg.kdOf_snoc (cs : List (Int × Int)) (c : Int × Int) : Sg.kdOf (cs ++ [c]) = max (Sg.kdOf cs) (1 + c.2.toNat) := by unfold Sg.kdOf; rw [List.foldl_append]; rfl
structure MC where
  pb : Nat
  mv : Nat
  kv : Nat
  sb : Nat
  nb : Nat
  rb : Nat
  ro : Nat
  l : List Int
  cap : Nat
  w0 : World
structure MC.Ok (c : MC) : Prop where
  pb : c.pb < c.w0.heap.size
  mv : c.mv < c.w0.heap.size
  kv : c.kv < c.w0.heap.size
  sb : c.sb < c.w0.heap.size
  nb : c.nb < c.w0.heap.size
  rb : c.rb < c.pb
  d1 : c.mv ≠ c.pb
  d2 : c.kv ≠ c.pb
  d3 : c.mv ≠ c.kv
  d4 : c.sb ≠ c.pb ∧ c.sb ≠ c.kv ∧ c.nb ≠ c.pb ∧ c.nb ≠ c.kv
  d5 : c.rb ≠ c.kv
  m : c.w0.cell? ⟨c.mv, 0, none⟩ = some (.pointer (some ⟨c.pb, 0, none⟩))
  s : c.w0.cell? ⟨c.sb, 0, none⟩ = some (.slice (some ⟨c.rb, c.ro, none⟩) c.l.length c.cap)
  n : c.w0.cell? ⟨c.nb, 0, none⟩ = some (.int .i64 2)
  cells : ∀ j, j < c.l.length → c.w0.cell? ⟨c.rb, c.ro + j, none⟩ = some (.int .i64 (c.l.getD j 0))
  bd : ∀ x ∈ c.l, 0 ≤ x ∧ x < 2097152
  fp : ∀ j, c.w0.frozen? ⟨c.pb, j, none⟩ = false
  fk : ∀ j, c.w0.frozen? ⟨c.kv, j, none⟩ = false
  even : c.l.length % 2 = 0
  small : c.l.length < 1000000
structure MC.C (c : MC) (i : Nat) (cs : List (Int × Int)) (cr : Option Addr) (cc kd : Nat) (W : World) : Prop where
  kdv : kd = Sg.kdOf cs
  len : cs.length = i
  bd : ∀ x ∈ cs, (0 ≤ x.1 ∧ x.1 < 2097152) ∧ (0 ≤ x.2 ∧ x.2 < 2097152)
  cell : W.cell? ⟨c.pb, 0, none⟩ = some (.slice cr i cc)
  row : RowAt 2 W cr cc i (cs.flatMap cutCells)
  new : NewRow c.w0 cr
  kind : W.cell? ⟨c.kv, 0, none⟩ = some (.int .i64 kd)
  kd : kd ≤ 2097152
  chg : Chg (fun i _ => i = c.pb ∨ i = c.kv) c.w0 W
  one : W.cell? ⟨c.pb, 1, none⟩ = some (.slice none 0 0)
  le : 2 * i ≤ c.l.length
  val : cs = Sg.cutsV c.l i
def MC.J (c : MC) (i : Nat) (W : World) : Prop := ∃ cs cr cc kd, c.C i cs cr cc kd W
theorem RowAt.drew {sz : Nat} {w : World} {ra : Option Addr} {rc n : Nat} {l : List Value} (h : RowAt sz w ra rc n l) : RowAt sz w.drew ra rc n l := h.below ((Below.refl _ _).drew)
theorem MC.C.drew {c : MC} {i : Nat} {cs : List (Int × Int)} {cr : Option Addr} {cc kd : Nat} {W : World} (h : c.C i cs cr cc kd W) : c.C i cs cr cc kd W.drew :=
  ⟨h.kdv, h.len, h.bd, h.cell, h.row.drew, h.new, h.kind, h.kd, h.chg.drew, h.one, h.le, h.val⟩
theorem MC.C.kept {c : MC} {i : Nat} {cs : List (Int × Int)} {cr : Option Addr} {cc kd : Nat} {W W' : World} (h : c.C i cs cr cc kd W) (hk : Kept W W') (hg : Chg (fun i _ => i = c.pb ∨ i = c.kv) c.w0 W') : c.C i cs cr cc kd W' :=
  ⟨h.kdv, h.len, h.bd, hk.cell _ _ _ h.cell, h.row.kept hk, h.new, hk.cell _ _ _ h.kind, h.kd, hg, hk.cell _ _ _ h.one, h.le, h.val⟩
theorem MC.J_own {c : MC} {β : Type} (f : β → Nat → Prop) : OwnSt c.w0.heap.size (fun (s : β) W => ∃ i, f s i ∧ c.J i W) :=
  ⟨fun _ W o ⟨i, hf, cs, cr, cc, kd, h⟩ _ => ⟨i, hf, cs, cr, cc, kd, h.kept (Kept.alloc W o) (h.chg.alloc o)⟩,
   fun _ W l r r' ⟨i, hf, cs, cr, cc, kd, h⟩ hB hl => ⟨i, hf, cs, cr, cc, kd, h.kept (Kept.loop hl) (h.chg.loop hB _)⟩⟩
theorem MC.at_ {c : MC} (hc : c.Ok) {i : Nat} {W : World} (h : c.J i W) : W.cell? ⟨c.mv, 0, none⟩ = some (.pointer (some ⟨c.pb, 0, none⟩)) ∧ W.cell? ⟨c.sb, 0, none⟩ = some (.slice (some ⟨c.rb, c.ro, none⟩) c.l.length c.cap) ∧ W.cell? ⟨c.nb, 0, none⟩ = some (.int .i64 2) ∧ (∀ j, j < c.l.length → W.cell? ⟨c.rb, c.ro + j, none⟩ = some (.int .i64 (c.l.getD j 0))) ∧ (∀ j, W.frozen? ⟨c.pb, j, none⟩ = false) ∧ ∀ j, W.frozen? ⟨c.kv, j, none⟩ = false := by
  obtain ⟨cs, cr, cc, kd, h⟩ := h
  have d4 := hc.d4
  have hpb := hc.pb
  have hrb := hc.rb
  refine ⟨(h.chg.cell _ _ hc.mv (fun t => by have := hc.d1; have := hc.d3; omega)).trans hc.m, (h.chg.cell _ _ hc.sb (fun t => by omega)).trans hc.s, (h.chg.cell _ _ hc.nb (fun t => by omega)).trans hc.n, fun j hj => (h.chg.cell _ _ (by omega) (fun t => by have := hc.d5; omega)).trans (hc.cells j hj), fun j => (h.chg.frz _ _ hc.pb).trans (hc.fp j), fun j => (h.chg.frz _ _ hc.kv).trans (hc.fk j)⟩
theorem MC.C.step {c : MC} (hc : c.Ok) {i : Nat} {cs : List (Int × Int)} {cr cr2 : Option Addr} {cc cc2 kd kd2 : Nat} {W W2 : World} (h : c.C i cs cr cc kd W) (hi : 2 * i < c.l.length) (x0 x1 : Int) (h0 : 0 ≤ x0 ∧ x0 < 2097152) (h1 : 0 ≤ x1 ∧ x1 < 2097152)
    (hrow : RowAt 2 W2 cr2 cc2 (i + 1) (cs.flatMap cutCells ++ [.int .i32 x0, .int .i64 x1])) (hch : Chg (rowT cr) W W2) (hmv : Moved W cr cr2) (hk2 : kd2 ≤ 2097152) (hv0 : x0 = c.l.getD (i * 2) 0) (hv1 : x1 = c.l.getD (i * 2 + 1) 0) (hkv2 : kd2 = max kd (1 + x1.toNat)) {W3 : World} (e3 : Below W2.heap.size (W2.setCell ⟨c.pb, 0, none⟩ (.slice cr2 (i + 1) cc2)) W3) :
    c.C (i + 1) (cs ++ [(x0, x1)]) cr2 cc2 kd2 (W3.setCell ⟨c.kv, 0, none⟩ (.int .i64 kd2)) ∧ KeepsOthers W (W3.setCell ⟨c.kv, 0, none⟩ (.int .i64 kd2)) := by
  have hsz := h.chg.size
  have hsz2 := hch.size
  have hpb := hc.pb
  have hkv := hc.kv
  have hn1 : ∀ b o, cr = some ⟨b, o, none⟩ → b ≠ c.pb ∧ b ≠ c.kv := by
    intro b o e
    have h5 := h.new b o e
    constructor <;> omega
  have hn2 := h.new.moved hsz hmv
  have hn3 : ∀ b o, cr2 = some ⟨b, o, none⟩ → b ≠ c.pb ∧ b ≠ c.kv := by
    intro b o e
    have h5 := hn2 b o e
    constructor <;> omega
  have c2 : ∀ b j v, (b = c.pb ∨ b = c.kv) → W.cell? ⟨b, j, none⟩ = some v → W2.cell? ⟨b, j, none⟩ = some v := fun b j v hb hv => (hch.cell _ _ (cell_lt hv) (by
    intro t
    obtain ⟨o, e⟩ := t
    have h5 := hn1 b o e
    rcases hb with hb | hb
    · exact h5.1 hb
    · exact h5.2 hb)).trans hv
  have g2 : Chg (fun i _ => i = c.pb) W2 (W2.setCell ⟨c.pb, 0, none⟩ (.slice cr2 (i + 1) cc2)) := Chg.setCell1 (T := fun i _ => i = c.pb) rfl _
  have hX : (W2.setCell ⟨c.pb, 0, none⟩ (.slice cr2 (i + 1) cc2)).heap.size = W2.heap.size := by simp
  have e3' : Below (W2.setCell ⟨c.pb, 0, none⟩ (.slice cr2 (i + 1) cc2)).heap.size (W2.setCell ⟨c.pb, 0, none⟩ (.slice cr2 (i + 1) cc2)) W3 := by rw [hX]; exact e3
  have g3 : Chg (fun i _ => i = c.pb) W2 W3 := g2.trans_new (Chg.of_below (T := fun _ _ => False) e3') (fun _ _ _ t => t.elim)
  have g4 : Chg (fun i _ => i = c.pb ∨ i = c.kv) W2 (W3.setCell ⟨c.kv, 0, none⟩ (.int .i64 kd2)) := (g3.mono (fun i j _ t => .inl t)).setCell (.inr rfl) _
  have hs3 := g3.size
  have lp : c.pb < W2.heap.size := by omega
  have q0 : W3.cell? ⟨c.pb, 0, none⟩ = some (.slice cr2 (i + 1) cc2) := (e3.cell (p := ⟨c.pb, 0, none⟩) lp).trans (World.cell?_setCell_same _ _ _ (c2 _ _ _ (.inl rfl) h.cell))
  have q1 : W3.cell? ⟨c.pb, 1, none⟩ = some (.slice none 0 0) := (e3.cell (p := ⟨c.pb, 1, none⟩) lp).trans ((World.cell?_setCell_other _ _ _ _ (by simp)).trans (c2 _ _ _ (.inl rfl) h.one))
  have q2 : W3.cell? ⟨c.kv, 0, none⟩ = some (.int .i64 kd) := (e3.cell (p := ⟨c.kv, 0, none⟩) (by show c.kv < _; omega)).trans ((World.cell?_setCell_other _ _ _ _ (fun e => hc.d2 (congrArg Addr.block e).symm)).trans (c2 _ _ _ (.inr rfl) h.kind))
  have hall : Chg (fun i _ => i = c.pb ∨ i = c.kv) c.w0 (W3.setCell ⟨c.kv, 0, none⟩ (.int .i64 kd2)) := (h.chg.trans_new hch (by
    intro a j ha t
    obtain ⟨o, e⟩ := t
    have h5 := h.new a o e
    exact absurd ha (Nat.not_lt.2 h5))).trans g4
  refine ⟨⟨by rw [Sg.kdOf_snoc, ← h.kdv]; exact hkv2, by rw [List.length_append, h.len]; rfl, ?_, ?_, ?_, hn2, World.cell?_setCell_same _ _ _ q2, hk2, hall, ?_, by have := hc.even; omega, by rw [Sg.cutsV_succ, ← h.val, hv0, hv1]⟩, hch.others.trans g4.others⟩
  · intro x hx
    rcases List.mem_append.1 hx with hx | hx
    · exact h.bd x hx
    · simp only [List.mem_singleton] at hx
      subst hx
      exact ⟨h0, h1⟩
  · exact (World.cell?_setCell_other _ _ _ _ (fun e => hc.d2 (congrArg Addr.block e))).trans q0
  · rw [List.flatMap_append]
    have : [(x0, x1)].flatMap cutCells = [.int .i32 x0, .int .i64 x1] := rfl
    rw [this]
    exact hrow.of g4 (fun rb ro j e t => by
      have h5 := hn3 rb ro e
      rcases t with t | t
      · exact h5.1 t
      · exact h5.2 t)
  · exact (World.cell?_setCell_other _ _ _ _ (fun e => hc.d2 (congrArg Addr.block e))).trans q1
end Go.Proofs.YtlhokghgicgppaaGreatDoor
namespace Go.Proofs.YtlhokghgicgppaaGreatDoor
open Go.RowKit Go.Extern
attribute [local go_sem] Oper.semAt_some
abbrev mW1 (w : World) (rb o1 n1 cap1 : Nat) : World := ((((w.alloc (.cells #[.slice none 0 0, .slice none 0 0] 151)).alloc (.cells #[.pointer (some ⟨w.heap.size, 0, none⟩)] 85)).alloc (.cells #[.int .i64 0] 3)).alloc (.cells #[.slice (some ⟨rb, o1, none⟩) n1 cap1] 24)).alloc (.cells #[.int .i64 2] 3)
def mC1 (w : World) (rb o1 cap1 : Nat) (cuts : List Int) : MC := ⟨w.heap.size, w.heap.size + 1, w.heap.size + 1 + 1, w.heap.size + 1 + 1 + 1, w.heap.size + 1 + 1 + 1 + 1, rb, o1, cuts, cap1, mW1 w rb o1 cuts.length cap1⟩
theorem newCells (w : World) (cs : Array Value) (t : TypeId) (b j : Nat) (v : Value) (hb : b = w.heap.size) (hv : cs[j]? = some v) : (w.alloc (.cells cs t)).cell? ⟨b, j, none⟩ = some v := by
  subst hb
  rw [World.cell?_alloc_at _ _ _ _ rfl]; exact hv
theorem newFrees (w : World) (cs : Array Value) (t : TypeId) (b j : Nat) (hb : b = w.heap.size) : (w.alloc (.cells cs t)).frozen? ⟨b, j, none⟩ = false := by
  subst hb
  exact World.frozen?_alloc_at _ _ _ _ rfl
theorem mC1_ok (w : World) (rb o1 cap1 : Nat) (cuts : List Int) (hrb : rb < w.heap.size) (h1 : ∀ j, j < cuts.length → w.cell? ⟨rb, o1 + j, none⟩ = some (.int .i64 (cuts.getD j 0))) (hN1 : cuts.length < 1000000) (heven : cuts.length % 2 = 0) (hb1 : ∀ x ∈ cuts, 0 ≤ x ∧ x < 2097152) :
    (mC1 w rb o1 cap1 cuts).Ok ∧ (mC1 w rb o1 cap1 cuts).J 0 (mW1 w rb o1 cuts.length cap1) := by
  have hsz : (mW1 w rb o1 cuts.length cap1).heap.size = w.heap.size + 5 := by simp
  refine ⟨⟨by show w.heap.size < (mW1 w rb o1 cuts.length cap1).heap.size; omega, by show w.heap.size + 1 < (mW1 w rb o1 cuts.length cap1).heap.size; omega, by show w.heap.size + 1 + 1 < (mW1 w rb o1 cuts.length cap1).heap.size; omega, by show w.heap.size + 1 + 1 + 1 < (mW1 w rb o1 cuts.length cap1).heap.size; omega, by show w.heap.size + 1 + 1 + 1 + 1 < (mW1 w rb o1 cuts.length cap1).heap.size; omega, hrb, by show w.heap.size + 1 ≠ w.heap.size; omega, by show w.heap.size + 1 + 1 ≠ w.heap.size; omega, by show w.heap.size + 1 ≠ w.heap.size + 1 + 1; omega,
    ⟨by show w.heap.size + 1 + 1 + 1 ≠ w.heap.size; omega, by show w.heap.size + 1 + 1 + 1 ≠ w.heap.size + 1 + 1; omega, by show w.heap.size + 1 + 1 + 1 + 1 ≠ w.heap.size; omega, by show w.heap.size + 1 + 1 + 1 + 1 ≠ w.heap.size + 1 + 1; omega⟩, by show rb ≠ w.heap.size + 1 + 1; omega, ?_, ?_, ?_, ?_, hb1, ?_, ?_, heven, hN1⟩, [], none, 0, 0, ⟨rfl, rfl, fun x hx => absurd hx (by simp), ?_, RowAt.nil 2 _, fun b o e => (by cases e), ?_, by omega, Chg.refl _ _, ?_, by omega, rfl⟩⟩
  · exact oldCell _ (oldCell _ (oldCell _ (newCell _ _ _ _ (by show w.heap.size + 1 = _; simp))))
  · exact oldCell _ (newCell _ _ _ _ (by show w.heap.size + 1 + 1 + 1 = _; simp))
  · exact newCell _ _ _ _ (by show w.heap.size + 1 + 1 + 1 + 1 = _; simp)
  · exact fun j hj => oldCell _ (oldCell _ (oldCell _ (oldCell _ (oldCell _ (h1 j hj)))))
  · exact fun j => oldFree _ (by show w.heap.size < _; simp; omega) (oldFree _ (by show w.heap.size < _; simp; omega) (oldFree _ (by show w.heap.size < _; simp; omega) (oldFree _ (by show w.heap.size < _; simp) (newFrees _ _ _ _ _ rfl))))
  · exact fun j => oldFree _ (by show w.heap.size + 1 + 1 < _; simp) (oldFree _ (by show w.heap.size + 1 + 1 < _; simp) (newFrees _ _ _ _ _ (by show w.heap.size + 1 + 1 = _; simp)))
  · exact oldCell _ (oldCell _ (oldCell _ (oldCell _ (newCells _ _ _ _ _ _ rfl rfl))))
  · exact oldCell _ (oldCell _ (newCell _ _ _ _ (by show w.heap.size + 1 + 1 = _; simp)))
  · exact oldCell _ (oldCell _ (oldCell _ (oldCell _ (newCells _ _ _ _ _ _ rfl rfl))))
def aM1 (w : World) (rb o1 o2 n1 n2 cap1 cap2 : Nat) (v : Value) : Act :=
  { tmps := #[.slice (some ⟨rb, o1, none⟩) n1 cap1, .slice (some ⟨rb, o2, none⟩) n2 cap2, undef, undef, .pointer none, .pointer (some ⟨w.heap.size + 1, 0, none⟩), .pointer (some ⟨w.heap.size + 1 + 1, 0, none⟩), v, undef, undef, undef, undef, .agg #[.slice none 0 0, .slice none 0 0], .pointer (some ⟨w.heap.size, 0, none⟩), .slice (some ⟨rb, o1, none⟩) n1 cap1, .func (.func 152) #[] #[.pointer (some ⟨w.heap.size + 1 + 1 + 1, 0, none⟩), .pointer (some ⟨w.heap.size + 1 + 1 + 1 + 1, 0, none⟩)], v, undef, undef, undef, undef, undef, undef, undef, undef, undef, undef, undef, undef, undef, undef, undef, undef, undef, undef, undef, undef, undef, undef, undef, undef, undef, undef, undef, undef, undef, undef, undef, undef, undef, undef, undef, undef, undef, undef, undef, undef, undef, undef, undef, undef, undef, undef, undef, undef, undef, undef, undef, undef, undef, undef, undef, undef, undef, undef, undef], defers := [] }
end Go.Proofs.YtlhokghgicgppaaGreatDoor
namespace Go.Proofs.YtlhokghgicgppaaGreatDoor
open Go.RowKit Go.Extern
def sumW (zs : List StZ) : Nat := (zs.map fun z => 1 + z.1.2.length).sum
structure MD where
  pb : Nat
  mv : Nat
  sb : Nat
  nb : Nat
  rb : Nat
  ro : Nat
  l : List Int
  cap : Nat
  k : Nat
  d1 : Nat
  w0 : World
structure MD.Ok (c : MD) : Prop where
  pb : c.pb < c.w0.heap.size
  mv : c.mv < c.w0.heap.size
  sb : c.sb < c.w0.heap.size
  nb : c.nb < c.w0.heap.size
  rb : c.rb < c.pb
  e1 : c.mv ≠ c.pb
  e2 : c.sb ≠ c.pb
  e3 : c.nb ≠ c.pb
  m : c.w0.cell? ⟨c.mv, 0, none⟩ = some (.pointer (some ⟨c.pb, 0, none⟩))
  s : c.w0.cell? ⟨c.sb, 0, none⟩ = some (.slice (some ⟨c.rb, c.ro, none⟩) c.l.length c.cap)
  n : c.w0.cell? ⟨c.nb, 0, none⟩ = some (.int .i64 c.k)
  cells : ∀ j, j < c.l.length → c.w0.cell? ⟨c.rb, c.ro + j, none⟩ = some (.int .i64 (c.l.getD j 0))
  bd : ∀ x ∈ c.l, 0 ≤ x ∧ x < 2097152
  fp : ∀ j, c.w0.frozen? ⟨c.pb, j, none⟩ = false
  k1 : 1 ≤ c.k
  small : c.l.length < 1000000
  lt1 : c.d1 < c.w0.heap.size
structure MD.D (c : MD) (i : Nat) (zs : List StZ) (sr : Option Addr) (sc : Nat) (W : World) : Prop where
  len : zs.length = i
  bd : ∀ z ∈ zs, (-1 ≤ z.1.1 ∧ z.1.1 < 2097152) ∧ ∀ x ∈ z.1.2, -1 ≤ x ∧ x < 2097152
  cell : W.cell? ⟨c.pb, 1, none⟩ = some (.slice sr i sc)
  row : RowAt 2 W sr sc i (zs.flatMap stzCells)
  new : NewRow c.w0 sr
  rows : ∀ z ∈ zs, RowAt 1 W z.2.1 z.2.2 z.1.2.length (intsV z.1.2)
  apart : ∀ z ∈ zs, ∀ b o, z.2.1 = some ⟨b, o, none⟩ → c.w0.heap.size ≤ b ∧ ∀ o', sr ≠ some ⟨b, o', none⟩
  chg : Chg (fun i j => i = c.pb ∧ j = 1) c.w0 W
  sum : sumW zs = min (i * c.k) c.l.length
  dfr : W.heap[c.d1]? = some (.deferred (some []))
  val : zs.map (·.1) = Sg.statesV c.l c.k i
  few : ∀ j, j < i → j * c.k < c.l.length
def MD.J (c : MD) (i : Nat) (W : World) : Prop := ∃ zs sr sc, c.D i zs sr sc W
theorem MD.D.drew {c : MD} {i : Nat} {zs : List StZ} {sr : Option Addr} {sc : Nat} {W : World} (h : c.D i zs sr sc W) : c.D i zs sr sc W.drew :=
  ⟨h.len, h.bd, h.cell, h.row.drew, h.new, fun z hz => (h.rows z hz).drew, h.apart, h.chg.drew, h.sum, h.dfr, h.val, h.few⟩
theorem MD.D.kept {c : MD} {i : Nat} {zs : List StZ} {sr : Option Addr} {sc : Nat} {W W' : World} (h : c.D i zs sr sc W) (hk : Kept W W') (hg : Chg (fun i j => i = c.pb ∧ j = 1) c.w0 W') (hd : W'.heap[c.d1]? = some (.deferred (some []))) : c.D i zs sr sc W' :=
  ⟨h.len, h.bd, hk.cell _ _ _ h.cell, h.row.kept hk, h.new, fun z hz => (h.rows z hz).kept hk, h.apart, hg, h.sum, hd, h.val, h.few⟩
theorem MD.J_own {c : MD} {β : Type} (f : β → Nat → Prop) : OwnSt c.w0.heap.size (fun (s : β) W => ∃ i, f s i ∧ c.J i W) :=
  ⟨fun _ W o ⟨i, hf, zs, sr, sc, h⟩ _ => ⟨i, hf, zs, sr, sc, h.kept (Kept.alloc W o) (h.chg.alloc o) ((Below.heap_alloc W o _ (Array.getElem?_eq_some_iff.1 h.dfr).1).trans h.dfr)⟩,
   fun _ W l r r' ⟨i, hf, zs, sr, sc, h⟩ hB hl => ⟨i, hf, zs, sr, sc, h.kept (Kept.loop hl) (h.chg.loop hB _) ((World.putObj_heap_other (by
      intro e
      have h5 := h.dfr
      first | rw [e] at h5; rw [hl] at h5; cases h5 | rw [← e] at h5; rw [hl] at h5; cases h5)).trans h.dfr)⟩⟩
theorem MD.at_ {c : MD} (hc : c.Ok) {i : Nat} {W : World} (h : c.J i W) : W.cell? ⟨c.mv, 0, none⟩ = some (.pointer (some ⟨c.pb, 0, none⟩)) ∧ W.cell? ⟨c.sb, 0, none⟩ = some (.slice (some ⟨c.rb, c.ro, none⟩) c.l.length c.cap) ∧ W.cell? ⟨c.nb, 0, none⟩ = some (.int .i64 c.k) ∧ (∀ j, j < c.l.length → W.cell? ⟨c.rb, c.ro + j, none⟩ = some (.int .i64 (c.l.getD j 0))) ∧ (∀ j, W.frozen? ⟨c.pb, j, none⟩ = false) := by
  obtain ⟨zs, sr, sc, h⟩ := h
  have hpb := hc.pb
  have hrb := hc.rb
  refine ⟨(h.chg.cell _ _ hc.mv (fun t => hc.e1 t.1)).trans hc.m, (h.chg.cell _ _ hc.sb (fun t => hc.e2 t.1)).trans hc.s, (h.chg.cell _ _ hc.nb (fun t => hc.e3 t.1)).trans hc.n, fun j hj => (h.chg.cell _ _ (by omega) (fun t => by have := t.1; omega)).trans (hc.cells j hj), fun j => (h.chg.frz _ _ hc.pb).trans (hc.fp j)⟩
structure Und (W wr : World) (sv : Nat) (ru : Int) (xs : List Int) (j : Nat) (na : Option Addr) (nc : Nat) : Prop where
  c0 : wr.cell? ⟨sv, 0, none⟩ = some (.int .i64 ru)
  c1 : wr.cell? ⟨sv, 1, none⟩ = some (.slice na j nc)
  fr : ∀ j, wr.frozen? ⟨sv, j, none⟩ = false
  row : RowAt 1 wr na nc j (intsV (xs.take j))
  new : ∀ b o, na = some ⟨b, o, none⟩ → sv < b
  below : Below W.heap.size W wr
  others : KeepsOthers W wr
  sv : sv = W.heap.size
theorem Und.start (W : World) (ru : Int) (xs : List Int) : Und W (W.alloc (.cells #[.int .i64 ru, .slice none 0 0] 153)) W.heap.size ru xs 0 none 0 :=
  ⟨newCells _ _ _ _ _ _ rfl rfl, newCells _ _ _ _ _ _ rfl rfl, fun _ => newFrees _ _ _ _ _ rfl, RowAt.nil 1 _, (fun b o e => by cases e), (Below.refl _ _).alloc (Nat.le_refl _) _, KeepsOthers.alloc _ _, rfl⟩
theorem Und.step {W wr W2 : World} {sv : Nat} {ru : Int} {xs : List Int} {j : Nat} {na na2 : Option Addr} {nc nc2 : Nat} (h : Und W wr sv ru xs j na nc) (x : Int) (hx : xs[j]? = some x)
    (hrow : RowAt 1 W2 na2 nc2 (j + 1) (intsV (xs.take j) ++ [.int .i64 x])) (hch : Chg (rowT na) wr W2) (hmv : Moved wr na na2) :
    Und W (W2.setCell ⟨sv, 1, none⟩ (.slice na2 (j + 1) nc2)) sv ru xs (j + 1) na2 nc2 ∧ W2.cell? ⟨sv, 1, none⟩ = some (.slice na j nc) ∧ W2.frozen? ⟨sv, 1, none⟩ = false := by
  have hlt := cell_lt h.c0
  have hsv := h.sv
  have hs := h.below.size
  have hnr : ∀ j', ¬ rowT na sv j' := by
    intro j' t
    obtain ⟨o, e⟩ := t
    have h5 := h.new sv o e
    omega
  have k0 : W2.cell? ⟨sv, 0, none⟩ = some (.int .i64 ru) := (hch.cell _ _ hlt (hnr _)).trans h.c0
  have k1 : W2.cell? ⟨sv, 1, none⟩ = some (.slice na j nc) := (hch.cell _ _ hlt (hnr _)).trans h.c1
  have kf : ∀ j, W2.frozen? ⟨sv, j, none⟩ = false := fun j => (hch.frz _ _ hlt).trans (h.fr j)
  have hn2 : ∀ b o, na2 = some ⟨b, o, none⟩ → sv < b := by
    intro b o e
    rcases hmv with hm | ⟨rb, e2, g⟩
    · rw [hm] at e; exact h.new b o e
    · rw [e2] at e; cases e; omega
  have hset : Chg (fun i _ => i = sv) W2 (W2.setCell ⟨sv, 1, none⟩ (.slice na2 (j + 1) nc2)) := Chg.setCell1 (T := fun i _ => i = sv) rfl _
  refine ⟨⟨(World.cell?_setCell_other _ _ _ _ (by simp)).trans k0, World.cell?_setCell_same _ _ _ k1, fun j => by rw [World.frozen?_setCell]; exact kf j, ?_, hn2, ?_, h.others.trans (hch.others.trans (KeepsOthers.setCell _ _ _)), hsv⟩, k1, kf 1⟩
  · have : xs.take (j + 1) = xs.take j ++ [x] := by rw [List.take_add_one, hx]; rfl
    rw [this, ← intsV_snoc]
    refine hrow.of hset (fun rb ro j' e t => ?_)
    have h5 := hn2 rb ro e
    omega
  · refine h.below.trans ?_
    have b1 : Below W.heap.size wr W2 := hch.below hs (by
      intro k o hk t
      obtain ⟨o2, e⟩ := t
      have h5 := h.new k o2 e
      omega)
    have b2 : Below W.heap.size W2 (W2.setCell ⟨sv, 1, none⟩ (.slice na2 (j + 1) nc2)) := hset.below (by have := hch.size; omega) (fun k o hk t => by omega)
    exact b1.trans b2
theorem Und.drew {W wr : World} {sv : Nat} {ru : Int} {xs : List Int} {j : Nat} {na : Option Addr} {nc : Nat} (h : Und W wr sv ru xs j na nc) : Und W wr.drew sv ru xs j na nc :=
  ⟨h.c0, h.c1, h.fr, h.row.drew, h.new, h.below.drew, ⟨h.others.size, h.others.same⟩, h.sv⟩
theorem sumW_snoc (zs : List StZ) (z : StZ) : sumW (zs ++ [z]) = sumW zs + (1 + z.1.2.length) := by
  unfold sumW; simp
theorem MD.D.step {c : MD} (hc : c.Ok) {i : Nat} {zs : List StZ} {sr sr2 : Option Addr} {sc sc2 : Nat} {W wq W2 : World} {sv : Nat} {ru : Int} {xs : List Int} {na : Option Addr} {nc : Nat} (h : c.D i zs sr sc W) (hi : i * c.k < c.l.length)
    (hU : Und W wq sv ru xs xs.length na nc) (hru : -1 ≤ ru ∧ ru < 2097152) (hxs : ∀ x ∈ xs, -1 ≤ x ∧ x < 2097152) (hlen : 1 + xs.length = min c.k (c.l.length - i * c.k)) (hval : (ru, xs) = Sg.stV c.l c.k i)
    (hrow : RowAt 2 W2 sr2 sc2 (i + 1) (zs.flatMap stzCells ++ [.int .i64 ru, .slice na xs.length nc])) (hch : Chg (rowT sr) wq W2) (hmv : Moved wq sr sr2) :
    c.D (i + 1) (zs ++ [((ru, xs), (na, nc))]) sr2 sc2 (W2.setCell ⟨c.pb, 1, none⟩ (.slice sr2 (i + 1) sc2)) ∧ KeepsOthers W (W2.setCell ⟨c.pb, 1, none⟩ (.slice sr2 (i + 1) sc2)) ∧ W2.cell? ⟨c.pb, 1, none⟩ = some (.slice sr i sc) ∧ W2.frozen? ⟨c.pb, 1, none⟩ = false ∧ W2.cell? ⟨c.mv, 0, none⟩ = some (.pointer (some ⟨c.pb, 0, none⟩)) := by
  have hpb := hc.pb
  have hmv' := hc.mv
  have hd1 := hc.lt1
  have hs0 := h.chg.size
  have hb := hU.below
  have hs1 := hb.size
  have hs2 := hch.size
  have hsv := hU.sv
  have hnr : ∀ b, b < c.w0.heap.size → ∀ j, ¬ rowT sr b j := by
    intro b hb' j t
    obtain ⟨o, e⟩ := t
    have h5 := h.new b o e
    omega
  have hn2 : NewRow c.w0 sr2 := h.new.moved (wr := wq) (by omega) hmv
  have carry : ∀ b j v, b < c.w0.heap.size → W.cell? ⟨b, j, none⟩ = some v → W2.cell? ⟨b, j, none⟩ = some v := fun b j v hb' hv =>
    (hch.cell _ _ (by omega) (hnr b hb' j)).trans ((hb.cell (p := ⟨b, j, none⟩) (by show b < W.heap.size; omega)).trans hv)
  have c1 := carry _ _ _ hpb h.cell
  have cm := carry _ _ _ hmv' ((h.chg.cell _ _ hc.mv (fun t => hc.e1 t.1)).trans hc.m)
  have cf : W2.frozen? ⟨c.pb, 1, none⟩ = false := by
    rw [hch.frz _ _ (by omega), frozen_block (hb.block c.pb (by omega)), h.chg.frz _ _ hpb]
    exact hc.fp 1
  have hset : Chg (fun i j => i = c.pb ∧ j = 1) W2 (W2.setCell ⟨c.pb, 1, none⟩ (.slice sr2 (i + 1) sc2)) := Chg.setCell1 (T := fun i j => i = c.pb ∧ j = 1) ⟨rfl, rfl⟩ _
  have hall : KeepsOthers W (W2.setCell ⟨c.pb, 1, none⟩ (.slice sr2 (i + 1) sc2)) := hU.others.trans (hch.others.trans (KeepsOthers.setCell _ _ _))
  have hnaw : ∀ b o, na = some ⟨b, o, none⟩ → W.heap.size ≤ b ∧ b < wq.heap.size := fun b o e => ⟨by have := hU.new b o e; omega, hU.row.lt e⟩
  have hz : ∀ z ∈ zs ++ [((ru, xs), (na, nc))], RowAt 1 wq z.2.1 z.2.2 z.1.2.length (intsV z.1.2) ∧ ∀ b o, z.2.1 = some ⟨b, o, none⟩ → c.w0.heap.size ≤ b ∧ b < wq.heap.size ∧ ∀ o', sr ≠ some ⟨b, o', none⟩ := by
    intro z hz
    rcases List.mem_append.1 hz with hz | hz
    · have r1 := (h.rows z hz).below hb
      refine ⟨r1, fun b o e => ⟨(h.apart z hz b o e).1, r1.lt e, (h.apart z hz b o e).2⟩⟩
    · simp only [List.mem_singleton] at hz
      subst hz
      refine ⟨?_, fun b o e => ⟨by have := hnaw b o e; omega, (hnaw b o e).2, fun o' e' => ?_⟩⟩
      · have := hU.row
        rw [List.take_length] at this
        exact this
      · have h5 := h.row.lt e'
        have h6 := hnaw b o e
        omega
  refine ⟨⟨by rw [List.length_append, h.len]; rfl, ?_, World.cell?_setCell_same _ _ _ c1, ?_, hn2, ?_, ?_, ?_, ?_, ?_, by rw [List.map_append, h.val, Sg.statesV_succ]; exact congrArg (fun y => _ ++ [y]) hval, fun j hj => by
    by_cases e : j = i
    · rw [e]; exact hi
    · exact h.few j (by omega)⟩, hall, c1, cf, cm⟩
  · intro z hz
    rcases List.mem_append.1 hz with hz | hz
    · exact h.bd z hz
    · simp only [List.mem_singleton] at hz
      subst hz
      exact ⟨hru, hxs⟩
  · rw [List.flatMap_append]
    have : [((ru, xs), (na, nc))].flatMap stzCells = [.int .i64 ru, .slice na xs.length nc] := rfl
    rw [this]
    refine hrow.of hset (fun rb ro j e t => ?_)
    have h5 := hn2 rb ro e
    omega
  · intro z hzm
    obtain ⟨r1, r2⟩ := hz z hzm
    have r3 := r1.of hch (fun rb ro j e t => by
      obtain ⟨o', e'⟩ := t
      exact (r2 rb ro e).2.2 o' e')
    refine r3.of hset (fun rb ro j e t => ?_)
    have h5 := (r2 rb ro e).1
    omega
  · intro z hzm b o e
    obtain ⟨_, r2⟩ := hz z hzm
    refine ⟨(r2 b o e).1, fun o' e' => ?_⟩
    rcases hmv with hm | ⟨rb, e2, g⟩
    · rw [hm] at e'; exact (r2 b o e).2.2 o' e'
    · rw [e2] at e'; cases e'
      have h5 := (r2 b o e).2.1
      omega
  · refine ((h.chg.trans_new (Chg.of_below (T := fun _ _ => False) hb) (fun _ _ _ t => t.elim)).trans_new hch ?_).trans hset
    intro a j ha t
    exact absurd t (hnr a ha j)
  · rw [sumW_snoc, h.sum]
    show min (i * c.k) c.l.length + (1 + xs.length) = min ((i + 1) * c.k) c.l.length
    rw [Nat.add_mul]
    omega
  · exact hall.same _ _ h.dfr rfl
theorem chunk_in' (n : Nat) (ra : Option Addr) (len cap k : Nat) (x : Int) (hx : x = k) (h1 : 1 ≤ k) (hk : k < 1000000000) (w : World) :
    CallsIn Fence.wide n Tryz.prog 112 #[.slice ra len cap, .int .i64 x] w fun e w' => e = .returned (.func (.func 152) #[] #[.pointer (some ⟨w.heap.size, 0, none⟩), .pointer (some ⟨w.heap.size + 1, 0, none⟩)]) ∧ w' = (w.alloc (.cells #[.slice ra len cap] 24)).alloc (.cells #[.int .i64 x] 3) := by
  subst hx
  exact chunk_in n ra len cap k h1 hk w
abbrev mW2 (W : World) (rb o2 n2 cap2 : Nat) (x : Int) : World := (W.alloc (.cells #[.slice (some ⟨rb, o2, none⟩) n2 cap2] 24)).alloc (.cells #[.int .i64 x] 3)
def mD1 (pb mv : Nat) (W : World) (rb o2 cap2 kd D : Nat) (states : List Int) : MD := ⟨pb, mv, W.heap.size, W.heap.size + 1, rb, o2, states, cap2, 1 + kd, D, mW2 W rb o2 states.length cap2 (1 + (kd : Int))⟩
theorem mD1_ok (pb mv : Nat) (W : World) (rb o2 cap2 kd D : Nat) (states : List Int) (hrb : rb < pb) (hpb : pb < W.heap.size) (hmv : mv < W.heap.size) (hne : mv ≠ pb) (hm : W.cell? ⟨mv, 0, none⟩ = some (.pointer (some ⟨pb, 0, none⟩))) (h2 : ∀ j, j < states.length → W.cell? ⟨rb, o2 + j, none⟩ = some (.int .i64 (states.getD j 0))) (hb2 : ∀ x ∈ states, 0 ≤ x ∧ x < 2097152) (hN2 : states.length < 1000000)
    (hfp : ∀ j, W.frozen? ⟨pb, j, none⟩ = false) (h1 : W.cell? ⟨pb, 1, none⟩ = some (.slice none 0 0)) (hD : W.heap[D]? = some (.deferred (some []))) :
    (mD1 pb mv W rb o2 cap2 kd D states).Ok ∧ (mD1 pb mv W rb o2 cap2 kd D states).J 0 (mW2 W rb o2 states.length cap2 (1 + (kd : Int))) := by
  have hsz : (mW2 W rb o2 states.length cap2 (1 + (kd : Int))).heap.size = W.heap.size + 2 := by simp
  have hDl : D < W.heap.size := (Array.getElem?_eq_some_iff.1 hD).1
  have hbl : Below W.heap.size W (mW2 W rb o2 states.length cap2 (1 + (kd : Int))) := ((Below.refl _ _).alloc (Nat.le_refl _) _).alloc (by simp) _
  refine ⟨⟨by show pb < (mW2 W rb o2 states.length cap2 (1 + (kd : Int))).heap.size; omega, by show mv < (mW2 W rb o2 states.length cap2 (1 + (kd : Int))).heap.size; omega, by show W.heap.size < (mW2 W rb o2 states.length cap2 (1 + (kd : Int))).heap.size; omega, by show W.heap.size + 1 < (mW2 W rb o2 states.length cap2 (1 + (kd : Int))).heap.size; omega, hrb, hne, by show W.heap.size ≠ pb; omega, by show W.heap.size + 1 ≠ pb; omega, oldCell _ (oldCell _ hm), oldCell _ (newCell _ _ _ _ rfl), ?_, fun j hj => oldCell _ (oldCell _ (h2 j hj)), hb2, fun j => oldFree _ (by show pb < _; simp; omega) (oldFree _ hpb (hfp j)), by show 1 ≤ 1 + kd; omega, hN2, by show D < (mW2 W rb o2 states.length cap2 (1 + (kd : Int))).heap.size; omega⟩, [], none, 0, ⟨rfl, fun z hz => absurd hz (by simp), oldCell _ (oldCell _ h1), RowAt.nil 2 _, fun b o e => (by cases e), fun z hz => absurd hz (by simp), fun z hz => absurd hz (by simp), Chg.refl _ _, by show 0 = min (0 * _) _; simp, (hbl.block D hDl).trans hD, rfl, fun j hj => absurd hj (Nat.not_lt_zero _)⟩⟩
  show (mW2 W rb o2 states.length cap2 (1 + (kd : Int))).cell? ⟨W.heap.size + 1, 0, none⟩ = some (.int .i64 ((1 + kd : Nat) : Int))
  rw [show ((1 + kd : Nat) : Int) = 1 + (kd : Int) by omega]
  exact newCell _ _ _ _ (by simp)
def aM2 (w W : World) (rb o1 o2 n1 n2 cap1 cap2 kd D : Nat) (v : Value) : Act :=
  { tmps := #[.slice (some ⟨rb, o1, none⟩) n1 cap1, .slice (some ⟨rb, o2, none⟩) n2 cap2, undef, undef, .pointer none, .pointer (some ⟨w.heap.size + 1, 0, none⟩), .pointer (some ⟨w.heap.size + 1 + 1, 0, none⟩), undef, v, undef, undef, undef, .agg #[.slice none 0 0, .slice none 0 0], .pointer (some ⟨w.heap.size, 0, none⟩), .slice (some ⟨rb, o1, none⟩) n1 cap1, .func (.func 152) #[] #[.pointer (some ⟨w.heap.size + 1 + 1 + 1, 0, none⟩), .pointer (some ⟨w.heap.size + 1 + 1 + 1 + 1, 0, none⟩)], undef, undef, undef, undef, undef, undef, undef, undef, undef, undef, undef, undef, undef, undef, undef, undef, undef, undef, undef, undef, undef, undef, undef, undef, .slice (some ⟨rb, o2, none⟩) n2 cap2, .int .i64 kd, .int .i64 (1 + (kd : Int)), .func (.func 152) #[] #[.pointer (some ⟨W.heap.size, 0, none⟩), .pointer (some ⟨W.heap.size + 1, 0, none⟩)], v, undef, undef, undef, undef, undef, undef, undef, undef, undef, undef, undef, undef, undef, undef, undef, undef, undef, undef, undef, undef, undef, undef, undef, undef, undef, undef, undef, undef, undef, undef, undef], defers := [] }
theorem below_put {B : Nat} {a b : World} (h : Below B a b) {D : Nat} (hD : B ≤ D) (o : Obj) : Below B a (b.putObj D o) :=
  ⟨h.os, h.tape, h.output, by have := h.size; simp; omega, fun k hk => (World.putObj_heap_other (by omega)).trans (h.block k hk)⟩
structure Made (w w' : World) (p : Nat) (cs : List (Int × Int)) (zs : List StZ) (n1 n2 : Nat) : Prop where
  c0 : ∃ cr cc, w'.cell? ⟨p, 0, none⟩ = some (.slice cr cs.length cc) ∧ RowAt 2 w' cr cc cs.length (cs.flatMap cutCells)
  c1 : ∃ sr sc, w'.cell? ⟨p, 1, none⟩ = some (.slice sr zs.length sc) ∧ RowAt 2 w' sr sc zs.length (zs.flatMap stzCells)
  rows : ∀ z ∈ zs, RowAt 1 w' z.2.1 z.2.2 z.1.2.length (intsV z.1.2)
  bc : ∀ x ∈ cs, (0 ≤ x.1 ∧ x.1 < 2097152) ∧ (0 ≤ x.2 ∧ x.2 < 2097152)
  bz : ∀ z ∈ zs, (-1 ≤ z.1.1 ∧ z.1.1 < 2097152) ∧ ∀ x ∈ z.1.2, -1 ≤ x ∧ x < 2097152
  n1 : 2 * cs.length = n1
  n2 : sumW zs = n2
  below : Below w.heap.size w w'
  new : w.heap.size ≤ p
structure Sg.ValsOk (cuts states : List Int) (cs : List (Int × Int)) (st : List (Int × List Int)) : Prop where
  vc : cs = Sg.cutsV cuts (cuts.length / 2)
  vs : st = Sg.statesV states (1 + Sg.kdOf cs) st.length
  ge : states.length ≤ st.length * (1 + Sg.kdOf cs)
  lt : ∀ j, j < st.length → j * (1 + Sg.kdOf cs) < states.length
theorem Made.kept {w w' w'' : World} {p : Nat} {cs : List (Int × Int)} {zs : List StZ} {n1 n2 : Nat} (h : Made w w' p cs zs n1 n2) (hk : Kept w' w'') (hb : Below w.heap.size w w'') : Made w w'' p cs zs n1 n2 := by
  obtain ⟨cr, cc, a1, a2⟩ := h.c0
  obtain ⟨sr, sc, b1, b2⟩ := h.c1
  exact ⟨⟨cr, cc, hk.cell _ _ _ a1, a2.kept hk⟩, ⟨sr, sc, hk.cell _ _ _ b1, b2.kept hk⟩, fun z hz => (h.rows z hz).kept hk, h.bc, h.bz, h.n1, h.n2, hb, h.new⟩
end Go.Proofs.YtlhokghgicgppaaGreatDoor
namespace Go.Proofs.YtlhokghgicgppaaGreatDoor
open Go.RowKit Go.Extern
attribute [local go_sem] Oper.semAt_some
theorem machine_any (w : World) (rb o1 o2 cap1 cap2 : Nat) (cuts states : List Int) (hrb : rb < w.heap.size) (h1 : ∀ j, j < cuts.length → w.cell? ⟨rb, o1 + j, none⟩ = some (.int .i64 (cuts.getD j 0))) (h2 : ∀ j, j < states.length → w.cell? ⟨rb, o2 + j, none⟩ = some (.int .i64 (states.getD j 0)))
  (hc1 : cuts.length ≤ cap1) (hc2 : states.length ≤ cap2) (hN1 : cuts.length < 1000000) (hN2 : states.length < 1000000) (heven : cuts.length % 2 = 0) (hb1 : ∀ x ∈ cuts, 0 ≤ x ∧ x < 2097152) (hb2 : ∀ x ∈ states, 0 ≤ x ∧ x < 2097152) :
  Calls Tryz.prog 77 #[.slice (some ⟨rb, o1, none⟩) cuts.length cap1, .slice (some ⟨rb, o2, none⟩) states.length cap2] w fun e w' => ∃ p cs zs, e = .returned (.pointer (some ⟨p, 0, none⟩)) ∧ Made w w' p cs zs cuts.length states.length ∧ Sg.ValsOk cuts states cs (zs.map (·.1)) := by
 have hdd : ∀ k : Nat, (Fence.wide.depth.isSome = true → 1 ≤ k) := fun k h => by cases h
 refine (callsIn_wide (n := 5)).1 ?_
 refine callsIn_of_wp_marks Tryz.func77 rfl trivial ?_ rfl
 simp only [Tryz.ntmps77, List.size_toArray, List.length_cons, List.length_nil, Nat.reduceAdd, Nat.reduceSub, Array.replicate_succ, Array.replicate_zero, List.push_toArray, List.append_toArray, List.nil_append, List.cons_append]
 gi_wp2_with (refine ⟨trivial, ?_⟩; gi_at_call 112; refine (chunk_in _ _ _ _ 2 (by omega) (by omega) _).mono ?_; rintro e w' ⟨rfl, rfl⟩)
 obtain ⟨hc, hJ0⟩ := mC1_ok w rb o1 cap1 cuts hrb h1 hN1 heven hb1
 obtain ⟨c, hcd⟩ : ∃ c, c = mC1 w rb o1 cap1 cuts := ⟨_, rfl⟩
 rw [← hcd] at hc hJ0
 have ep : c.pb = w.heap.size := by rw [hcd]; rfl
 have em : c.mv = w.heap.size + 1 := by rw [hcd]; rfl
 have ek : c.kv = w.heap.size + 1 + 1 := by rw [hcd]; rfl
 have es : c.sb = w.heap.size + 1 + 1 + 1 := by rw [hcd]; rfl
 have en : c.nb = w.heap.size + 1 + 1 + 1 + 1 := by rw [hcd]; rfl
 have er : c.rb = rb := by rw [hcd]; rfl
 have eo : c.ro = o1 := by rw [hcd]; rfl
 have el : c.l = cuts := by rw [hcd]; rfl
 have ec : c.cap = cap1 := by rw [hcd]; rfl
 have ew : c.w0 = mW1 w rb o1 cuts.length cap1 := by rw [hcd]; rfl
 clear hcd
 have hIown := MC.J_own (c := c) (fun (xs : List Nat) i => xs = List.range i)
 have hIyown := MC.J_own (c := c) (fun (x : List Nat × Nat) i => x = (List.range i, i) ∧ i * 2 < cuts.length)
 have hIzown := MC.J_own (c := c) (fun (x : List Nat × Nat × Act) i => x = (List.range i, i, aM1 w rb o1 o2 cuts.length states.length cap1 cap2 (.slice (some ⟨rb, o1 + i * 2, none⟩) 2 2)) ∧ i * 2 < cuts.length)
 rw [ew] at hIown hIyown hIzown
 refine wpIn_rangeFunc_st2 (α := Nat) rfl (by omega) (gf := 152) (lb := #[.pointer (some ⟨w.heap.size + 1 + 1 + 1, 0, none⟩), .pointer (some ⟨w.heap.size + 1 + 1 + 1 + 1, 0, none⟩)]) rfl trivial (enters_of Tryz.func152 (by kernel_rfl) rfl) (encs := fun i => #[.slice (some ⟨rb, o1 + i * 2, none⟩) (min 2 (cuts.length - i * 2)) (min 2 (cuts.length - i * 2))]) (S := fun xs => cuts.length ≤ xs.length * 2) (Sp := fun _ => False) (fun x => rfl)
  (fun xs W => ∃ i, xs = List.range i ∧ c.J i W) (fun x W => ∃ i, (x = (List.range i, i) ∧ i * 2 < cuts.length) ∧ c.J i W) (fun _ _ _ => False) (fun x W => ∃ i, (x = (List.range i, i, aM1 w rb o1 o2 cuts.length states.length cap1 cap2 (.slice (some ⟨rb, o1 + i * 2, none⟩) 2 2)) ∧ i * 2 < cuts.length) ∧ c.J i W) hIzown hIown hIyown (fun _ => ⟨fun _ _ _ h _ => h, fun _ _ _ _ _ h _ _ => h⟩) ⟨0, rfl, hJ0⟩ ?seq ?assign ?body ?done ?stop
 case stop => exact fun _ _ _ _ _ hS => hS.elim
 case seq =>
  intro l D ready dn hY W hI hR
  obtain ⟨i, hi, hj⟩ := hI
  have hi0 : i = 0 := by
   have := congrArg List.length hi
   simpa using this.symm
  subst hi0
  have := chunk1_in (5 - 1) l (w.heap.size + 1 + 1 + 1) (w.heap.size + 1 + 1 + 1 + 1) rb o1 cuts.length cap1 2 (by omega) (by omega) (by omega) (fun i W => c.J i W ∧ RecAt l D ready W)
   (fun i W h => by
    have h5 := MC.at_ hc h.1
    rw [es, en, er, eo, el, ec] at h5
    exact ⟨h5.2.1, h5.2.2.1⟩) hc1 (fun i W h => ⟨by
    obtain ⟨cs, cr, cc, kd, h5⟩ := h.1
    exact ⟨cs, cr, cc, kd, h5.drew⟩, h.2⟩) (fun i W h hlt => by
    refine YieldAt.mono (hY (List.range i) i W ⟨i, ⟨rfl, hlt⟩, h.1⟩ h.2) ?_
    rintro e W' (⟨k1, ⟨i2, k2, k3⟩, k4⟩ | ⟨_, code, k, _⟩)
    ·have : i2 = i + 1 := by
      have := congrArg List.length k2
      simpa using this.symm
     subst this
     exact ⟨k1, k3, k4⟩
    ·exact k.elim) W ⟨hj, hR⟩
  refine this.mono ?_
  rintro e W' ⟨hv, i, k1, k2, k3, k4⟩
  exact ⟨hv, .inl ⟨List.range i, by simpa using k1, ⟨i, rfl, k3⟩, k4⟩⟩
 case assign =>
  rintro l pre x W ⟨i, ⟨e, hlt⟩, hj⟩
  simp only [Prod.mk.injEq] at e
  obtain ⟨rfl, rfl⟩ := e
  have e2 : min 2 (cuts.length - x * 2) = 2 := by omega
  rw [e2]
  gi_wp2
  exact ⟨KeepsFrom.refl _ _, x, ⟨rfl, hlt⟩, hj⟩
 case body =>
  rintro l pre x a' W ⟨i, ⟨e, hlt⟩, hj⟩
  simp only [Prod.mk.injEq] at e
  obtain ⟨rfl, rfl, rfl⟩ := e
  obtain ⟨cs, cr, cc, kd, hC⟩ := hj
  have hA := MC.at_ hc ⟨cs, cr, cc, kd, hC⟩
  rw [ep, em, es, en, er, eo, el, ec, ek] at hA
  obtain ⟨a1, _, _, a4, a5, a6⟩ := hA
  have hx0 := a4 (x * 2) (by omega)
  have hx1 := a4 (x * 2 + 1) (by omega)
  rw [← Nat.add_assoc] at hx1
  have hbx0 := hb1 (cuts.getD (x * 2) 0) (by rw [List.getD_eq_getElem?_getD, List.getElem?_eq_getElem (by omega)]; exact List.getElem_mem _)
  have hbx1 := hb1 (cuts.getD (x * 2 + 1) 0) (by rw [List.getD_eq_getElem?_getD, List.getElem?_eq_getElem (by omega)]; exact List.getElem_mem _)
  obtain ⟨y0, hy0⟩ := Int.eq_ofNat_of_zero_le hbx0.1
  obtain ⟨y1, hy1⟩ := Int.eq_ofNat_of_zero_le hbx1.1
  rw [hy0] at hx0 hbx0
  rw [hy1] at hx1 hbx1
  have hp0 := hC.cell
  have hk0 := hC.kind
  have hkd := hC.kd
  have hxle := hC.le
  rw [ep] at hp0
  rw [ek] at hk0
  obtain ⟨cr2, cc2, W2, hrun, hrow, hch, hmv⟩ := append_new (w := W.drew) 148 168 _ 2 16 info_cutM rfl (by omega) Tryz.underlying148 (by omega) hC.row.drew [.int .i32 (IntKind.i32.wrap y0), .int .i64 y1] rfl (fun u hu => by
   simp only [List.mem_cons, List.not_mem_nil, or_false] at hu
   rcases hu with rfl | rfl <;> rfl) (by omega) 148 168
  have hwr : IntKind.i32.wrap (y0 : Int) = y0 := by simp [IntKind.wrap, IntKind.bits, IntKind.signed]; split <;> omega
  rw [hwr] at hrow
  have hstep := MC.C.step hc hC.drew (by rw [el]; omega) y0 y1 (by omega) (by omega) hrow hch hmv (kd2 := max kd (1 + y1)) (by omega) (by rw [el]; exact hy0.symm) (by rw [el]; exact hy1.symm) (by rw [Int.toNat_natCast]) (W3 := (W2.setCell ⟨c.pb, 0, none⟩ (.slice cr2 (x + 1) cc2)).drew) ((Below.refl _ _).drew)
  rw [ep, ek] at hstep
  have hnr : ∀ b o, cr = some ⟨b, o, none⟩ → c.w0.heap.size ≤ b := hC.new
  have hzw : c.w0.heap.size = w.heap.size + 5 := by rw [ew]; simp
  have hkeep : ∀ b j v, b < w.heap.size + 5 → W.cell? ⟨b, j, none⟩ = some v → W2.cell? ⟨b, j, none⟩ = some v := fun b j v hb hv => (hch.cell b j (cell_lt hv) (by
   intro t
   obtain ⟨o, e⟩ := t
   have h5 := hnr b o e
   omega)).trans hv
  have hS2 : W2.cell? ⟨w.heap.size + 1, 0, none⟩ = some (.pointer (some ⟨w.heap.size, 0, none⟩)) ∧ W2.cell? ⟨w.heap.size, 0, none⟩ = some (.slice cr x cc) ∧ W2.cell? ⟨rb, o1 + x * 2, none⟩ = some (.int .i64 y0) ∧ W2.cell? ⟨rb, o1 + x * 2 + 1, none⟩ = some (.int .i64 y1) ∧ W2.frozen? ⟨w.heap.size, 0, none⟩ = false :=
   ⟨hkeep _ _ _ (by omega) a1, hkeep _ _ _ (by omega) hp0, hkeep _ _ _ (by omega) hx0, hkeep _ _ _ (by omega) hx1, (hch.frz _ _ (cell_lt hp0)).trans (a5 0)⟩
  have hk2 : W2.cell? ⟨w.heap.size + 1 + 1, 0, none⟩ = some (.int .i64 kd) := hkeep _ _ _ (by omega) hk0
  have hf2 : W2.frozen? ⟨w.heap.size + 1 + 1, 0, none⟩ = false := (hch.frz _ _ (cell_lt hk0)).trans (a6 0)
  have HS2 := hide2 hS2
  have HK2 := hide2 (And.intro hk2 hf2)
  have Hstep0 := hide2 hstep
  have Hrun := hide2 hrun
  clear hwr hrun hrow hch hmv hstep hkeep hS2 hk2 hf2 hC a4 h1 h2 hJ0 hIown hIyown hIzown hnr
  simp only [aM1]
  gi_wp2
  obtain ⟨W5, hW5⟩ : ∃ W5, W2.setCell ⟨w.heap.size, 0, none⟩ (.slice cr2 (x + 1) cc2) = W5 := ⟨_, rfl⟩
  have t1 : W5.cell? ⟨w.heap.size + 1 + 1, 0, none⟩ = some (.int .i64 kd) := by
   rw [← hW5]
   exact (World.cell?_setCell_other _ _ _ _ (fun e => by have := congrArg Addr.block e; simp at this; omega)).trans HK2.out.1
  have t2 : W5.cell? ⟨rb, o1 + x * 2 + 1, none⟩ = some (.int .i64 y1) := by
   rw [← hW5]
   exact (World.cell?_setCell_other _ _ _ _ (fun e => by have := congrArg Addr.block e; simp at this; omega)).trans HS2.out.2.2.2.1
  have t4 : W5.cell? ⟨w.heap.size + 1, 0, none⟩ = some (.pointer (some ⟨w.heap.size, 0, none⟩)) := by
   rw [← hW5]
   exact (World.cell?_setCell_other _ _ _ _ (fun e => by have := congrArg Addr.block e; simp at this)).trans HS2.out.1
  have t5 : W5.cell? ⟨rb, o1 + x * 2, none⟩ = some (.int .i64 y0) := by
   rw [← hW5]
   exact (World.cell?_setCell_other _ _ _ _ (fun e => by have := congrArg Addr.block e; simp at this; omega)).trans HS2.out.2.2.1
  have t3 : W5.frozen? ⟨w.heap.size + 1 + 1, 0, none⟩ = false := by
   rw [← hW5, World.frozen?_setCell]; exact HK2.out.2
  have Hstep := Hstep0.out
  rw [hW5] at Hstep
  have HStep := hide2 Hstep
  have HW5 := hide2 hW5
  have hmx : max (kd : Int) (IntKind.i64.wrap (1 + (y1 : Int))) = ((max kd (1 + y1) : Nat) : Int) := by
   rw [wrap_i64_small _ (by omega) (by omega)]; omega
  have Hmx := hide2 hmx
  clear hmx Hstep Hstep0
  have hs2 := HS2.out
  obtain ⟨b1, b2, b3, b4, b5⟩ := hs2
  refine wpIn_round_held (S := fun w' => w'.cell? ⟨w.heap.size + 1, 0, none⟩ = some (.pointer (some ⟨w.heap.size, 0, none⟩)) ∧ w'.cell? ⟨rb, o1 + x * 2, none⟩ = some (.int .i64 y0) ∧ w'.cell? ⟨rb, o1 + x * 2 + 1, none⟩ = some (.int .i64 y1)) (by kernel_rfl) (by kernel_rfl) (by rintro ⟨a, w, h⟩; exact h) ⟨a1, hx0, hx1⟩ (fun hHeld => ?_)
  refine wpAnyH_take (i := 0) (v := ?_) rfl (by kernel_rfl) (by kernel_rfl) (by kernel_rfl) (fun _ _ _ h => h) (Or.inl ⟨by rfl, ?_⟩) (by assumption) ?_
  rotate_left
  ·intro w' hSw
   obtain ⟨q1, q2, q3⟩ := hSw
   go_simp
   try with_reducible rfl
  try simp only [Act.put, List.setIfInBounds_toArray, List.set_cons_zero, List.set_cons_succ]
  refine wpAnyH_take (i := 1) (v := ?_) rfl (by kernel_rfl) (by kernel_rfl) (by kernel_rfl) (fun _ _ _ h => h) (Or.inl ⟨by rfl, ?_⟩) (by assumption) ?_
  rotate_left
  ·intro w' hSw
   obtain ⟨q1, q2, q3⟩ := hSw
   go_simp
   try with_reducible rfl
  try simp only [Act.put, List.setIfInBounds_toArray, List.set_cons_zero, List.set_cons_succ]
  refine wpAnyH_take (i := 2) (v := ?_) rfl (by kernel_rfl) (by kernel_rfl) (by kernel_rfl) (fun _ _ _ h => h) (Or.inl ⟨by rfl, ?_⟩) (by assumption) ?_
  rotate_left
  ·intro w' hSw
   obtain ⟨q1, q2, q3⟩ := hSw
   go_simp
   try with_reducible rfl
  try simp only [Act.put, List.setIfInBounds_toArray, List.set_cons_zero, List.set_cons_succ]
  refine wpAnyH_take (i := 3) (v := ?_) rfl (by kernel_rfl) (by kernel_rfl) (by kernel_rfl) (fun _ _ _ h => h) (Or.inl ⟨by rfl, ?_⟩) (by assumption) ?_
  rotate_left
  ·intro w' hSw
   obtain ⟨q1, q2, q3⟩ := hSw
   go_simp
   try with_reducible rfl
  try simp only [Act.put, List.setIfInBounds_toArray, List.set_cons_zero, List.set_cons_succ]
  refine wpAnyH_take (i := 5) (v := ?_) rfl (by kernel_rfl) (by kernel_rfl) (by kernel_rfl) (fun _ _ _ h => h) (Or.inl ⟨by rfl, ?_⟩) (by assumption) ?_
  rotate_left
  ·intro w' hSw
   obtain ⟨q1, q2, q3⟩ := hSw
   go_simp
   try with_reducible rfl
  try simp only [Act.put, List.setIfInBounds_toArray, List.set_cons_zero, List.set_cons_succ]
  refine wpAnyH_take (i := 6) (v := ?_) rfl (by kernel_rfl) (by kernel_rfl) (by kernel_rfl) (fun _ _ _ h => h) (Or.inl ⟨by rfl, ?_⟩) (by assumption) ?_
  rotate_left
  ·intro w' hSw
   obtain ⟨q1, q2, q3⟩ := hSw
   go_simp
   try with_reducible rfl
  try simp only [Act.put, List.setIfInBounds_toArray, List.set_cons_zero, List.set_cons_succ]
  refine wpAnyH_take (i := 7) (v := ?_) rfl (by kernel_rfl) (by kernel_rfl) (by kernel_rfl) (fun _ _ _ h => h) (Or.inl ⟨by rfl, ?_⟩) (by assumption) ?_
  rotate_left
  ·intro w' hSw
   obtain ⟨q1, q2, q3⟩ := hSw
   go_simp
   try with_reducible rfl
  try simp only [Act.put, List.setIfInBounds_toArray, List.set_cons_zero, List.set_cons_succ]
  refine wpAnyH_take (i := 8) (v := ?_) rfl (by kernel_rfl) (by kernel_rfl) (by kernel_rfl) (fun _ _ _ h => h) (Or.inl ⟨by rfl, ?_⟩) (by assumption) ?_
  rotate_left
  ·intro w' hSw
   obtain ⟨q1, q2, q3⟩ := hSw
   go_simp
   try with_reducible rfl
  try simp only [Act.put, List.setIfInBounds_toArray, List.set_cons_zero, List.set_cons_succ]
  refine wpAnyH_take (i := 9) (v := ?_) rfl (by kernel_rfl) (by kernel_rfl) (by kernel_rfl) (fun _ _ _ h => h) (Or.inl ⟨by rfl, ?_⟩) (by assumption) ?_
  rotate_left
  ·intro w' hSw
   obtain ⟨q1, q2, q3⟩ := hSw
   go_simp
   try with_reducible rfl
  try simp only [Act.put, List.setIfInBounds_toArray, List.set_cons_zero, List.set_cons_succ]
  refine wpAnyH_take (i := 10) (v := ?_) rfl (by kernel_rfl) (by kernel_rfl) (by kernel_rfl) (fun _ _ _ h => h) (Or.inl ⟨by rfl, ?_⟩) (by assumption) ?_
  rotate_left
  ·intro w' hSw
   obtain ⟨q1, q2, q3⟩ := hSw
   go_simp
   try with_reducible rfl
  try simp only [Act.put, List.setIfInBounds_toArray, List.set_cons_zero, List.set_cons_succ]
  refine wpAnyH_take (i := 11) (v := ?_) rfl (by kernel_rfl) (by kernel_rfl) (by kernel_rfl) (fun _ _ _ h => h) (Or.inl ⟨by rfl, ?_⟩) (by assumption) ?_
  rotate_left
  ·intro w' hSw
   obtain ⟨q1, q2, q3⟩ := hSw
   go_simp
   try with_reducible rfl
  try simp only [Act.put, List.setIfInBounds_toArray, List.set_cons_zero, List.set_cons_succ]
  refine wpAnyH_take (i := 12) (v := ?_) rfl (by kernel_rfl) (by kernel_rfl) (by kernel_rfl) (fun _ _ _ h => h) (Or.inl ⟨by rfl, ?_⟩) (by assumption) ?_
  rotate_left
  ·intro w' hSw
   obtain ⟨q1, q2, q3⟩ := hSw
   go_simp
   try with_reducible rfl
  try simp only [Act.put, List.setIfInBounds_toArray, List.set_cons_zero, List.set_cons_succ]
  have hp0' : ∀ o, (W.alloc o).cell? ⟨w.heap.size, 0, none⟩ = some (.slice cr x cc) := fun o => oldCell o hp0
  refine wpAnyH_ready (rs := [4, 13]) (by kernel_rfl) (by simp) ?_
  refine AllReadyH.cons rfl (fun K hK => ?_) (AllReadyH.cons rfl (fun K hK => ?_) AllReadyH.nil)
  ·go_simp
   refine hK.out _ _ ⟨a1, hx0, hx1⟩ (fun hHeld => ?_)
   clear hK
   try simp only [Act.put, List.setIfInBounds_toArray, List.set_cons_zero, List.set_cons_succ]
   refine wpAnyH_ready (rs := [13]) (by kernel_rfl) (by simp) ?_
   refine AllReadyH.cons rfl (fun K hK => ?_) AllReadyH.nil
   go_simp
   refine hK.out _ _ ⟨oldCell _ a1, oldCell _ hx0, oldCell _ hx1⟩ (fun hHeld => ?_)
   clear hK
   try simp only [Act.put, List.setIfInBounds_toArray, List.set_cons_zero, List.set_cons_succ]
   refine wpAnyH_ready (rs := [14]) (by kernel_rfl) (by simp) ?_
   refine AllReadyH.cons rfl (fun K hK => ?_) AllReadyH.nil
   refine step_append_run rfl _ _ _ _ rfl _ _ _ rfl rfl Hrun.out ?_
   refine hK.out _ _ ⟨b1, b3, b4⟩ (fun hHeld => ?_)
   clear hK
   try simp only [Act.put, List.setIfInBounds_toArray, List.set_cons_zero, List.set_cons_succ]
   refine wpAnyH_take (i := 15) (v := ?_) rfl (by kernel_rfl) (by kernel_rfl) (by kernel_rfl) (fun _ _ _ h => h) (Or.inl ⟨by rfl, ?_⟩) (by assumption) ?_
   rotate_left
   ·intro w' hSw
    obtain ⟨q1, q2, q3⟩ := hSw
    go_simp
    try with_reducible rfl
   try simp only [Act.put, List.setIfInBounds_toArray, List.set_cons_zero, List.set_cons_succ]
   refine wpAnyH_take (i := 16) (v := ?_) rfl (by kernel_rfl) (by kernel_rfl) (by kernel_rfl) (fun _ _ _ h => h) (Or.inl ⟨by rfl, ?_⟩) (by assumption) ?_
   rotate_left
   ·intro w' hSw
    obtain ⟨q1, q2, q3⟩ := hSw
    go_simp
    try with_reducible rfl
   try simp only [Act.put, List.setIfInBounds_toArray, List.set_cons_zero, List.set_cons_succ]
   refine wpAnyH_ready (rs := [17]) (by kernel_rfl) (by simp) ?_
   refine AllReadyH.cons rfl (fun K hK => ?_) AllReadyH.nil
   go_simp
   refine hK.out _ _ ⟨t4, t5, t2⟩ (fun hHeld => ?_)
   clear hK
   refine wpAnyH_done (by kernel_rfl) ?_ _
   gi_wp2
   gi_region
   all_goals gi_wp2
   all_goals rw [Hmx.out]
   all_goals exact ⟨⟨HStep.out.2.size, fun k o _ hk ho => HStep.out.2.same k o hk ho⟩, x + 1, by rw [List.range_succ], _, _, _, _, HStep.out.1⟩
  ·go_simp
   refine hK.out _ _ ⟨oldCell _ a1, oldCell _ hx0, oldCell _ hx1⟩ (fun hHeld => ?_)
   clear hK
   try simp only [Act.put, List.setIfInBounds_toArray, List.set_cons_zero, List.set_cons_succ]
   refine wpAnyH_ready (rs := [4]) (by kernel_rfl) (by simp) ?_
   refine AllReadyH.cons rfl (fun K hK => ?_) AllReadyH.nil
   go_simp
   refine hK.out _ _ ⟨oldCell _ a1, oldCell _ hx0, oldCell _ hx1⟩ (fun hHeld => ?_)
   clear hK
   try simp only [Act.put, List.setIfInBounds_toArray, List.set_cons_zero, List.set_cons_succ]
   refine wpAnyH_ready (rs := [14]) (by kernel_rfl) (by simp) ?_
   refine AllReadyH.cons rfl (fun K hK => ?_) AllReadyH.nil
   refine step_append_run rfl _ _ _ _ rfl _ _ _ rfl rfl Hrun.out ?_
   refine hK.out _ _ ⟨b1, b3, b4⟩ (fun hHeld => ?_)
   clear hK
   try simp only [Act.put, List.setIfInBounds_toArray, List.set_cons_zero, List.set_cons_succ]
   refine wpAnyH_take (i := 15) (v := ?_) rfl (by kernel_rfl) (by kernel_rfl) (by kernel_rfl) (fun _ _ _ h => h) (Or.inl ⟨by rfl, ?_⟩) (by assumption) ?_
   rotate_left
   ·intro w' hSw
    obtain ⟨q1, q2, q3⟩ := hSw
    go_simp
    try with_reducible rfl
   try simp only [Act.put, List.setIfInBounds_toArray, List.set_cons_zero, List.set_cons_succ]
   refine wpAnyH_take (i := 16) (v := ?_) rfl (by kernel_rfl) (by kernel_rfl) (by kernel_rfl) (fun _ _ _ h => h) (Or.inl ⟨by rfl, ?_⟩) (by assumption) ?_
   rotate_left
   ·intro w' hSw
    obtain ⟨q1, q2, q3⟩ := hSw
    go_simp
    try with_reducible rfl
   try simp only [Act.put, List.setIfInBounds_toArray, List.set_cons_zero, List.set_cons_succ]
   refine wpAnyH_ready (rs := [17]) (by kernel_rfl) (by simp) ?_
   refine AllReadyH.cons rfl (fun K hK => ?_) AllReadyH.nil
   go_simp
   refine hK.out _ _ ⟨t4, t5, t2⟩ (fun hHeld => ?_)
   clear hK
   refine wpAnyH_done (by kernel_rfl) ?_ _
   gi_wp2
   gi_region
   all_goals gi_wp2
   all_goals rw [Hmx.out]
   all_goals exact ⟨⟨HStep.out.2.size, fun k o _ hk ho => HStep.out.2.same k o hk ho⟩, x + 1, by rw [List.range_succ], _, _, _, _, HStep.out.1⟩
 case done =>
  rintro D xs W hD hS ⟨i, rfl, cs, cr, cc, kd, hC⟩ hK
  have hA := MC.at_ hc ⟨cs, cr, cc, kd, hC⟩
  rw [ep, em, es, en, er, eo, el, ec, ek] at hA
  obtain ⟨a1, _, _, _, a5, _⟩ := hA
  have hk0 := hC.kind
  have hkd := hC.kd
  have hp1 := hC.one
  rw [ek] at hk0
  rw [ep] at hp1
  have hzw : c.w0.heap.size = w.heap.size + 5 := by rw [ew]; simp
  have hWs := hC.chg.size
  have h2W : ∀ j, j < states.length → W.cell? ⟨rb, o2 + j, none⟩ = some (.int .i64 (states.getD j 0)) := fun j hj => by
   rw [hC.chg.cell rb _ (by omega) (fun t => by rw [ep, ek] at t; omega), ew]
   exact oldCell _ (oldCell _ (oldCell _ (oldCell _ (oldCell _ (h2 j hj)))))
  obtain ⟨hd2, hJ2⟩ := mD1_ok w.heap.size (w.heap.size + 1) W rb o2 cap2 kd D states hrb (by omega) (by omega) (by omega) a1 h2W hb2 hN2 a5 hp1 hK
  have HC := hide2 hC
  clear hC a5 h2W hJ0 hIown hIyown hIzown
  gi_wp2_with (refine ⟨trivial, ?_⟩; gi_at_call 112; refine (chunk_in' _ _ _ _ (1 + kd) _ (by omega) (by omega) (by omega) _).mono ?_; rintro e w' ⟨rfl, rfl⟩)
  obtain ⟨d, hdd2⟩ : ∃ d, d = mD1 w.heap.size (w.heap.size + 1) W rb o2 cap2 kd D states := ⟨_, rfl⟩
  rw [← hdd2] at hd2 hJ2
  have fp : d.pb = w.heap.size := by rw [hdd2]; rfl
  have fm : d.mv = w.heap.size + 1 := by rw [hdd2]; rfl
  have fs : d.sb = W.heap.size := by rw [hdd2]; rfl
  have fn : d.nb = W.heap.size + 1 := by rw [hdd2]; rfl
  have fr : d.rb = rb := by rw [hdd2]; rfl
  have fo : d.ro = o2 := by rw [hdd2]; rfl
  have fl : d.l = states := by rw [hdd2]; rfl
  have fc : d.cap = cap2 := by rw [hdd2]; rfl
  have fk : d.k = 1 + kd := by rw [hdd2]; rfl
  have fD : d.d1 = D := by rw [hdd2]; rfl
  have fw : d.w0 = mW2 W rb o2 states.length cap2 (1 + (kd : Int)) := by rw [hdd2]; rfl
  clear hdd2
  have gIown := MD.J_own (c := d) (fun (xs : List Nat) i => xs = List.range i)
  have gIyown := MD.J_own (c := d) (fun (x : List Nat × Nat) i => x = (List.range i, i) ∧ i * (1 + kd) < states.length)
  have gIzown := MD.J_own (c := d) (fun (x : List Nat × Nat × Act) i => x = (List.range i, i, aM2 w W rb o1 o2 cuts.length states.length cap1 cap2 kd D (.slice (some ⟨rb, o2 + i * (1 + kd), none⟩) (min (1 + kd) (states.length - i * (1 + kd))) (min (1 + kd) (states.length - i * (1 + kd))))) ∧ i * (1 + kd) < states.length)
  rw [fw] at gIown gIyown gIzown
  refine wpIn_rangeFunc_st2 (α := Nat) rfl (by omega) (gf := 152) (lb := #[.pointer (some ⟨W.heap.size, 0, none⟩), .pointer (some ⟨W.heap.size + 1, 0, none⟩)]) rfl trivial (enters_of Tryz.func152 (by kernel_rfl) rfl) (encs := fun i => #[.slice (some ⟨rb, o2 + i * (1 + kd), none⟩) (min (1 + kd) (states.length - i * (1 + kd))) (min (1 + kd) (states.length - i * (1 + kd)))]) (S := fun xs => states.length ≤ xs.length * (1 + kd)) (Sp := fun _ => False) (fun x => rfl)
   (fun xs W => ∃ i, xs = List.range i ∧ d.J i W) (fun x W => ∃ i, (x = (List.range i, i) ∧ i * (1 + kd) < states.length) ∧ d.J i W) (fun _ _ _ => False) (fun x W' => ∃ i, (x = (List.range i, i, aM2 w W rb o1 o2 cuts.length states.length cap1 cap2 kd D (.slice (some ⟨rb, o2 + i * (1 + kd), none⟩) (min (1 + kd) (states.length - i * (1 + kd))) (min (1 + kd) (states.length - i * (1 + kd))))) ∧ i * (1 + kd) < states.length) ∧ d.J i W') gIzown gIown gIyown (fun _ => ⟨fun _ _ _ h _ => h, fun _ _ _ _ _ h _ _ => h⟩) ⟨0, rfl, hJ2⟩ ?seq2 ?assign2 ?body2 ?done2 ?stop2
  case stop2 => exact fun _ _ _ _ _ hS => hS.elim
  case seq2 =>
   intro l D2 ready dn hY W' hI hR
   obtain ⟨i2, hi, hj⟩ := hI
   have hi0 : i2 = 0 := by
    have := congrArg List.length hi
    simpa using this.symm
   subst hi0
   have := chunk1_in (5 - 1) l W.heap.size (W.heap.size + 1) rb o2 states.length cap2 (1 + kd) (by omega) (by omega) (by omega) (fun i W => d.J i W ∧ RecAt l D2 ready W)
    (fun i W h => by
     have h5 := MD.at_ hd2 h.1
     rw [fs, fn, fr, fo, fl, fc, fk] at h5
     exact ⟨h5.2.1, h5.2.2.1⟩) hc2 (fun i W h => ⟨by
     obtain ⟨zs, sr, sc, h5⟩ := h.1
     exact ⟨zs, sr, sc, h5.drew⟩, h.2⟩) (fun i W h hlt => by
     refine YieldAt.mono (hY (List.range i) i W ⟨i, ⟨rfl, hlt⟩, h.1⟩ h.2) ?_
     rintro e W' (⟨k1, ⟨i2, k2, k3⟩, k4⟩ | ⟨_, code, k, _⟩)
     ·have : i2 = i + 1 := by
       have := congrArg List.length k2
       simpa using this.symm
      subst this
      exact ⟨k1, k3, k4⟩
     ·exact k.elim) W' ⟨hj, hR⟩
   refine this.mono ?_
   rintro e W'' ⟨hv, i, k1, k2, k3, k4⟩
   exact ⟨hv, .inl ⟨List.range i, by simpa using k1, ⟨i, rfl, k3⟩, k4⟩⟩
  case assign2 =>
   rintro l pre x W' ⟨i, ⟨e, hlt⟩, hj⟩
   simp only [Prod.mk.injEq] at e
   obtain ⟨rfl, rfl⟩ := e
   gi_wp2
   exact ⟨KeepsFrom.refl _ _, x, ⟨rfl, hlt⟩, hj⟩
  case body2 =>
   rintro l pre x a' W' ⟨i, ⟨e, hlt⟩, hj⟩
   simp only [Prod.mk.injEq] at e
   obtain ⟨rfl, rfl, rfl⟩ := e
   obtain ⟨zs, sr, sc, hDD⟩ := hj
   have hA := MD.at_ hd2 ⟨zs, sr, sc, hDD⟩
   rw [fp, fm, fs, fn, fr, fo, fl, fc, fk] at hA
   obtain ⟨a1, _, _, a4, a5⟩ := hA
   obtain ⟨e, he⟩ : ∃ e, e = min (1 + kd) (states.length - x * (1 + kd)) := ⟨_, rfl⟩
   have he1 : 1 ≤ e := by omega
   have heb : e ≤ 2097153 := by omega
   have hoff : x * (1 + kd) + e ≤ states.length := by omega
   obtain ⟨of_, hof⟩ : ∃ of_, of_ = x * (1 + kd) := ⟨_, rfl⟩
   rw [← hof] at hoff
   have hget : ∀ j, j < states.length → ∃ y : Nat, W'.cell? ⟨rb, o2 + j, none⟩ = some (.int .i64 y) ∧ states.getD j 0 = (y : Int) ∧ y < 2097152 := fun j hj => by
    have hb := hb2 (states.getD j 0) (by rw [List.getD_eq_getElem?_getD, List.getElem?_eq_getElem hj]; exact List.getElem_mem _)
    obtain ⟨y, hy⟩ := Int.eq_ofNat_of_zero_le hb.1
    exact ⟨y, by rw [a4 j hj, hy], hy, by omega⟩
   obtain ⟨y0, hy0, hy0v, hyb⟩ := hget of_ (by omega)
   obtain ⟨xs, hxs⟩ : ∃ xs : List Int, xs = ((states.drop (of_ + 1)).take (e - 1)).map (· - 1) := ⟨_, rfl⟩
   have hxl : xs.length = e - 1 := by rw [hxs, List.length_map, List.length_take, List.length_drop]; omega
   have hxg : ∀ j, j < e - 1 → ∃ y : Nat, W'.cell? ⟨rb, o2 + of_ + 1 + j, none⟩ = some (.int .i64 y) ∧ xs[j]? = some ((y : Int) - 1) ∧ y < 2097152 := fun j hj => by
    obtain ⟨y, h5, h6, h7⟩ := hget (of_ + 1 + j) (by omega)
    refine ⟨y, by rw [show o2 + of_ + 1 + j = o2 + (of_ + 1 + j) by omega]; exact h5, ?_, h7⟩
    rw [hxs, List.getElem?_map, List.getElem?_take_of_lt (by omega), List.getElem?_drop, ← h6, List.getD_eq_getElem?_getD, List.getElem?_eq_getElem (by omega)]; rfl
   have hxb : ∀ v ∈ xs, -1 ≤ v ∧ v < 2097152 := fun v hv => by
    obtain ⟨j, hj, rfl⟩ := List.mem_iff_getElem.1 hv
    obtain ⟨y, _, h6, h7⟩ := hxg j (by omega)
    rw [List.getElem?_eq_getElem hj, Option.some.injEq] at h6
    rw [h6]; omega
   obtain ⟨o3, hif, ho3⟩ : ∃ o3, (if e = 1 then some (⟨rb, o2 + of_, none⟩ : Addr) else some ⟨rb, o2 + of_ + 1, none⟩) = some ⟨rb, o3, none⟩ ∧ (0 < e - 1 → o3 = o2 + of_ + 1) := by
    by_cases h1 : e = 1
    ·exact ⟨o2 + of_, by rw [if_pos h1], by omega⟩
    ·exact ⟨o2 + of_ + 1, by rw [if_neg h1], fun _ => rfl⟩
   have hwz : W.heap.size ≤ W'.heap.size := by have := hDD.chg.size; rw [fw] at this; simp at this; omega
   have hrbW : rb < W'.heap.size := by omega
   have HXG := hide2 hxg
   have HDD := hide2 hDD
   have HXB := hide2 hxb
   have Hhe := hide2 he
   have Hhof := hide2 hof
   have HY0 := hide2 hy0v
   have HXS := hide2 hxs
   simp only [aM2]
   rw [← he, ← hof]
   clear hxg hDD hxb hget hxs a4 he hof h1 h2 hJ2 gIown gIyown gIzown hy0v
   gi_wp2
   gi_loopw [53] (fun jv wr => ∃ (j : Nat) (na : Option Addr) (nc : Nat), jv = .int .i64 j ∧ j ≤ e - 1 ∧ Hid (Und W' wr W'.heap.size ((y0 : Int) - 1) xs j na nc)) (fun jv _ => e - 1 - (intOf jv).toNat)
   case atStart => exact ⟨0, none, 0, rfl, Nat.zero_le _, hide2 (Und.start W' _ xs)⟩
   case round =>
    obtain ⟨j, na, nc, rfl, hj, HU⟩ := hrel
    have u0 := HU.out.c0
    have u1 := HU.out.c1
    have uf := HU.out.fr
    by_cases hlj : j < e - 1
    ·obtain ⟨y, hy, hxj, hyb2⟩ := HXG.out j hlj
     have hyc : wr.cell? ⟨rb, o3 + j, none⟩ = some (.int .i64 y) := by
      rw [ho3 (by omega)]
      exact (HU.out.below.cell (p := ⟨rb, o2 + of_ + 1 + j, none⟩) hrbW).trans hy
     obtain ⟨na2, nc2, w5, hrun, hrow, hch, hmv⟩ := append_one (w := wr) 24 3 (.int .i64 0) 8 info_int rfl Tryz.underlying24 (by omega) HU.out.row (.int .i64 ((y : Int) - 1)) rfl (by omega) 24 3
     obtain ⟨k1, k2, k3⟩ := HU.out.step _ hxj hrow hch hmv
     have Hrun := hide2 hrun
     have K1 := hide2 k1
     clear hrun hrow hch hmv k1 hy hxj
     gi_wp2_with (gi_at_builtin; refine wpListIn_append_run rfl _ _ _ _ rfl _ _ _ rfl rfl Hrun.out ?_)
     go_roundw
     case rel => exact ⟨j + 1, na2, nc2, by go_num, by omega, K1⟩
     case measure => simp [intOf]; omega
    ·obtain rfl : j = e - 1 := by omega
     have hDD := HDD.out
     have hU : Und W' wr.drew W'.heap.size ((y0 : Int) - 1) xs xs.length na nc := by rw [hxl]; exact HU.out.drew
     obtain ⟨sr2, sc2, W2, hrun, hrow, hch, hmv⟩ := append_new (w := wr.drew) 149 153 _ 2 32 info_stateM rfl (by omega) Tryz.underlying149 (by omega) (hDD.row.below hU.below) [.int .i64 ((y0 : Int) - 1), .slice na (e - 1) nc] rfl (fun u hu => by
      simp only [List.mem_cons, List.not_mem_nil, or_false] at hu
      rcases hu with rfl | rfl <;> rfl) (by
       have h5 : x ≤ x * (1 + kd) := Nat.le_mul_of_pos_right _ (by omega)
       omega) 149 153
     have hrow' := hrow
     rw [← hxl] at hrow'
     obtain ⟨g1, g2, g3, g4, g5⟩ := MD.D.step hd2 hDD (by rw [fk, fl]; exact hlt) hU (by omega) HXB.out (by rw [hxl, fk, fl, ← Hhe.out]; omega) (by unfold Sg.stV; rw [fk, fl, ← Hhe.out, ← Hhof.out, HY0.out, ← HXS.out]) hrow' hch hmv
     rw [fp] at g1 g2 g3 g4 g5
     rw [fm] at g5
     have hp1 : wr.cell? ⟨w.heap.size, 1, none⟩ = some (.slice sr x sc) := by
      have h5 := hDD.cell
      rw [fp] at h5
      exact (HU.out.below.cell (p := ⟨w.heap.size, 1, none⟩) (cell_lt h5)).trans h5
     have hm1 : wr.cell? ⟨w.heap.size + 1, 0, none⟩ = some (.pointer (some ⟨w.heap.size, 0, none⟩)) := (HU.out.below.cell (p := ⟨w.heap.size + 1, 0, none⟩) (cell_lt a1)).trans a1
     have hsvs : W'.heap.size < wr.heap.size := cell_lt u0
     have hnsr : ∀ j, ¬ rowT sr W'.heap.size j := by
      intro j t
      obtain ⟨o, e5⟩ := t
      have h5 := hDD.row.lt e5
      omega
     have b2 : W2.cell? ⟨W'.heap.size, 0, none⟩ = some (.int .i64 ((y0 : Int) - 1)) := (hch.cell _ _ hsvs (hnsr _)).trans u0
     have b3 : W2.cell? ⟨W'.heap.size, 1, none⟩ = some (.slice na (e - 1) nc) := (hch.cell _ _ hsvs (hnsr _)).trans u1
     have b1 := g5
     obtain ⟨W5, hW5⟩ : ∃ W5, W2.setCell ⟨w.heap.size, 1, none⟩ (.slice sr2 (x + 1) sc2) = W5 := ⟨_, rfl⟩
     have hne1 : w.heap.size ≠ W'.heap.size := by have := cell_lt a1; omega
     have t1 : W5.cell? ⟨w.heap.size + 1, 0, none⟩ = some (.pointer (some ⟨w.heap.size, 0, none⟩)) := by
      rw [← hW5]
      exact (World.cell?_setCell_other _ _ _ _ (fun e => by have := congrArg Addr.block e; simp at this)).trans b1
     have t2 : W5.cell? ⟨W'.heap.size, 0, none⟩ = some (.int .i64 ((y0 : Int) - 1)) := by
      rw [← hW5]
      exact (World.cell?_setCell_other _ _ _ _ (fun e => by have := congrArg Addr.block e; simp at this; omega)).trans b2
     have t3 : W5.cell? ⟨W'.heap.size, 1, none⟩ = some (.slice na (e - 1) nc) := by
      rw [← hW5]
      exact (World.cell?_setCell_other _ _ _ _ (fun e => by have := congrArg Addr.block e; simp at this; omega)).trans b3
     rw [hW5] at g1 g2
     have G1 := hide2 g1
     have G2 := hide2 g2
     have Hrun := hide2 hrun
     have hp1' : ∀ o, (wr.alloc o).cell? ⟨w.heap.size, 1, none⟩ = some (.slice sr x sc) := fun o => oldCell o hp1
     clear hrun hrow hrow' hch hmv g1 g2 g5 hDD hU hnsr
     gi_wp2
     refine wpIn_round_held (S := fun w' => w'.cell? ⟨w.heap.size + 1, 0, none⟩ = some (.pointer (some ⟨w.heap.size, 0, none⟩)) ∧ w'.cell? ⟨W'.heap.size, 0, none⟩ = some (.int .i64 ((y0 : Int) - 1)) ∧ w'.cell? ⟨W'.heap.size, 1, none⟩ = some (.slice na (e - 1) nc)) (by kernel_rfl) (by kernel_rfl) (by rintro ⟨a, w, h⟩; exact h) ⟨hm1, u0, u1⟩ (fun hHeld => ?_)
     refine wpAnyH_take (i := 0) (v := ?_) rfl (by kernel_rfl) (by kernel_rfl) (by kernel_rfl) (fun _ _ _ h => h) (Or.inl ⟨by rfl, ?_⟩) (by assumption) ?_
     rotate_left
     ·intro w' hSw
      obtain ⟨q1, q2, q3⟩ := hSw
      go_simp
      try with_reducible rfl
     try simp only [Act.put, List.setIfInBounds_toArray, List.set_cons_zero, List.set_cons_succ]
     refine wpAnyH_take (i := 1) (v := ?_) rfl (by kernel_rfl) (by kernel_rfl) (by kernel_rfl) (fun _ _ _ h => h) (Or.inl ⟨by rfl, ?_⟩) (by assumption) ?_
     rotate_left
     ·intro w' hSw
      obtain ⟨q1, q2, q3⟩ := hSw
      go_simp
      try with_reducible rfl
     try simp only [Act.put, List.setIfInBounds_toArray, List.set_cons_zero, List.set_cons_succ]
     refine wpAnyH_take (i := 2) (v := ?_) rfl (by kernel_rfl) (by kernel_rfl) (by kernel_rfl) (fun _ _ _ h => h) (Or.inl ⟨by rfl, ?_⟩) (by assumption) ?_
     rotate_left
     ·intro w' hSw
      obtain ⟨q1, q2, q3⟩ := hSw
      go_simp
      try with_reducible rfl
     try simp only [Act.put, List.setIfInBounds_toArray, List.set_cons_zero, List.set_cons_succ]
     refine wpAnyH_take (i := 3) (v := ?_) rfl (by kernel_rfl) (by kernel_rfl) (by kernel_rfl) (fun _ _ _ h => h) (Or.inl ⟨by rfl, ?_⟩) (by assumption) ?_
     rotate_left
     ·intro w' hSw
      obtain ⟨q1, q2, q3⟩ := hSw
      go_simp
      try with_reducible rfl
     try simp only [Act.put, List.setIfInBounds_toArray, List.set_cons_zero, List.set_cons_succ]
     refine wpAnyH_take (i := 5) (v := ?_) rfl (by kernel_rfl) (by kernel_rfl) (by kernel_rfl) (fun _ _ _ h => h) (Or.inl ⟨by rfl, ?_⟩) (by assumption) ?_
     rotate_left
     ·intro w' hSw
      obtain ⟨q1, q2, q3⟩ := hSw
      go_simp
      try with_reducible rfl
     try simp only [Act.put, List.setIfInBounds_toArray, List.set_cons_zero, List.set_cons_succ]
     refine wpAnyH_ready (rs := [4, 6]) (by kernel_rfl) (by simp) ?_
     refine AllReadyH.cons rfl (fun K hK => ?_) (AllReadyH.cons rfl (fun K hK => ?_) AllReadyH.nil)
     ·go_simp
      refine hK.out _ _ ⟨hm1, u0, u1⟩ (fun hHeld => ?_)
      clear hK
      try simp only [Act.put, List.setIfInBounds_toArray, List.set_cons_zero, List.set_cons_succ]
      refine wpAnyH_ready (rs := [6]) (by kernel_rfl) (by simp) ?_
      refine AllReadyH.cons rfl (fun K hK => ?_) AllReadyH.nil
      go_simp
      refine hK.out _ _ ⟨oldCell _ hm1, oldCell _ u0, oldCell _ u1⟩ (fun hHeld => ?_)
      clear hK
      try simp only [Act.put, List.setIfInBounds_toArray, List.set_cons_zero, List.set_cons_succ]
      refine wpAnyH_ready (rs := [7]) (by kernel_rfl) (by simp) ?_
      refine AllReadyH.cons rfl (fun K hK => ?_) AllReadyH.nil
      refine step_append_run rfl _ _ _ _ rfl _ _ _ rfl rfl Hrun.out ?_
      refine hK.out _ _ ⟨b1, b2, b3⟩ (fun hHeld => ?_)
      clear hK
      try simp only [Act.put, List.setIfInBounds_toArray, List.set_cons_zero, List.set_cons_succ]
      refine wpAnyH_take (i := 8) (v := ?_) rfl (by kernel_rfl) (by kernel_rfl) (by kernel_rfl) (fun _ _ _ h => h) (Or.inl ⟨by rfl, ?_⟩) (by assumption) ?_
      rotate_left
      ·intro w' hSw
       obtain ⟨q1, q2, q3⟩ := hSw
       go_simp
       try with_reducible rfl
      try simp only [Act.put, List.setIfInBounds_toArray, List.set_cons_zero, List.set_cons_succ]
      refine wpAnyH_take (i := 9) (v := ?_) rfl (by kernel_rfl) (by kernel_rfl) (by kernel_rfl) (fun _ _ _ h => h) (Or.inl ⟨by rfl, ?_⟩) (by assumption) ?_
      rotate_left
      ·intro w' hSw
       obtain ⟨q1, q2, q3⟩ := hSw
       go_simp
       try with_reducible rfl
      try simp only [Act.put, List.setIfInBounds_toArray, List.set_cons_zero, List.set_cons_succ]
      refine wpAnyH_ready (rs := [10]) (by kernel_rfl) (by simp) ?_
      refine AllReadyH.cons rfl (fun K hK => ?_) AllReadyH.nil
      go_simp
      refine hK.out _ _ ⟨t1, t2, t3⟩ (fun hHeld => ?_)
      clear hK
      refine wpAnyH_done (by kernel_rfl) ?_ _
      gi_wp2
      exact ⟨⟨G2.out.size, fun k o _ hk ho => G2.out.same k o hk ho⟩, x + 1, by rw [List.range_succ], _, _, _, G1.out⟩
     ·go_simp
      refine hK.out _ _ ⟨oldCell _ hm1, oldCell _ u0, oldCell _ u1⟩ (fun hHeld => ?_)
      clear hK
      try simp only [Act.put, List.setIfInBounds_toArray, List.set_cons_zero, List.set_cons_succ]
      refine wpAnyH_ready (rs := [4]) (by kernel_rfl) (by simp) ?_
      refine AllReadyH.cons rfl (fun K hK => ?_) AllReadyH.nil
      go_simp
      refine hK.out _ _ ⟨oldCell _ hm1, oldCell _ u0, oldCell _ u1⟩ (fun hHeld => ?_)
      clear hK
      try simp only [Act.put, List.setIfInBounds_toArray, List.set_cons_zero, List.set_cons_succ]
      refine wpAnyH_ready (rs := [7]) (by kernel_rfl) (by simp) ?_
      refine AllReadyH.cons rfl (fun K hK => ?_) AllReadyH.nil
      refine step_append_run rfl _ _ _ _ rfl _ _ _ rfl rfl Hrun.out ?_
      refine hK.out _ _ ⟨b1, b2, b3⟩ (fun hHeld => ?_)
      clear hK
      try simp only [Act.put, List.setIfInBounds_toArray, List.set_cons_zero, List.set_cons_succ]
      refine wpAnyH_take (i := 8) (v := ?_) rfl (by kernel_rfl) (by kernel_rfl) (by kernel_rfl) (fun _ _ _ h => h) (Or.inl ⟨by rfl, ?_⟩) (by assumption) ?_
      rotate_left
      ·intro w' hSw
       obtain ⟨q1, q2, q3⟩ := hSw
       go_simp
       try with_reducible rfl
      try simp only [Act.put, List.setIfInBounds_toArray, List.set_cons_zero, List.set_cons_succ]
      refine wpAnyH_take (i := 9) (v := ?_) rfl (by kernel_rfl) (by kernel_rfl) (by kernel_rfl) (fun _ _ _ h => h) (Or.inl ⟨by rfl, ?_⟩) (by assumption) ?_
      rotate_left
      ·intro w' hSw
       obtain ⟨q1, q2, q3⟩ := hSw
       go_simp
       try with_reducible rfl
      try simp only [Act.put, List.setIfInBounds_toArray, List.set_cons_zero, List.set_cons_succ]
      refine wpAnyH_ready (rs := [10]) (by kernel_rfl) (by simp) ?_
      refine AllReadyH.cons rfl (fun K hK => ?_) AllReadyH.nil
      go_simp
      refine hK.out _ _ ⟨t1, t2, t3⟩ (fun hHeld => ?_)
      clear hK
      refine wpAnyH_done (by kernel_rfl) ?_ _
      gi_wp2
      exact ⟨⟨G2.out.size, fun k o _ hk ho => G2.out.same k o hk ho⟩, x + 1, by rw [List.range_succ], _, _, _, G1.out⟩
  case done2 =>
   rintro D2 xs W'' hD2 hS2 ⟨i2, rfl, zs, sr, sc, hDD⟩ hK2
   have hD2' : (mW2 W rb o2 states.length cap2 (1 + (kd : Int))).heap.size ≤ D2 := hD2
   have hDlt : D < W.heap.size := (Array.getElem?_eq_some_iff.1 hK).1
   have hz2 : (mW2 W rb o2 states.length cap2 (1 + (kd : Int))).heap.size = W.heap.size + 2 := by simp
   have hdfr := hDD.dfr
   rw [fD] at hdfr
   have hK1 : (W''.putObj D2 (.deferred none)).heap[D]? = some (.deferred (some [])) := (World.putObj_heap_other (by omega)).trans hdfr
   have hC := HC.out
   have hA := MD.at_ hd2 ⟨zs, sr, sc, hDD⟩
   rw [fp, fm] at hA
   have q1 := hA.1
   have hi : 2 * i = cuts.length := by
    have h5 := hC.le
    rw [el] at h5
    simp only [List.length_range] at hS
    omega
   have hbW : Below w.heap.size w W := by
    have h5 : Below w.heap.size w c.w0 := by
     rw [ew]
     exact (((((Below.refl _ _).alloc (Nat.le_refl _) _).alloc (by simp) _).alloc (by simp; omega) _).alloc (by simp; omega) _).alloc (by simp; omega) _
    refine h5.trans (hC.chg.below (by omega) (fun k o hk t => ?_))
    rw [ep, ek] at t; omega
   have hbm : Below W.heap.size W d.w0 := by
    rw [fw]
    exact ((Below.refl _ _).alloc (Nat.le_refl _) _).alloc (by simp) _
   have hbW2 : Below w.heap.size w W'' := by
    refine (hbW.trans (hbm.mono (by omega))).trans (hDD.chg.below (by rw [fw, hz2]; omega) (fun k o hk t => ?_))
    rw [fp] at t; omega
   have hmade : Made w W'' w.heap.size cs zs cuts.length states.length := by
    refine ⟨⟨cr, cc, ?_, ?_⟩, ⟨sr, sc, ?_, by rw [hDD.len]; exact hDD.row⟩, hDD.rows, hC.bd, hDD.bd, by rw [hC.len]; exact hi, ?_, hbW2, Nat.le_refl _⟩
    ·have h5 := hC.cell
     rw [ep] at h5
     rw [hC.len, hDD.chg.cell _ _ (by rw [fw, hz2]; omega) (fun t => by have := t.2; omega)]
     exact (hbm.cell (p := ⟨w.heap.size, 0, none⟩) (cell_lt h5)).trans h5
    ·rw [hC.len]
     refine (hC.row.below hbm).of hDD.chg (fun rb2 ro j e t => ?_)
     have h5 := hC.new rb2 ro e
     have h6 := t.1
     rw [fp] at h6
     omega
    ·have h5 := hDD.cell
     rw [fp] at h5
     rw [hDD.len]; exact h5
    ·rw [hDD.sum, fl, fk]
     simp only [List.length_range] at hS2
     omega
   have k1 := kept_put (o' := .deferred none) hK2 rfl rfl
   have k2 := kept_put (o' := .deferred none) hK1 rfl rfl
   have hDw : w.heap.size ≤ D := by
    have h5 : c.w0.heap.size ≤ D := by rw [ew]; exact hD
    omega
   have hD2w : w.heap.size ≤ D2 := by omega
   have hfin := (hmade.kept k1 (below_put hbW2 hD2w _)).kept k2 (below_put (below_put hbW2 hD2w _) hDw _)
   have hkdv := hC.kdv
   have hvals : Sg.ValsOk cuts states cs (zs.map (·.1)) := by
    have v1 := hC.val
    have v2 := hDD.val
    have v3 := hDD.few
    have v4 := hDD.len
    rw [el] at v1
    rw [fl, fk] at v2 v3
    have e1 : cuts.length / 2 = i := by omega
    have e2 : (zs.map (·.1)).length = i2 := by rw [List.length_map]; exact v4
    simp only [List.length_range] at hS2
    refine ⟨by rw [e1]; exact v1, ?_, ?_, ?_⟩
    ·rw [e2, ← hkdv]; exact v2
    ·rw [e2, ← hkdv]; exact hS2
    ·rw [e2, ← hkdv]; exact v3
   have HF := hide2 hfin
   have HVals := hide2 hvals
   clear hfin hmade hvals hkdv hC hDD HC hA gIown gIyown gIzown hJ2 h1 h2
   gi_wp2
   refine ⟨by simp, .inl ⟨_, _, rfl, run_takeDeferred hK2, ?_⟩⟩
   refine ⟨by simp, .inl ⟨_, _, rfl, run_takeDeferred hK1, ?_⟩⟩
   exact ⟨_, results_tmp rfl _ _ _, _, cs, zs, rfl, HF.out, HVals.out⟩
end Go.Proofs.YtlhokghgicgppaaGreatDoor
