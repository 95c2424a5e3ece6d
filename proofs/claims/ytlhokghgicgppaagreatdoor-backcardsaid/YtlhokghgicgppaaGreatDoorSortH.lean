/- The library's sort at runes: order2Ordered, medianOrdered, medianAdjacentOrdered, choosePivotOrdered. -/
/- The library's sort at runes: breakPatternsOrdered. -/
/- The library's sort at runes: pdqsortOrdered, slices.Sort. -/
import Derived.Test.YtlhokghgicgppaaGreatDoorSortE
import Derived.Test.YtlhokghgicgppaaGreatDoorScal3
import Derived.Laws.Bits64b
import Derived.Lib.ItoaNum
set_option linter.unusedSimpArgs false
set_option linter.unusedVariables false
set_option maxRecDepth 100000
set_option maxHeartbeats 4000000
namespace Go.Proofs.YtlhokghgicgppaaGreatDoor
open Go.RowKit Go.Extern Go.Sort
theorem SS.other {w : World} {blk off n : Nat} {W : World} {d : Array Int} (h : SS w blk off n W d) {q o : Nat} (hq : w.heap.size ≤ q) (v : Value) : SS w blk off n (W.setCell ⟨q, o, none⟩ v) d := by
  have hb := h.blk
  refine ⟨h.chg.trans_new (Chg.setCell1 (T := fun i _ => i = q) rfl v) (fun i o hi e => by omega), h.sz, fun t ht => ?_, fun t ht => by rw [World.frozen?_setCell]; exact h.frz t ht, h.blk⟩
  exact (World.cell?_setCell_other _ _ _ _ (fun e => by have := congrArg Addr.block e; simp at this; omega)).trans (h.cell t ht)
structure Cnt (W : World) (q : Nat) (s : Int) : Prop where
  c : W.cell? ⟨q, 0, none⟩ = some (.int .i64 s)
  f : W.frozen? ⟨q, 0, none⟩ = false
  lo : 0 ≤ s
  hi : s ≤ 1000
theorem Cnt.drewN {W : World} {q : Nat} {s : Int} (h : Cnt W q s) (k : Nat) : Cnt (W.drewN k) q s := ⟨by rw [World.cell?_drewN]; exact h.c, by rw [World.frozen?_drewN]; exact h.f, h.lo, h.hi⟩
theorem order2_any (w : World) (blk off cap n a b q : Nat) (s : Int) (W : World) (d : Array Int) (h : SS w blk off n W d) (ha : a < n) (hb : b < n) (hq : w.heap.size ≤ q) (hc : Cnt W q s) (hs : s ≤ 900) :
    Calls Tryz.prog 227 #[.slice (some ⟨blk, off, none⟩) n cap, .int .i64 a, .int .i64 b, .pointer (some ⟨q, 0, none⟩)] W fun e W' => ∃ x y : Nat, e = .returned (.tuple #[.int .i64 x, .int .i64 y]) ∧ ((x = a ∧ y = b) ∨ (x = b ∧ y = a)) ∧ Hid (SS w blk off n W' d ∧ ∃ s', Cnt W' q s' ∧ s' ≤ s + 1) := by
  obtain ⟨G, hG, hcl, hf⟩ := h.fam
  have hc0 := hc.c
  have hc1 := hc.f
  have hlo := hc.lo
  have H := hide2 h
  have HC := hide2 hc
  clear hG h hc
  go_enter Tryz.func227, Tryz.ntmps227
  go_wp2
  go_quiet (first | (go_at_call 192; refine Calls.quiet_of_same (less_any _ _ _)))
  cases hl : ltInt (G b) (G a) with
  | true =>
    go_wp2
    go_ret2
    refine ⟨b, a, rfl, .inr ⟨rfl, rfl⟩, hide2 ⟨(H.out.drewN _).other hq _, s + 1, ⟨World.cell?_setCell_same _ _ _ (by rw [World.cell?_drewN]; exact hc0), by rw [World.frozen?_setCell, World.frozen?_drewN]; exact hc1, by omega, by omega⟩, Int.le_refl _⟩⟩
  | false =>
    go_wp2
    go_ret2
    exact ⟨a, b, rfl, .inl ⟨rfl, rfl⟩, hide2 ⟨H.out.drewN _, s, HC.out.drewN _, by omega⟩⟩
theorem median_any (w : World) (blk off cap n a b c q : Nat) (s : Int) (W : World) (d : Array Int) (h : SS w blk off n W d) (ha : a < n) (hb : b < n) (hc' : c < n) (hq : w.heap.size ≤ q) (hc : Cnt W q s) (hs : s ≤ 800) :
    Calls Tryz.prog 213 #[.slice (some ⟨blk, off, none⟩) n cap, .int .i64 a, .int .i64 b, .int .i64 c, .pointer (some ⟨q, 0, none⟩)] W fun e W' => ∃ x : Nat, e = .returned (.int .i64 x) ∧ (x = a ∨ x = b ∨ x = c) ∧ Hid (SS w blk off n W' d ∧ ∃ s', Cnt W' q s' ∧ s' ≤ s + 3) := by
  have HO : Hid (∀ (W : World) (a b : Nat) (s : Int), SS w blk off n W d → a < n → b < n → Cnt W q s → s ≤ 900 → Calls Tryz.prog 227 #[.slice (some ⟨blk, off, none⟩) n cap, .int .i64 a, .int .i64 b, .pointer (some ⟨q, 0, none⟩)] W fun e W' => ∃ x y : Nat, e = .returned (.tuple #[.int .i64 x, .int .i64 y]) ∧ ((x = a ∧ y = b) ∨ (x = b ∧ y = a)) ∧ Hid (SS w blk off n W' d ∧ ∃ s', Cnt W' q s' ∧ s' ≤ s + 1)) := hide2 fun W a b s h1 h2 h3 h4 h5 => order2_any w blk off cap n a b q s W d h1 h2 h3 hq h4 h5
  have H1 := hide2 (HO.out W a b s h ha hb hc (by omega))
  clear h hc
  go_enter Tryz.func213, Tryz.ntmps213
  go_wp2_with (first
    | (go_at_call 227; refine H1.out.mono ?_; clear H1; rintro e w1 ⟨x1, y1, rfl, hxy1, K1⟩; obtain ⟨k1, s1, k2, k3⟩ := K1.out; have H2 := hide2 (HO.out w1 y1 c s1 k1 (by omega) hc' k2 (by omega)); clear k1 k2 K1)
    | (go_at_call 227; refine H2.out.mono ?_; clear H2; rintro e w2 ⟨x2, y2, rfl, hxy2, K2⟩; obtain ⟨k1, s2, k2, k4⟩ := K2.out; have H3 := hide2 (HO.out w2 x1 x2 s2 k1 (by omega) (by omega) k2 (by omega)); clear k1 k2 K2)
    | (go_at_call 227; refine H3.out.mono ?_; clear H3; rintro e w3 ⟨x3, y3, rfl, hxy3, K3⟩))
  go_ret
  obtain ⟨k1, s3, k2, k5⟩ := K3.out
  exact ⟨y3, rfl, by omega, hide2 ⟨k1, s3, k2, by omega⟩⟩
theorem medAdj_any (w : World) (blk off cap n a q : Nat) (s : Int) (W : World) (d : Array Int) (h : SS w blk off n W d) (ha0 : 1 ≤ a) (ha : a + 1 < n) (hn : n < 1000000) (hq : w.heap.size ≤ q) (hc : Cnt W q s) (hs : s ≤ 800) :
    Calls Tryz.prog 212 #[.slice (some ⟨blk, off, none⟩) n cap, .int .i64 a, .pointer (some ⟨q, 0, none⟩)] W fun e W' => ∃ x : Nat, e = .returned (.int .i64 x) ∧ a ≤ x + 1 ∧ x ≤ a + 1 ∧ Hid (SS w blk off n W' d ∧ ∃ s', Cnt W' q s' ∧ s' ≤ s + 3) := by
  have H1 := hide2 (median_any w blk off cap n (a - 1) a (a + 1) q s W d h (by omega) (by omega) ha hq hc hs)
  have hI : ((a - 1 : Nat) : Int) = (a : Int) - 1 := by omega
  have hJ : ((a + 1 : Nat) : Int) = (a : Int) + 1 := by omega
  rw [hI, hJ] at H1
  clear h hc hI hJ
  go_enter Tryz.func212, Tryz.ntmps212
  go_wp2_with (go_at_call 213; refine H1.out.mono ?_; clear H1; rintro e w1 ⟨x1, rfl, hx, K1⟩)
  go_ret
  exact ⟨x1, rfl, by omega, by omega, K1⟩
theorem pivot_any (w : World) (blk off cap n a b : Nat) (W : World) (d : Array Int) (h : SS w blk off n W d) (hab : a + 12 < b) (hb : b ≤ n) (hn : n < 1000000) :
    Calls Tryz.prog 189 #[.slice (some ⟨blk, off, none⟩) n cap, .int .i64 a, .int .i64 b] W fun e W' => ∃ (x : Nat) (k : Int), e = .returned (.tuple #[.int .i64 x, .int .i64 k]) ∧ a ≤ x ∧ x < b ∧ (k = 0 ∨ k = 1 ∨ k = 2) ∧ Hid (SS w blk off n W' d) := by
  have hwW := h.chg.size
  have hS0 : SS w blk off n (W.alloc (.cells #[.int .i64 0] 3)) d := h.below ((Below.refl _ _).alloc (Nat.le_refl _) _)
  have hC0 : Cnt (W.alloc (.cells #[.int .i64 0] 3)) W.heap.size 0 := ⟨World.cell?_alloc_at _ _ _ _ rfl, World.frozen?_alloc_at _ _ _ _ rfl, by omega, by omega⟩
  obtain ⟨l, hl⟩ : ∃ l, b - a = l := ⟨_, rfl⟩
  have hlI : (b : Int) - (a : Int) = (l : Int) := by omega
  obtain ⟨k4, hk4⟩ : ∃ k4, l / 4 = k4 := ⟨_, rfl⟩
  have hq4 : (l : Int).tdiv 4 = (k4 : Int) := by rw [Int.tdiv_eq_ediv_of_nonneg (by omega)]; omega
  have e1 : (a : Int) + (k4 : Int) = ((a + k4 : Nat) : Int) := by omega
  have e2 : (a : Int) + (k4 : Int) * 2 = ((a + k4 * 2 : Nat) : Int) := by omega
  have e3 : (a : Int) + (k4 : Int) * 3 = ((a + k4 * 3 : Nat) : Int) := by omega
  have hbk : a + k4 * 3 + 1 < b ∧ 1 ≤ k4 := by omega
  have h8 : (8 ≤ (l : Int)) = True := eq_true (by omega)
  have HMd : Hid (∀ (W' : World) (x y z : Nat) (s : Int), SS w blk off n W' d → x < n → y < n → z < n → Cnt W' W.heap.size s → s ≤ 800 → Calls Tryz.prog 213 #[.slice (some ⟨blk, off, none⟩) n cap, .int .i64 x, .int .i64 y, .int .i64 z, .pointer (some ⟨W.heap.size, 0, none⟩)] W' fun e W' => ∃ u : Nat, e = .returned (.int .i64 u) ∧ (u = x ∨ u = y ∨ u = z) ∧ Hid (SS w blk off n W' d ∧ ∃ s', Cnt W' W.heap.size s' ∧ s' ≤ s + 3)) := hide2 fun W' x y z s h1 h2 h3 h4 h5 h6 => median_any w blk off cap n x y z _ s W' d h1 h2 h3 h4 hwW h5 h6
  have HAd : Hid (∀ (W' : World) (x : Nat) (s : Int), SS w blk off n W' d → 1 ≤ x → x + 1 < n → Cnt W' W.heap.size s → s ≤ 800 → Calls Tryz.prog 212 #[.slice (some ⟨blk, off, none⟩) n cap, .int .i64 x, .pointer (some ⟨W.heap.size, 0, none⟩)] W' fun e W' => ∃ u : Nat, e = .returned (.int .i64 u) ∧ x ≤ u + 1 ∧ u ≤ x + 1 ∧ Hid (SS w blk off n W' d ∧ ∃ s', Cnt W' W.heap.size s' ∧ s' ≤ s + 3)) := hide2 fun W' x s h1 h2 h3 h4 h5 => medAdj_any w blk off cap n x _ s W' d h1 h2 h3 hn hwW h4 h5
  have HS0 := hide2 (And.intro hS0 hC0)
  clear h hS0 hC0 hl hk4
  obtain ⟨xi, hxi⟩ : ∃ xi, a + k4 = xi := ⟨_, rfl⟩
  obtain ⟨xj, hxj⟩ : ∃ xj, a + k4 * 2 = xj := ⟨_, rfl⟩
  obtain ⟨xk, hxk⟩ : ∃ xk, a + k4 * 3 = xk := ⟨_, rfl⟩
  rw [hxi] at e1
  rw [hxj] at e2
  rw [hxk] at e3
  by_cases h50 : 50 ≤ l
  · have h50I : (50 ≤ (l : Int)) = True := eq_true (by omega)
    have H1 := hide2 (HAd.out _ xi 0 HS0.out.1 (by omega) (by omega) HS0.out.2 (by omega))
    have HX := hide2 (And.intro hxi (And.intro hxj hxk))
    clear hxi hxj hxk
    go_enter Tryz.func189, Tryz.ntmps189
    go_wp2_with (first
      | (go_at_call 212; refine H1.out.mono ?_; clear H1; rintro e w1 ⟨u1, rfl, hu1, hv1, K1⟩; obtain ⟨k1, s1, k2, k3⟩ := K1.out; have H2 := hide2 (HAd.out w1 xj s1 k1 (by have := HX.out; omega) (by have := HX.out; omega) k2 (by omega)); clear k1 k2 K1)
      | (go_at_call 212; refine H2.out.mono ?_; clear H2; rintro e w2 ⟨u2, rfl, hu2, hv2, K2⟩; obtain ⟨k1, s2, k2, k4'⟩ := K2.out; have H3 := hide2 (HAd.out w2 xk s2 k1 (by have := HX.out; omega) (by have := HX.out; omega) k2 (by omega)); clear k1 k2 K2)
      | (go_at_call 212; refine H3.out.mono ?_; clear H3; rintro e w3 ⟨u3, rfl, hu3, hv3, K3⟩; obtain ⟨k1, s3, k2, k5⟩ := K3.out; have H4 := hide2 (HMd.out w3 u1 u2 u3 s3 k1 (by have := HX.out; omega) (by have := HX.out; omega) (by have := HX.out; omega) k2 (by omega)); clear k1 k2 K3)
      | (go_at_call 213; refine H4.out.mono ?_; clear H4; rintro e w4 ⟨u4, rfl, hu4, K4⟩; obtain ⟨k1, s4, k2, k6⟩ := K4.out; have kc := k2.c; have HK := hide2 k1; clear k1 k2 K4))
    all_goals go_ret2
    all_goals exact ⟨u4, _, rfl, by have := HX.out; omega, by have := HX.out; omega, by simp, HK⟩
  · have h50I : (50 ≤ (l : Int)) = False := eq_false (by omega)
    have H4 := hide2 (HMd.out _ xi xj xk 0 HS0.out.1 (by omega) (by omega) (by omega) HS0.out.2 (by omega))
    have HX := hide2 (And.intro hxi (And.intro hxj hxk))
    clear hxi hxj hxk
    go_enter Tryz.func189, Tryz.ntmps189
    go_wp2_with (go_at_call 213; refine H4.out.mono ?_; clear H4; rintro e w4 ⟨u4, rfl, hu4, K4⟩; obtain ⟨k1, s4, k2, k6⟩ := K4.out; have kc := k2.c; have HK := hide2 k1; clear k1 k2 K4)
    all_goals go_ret2
    all_goals exact ⟨u4, _, rfl, by have := HX.out; omega, by have := HX.out; omega, by simp, HK⟩
end Go.Proofs.YtlhokghgicgppaaGreatDoor
namespace Go.Proofs.YtlhokghgicgppaaGreatDoor
open Go.RowKit Go.Extern Go.Sort
theorem xor_range (x y : Int) : 0 ≤ bits .xor .u64 x y ∧ bits .xor .u64 x y < 18446744073709551616 := by
  show 0 ≤ IntKind.u64.wrap _ ∧ IntKind.u64.wrap _ < 18446744073709551616
  rw [IntKind.wrap_u64]
  omega
theorem xs_step {w : World} {blk off n q : Nat} {r : Int} {W : World} {d : Array Int} (h : SS w blk off n W d) (hq : w.heap.size ≤ q) (hc : W.cell? ⟨q, 0, none⟩ = some (.int .u64 r)) (hf : W.frozen? ⟨q, 0, none⟩ = false) (v : Int) :
    SS w blk off n (W.setCell ⟨q, 0, none⟩ (.int .u64 v)).drew d ∧ (W.setCell ⟨q, 0, none⟩ (.int .u64 v)).drew.cell? ⟨q, 0, none⟩ = some (.int .u64 v) ∧ (W.setCell ⟨q, 0, none⟩ (.int .u64 v)).drew.frozen? ⟨q, 0, none⟩ = false :=
  ⟨(h.other hq _).drew, by rw [World.cell?_drew]; exact World.cell?_setCell_same _ _ _ hc, by rw [World.frozen?_drew, World.frozen?_setCell]; exact hf⟩
theorem xorNext_any (w : World) (blk off n q : Nat) (r : Int) (W : World) (d : Array Int) (h : SS w blk off n W d) (hq : w.heap.size ≤ q) (hc : W.cell? ⟨q, 0, none⟩ = some (.int .u64 r)) (hf : W.frozen? ⟨q, 0, none⟩ = false) (h0 : 0 ≤ r) (h1 : r < 18446744073709551616) :
    Calls Tryz.prog 211 #[.pointer (some ⟨q, 0, none⟩)] W fun e W' => ∃ r' : Int, e = .returned (.int .u64 r') ∧ 0 ≤ r' ∧ r' < 18446744073709551616 ∧ Hid (SS w blk off n W' d ∧ W'.cell? ⟨q, 0, none⟩ = some (.int .u64 r') ∧ W'.frozen? ⟨q, 0, none⟩ = false) := by
  have H := hide2 h
  clear h
  go_enter Tryz.func211, Tryz.ntmps211
  go_wp2
  go_region
  have hst1 := xs_step H.out hq hc hf (bits BinOp.xor IntKind.u64 r (IntKind.u64.wrap (r * 8192)))
  have hr1 := xor_range r (IntKind.u64.wrap (r * 8192))
  generalize (World.setCell W ⟨q, 0, none⟩ (.int .u64 (bits BinOp.xor IntKind.u64 r (IntKind.u64.wrap (r * 8192))))).drew = W1 at *
  generalize bits BinOp.xor IntKind.u64 r (IntKind.u64.wrap (r * 8192)) = r1 at *
  obtain ⟨S1, c1, f1⟩ := hst1
  have HS1 := hide2 S1
  clear S1
  clear H hc hf h0 h1
  obtain ⟨h0, h1⟩ := hr1
  go_wp2
  go_region
  have hst2 := xs_step HS1.out hq c1 f1 (bits BinOp.xor IntKind.u64 r1 (r1 / 128))
  have hr2 := xor_range r1 (r1 / 128)
  generalize (World.setCell W1 ⟨q, 0, none⟩ (.int .u64 (bits BinOp.xor IntKind.u64 r1 (r1 / 128)))).drew = W2 at *
  generalize bits BinOp.xor IntKind.u64 r1 (r1 / 128) = r2 at *
  obtain ⟨S2, c2, f2⟩ := hst2
  have HS2 := hide2 S2
  clear S2
  clear HS1 c1 f1 h0 h1
  obtain ⟨h0, h1⟩ := hr2
  go_wp2
  go_region
  have hst3 := xs_step HS2.out hq c2 f2 (bits BinOp.xor IntKind.u64 r2 (IntKind.u64.wrap (r2 * 131072)))
  have hr3 := xor_range r2 (IntKind.u64.wrap (r2 * 131072))
  generalize (World.setCell W2 ⟨q, 0, none⟩ (.int .u64 (bits BinOp.xor IntKind.u64 r2 (IntKind.u64.wrap (r2 * 131072))))).drew = W3 at *
  generalize bits BinOp.xor IntKind.u64 r2 (IntKind.u64.wrap (r2 * 131072)) = r3 at *
  obtain ⟨S3, c3, f3⟩ := hst3
  have HS3 := hide2 S3
  clear S3
  go_wp2
  go_ret
  exact ⟨r3, rfl, hr3.1, hr3.2, hide2 ⟨HS3.out, c3, f3⟩⟩
theorem nextPow_any (l : Nat) (hl : 1 ≤ l) (hl2 : l < 1000000) (W : World) : Calls Tryz.prog 210 #[.int .i64 l] W fun e W' => ∃ m : Nat, e = .returned (.int .u64 m) ∧ 1 ≤ m ∧ m ≤ 2 * l ∧ W' = W := by
  have HB := hide2 (Any.bits_Len Tryz.bitsLen l W (by omega) (by omega))
  have hb := Lib.bitLenAux_bounds 64 l (by omega) (by omega)
  have hbl : Lib.bitLen (l : Int).toNat = Lib.bitLenAux 64 l := rfl
  rw [hbl] at HB
  generalize Lib.bitLenAux 64 l = k at *
  go_enter Tryz.func210, Tryz.ntmps210
  go_wp2_with (go_at_call 176; refine HB.out.mono ?_; clear HB; rintro e w1 ⟨rfl, rfl⟩)
  go_ret
  obtain ⟨h1, h2, h3⟩ := hb
  have hk : k ≤ 20 := by
    rcases Nat.lt_or_ge 20 k with g | g
    · have : 2 ^ 20 ≤ 2 ^ (k - 1) := Nat.pow_le_pow_right (by omega) (by omega)
      omega
    · exact g
  have e2 : 2 ^ k = 2 * 2 ^ (k - 1) := by
    obtain ⟨j, rfl⟩ : ∃ j, k = j + 1 := ⟨k - 1, by omega⟩
    rw [Nat.add_sub_cancel, Nat.pow_succ]; omega
  have e3 : 2 ^ k ≤ 2 ^ 20 := Nat.pow_le_pow_right (by omega) hk
  refine ⟨2 ^ k, ?_, by omega, by omega, rfl⟩
  rw [Nat.min_eq_left (by omega), IntKind.wrap_u64]
  have e4 : ((2 : Int) ^ k) = ((2 ^ k : Nat) : Int) := by simp
  show Ending.returned (Value.int .u64 ((2 : Int) ^ k % _)) = _
  rw [e4, Int.emod_eq_of_lt (by omega) (by omega)]
theorem w64_nat (x : Nat) (h : x < 4000000) : wrap64 (x : Int) = (x : Int) := by unfold wrap64; omega
theorem and_small (rn m1 l : Nat) (hm : m1 + 1 ≤ 2 * l) (hl : l < 1000000) (hr : rn < 18446744073709551616) : ∃ x : Nat, wrap64 (bits BinOp.and IntKind.u64 (rn : Int) (IntKind.u64.wrap (m1 : Int))) = (x : Int) ∧ x < 2 * l := by
  have hle : rn &&& m1 ≤ m1 := Nat.and_le_right
  refine ⟨rn &&& m1, ?_, by omega⟩
  have e1 : IntKind.u64.wrap (m1 : Int) = (m1 : Int) := by rw [IntKind.wrap_u64]; omega
  rw [e1, bits_and_u64_nat rn m1 hr (by omega)]
  exact w64_nat _ (by omega)
theorem sub_small (v : Int) (x l : Nat) (hv : wrap64 v = (x : Int)) (hx : x < 2 * l) (hl : l < 1000000) (hge : (l : Int) ≤ wrap64 v) : wrap64 (wrap64 v - (l : Int)) = ((x - l : Nat) : Int) := by
  rw [hv] at hge ⊢
  have e : (x : Int) - (l : Int) = ((x - l : Nat) : Int) := by omega
  rw [e]
  exact w64_nat _ (by omega)
theorem sub_lt2 (v : Int) (x l : Nat) (hv : wrap64 v = (x : Int)) (hx : x < 2 * l) (hge : (l : Int) ≤ wrap64 v) : x - l < l := by
  rw [hv] at hge; omega
theorem lt_of_not (v : Int) (x l : Nat) (hv : wrap64 v = (x : Int)) (hge : wrap64 v < (l : Int)) : x < l := by
  rw [hv] at hge; omega
theorem break_any (w : World) (blk off cap n a b : Nat) (W : World) (d : Array Int) (h : SS w blk off n W d) (hab : a + 12 < b) (hb : b ≤ n) (hn : n < 1000000) :
    Calls Tryz.prog 188 #[.slice (some ⟨blk, off, none⟩) n cap, .int .i64 a, .int .i64 b] W fun e W' => e = .returned (.tuple #[]) ∧ Hid (∃ d', SS w blk off n W' d' ∧ PermIn a b d d') := by
  have hwW := h.chg.size
  have hdz := h.sz
  obtain ⟨l, hl⟩ : ∃ l, b - a = l := ⟨_, rfl⟩
  have hlI : (b : Int) - (a : Int) = (l : Int) := by omega
  obtain ⟨k4, hk4⟩ : ∃ k4, l / 4 = k4 := ⟨_, rfl⟩
  have hq4 : (l : Int).tdiv 4 = (k4 : Int) := by rw [Int.tdiv_eq_ediv_of_nonneg (by omega)]; omega
  obtain ⟨x0, hx0⟩ : ∃ x0, a + k4 * 2 - 1 = x0 := ⟨_, rfl⟩
  have e2 : (a : Int) + (k4 : Int) * 2 = (x0 : Int) + 1 := by omega
  have h8 : (8 ≤ (l : Int)) = True := eq_true (by omega)
  have hlr : a ≤ x0 ∧ x0 + 2 < b ∧ 13 ≤ l ∧ l < 1000000 ∧ a + l = b := by omega
  have hS0 : SS w blk off n (W.alloc (.cells #[.int .u64 l] 340)) d := h.below ((Below.refl _ _).alloc (Nat.le_refl _) _)
  have hC0 : (W.alloc (.cells #[.int .u64 l] 340)).cell? ⟨W.heap.size, 0, none⟩ = some (.int .u64 l) := World.cell?_alloc_at _ _ _ _ rfl
  have hF0 : (W.alloc (.cells #[.int .u64 l] 340)).frozen? ⟨W.heap.size, 0, none⟩ = false := World.frozen?_alloc_at _ _ _ _ rfl
  have HP := hide2 (fun W => nextPow_any l (by omega) (by omega) W)
  have HN := hide2 (fun (W' : World) (r : Int) (dk : Array Int) (h1 : SS w blk off n W' dk) (h2 : W'.cell? ⟨W.heap.size, 0, none⟩ = some (.int .u64 r)) (h3 : W'.frozen? ⟨W.heap.size, 0, none⟩ = false) (h4 : 0 ≤ r) (h5 : r < 18446744073709551616) => xorNext_any w blk off n W.heap.size r W' dk h1 hwW h2 h3 h4 h5)
  have HS0 := hide2 (And.intro hS0 (And.intro hC0 hF0))
  have HD := hide2 hdz
  clear h hS0 hC0 hF0 hl hk4 hx0 hdz
  have HLR := hide2 hlr
  have hl6 := hlr.2.2.2.1
  have ha6 : a < 1000000 := by omega
  have hx6 : x0 < 1000000 := by omega
  clear hlr
  go_enter Tryz.func188, Tryz.ntmps188
  go_wp2_with (go_at_call 210; refine (HP.out _).mono ?_; rintro e w1 ⟨m, rfl, hm1, hm2, rfl⟩)
  obtain ⟨m1, hm1e⟩ : ∃ m1, m = m1 + 1 := ⟨m - 1, by omega⟩
  have hmI : (m : Int) - 1 = (m1 : Int) := by omega
  have HM : Hid (m1 + 1 ≤ 2 * l) := hide2 (by omega)
  clear hm1 hm2 hm1e
  generalize W.alloc (.cells #[.int .u64 l] 340) = W1 at *
  generalize W.heap.size = q at *
  go_loopw [9] (fun iv wr => ∃ (i : Nat) (dk : Array Int) (r : Int), iv = .int .i64 i ∧ x0 ≤ i ∧ i ≤ x0 + 3 ∧ 0 ≤ r ∧ r < 18446744073709551616 ∧ Hid (SS w blk off n wr dk ∧ wr.cell? ⟨q, 0, none⟩ = some (.int .u64 r) ∧ wr.frozen? ⟨q, 0, none⟩ = false ∧ PermIn a b d dk)) (fun iv _ => x0 + 3 - (intOf iv).toNat)
  case atStart => exact ⟨x0, d, l, by first | rfl | (congr 1; omega), Nat.le_refl _, by omega, by omega, by omega, hide2 ⟨HS0.out.1, HS0.out.2.1, HS0.out.2.2, permIn_refl _ _ _⟩⟩
  case round =>
    clear HS0 HP
    obtain ⟨i, dk, r, rfl, hi1, hi2, hr0, hr1, H⟩ := hrel
    by_cases hlt : i ≤ x0 + 2
    · have hltI : ((i : Int) ≤ (x0 : Int) + 1 + 1) = True := eq_true (by omega)
      have hi6 : i < 1000003 := by omega
      have HLt := hide2 (And.intro hlt (And.intro hi1 hi2))
      clear hlt hi1 hi2
      have HC := hide2 (HN.out _ r dk H.out.1 H.out.2.1 H.out.2.2.1 hr0 hr1)
      have HPm := hide2 H.out.2.2.2
      clear H
      go_wp2_with (go_at_call 211; refine HC.out.mono ?_; clear HC; rintro e w2 ⟨r', rfl, hr2, hr3, K2⟩; obtain ⟨rn, rfl⟩ := Int.eq_ofNat_of_zero_le hr2; have HRn : Hid (rn < 18446744073709551616) := hide2 (Int.ofNat_lt.1 hr3); clear hr2 hr3)
      all_goals obtain ⟨x, hx0, hxl⟩ := and_small rn m1 l HM.out hl6 HRn.out
      · rename_i hge
        have hx1 := sub_small _ x l hx0 hxl hl6 hge
        have hxo := sub_lt2 _ x l hx0 hxl hge
        simp only [hx1]
        clear hx0 hx1 hge
        have hS := K2.out.1
        obtain ⟨G, hG, hc, hf⟩ := hS.fam
        have HG := hide2 hG
        have HK := hide2 (And.intro hS (And.intro K2.out.2.1 K2.out.2.2))
        obtain ⟨f1, hf1⟩ : ∃ f1 : Nat, a + (x - l) = f1 := ⟨_, rfl⟩
        have hbd : f1 < n ∧ i < n ∧ a ≤ f1 ∧ f1 < b ∧ a ≤ i ∧ i < b := by have := HLR.out; have := HLt.out; omega
        have hw2 : IntKind.i64.wrap ((a : Int) + (((x - l) : Nat) : Int)) = (f1 : Int) := by rw [wr64 (by omega) (by omega)]; omega
        have hb2 : f1 < n := hbd.1
        have hb3 : i < n := hbd.2.1
        have HBd := hide2 hbd
        have hwI : (a : Int) + (((x - l) : Nat) : Int) = (f1 : Int) := by omega
        obtain ⟨y, hy⟩ : ∃ y, (w2.setCell ⟨blk, off + i, none⟩ (.int .i32 (G f1))).cell? ⟨blk, off + f1, none⟩ = some y := Option.isSome_iff_exists.1 (by rw [live_setCell, hc f1 hb2]; rfl)
        generalize (x - l) = ot at *
        clear hG hS hf1 hbd K2
        go_region
        clear hy
        go_wp2
        go_roundw
        case rel =>
          have hbd := HBd.out
          have hlt := HLt.out
          have hq' : w.heap.size ≤ q := hwW
          have hbk := HK.out.1.blk
          have hne : ∀ t, (⟨blk, t, none⟩ : Addr) ≠ ⟨q, 0, none⟩ := fun t e => by have := congrArg Addr.block e; simp at this; omega
          refine ⟨i + 1, swp dk i f1, rn, by go_num, by omega, by omega, by omega, Int.ofNat_lt.2 HRn.out, hide2 ⟨(HK.out.1.drewN 1).swap hb3 hb2 (HG.out _) (HG.out _), ?_, ?_, ?_⟩⟩
          · rw [World.cell?_drew]; exact (World.cell?_setCell_other _ _ _ _ (hne _)).trans ((World.cell?_setCell_other _ _ _ _ (hne _)).trans HK.out.2.1)
          · rw [World.frozen?_drew, World.frozen?_setCell, World.frozen?_setCell]; exact HK.out.2.2
          · exact permIn_trans _ _ _ a b HPm.out (swp_permIn dk a b i f1 hbd.2.2.2.2.1 hbd.2.2.2.2.2 hbd.2.2.1 hbd.2.2.2.1 (by rw [HK.out.1.sz]; exact hb))
        case measure => have := HLt.out; simp [intOf]; omega
      · rename_i hge
        have hxo := lt_of_not _ x l hx0 hge
        simp only [hx0]
        clear hx0 hge
        have hS := K2.out.1
        obtain ⟨G, hG, hc, hf⟩ := hS.fam
        have HG := hide2 hG
        have HK := hide2 (And.intro hS (And.intro K2.out.2.1 K2.out.2.2))
        obtain ⟨f1, hf1⟩ : ∃ f1 : Nat, a + x = f1 := ⟨_, rfl⟩
        have hbd : f1 < n ∧ i < n ∧ a ≤ f1 ∧ f1 < b ∧ a ≤ i ∧ i < b := by have := HLR.out; have := HLt.out; omega
        have hw2 : IntKind.i64.wrap ((a : Int) + ((x : Nat) : Int)) = (f1 : Int) := by rw [wr64 (by omega) (by omega)]; omega
        have hb2 : f1 < n := hbd.1
        have hb3 : i < n := hbd.2.1
        have HBd := hide2 hbd
        have hwI : (a : Int) + ((x : Nat) : Int) = (f1 : Int) := by omega
        obtain ⟨y, hy⟩ : ∃ y, (w2.setCell ⟨blk, off + i, none⟩ (.int .i32 (G f1))).cell? ⟨blk, off + f1, none⟩ = some y := Option.isSome_iff_exists.1 (by rw [live_setCell, hc f1 hb2]; rfl)
        generalize x = ot at *
        clear hG hS hf1 hbd K2
        go_region
        clear hy
        go_wp2
        go_roundw
        case rel =>
          have hbd := HBd.out
          have hlt := HLt.out
          have hq' : w.heap.size ≤ q := hwW
          have hbk := HK.out.1.blk
          have hne : ∀ t, (⟨blk, t, none⟩ : Addr) ≠ ⟨q, 0, none⟩ := fun t e => by have := congrArg Addr.block e; simp at this; omega
          refine ⟨i + 1, swp dk i f1, rn, by go_num, by omega, by omega, by omega, Int.ofNat_lt.2 HRn.out, hide2 ⟨(HK.out.1.drewN 1).swap hb3 hb2 (HG.out _) (HG.out _), ?_, ?_, ?_⟩⟩
          · rw [World.cell?_drew]; exact (World.cell?_setCell_other _ _ _ _ (hne _)).trans ((World.cell?_setCell_other _ _ _ _ (hne _)).trans HK.out.2.1)
          · rw [World.frozen?_drew, World.frozen?_setCell, World.frozen?_setCell]; exact HK.out.2.2
          · exact permIn_trans _ _ _ a b HPm.out (swp_permIn dk a b i f1 hbd.2.2.2.2.1 hbd.2.2.2.2.2 hbd.2.2.1 hbd.2.2.2.1 (by rw [HK.out.1.sz]; exact hb))
        case measure => have := HLt.out; simp [intOf]; omega
    · have hltI : ((i : Int) ≤ (x0 : Int) + 1 + 1) = False := eq_false (by omega)
      go_wp2
      go_end0
      exact ⟨rfl, hide2 ⟨dk, H.out.1, H.out.2.2.2⟩⟩
end Go.Proofs.YtlhokghgicgppaaGreatDoor
namespace Go.Proofs.YtlhokghgicgppaaGreatDoor
open Go.RowKit Go.Extern Go.Sort
theorem swoI : SWO ltInt := ⟨fun x => by simp [ltInt], fun x y z h1 h2 => by simp [ltInt] at *; omega, fun x y z h1 h2 => by simp [ltInt] at *; omega⟩
structure Left (a b : Nat) (d : Array Int) (a' b' : Nat) (dk : Array Int) : Prop where
  la : a ≤ a'
  ab : a' ≤ b'
  lb : b' ≤ b
  bel : Sort.Below ltInt a' b' dk
  cps : ∀ R, PermIn a' b' dk R → SortedIn ltInt a' b' R → PermIn a b d R ∧ SortedIn ltInt a b R
theorem Left.perm {a b : Nat} {d : Array Int} {a' b' : Nat} {dk dl : Array Int} (h : Left a b d a' b' dk) (hb : b' ≤ dk.size) (hp : PermIn a' b' dk dl) : Left a b d a' b' dl :=
  ⟨h.la, h.ab, h.lb, h.bel.perm hb hp, fun R h1 h2 => h.cps R (permIn_trans _ _ _ _ _ hp h1) h2⟩
abbrev Pdq (w : World) (blk off cap n N : Nat) : Prop := ∀ (a b lim : Nat) (W : World) (d : Array Int), b - a ≤ N → a ≤ b → b ≤ n → lim ≤ 64 → SS w blk off n W d → Sort.Below ltInt a b d →
  Calls Tryz.prog 175 #[.slice (some ⟨blk, off, none⟩) n cap, .int .i64 a, .int .i64 b, .int .i64 lim] W fun e W' => e = .returned (.tuple #[]) ∧ Hid (∃ d', SS w blk off n W' d' ∧ PermIn a b d d' ∧ SortedIn ltInt a b d')
set_option maxHeartbeats 8000000 in
theorem pdq_step (w : World) (blk off cap n N : Nat) (hn : n < 1000000) (ih : ∀ M, M < N → Pdq w blk off cap n M) : Pdq w blk off cap n N := by
  intro a b lim0 W d hN hab hb hlim hS hB
  have H0 := hide2 (And.intro hS hB)
  have HI := hide2 ih
  clear hS hB ih
  go_enter Tryz.func175, Tryz.ntmps175
  go_wp2
  go_loopw [1, 2, 3, 8, 9] (fun av bv lv wbv wpv wr => ∃ (a' b' lim : Nat) (wb wp : Bool) (dk : Array Int), av = .int .i64 a' ∧ bv = .int .i64 b' ∧ lv = .int .i64 lim ∧ wbv = .bool wb ∧ wpv = .bool wp ∧ lim ≤ 64 ∧ a' ≤ b' ∧ b' ≤ b ∧ a ≤ a' ∧ Hid (SS w blk off n wr dk ∧ Left a b d a' b' dk)) (fun av bv _ _ _ _ => (intOf bv).toNat - (intOf av).toNat)
  case atStart => exact ⟨a, b, lim0, true, true, d, rfl, rfl, rfl, rfl, rfl, hlim, hab, Nat.le_refl _, Nat.le_refl _, hide2 ⟨H0.out.1, ⟨Nat.le_refl _, hab, Nat.le_refl _, H0.out.2, fun R h1 h2 => ⟨h1, h2⟩⟩⟩⟩
  case round =>
    clear H0 hlim
    obtain ⟨a', b', lim, wb, wp, dk, rfl, rfl, rfl, rfl, rfl, hlim, hab', hbb, haa, H⟩ := hrel
    have hdz := H.out.1.sz
    by_cases h12 : b' - a' ≤ 12
    · have h12I : ((b' : Int) - (a' : Int) ≤ 12) = True := eq_true (by omega)
      have HC := hide2 (insertion_any w blk off cap n a' b' wr dk H.out.1 hab' (by omega) (by omega))
      have hso := insertionSort_holds (lt := ltInt) swoI dk a' b' hab' (by omega)
      have HR := hide2 (H.out.2.cps _ hso.1 hso.2)
      clear hso
      go_wp2_with (go_at_call 186; refine HC.out.mono ?_; clear HC; rintro e w1 ⟨rfl, k1⟩)
      refine bodyPost_ret (results_none rfl _ _ _) rfl ?_
      exact ⟨rfl, hide2 ⟨_, k1, HR.out⟩⟩
    · have h12I : ((b' : Int) - (a' : Int) ≤ 12) = False := eq_false (by omega)
      by_cases hl0 : lim = 0
      · subst hl0
        have HC := hide2 (heap_any w blk off cap n a' b' wr dk H.out.1 (by omega) (by omega) (by omega))
        have hso := heapSort_holds (lt := ltInt) swoI dk a' b' hab' (by omega)
        have HR := hide2 (H.out.2.cps _ hso.1 hso.2)
        clear hso
        go_wp2_with (go_at_call 187; refine HC.out.mono ?_; clear HC; rintro e w1 ⟨rfl, k1⟩)
        refine bodyPost_ret (results_none rfl _ _ _) rfl ?_
        exact ⟨rfl, hide2 ⟨_, k1, HR.out⟩⟩
      · have hl0I : ((lim : Int) == 0) = false := beq_eq_false_iff_ne.2 (by omega)
        go_upto_if 35 with fail
        go_cut [3] from 36 to 41 (fun lv wc => ∃ (lim1 : Nat) (d1 : Array Int), lv = .int .i64 lim1 ∧ lim1 ≤ 64 ∧ Hid (SS w blk off n wc d1 ∧ Left a b d a' b' d1))
        case first =>
          cases wb with
          | true =>
            go_wp2
            go_meet
            exact ⟨lim, dk, rfl, hlim, H⟩
          | false =>
            have HC := hide2 (break_any w blk off cap n a' b' wr dk H.out.1 (by omega) (by omega) (by omega))
            go_wp2_with (go_at_call 188; refine HC.out.mono ?_; clear HC; rintro e w1 ⟨rfl, k1⟩)
            go_meet
            obtain ⟨d1, g1, g2⟩ := k1.out
            exact ⟨lim - 1, d1, by congr 1; omega, by omega, hide2 ⟨g1, H.out.2.perm (by omega) g2⟩⟩
        case rest =>
          obtain ⟨lim1, d1, rfl, hlim1, H1⟩ := hcut
          clear H hdz
          have HC := hide2 (pivot_any w blk off cap n a' b' wc d1 H1.out.1 (by omega) (by omega) (by omega))
          go_upto_if 50 with (go_at_call 189; refine HC.out.mono ?_; clear HC; rintro e w2 ⟨pv, hk, rfl, hp1, hp2, hk3, K2⟩)
          have HL2 := hide2 (And.intro K2.out H1.out.2)
          clear K2 H1
          go_cut [11, 12] from 51 to 60 (fun pvv hv wc => ∃ (pv2 : Nat) (h2 : Int) (d2 : Array Int), pvv = .int .i64 pv2 ∧ hv = .int .i64 h2 ∧ a' ≤ pv2 ∧ pv2 < b' ∧ Hid (SS w blk off n wc d2 ∧ Left a b d a' b' d2))
          case first =>
            by_cases hk2 : hk = 2
            · subst hk2
              have HC := hide2 (reverse_any w blk off cap n a' b' w2 d1 HL2.out.1 (by omega) (by omega) (by omega))
              have hrv := reverseRange_holds d1 a' b' hab' (by rw [HL2.out.1.sz]; omega)
              have HR := hide2 hrv
              clear hrv
              go_wp2_with (go_at_call 190; refine HC.out.mono ?_; clear HC; rintro e w3 ⟨rfl, k3⟩)
              go_meet
              exact ⟨b' - 1 - (pv - a'), 1, _, by congr 1; omega, rfl, by omega, by omega, hide2 ⟨k3, HL2.out.2.perm (by rw [HL2.out.1.sz]; omega) HR.out⟩⟩
            · have hk2I : (hk == 2) = false := beq_eq_false_iff_ne.2 hk2
              go_wp2
              go_meet
              exact ⟨pv, hk, d1, rfl, rfl, hp1, hp2, HL2⟩
          case rest =>
            clear HL2 hp1 hp2 hk3 hlim
            obtain ⟨pv2, h2, d2, rfl, rfl, hp1, hp2, H2⟩ := hcut
            go_upto_region 15 with fail
            go_cut [68] from 61 to 67 (fun fv wc => ∃ fl : Bool, fv = .bool fl ∧ Hid (SS w blk off n wc d2 ∧ Left a b d a' b' d2))
            case first =>
              cases wb <;> cases wp <;> (by_cases hh1 : h2 = 1)
              all_goals try (have hh2 : (h2 == 1) = false := beq_eq_false_iff_ne.2 hh1)
              all_goals go_wp2
              all_goals go_meet
              all_goals exact ⟨_, rfl, H2⟩
            case rest =>
            clear H2
            obtain ⟨fl0, rfl, H2⟩ := hcut
            go_upto_if 68 with fail
            go_cut [] from 69 to 72 (fun wc => Hid (∃ d3, SS w blk off n wc d3 ∧ Left a b d a' b' d3))
            case first =>
              have HC := hide2 (partial_any w blk off cap n a' b' wc d2 H2.out.1 (by omega) (by omega) (by omega))
              have hpi := partialInsertionSort_holds (lt := ltInt) swoI d2 a' b' (by omega) (by rw [H2.out.1.sz]; omega) H2.out.2.bel
              generalize partialInsertionSort ltInt d2 a' b' = pi at *
              obtain ⟨d3, fl⟩ := pi
              have HP := hide2 hpi
              clear hpi
              dsimp only at HC
              cases fl0 with
              | false =>
                go_wp2
                go_meet
                exact hide2 ⟨d2, H2.out⟩
              | true =>
                cases fl with
                | true =>
                  go_wp2_with (go_at_call 191; refine HC.out.mono ?_; clear HC; rintro e w3 ⟨rfl, k3⟩)
                  refine bodyPost_ret (results_none rfl _ _ _) rfl ?_
                  exact ⟨rfl, hide2 ⟨_, k3.out, H2.out.2.cps _ HP.out.1 (by first | exact HP.out.2 rfl | exact HP.out.2 trivial)⟩⟩
                | false =>
                  go_wp2_with (go_at_call 191; refine HC.out.mono ?_; clear HC; rintro e w3 ⟨rfl, k3⟩)
                  go_meet
                  exact hide2 ⟨d3, k3.out, H2.out.2.perm (by rw [H2.out.1.sz]; omega) HP.out.1⟩
            case rest =>
              obtain ⟨d3, hS3, hL3⟩ := hcut.out
              clear hcut H2
              obtain ⟨G, hG, hc, hf⟩ := hS3.fam
              have HG := hide2 hG
              have hdz := hS3.sz
              have HS3 := hide2 (And.intro hS3 hL3)
              clear hG hS3 hL3
              have hbp : pv2 < n := by omega
              have hba : 0 < a' → a' - 1 < n := fun _ => by omega
              go_upto_region 17 with fail
              go_cut [87] from 73 to 86 (fun fv wc => ∃ fl : Bool, fv = .bool fl ∧ Hid (SS w blk off n wc d3 ∧ (fl = true → 0 < a' ∧ ltInt d3[a' - 1]! d3[pv2]! = false)))
              case first =>
                by_cases ha0 : 0 < a'
                · have ha0I : (0 < (a' : Int)) = True := eq_true (by omega)
                  have hba1 := hba ha0
                  go_quiet (first | (go_at_call 192; refine Calls.quiet_of_same (less_any _ _ _)))
                  cases hl : ltInt (G (a' - 1)) (G pv2)
                  all_goals go_wp2
                  all_goals go_meet
                  · exact ⟨true, rfl, hide2 ⟨HS3.out.1.drewN _, fun _ => ⟨ha0, by rw [← HG.out, ← HG.out, hl]⟩⟩⟩
                  · exact ⟨false, rfl, hide2 ⟨HS3.out.1.drewN _, fun h => by cases h⟩⟩
                · have ha0I : (0 < (a' : Int)) = False := eq_false (by omega)
                  go_quiet (first | (go_at_call 192; refine Calls.quiet_of_same (less_any _ _ _)))
                  go_wp2
                  go_meet
                  exact ⟨false, rfl, hide2 ⟨HS3.out.1.drewN _, fun h => by cases h⟩⟩
              case rest =>
              obtain ⟨fl, rfl, H5⟩ := hcut
              have HL3 := hide2 HS3.out.2
              clear HS3 hc hf HG
              cases fl with
              | true =>
                have HC := hide2 (partEq_any w blk off cap n a' b' pv2 wc d3 H5.out.1 (by omega) (by omega) hp1 hp2 hn)
                obtain ⟨mid, d4, hx⟩ : ∃ mid d4, partitionEqual ltInt d3 a' b' pv2 = (mid, d4) := ⟨_, _, rfl⟩
                rw [hx] at HC
                obtain ⟨e1, e2, e3, e4, e5⟩ := round_eq (lt := ltInt) swoI (partitionEqual_holds ltInt) (by first | exact (H5.out.2 rfl).1 | exact (H5.out.2 trivial).1) hp1 hp2 (by omega) HL3.out.bel (by first | exact (H5.out.2 rfl).2 | exact (H5.out.2 trivial).2) hx
                have HE := hide2 (And.intro e4 e5)
                clear e4 e5 e3 hx
                go_wp2_with (go_at_call 193; refine HC.out.mono ?_; clear HC; rintro e w6 ⟨rfl, k6⟩)
                go_roundw
                case rel => exact ⟨mid, b', lim1, wb, wp, d4, rfl, rfl, rfl, rfl, rfl, hlim1, e2, hbb, by omega, hide2 ⟨k6.out, ⟨by omega, e2, hbb, HE.out.1, fun R h1 h2 => by obtain ⟨g1, g2⟩ := HE.out.2 R h1 h2; exact HL3.out.cps R g1 g2⟩⟩⟩
                case measure => simp [intOf]; omega
              | false =>
                have HC := hide2 (part_any w blk off cap n a' b' pv2 wc d3 H5.out.1 (by omega) (by omega) hp1 hp2 hn)
                obtain ⟨mid, ap0, d4, hx⟩ : ∃ mid ap0 d4, partition ltInt d3 a' b' pv2 = (mid, ap0, d4) := ⟨_, _, _, rfl⟩
                rw [hx] at HC
                obtain ⟨e1, e2, e3, e4, e5, e6, e7⟩ := round_part (lt := ltInt) swoI (partition_holds ltInt) hp1 hp2 (by omega) HL3.out.bel hx
                have HE := hide2 (And.intro e4 (And.intro e5 (And.intro e6 e7)))
                clear e4 e5 e6 e7 hx
                by_cases hlr : mid - a' < b' - mid
                · have hlrI : ((mid : Int) - (a' : Int) < (b' : Int) - (mid : Int)) = True := eq_true (by omega)
                  go_wp2_with (first
                    | (go_at_call 194; refine HC.out.mono ?_; clear HC; rintro e w6 ⟨ap, rfl, k6⟩; have HP := hide2 (HI.out (mid - a') (by omega) a' mid lim1 w6 d4 (Nat.le_refl _) e1 (by omega) hlim1 k6.out HE.out.1))
                    | (go_at_call 175; refine HP.out.mono ?_; clear HP; rintro e w7 ⟨rfl, k7⟩))
                  go_roundw
                  case rel =>
                    obtain ⟨d5, g1, g2, g3⟩ := k7.out
                    obtain ⟨g4, g5⟩ := HE.out.2.2.1 d5 g2 g3
                    exact ⟨mid + 1, b', lim1, _, ap, d5, by go_num, rfl, rfl, rfl, rfl, hlim1, by omega, hbb, by omega, hide2 ⟨g1, ⟨by omega, by omega, hbb, g4, fun R h1 h2 => by obtain ⟨q1, q2⟩ := g5 R h1 h2; exact HL3.out.cps R q1 q2⟩⟩⟩
                  case measure => simp [intOf]; omega
                · have hlrI : ((mid : Int) - (a' : Int) < (b' : Int) - (mid : Int)) = False := eq_false (by omega)
                  go_wp2_with (first
                    | (go_at_call 194; refine HC.out.mono ?_; clear HC; rintro e w6 ⟨ap, rfl, k6⟩; have hHP := HI.out (b' - (mid + 1)) (by omega) (mid + 1) b' lim1 w6 d4 (Nat.le_refl _) (by omega) (by omega) hlim1 k6.out HE.out.2.1; rw [show ((mid + 1 : Nat) : Int) = (mid : Int) + 1 from rfl] at hHP; have HP := hide2 hHP; clear hHP)
                    | (go_at_call 175; refine HP.out.mono ?_; clear HP; rintro e w7 ⟨rfl, k7⟩))
                  go_roundw
                  case rel =>
                    obtain ⟨d5, g1, g2, g3⟩ := k7.out
                    obtain ⟨g4, g5⟩ := HE.out.2.2.2 d5 g2 g3
                    exact ⟨a', mid, lim1, _, ap, d5, rfl, rfl, rfl, rfl, rfl, hlim1, e1, by omega, haa, hide2 ⟨g1, ⟨haa, e1, by omega, g4, fun R h1 h2 => by obtain ⟨q1, q2⟩ := g5 R h1 h2; exact HL3.out.cps R q1 q2⟩⟩⟩
                  case measure => simp [intOf]; omega
theorem pdq_all (w : World) (blk off cap n : Nat) (hn : n < 1000000) : ∀ N, Pdq w blk off cap n N := fun N => by
  induction N using Nat.strongRecOn with
  | _ N ih => exact pdq_step w blk off cap n N hn ih
end Go.Proofs.YtlhokghgicgppaaGreatDoor
