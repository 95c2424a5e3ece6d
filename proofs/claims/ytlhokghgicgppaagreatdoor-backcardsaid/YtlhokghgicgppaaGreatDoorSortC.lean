/- The library's sort at runes: reverseRangeOrdered, siftDownOrdered, heapSortOrdered. -/
/- The library's sort at runes: partitionEqualOrdered, partitionOrdered. -/
import Derived.Test.YtlhokghgicgppaaGreatDoorSortA
import Derived.Outline
set_option linter.unusedSimpArgs false
set_option linter.unusedVariables false
set_option maxRecDepth 100000
set_option maxHeartbeats 4000000
namespace Go.Proofs.YtlhokghgicgppaaGreatDoor
open Go.RowKit Go.Extern Go.Sort
theorem reverse_any (w : World) (blk off cap n a b : Nat) (W : World) (d : Array Int) (h : SS w blk off n W d) (hab : a < b) (hb : b ≤ n) (hn : n < 1000000) :
    Calls Tryz.prog 190 #[.slice (some ⟨blk, off, none⟩) n cap, .int .i64 a, .int .i64 b] W fun e W' => e = .returned (.tuple #[]) ∧ SS w blk off n W' (reverseRange d a b) := by
  have H0 := hide2 h
  clear h
  obtain ⟨b1, rfl⟩ : ∃ b1, b = b1 + 1 := ⟨b - 1, by omega⟩
  go_enter Tryz.func190, Tryz.ntmps190
  go_wp2
  go_loopw [6, 7] (fun iv jv wr => ∃ (i j : Nat) (dk : Array Int), iv = .int .i64 i ∧ jv = .int .i64 j ∧ a ≤ i ∧ j ≤ b1 ∧ i ≤ j + 1 ∧ Hid (SS w blk off n wr dk ∧ reverseLoop i j dk = reverseLoop a b1 d)) (fun iv jv _ => (intOf jv).toNat + 1 - (intOf iv).toNat)
  case atStart => exact ⟨a, b1, d, rfl, by go_num, Nat.le_refl _, Nat.le_refl _, by omega, hide2 ⟨H0.out, rfl⟩⟩
  case round =>
    obtain ⟨i, j, dk, rfl, rfl, hai, hjb, hij, H⟩ := hrel
    by_cases hlt : i < j
    · obtain ⟨G, hG, hc, hf⟩ := H.out.1.fam
      have HG := hide2 hG
      clear hG
      go_wp2
      go_region
      all_goals go_wp2
      refine ⟨⟨i + 1, j - 1, swp dk i j, by go_num, by congr 1; omega, by omega, by omega, by omega, hide2 ⟨?_, ?_⟩⟩, by simp [intOf]; omega⟩
      · exact (H.out.1.drew).swap (by omega) (by omega) (HG.out _) (HG.out _)
      · rw [← H.out.2]
        conv => rhs; unfold reverseLoop
        rw [if_pos hlt]
    · go_wp2
      go_end0
      refine ⟨rfl, ?_⟩
      have h2 := H.out.2
      conv at h2 => lhs; unfold reverseLoop
      rw [if_neg hlt] at h2
      show SS w blk off n _ (reverseLoop a b1 d)
      rw [← h2]; exact H.out.1
theorem sift_stop (hi F root : Nat) (d : Array Int) (h : hi ≤ 2 * root + 1) : siftDown ltInt hi F root d = d := by
  unfold siftDown; rw [dif_pos h]
def childOf (hi F root : Nat) (d : Array Int) : Nat := if 2 * root + 1 + 1 < hi && ltInt d[F + (2 * root + 1)]! d[F + (2 * root + 1) + 1]! then 2 * root + 2 else 2 * root + 1
theorem child_lt {hi F root : Nat} {d : Array Int} (h : ¬ hi ≤ 2 * root + 1) : childOf hi F root d < hi ∧ 2 * root + 1 ≤ childOf hi F root d := by
  unfold childOf
  split
  · rename_i g
    rw [Bool.and_eq_true, decide_eq_true_iff] at g
    omega
  · omega
theorem sift_go (hi F root : Nat) (d : Array Int) (h : ¬ hi ≤ 2 * root + 1) : siftDown ltInt hi F root d = if ltInt d[F + root]! d[F + childOf hi F root d]! then siftDown ltInt hi F (childOf hi F root d) (swp d (F + root) (F + childOf hi F root d)) else d := by
  conv => lhs; unfold siftDown
  rw [dif_neg (by omega)]
  unfold childOf
  by_cases hc : (2 * root + 1 + 1 < hi && ltInt d[F + (2 * root + 1)]! d[F + (2 * root + 1) + 1]!) = true
  · rw [if_pos hc, if_pos hc]
    have h2 : 2 * root + 2 < hi := by
      rw [Bool.and_eq_true, decide_eq_true_iff] at hc
      omega
    cases hl : ltInt d[F + root]! d[F + (2 * root + 2)]!
    · simp [hl]
    · simp [hl, h2]
  · rw [if_neg hc, if_neg hc]
    cases hl : ltInt d[F + root]! d[F + (2 * root + 1)]!
    · simp [hl]
    · simp [hl]
theorem sift_any (w : World) (blk off cap n lo hi F : Nat) (W : World) (d : Array Int) (h : SS w blk off n W d) (hF : F + hi ≤ n) (hn : n < 1000000) (hlo : lo < 1000000) :
    Calls Tryz.prog 209 #[.slice (some ⟨blk, off, none⟩) n cap, .int .i64 lo, .int .i64 hi, .int .i64 F] W fun e W' => e = .returned (.tuple #[]) ∧ SS w blk off n W' (siftDown ltInt hi F lo d) := by
  have H0 := hide2 h
  clear h
  go_enter Tryz.func209, Tryz.ntmps209
  go_wp2
  go_loopw [8] (fun rv wr => ∃ (root : Nat) (dk : Array Int), rv = .int .i64 root ∧ root < 1000000 ∧ Hid (SS w blk off n wr dk ∧ siftDown ltInt hi F root dk = siftDown ltInt hi F lo d)) (fun rv _ => hi - (intOf rv).toNat)
  case atStart => exact ⟨lo, d, rfl, hlo, hide2 ⟨H0.out, rfl⟩⟩
  case round =>
    obtain ⟨root, dk, rfl, hr, H⟩ := hrel
    by_cases hlt : hi ≤ 2 * root + 1
    · go_wp2
      go_end0
      refine ⟨rfl, ?_⟩
      rw [← H.out.2, sift_stop _ _ _ _ hlt]; exact H.out.1
    · obtain ⟨G, hG, hc, hf⟩ := H.out.1.fam
      have hsg := sift_go hi F root dk hlt
      have hcl := child_lt (F := F) (d := dk) hlt
      rw [H.out.2] at hsg
      have HG := hide2 hG
      have HS := hide2 hsg
      clear hG hsg
      obtain ⟨c, hcd⟩ : ∃ c : Nat, 2 * root + 1 = c := ⟨_, rfl⟩
      have hcI : 2 * (root : Int) + 1 = (c : Int) := by omega
      obtain ⟨f0, hf0⟩ : ∃ f0 : Nat, F + root = f0 := ⟨_, rfl⟩
      have hf0I : (F : Int) + (root : Int) = (f0 : Int) := by omega
      obtain ⟨f1, hf1⟩ : ∃ f1 : Nat, F + c = f1 := ⟨_, rfl⟩
      have hf1I : (F : Int) + (c : Int) = (f1 : Int) := by omega
      have HC := hide2 (And.intro hcd (And.intro hf0 hf1))
      have tail : ∀ (wq : World) (ch fc : Nat), SS w blk off n wq dk → F + ch = fc → childOf hi F root dk = ch → ch < hi → ltInt (G f0) (G fc) = true → SS w blk off n ((wq.setCell ⟨blk, off + f0, none⟩ (.int .i32 (G fc))).setCell ⟨blk, off + fc, none⟩ (.int .i32 (G f0))) (swp dk f0 fc) ∧ siftDown ltInt hi F ch (swp dk f0 fc) = siftDown ltInt hi F lo d := fun wq ch fc hS e1 e2 e3 e4 => by
        have h0 := HC.out.2.1
        refine ⟨hS.swap (by omega) (by omega) (HG.out _) (HG.out _), ?_⟩
        have := HS.out
        rw [e2, h0, e1, if_pos (by rw [← HG.out, ← HG.out]; exact e4)] at this
        exact this.symm
      have stop : ∀ (ch fc : Nat), F + ch = fc → childOf hi F root dk = ch → ltInt (G f0) (G fc) = false → siftDown ltInt hi F lo d = dk := fun ch fc e1 e2 e4 => by
        have h0 := HC.out.2.1
        have := HS.out
        rw [e2, h0, e1, if_neg (by rw [← HG.out, ← HG.out, e4]; simp)] at this
        exact this
      have TA := hide2 tail
      have ST := hide2 stop
      clear tail stop
      have hb1 : c < hi := by omega
      have hb2 : f1 < n := by omega
      have hb3 : f0 < n := by omega
      have hc6 : c < 1000000 := by omega
      have hf6 : f1 < 1000000 := by omega
      have hf7 : f0 < 1000000 := by omega
      have hw1 : IntKind.i64.wrap ((c : Int) + 1) = (c : Int) + 1 := wr64 (by omega) (by omega)
      have hw2 : IntKind.i64.wrap ((F : Int) + (c : Int)) = (f1 : Int) := by rw [wr64 (by omega) (by omega)]; omega
      have hw3 : IntKind.i64.wrap ((F : Int) + (root : Int)) = (f0 : Int) := by rw [wr64 (by omega) (by omega)]; omega
      have hw4 : IntKind.i64.wrap ((f1 : Int) + 1) = ((f1 + 1 : Nat) : Int) := by rw [wr64 (by omega) (by omega)]; omega
      have hw5 : IntKind.i64.wrap ((F : Int) + ((c : Int) + 1)) = ((f1 + 1 : Nat) : Int) := by rw [wr64 (by omega) (by omega)]; omega
      have HX := hide2 (And.intro hcl hlt)
      clear hcl hlt hcd hf0 hf1
      go_wp2
      by_cases h2 : c + 1 < hi
      · have hd2 : decide ((c : Int) + 1 < (hi : Int)) = true := decide_eq_true (by omega)
        have hb4 : f1 + 1 < n := by have := HC.out.2.2; omega
        go_quiet (first | (go_at_call 192; refine Calls.quiet_of_same (less_any _ _ _)))
        go_wp2
        · have hl : ltInt (G f1) (G (f1 + 1)) = true := by assumption
          have hch : childOf hi F root dk = c + 1 := by
            obtain ⟨e1, e2, e3⟩ := HC.out
            unfold childOf
            rw [e1, e3, if_pos (by rw [← HG.out, ← HG.out, hl, Bool.and_true]; exact decide_eq_true h2)]
            omega
          generalize hwq : wr.drewN nq = wq
          have hS := H.out.1.drewN nq
          rw [hwq] at hS
          have hc2 : ∀ t, t < n → wq.cell? ⟨blk, off + t, none⟩ = some (.int .i32 (G t)) := fun t ht => by rw [HG.out]; exact hS.cell t ht
          have hf2 := hS.frz
          have HS2 := hide2 hS
          clear hS hc hf hwq
          go_quiet (first | (go_at_call 192; refine Calls.quiet_of_same (less_any _ _ _)))
          cases hl2 : ltInt (G f0) (G (f1 + 1)) with
          | false =>
            go_wp2
            refine bodyPost_ret (results_none rfl _ _ _) rfl ?_
            refine ⟨rfl, ?_⟩
            rw [ST.out (c + 1) (f1 + 1) (by have := HC.out; omega) hch hl2]
            exact HS2.out.drewN _
          | true =>
            go_wp2
            go_region
            all_goals go_wp2
            have hlt3 : c + 1 < hi := by omega
            refine ⟨⟨c + 1, swp dk f0 (f1 + 1), by go_num, by omega, hide2 ?_⟩, by have := HC.out; simp [intOf]; omega⟩
            exact TA.out _ (c + 1) (f1 + 1) (by first | exact HS2.out.drewN _ | exact (HS2.out.drewN _).drew) (by have := HC.out; omega) hch hlt3 hl2
        · have hl : ltInt (G f1) (G (f1 + 1)) = false := by assumption
          have hch : childOf hi F root dk = c := by
            obtain ⟨e1, e2, e3⟩ := HC.out
            unfold childOf
            rw [e1, e3, if_neg (by rw [← HG.out, ← HG.out, hl, Bool.and_false]; simp)]
          generalize hwq : wr.drewN nq = wq
          have hS := H.out.1.drewN nq
          rw [hwq] at hS
          have hc2 : ∀ t, t < n → wq.cell? ⟨blk, off + t, none⟩ = some (.int .i32 (G t)) := fun t ht => by rw [HG.out]; exact hS.cell t ht
          have hf2 := hS.frz
          have HS2 := hide2 hS
          clear hS hc hf hwq
          go_quiet (first | (go_at_call 192; refine Calls.quiet_of_same (less_any _ _ _)))
          cases hl2 : ltInt (G f0) (G (f1)) with
          | false =>
            go_wp2
            refine bodyPost_ret (results_none rfl _ _ _) rfl ?_
            refine ⟨rfl, ?_⟩
            rw [ST.out (c) (f1) (by have := HC.out; omega) hch hl2]
            exact HS2.out.drewN _
          | true =>
            go_wp2
            go_region
            all_goals go_wp2
            have hlt3 : c < hi := by omega
            refine ⟨⟨c, swp dk f0 (f1), by go_num, by omega, hide2 ?_⟩, by have := HC.out; simp [intOf]; omega⟩
            exact TA.out _ (c) (f1) (by first | exact HS2.out.drewN _ | exact (HS2.out.drewN _).drew) (by have := HC.out; omega) hch hlt3 hl2
      · have hd2 : decide ((c : Int) + 1 < (hi : Int)) = false := decide_eq_false (by omega)
        have hch : childOf hi F root dk = c := by
          obtain ⟨e1, e2, e3⟩ := HC.out
          unfold childOf
          rw [e1, if_neg (by rw [Bool.and_eq_true, decide_eq_true_iff]; omega)]
        go_quiet (first | (go_at_call 192; refine Calls.quiet_of_same (less_any _ _ _)))
        go_wp2
        generalize hwq : wr.drewN nq = wq
        have hS := H.out.1.drewN nq
        rw [hwq] at hS
        have hc2 : ∀ t, t < n → wq.cell? ⟨blk, off + t, none⟩ = some (.int .i32 (G t)) := fun t ht => by rw [HG.out]; exact hS.cell t ht
        have hf2 := hS.frz
        have HS2 := hide2 hS
        clear hS hc hf hwq
        go_quiet (first | (go_at_call 192; refine Calls.quiet_of_same (less_any _ _ _)))
        cases hl2 : ltInt (G f0) (G (f1)) with
        | false =>
          go_wp2
          refine bodyPost_ret (results_none rfl _ _ _) rfl ?_
          refine ⟨rfl, ?_⟩
          rw [ST.out (c) (f1) (by have := HC.out; omega) hch hl2]
          exact HS2.out.drewN _
        | true =>
          go_wp2
          go_region
          all_goals go_wp2
          have hlt3 : c < hi := by omega
          refine ⟨⟨c, swp dk f0 (f1), by go_num, by omega, hide2 ?_⟩, by have := HC.out; simp [intOf]; omega⟩
          exact TA.out _ (c) (f1) (by first | exact HS2.out.drewN _ | exact (HS2.out.drewN _).drew) (by have := HC.out; omega) hch hlt3 hl2
theorem heap_any (w : World) (blk off cap n a b : Nat) (W : World) (d : Array Int) (h : SS w blk off n W d) (hab : a < b) (hb : b ≤ n) (hn : n < 1000000) :
    Calls Tryz.prog 187 #[.slice (some ⟨blk, off, none⟩) n cap, .int .i64 a, .int .i64 b] W fun e W' => e = .returned (.tuple #[]) ∧ SS w blk off n W' (heapSort ltInt d a b) := by
  have H0 := hide2 h
  clear h
  have HSi : Hid (∀ (W : World) (d : Array Int) (lo hi : Nat), SS w blk off n W d → a + hi ≤ n → lo < 1000000 → Calls Tryz.prog 209 #[.slice (some ⟨blk, off, none⟩) n cap, .int .i64 lo, .int .i64 hi, .int .i64 a] W fun e W' => e = .returned (.tuple #[]) ∧ Hid (SS w blk off n W' (siftDown ltInt hi a lo d))) := hide2 fun W d lo hi h h1 h2 => sift_any w blk off cap n lo hi a W d h h1 hn h2
  obtain ⟨l, hl⟩ : ∃ l, b - a = l := ⟨_, rfl⟩
  have hlI : (b : Int) - (a : Int) = (l : Int) := by omega
  obtain ⟨k0, hk0⟩ : ∃ k0, (l - 1) / 2 = k0 := ⟨_, rfl⟩
  have hq : ((l : Int) - 1).tdiv 2 = (k0 : Int) := by rw [Int.tdiv_eq_ediv_of_nonneg (by omega)]; omega
  have hk1 : k0 < 1000000 := by omega
  have hl1 : 1 ≤ l := by omega
  have hal : a + l ≤ n := by omega
  have hfin : heapSort ltInt d a b = heapPop ltInt a l (heapBuild ltInt l a (k0 + 1) d) := by unfold heapSort; rw [hl, hk0]
  rw [hfin]
  clear hfin hl hk0
  go_enter Tryz.func187, Tryz.ntmps187
  go_wp2
  go_loopw [9] (fun iv wr => ∃ (k : Nat) (dk : Array Int), iv = .int .i64 ((k : Int) - 1) ∧ k ≤ k0 + 1 ∧ Hid (SS w blk off n wr dk ∧ heapBuild ltInt l a k dk = heapBuild ltInt l a (k0 + 1) d)) (fun iv _ => (intOf iv + 1).toNat)
  case atStart => exact ⟨k0 + 1, d, by go_num, Nat.le_refl _, hide2 ⟨H0.out, rfl⟩⟩
  case round =>
    obtain ⟨k, dk, rfl, hk, H⟩ := hrel
    cases k with
    | zero =>
      rw [show ((0 : Nat) : Int) - 1 = -1 from rfl]
      go_wp2
      have HD := hide2 H.out
      clear H
      go_loopw [10] (fun iv wr => ∃ (k : Nat) (dj : Array Int), iv = .int .i64 ((k : Int) - 1) ∧ k ≤ l ∧ Hid (SS w blk off n wr dj ∧ heapPop ltInt a k dj = heapPop ltInt a l (heapBuild ltInt l a (k0 + 1) d))) (fun iv _ => (intOf iv + 1).toNat)
      case atStart => exact ⟨l, dk, by go_num, Nat.le_refl _, hide2 ⟨HD.out.1, by rw [← HD.out.2]; rfl⟩⟩
      case round =>
        obtain ⟨k, dj, rfl, hk, H⟩ := hrel
        cases k with
        | zero =>
          go_wp2
          go_end0
          exact ⟨rfl, by rw [← H.out.2]; exact H.out.1⟩
        | succ k =>
          obtain ⟨G, hG, hc, hf⟩ := H.out.1.fam
          have HG := hide2 hG
          have hkI : ((k + 1 : Nat) : Int) - 1 = (k : Int) := by omega
          obtain ⟨f1, hf1⟩ : ∃ f1 : Nat, a + k = f1 := ⟨_, rfl⟩
          have hw2 : IntKind.i64.wrap ((a : Int) + (k : Int)) = (f1 : Int) := by rw [wr64 (by omega) (by omega)]; omega
          have hb2 : f1 < n := by omega
          have hb3 : a < n := by omega
          have HF := hide2 hf1
          clear hG hf1
          obtain ⟨y, hy⟩ : ∃ y, (wr.setCell ⟨blk, off + a, none⟩ (.int .i32 (G f1))).cell? ⟨blk, off + f1, none⟩ = some y := Option.isSome_iff_exists.1 (by rw [live_setCell, hc f1 hb2]; rfl)
          rw [hkI]
          go_wp2
          go_region
          clear hy
          have hS2 := (H.out.1.drewN 1).swap (i := a) (j := f1) (by omega) (by omega) (HG.out _) (HG.out _)
          have HC := hide2 (HSi.out _ _ 0 k hS2 (by have := HF.out; omega) (by omega))
          clear hS2 hc hf
          go_wp2_with (go_at_call 209; refine HC.out.mono ?_; clear HC; rintro e w2 ⟨rfl, H2⟩)
          go_roundw
          case rel =>
            refine ⟨k, _, by congr 1, by omega, hide2 ⟨H2.out, ?_⟩⟩
            rw [← H.out.2]
            have := HF.out
            subst this
            rfl
          case measure => simp [intOf]
    | succ k =>
      have hkI : ((k + 1 : Nat) : Int) - 1 = (k : Int) := by omega
      have HC := hide2 (HSi.out _ _ k l H.out.1 (by omega) (by omega))
      rw [hkI]
      go_wp2_with (go_at_call 209; refine HC.out.mono ?_; clear HC; rintro e w2 ⟨rfl, H2⟩)
      exact ⟨⟨k, _, by congr 1, by omega, hide2 ⟨H2.out, by rw [← H.out.2]; rfl⟩⟩, by simp [intOf]⟩
end Go.Proofs.YtlhokghgicgppaaGreatDoor
namespace Go.Proofs.YtlhokghgicgppaaGreatDoor
open Go.RowKit Go.Extern Go.Sort
theorem up_go (p : Int → Bool) (d : Array Int) (j i : Nat) (h : i ≤ j) (hp : p d[i]! = true) : scanUp p d j i = scanUp p d j (i + 1) := by
  conv => lhs; unfold scanUp
  rw [if_pos (by rw [hp, Bool.and_true]; exact decide_eq_true h)]
theorem up_stop (p : Int → Bool) (d : Array Int) (j i : Nat) (h : ¬ i ≤ j ∨ p d[i]! = false) : scanUp p d j i = i := by
  unfold scanUp
  rw [if_neg]
  rw [Bool.and_eq_true, decide_eq_true_iff]
  rintro ⟨h1, h2⟩
  rcases h with h | h
  · exact h h1
  · rw [h2] at h; cases h
theorem down_go (p : Int → Bool) (d : Array Int) (i j : Nat) (hi : 1 ≤ i) (h : i ≤ j) (hp : p d[j]! = true) : scanDown p d i j = scanDown p d i (j - 1) := by
  obtain ⟨k, rfl⟩ : ∃ k, j = k + 1 := ⟨j - 1, by omega⟩
  conv => lhs; unfold scanDown
  rw [if_pos (by rw [hp, Bool.and_true]; exact decide_eq_true h)]; rfl
theorem down_stop (p : Int → Bool) (d : Array Int) (i j : Nat) (h : ¬ i ≤ j ∨ p d[j]! = false) : scanDown p d i j = j := by
  cases j with
  | zero => rfl
  | succ k =>
    unfold scanDown
    rw [if_neg]
    rw [Bool.and_eq_true, decide_eq_true_iff]
    rintro ⟨h1, h2⟩
    rcases h with h | h
    · exact h h1
    · rw [h2] at h; cases h
theorem partEq_step (a i j : Nat) (d : Array Int) (i2 j2 : Nat) (h1 : scanUp (fun x => !ltInt d[a]! x) d j i = i2) (h2 : scanDown (fun x => ltInt d[a]! x) d i2 j = j2) : partEqLoop ltInt a i j d = if i2 > j2 then (i2, d) else partEqLoop ltInt a (i2 + 1) (j2 - 1) (swp d i2 j2) := by
  have h := partEqLoop_eq (lt := ltInt) a i j d
  rw [h1, h2] at h
  exact h
theorem part_step (a i j : Nat) (d : Array Int) (i2 j2 : Nat) (h1 : scanUp (fun x => ltInt x d[a]!) d j i = i2) (h2 : scanDown (fun x => !ltInt x d[a]!) d i2 j = j2) : partLoop ltInt a i j d = if i2 > j2 then (j2, d) else partLoop ltInt a (i2 + 1) (j2 - 1) (swp d i2 j2) := by
  have h := partLoop_eq (lt := ltInt) a i j d
  rw [h1, h2] at h
  exact h
theorem partEq_any (w : World) (blk off cap n a b pivot : Nat) (W : World) (d : Array Int) (h : SS w blk off n W d) (hab : a + 1 < b) (hb : b ≤ n) (hp1 : a ≤ pivot) (hp2 : pivot < b) (hn : n < 1000000) :
    Calls Tryz.prog 193 #[.slice (some ⟨blk, off, none⟩) n cap, .int .i64 a, .int .i64 b, .int .i64 pivot] W fun e W' => e = .returned (.int .i64 ((partitionEqual ltInt d a b pivot).1 : Nat)) ∧ Hid (SS w blk off n W' (partitionEqual ltInt d a b pivot).2) := by
  have H0 := hide2 h
  obtain ⟨G0, hG0, hc0, hf0⟩ := h.fam
  obtain ⟨b1, rfl⟩ : ∃ b1, b = b1 + 1 := ⟨b - 1, by omega⟩
  obtain ⟨y, hy⟩ : ∃ y, (W.setCell ⟨blk, off + a, none⟩ (.int .i32 (G0 pivot))).cell? ⟨blk, off + pivot, none⟩ = some y := Option.isSome_iff_exists.1 (by rw [live_setCell, hc0 pivot (by omega)]; rfl)
  have HG0 := hide2 hG0
  clear h hG0
  have hfin : partitionEqual ltInt d a (b1 + 1) pivot = partEqLoop ltInt a (a + 1) b1 (swp d a pivot) := rfl
  rw [hfin]
  clear hfin
  have ba : a < n := by omega
  have bp : pivot < n := by omega
  go_enter Tryz.func193, Tryz.ntmps193
  go_wp2
  go_region
  clear hy
  have HS0 := hide2 ((H0.out.drewN 1).swap (i := a) (j := pivot) ba bp (HG0.out _) (HG0.out _))
  clear hc0 hf0
  go_wp2
  go_loopw [9, 10] (fun iv jv wr => ∃ (i j : Nat) (dk : Array Int), iv = .int .i64 i ∧ jv = .int .i64 j ∧ a < i ∧ i ≤ j + 1 ∧ j ≤ b1 ∧ Hid (SS w blk off n wr dk ∧ partEqLoop ltInt a i j dk = partEqLoop ltInt a (a + 1) b1 (swp d a pivot))) (fun iv jv _ => (intOf jv).toNat + 1 - (intOf iv).toNat)
  case atStart => exact ⟨a + 1, b1, _, by go_num, by go_num, by omega, by omega, Nat.le_refl _, hide2 ⟨HS0.out, rfl⟩⟩
  case round =>
    clear HS0
    obtain ⟨i, j, dk, rfl, rfl, hai, hij, hjb, H⟩ := hrel
    go_wp2
    go_loopw [9] (fun iv wr => ∃ (i2 : Nat), iv = .int .i64 i2 ∧ i ≤ i2 ∧ i2 ≤ j + 1 ∧ Hid (SS w blk off n wr dk ∧ scanUp (fun x => !ltInt dk[a]! x) dk j i2 = scanUp (fun x => !ltInt dk[a]! x) dk j i)) (fun iv _ => j + 1 - (intOf iv).toNat)
    case atStart => exact ⟨i, rfl, Nat.le_refl _, hij, hide2 ⟨H.out.1, rfl⟩⟩
    case round =>
      obtain ⟨i2, rfl, hi1, hi2, H2⟩ := hrel
      obtain ⟨G, hG, hc, hf⟩ := H2.out.1.fam
      have HG := hide2 hG
      clear hG
      go_wp2
      by_cases hgo : i2 ≤ j ∧ ltInt (G a) (G i2) = false
      · obtain ⟨hle, hl⟩ := hgo
        have hb2 : i2 < n := by omega
        go_quiet (first | (go_at_call 192; refine Calls.quiet_of_same (less_any _ _ _)))
        go_wp2
        go_roundw
        case rel =>
          refine ⟨i2 + 1, by go_num, by omega, by omega, hide2 ⟨H2.out.1.drewN _, ?_⟩⟩
          rw [← H2.out.2, up_go _ dk j i2 hle (by rw [← HG.out, ← HG.out, hl]; rfl)]
        case measure => simp [intOf]; omega
      · have hst : scanUp (fun x => !ltInt dk[a]! x) dk j i = i2 := by
          rw [← H2.out.2, up_stop]
          by_cases hle : i2 ≤ j
          · right
            rw [← HG.out, ← HG.out]
            cases hl : ltInt (G a) (G i2)
            · exact absurd ⟨hle, hl⟩ hgo
            · rfl
          · exact .inl hle
        have HST := hide2 hst
        have hb2 : i2 ≤ j → i2 < n := fun h => by omega
        have hway : (i2 < n ∧ i2 ≤ j ∧ ltInt (G a) (G i2) = true) ∨ ¬ i2 ≤ j := by
          by_cases hle : i2 ≤ j
          · left
            cases hl : ltInt (G a) (G i2)
            · exact absurd ⟨hle, hl⟩ hgo
            · exact ⟨hb2 hle, hle, rfl⟩
          · exact .inr hle
        have HA : Hid (i2 ≤ j → ltInt dk[a]! dk[i2]! = true) := hide2 (fun h => by
          rcases hway with g | g
          · rw [← HG.out, ← HG.out]; exact g.2.2
          · exact absurd h g)
        clear hst hgo hb2
        rcases hway with ⟨hb2, hle, hl⟩ | hle
        all_goals go_quiet (first | (go_at_call 192; refine Calls.quiet_of_same (less_any _ _ _)))
        all_goals go_wp2
        all_goals (
          have HQ := hide2 (H2.out.1.drewN nq)
          clear hle hc hf H2
          generalize wr.drewN nq = wq at *
          go_loopw [10] (fun jv wr => ∃ (j2 : Nat), jv = .int .i64 j2 ∧ j2 ≤ j ∧ i2 ≤ j2 + 1 ∧ Hid (SS w blk off n wr dk ∧ scanDown (fun x => ltInt dk[a]! x) dk i2 j2 = scanDown (fun x => ltInt dk[a]! x) dk i2 j)) (fun jv _ => (intOf jv).toNat)
          case atStart => exact ⟨j, rfl, Nat.le_refl _, hi2, hide2 ⟨HQ.out, rfl⟩⟩
          case round =>
            clear HQ
            obtain ⟨j2, rfl, hj1, hj2, H3⟩ := hrel
            obtain ⟨G2, hG2, hc2, hf2⟩ := H3.out.1.fam
            have HG2 := hide2 hG2
            clear hG2
            go_wp2
            by_cases hgo : i2 ≤ j2 ∧ ltInt (G2 a) (G2 j2) = true
            · obtain ⟨hle, hl⟩ := hgo
              have hb3 : j2 < n := by omega
              go_quiet (first | (go_at_call 192; refine Calls.quiet_of_same (less_any _ _ _)))
              go_wp2
              go_roundw
              case rel =>
                refine ⟨j2 - 1, by congr 1; omega, by omega, by omega, hide2 ⟨H3.out.1.drewN _, ?_⟩⟩
                rw [← H3.out.2, down_go _ dk i2 j2 (by omega) hle (by rw [← HG2.out, ← HG2.out, hl])]
              case measure => simp [intOf]; omega
            · have hst : scanDown (fun x => ltInt dk[a]! x) dk i2 j = j2 := by
                rw [← H3.out.2, down_stop]
                by_cases hle : i2 ≤ j2
                · right
                  rw [← HG2.out, ← HG2.out]
                  cases hl : ltInt (G2 a) (G2 j2)
                  · rfl
                  · exact absurd ⟨hle, hl⟩ hgo
                · exact .inl hle
              have hstep := partEq_step a i j dk i2 j2 HST.out hst
              rw [H.out.2] at hstep
              have HP := hide2 hstep
              have hway : (j2 < n ∧ i2 ≤ j2 ∧ ltInt (G2 a) (G2 j2) = false) ∨ ¬ i2 ≤ j2 := by
                by_cases hle : i2 ≤ j2
                · left
                  cases hl : ltInt (G2 a) (G2 j2)
                  · exact ⟨by omega, hle, rfl⟩
                  · exact absurd ⟨hle, hl⟩ hgo
                · exact .inr hle
              clear hst hgo hstep
              rcases hway with ⟨hb3, hle, hl⟩ | hle
              · have hb4 : i2 < n := by omega
                have hne : i2 ≠ j2 := fun e => by
                  have h1 := HA.out (by omega)
                  rw [e, ← HG2.out, ← HG2.out, hl] at h1
                  cases h1
                go_quiet (first | (go_at_call 192; refine Calls.quiet_of_same (less_any _ _ _)))
                go_wp2
                generalize hwq : wr.drewN nq = wq
                have hS := H3.out.1.drewN nq
                rw [hwq] at hS
                have hc3 : ∀ t, t < n → wq.cell? ⟨blk, off + t, none⟩ = some (.int .i32 (G2 t)) := fun t ht => by rw [HG2.out]; exact hS.cell t ht
                have hf3 := hS.frz
                obtain ⟨y, hy⟩ : ∃ y, (wq.setCell ⟨blk, off + i2, none⟩ (.int .i32 (G2 j2))).cell? ⟨blk, off + j2, none⟩ = some y := Option.isSome_iff_exists.1 (by rw [live_setCell, hc3 j2 hb3]; rfl)
                have HS3 := hide2 hS
                clear hS hc2 hf2 hwq
                go_region
                clear hy
                go_wp2
                go_roundw
                case rel =>
                  refine ⟨i2 + 1, j2 - 1, swp dk i2 j2, by go_num, by congr 1; omega, by omega, by omega, by omega, hide2 ⟨(HS3.out.drewN _).swap hb4 hb3 (HG2.out _) (HG2.out _), ?_⟩⟩
                  have := HP.out
                  rw [if_neg (by omega)] at this
                  exact this.symm
                case measure => simp [intOf]; omega
              · go_quiet (first | (go_at_call 192; refine Calls.quiet_of_same (less_any _ _ _)))
                go_wp2
                go_ret
                have := HP.out
                rw [if_pos (by omega)] at this
                rw [this]
                exact ⟨rfl, hide2 (H3.out.1.drewN _)⟩)
end Go.Proofs.YtlhokghgicgppaaGreatDoor
