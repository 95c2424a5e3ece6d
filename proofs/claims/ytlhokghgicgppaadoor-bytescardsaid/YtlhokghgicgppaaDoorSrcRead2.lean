/- (*plain.Source).Read, where no bytes are given. -/
import Derived.Test.YtlhokghgicgppaaDoorSrcRead
set_option linter.unusedSimpArgs false
set_option linter.unusedVariables false
namespace Go.Proofs.YtlhokghgicgppaaDoor
open Go.RowKit Go.Extern

/-- What a Read that gives no bytes has done to the world. -/
def rdW (w : World) (q : Nat) (r : Int) (c : Sg.Pc) : World :=
  (w.setCell ⟨q, 3, none⟩ (.int .i64 (wrap64 (r + 1)))).alloc (.cells #[.string ⟨c.text.toArray⟩, .int .i64 c.n, .int .i64 c.kind] 51)

set_option maxRecDepth 100000 in
set_option maxHeartbeats 800000 in
theorem read_empty (w : World) (q b o lc : Nat) (r : Int) (c : Sg.Pc) (l : List Sg.Pc) (a e : Nat) (h : SrcAt w q (some ⟨b, o, none⟩) lc r ⟨c :: l, a, e⟩) (ha : c.text.length ≤ a) (hN : a < 1000000000) (hE : e < 1000000000) (hbq : b ≠ q)
    (h0t : w.cell? ⟨b, o, none⟩ = some (strV c.text)) (h1t : w.cell? ⟨b, o + 1, none⟩ = some (.int .i64 c.n)) (h2t : w.cell? ⟨b, o + 2, none⟩ = some (.int .i64 c.kind)) (pb po most cap : Nat) (hen : (e : Int) < c.n) :
    Calls Tryd.prog 94 #[.pointer (some ⟨q, 0, none⟩), .slice (some ⟨pb, po, none⟩) most cap] w fun en w' => en = .returned (.tuple #[.int .i64 0, errV none]) ∧ ∃ n, w' = ((rdW w q r c).setCell ⟨q, 2, none⟩ (.int .i64 ((e : Int) + 1))).drewN n := by
  have h0 := h.c0
  have h1 := h.c1
  have h2 := h.c2
  have h3 := h.c3
  have hf := h.fr
  have g1 : (((c :: l).length : Nat) : Int) ≠ 0 := by simp; omega
  have g2 : ((((c :: l).length : Nat) : Int) == 0) = false := beq_eq_false_iff_ne.2 g1
  have g3 : 0 < (c :: l).length := by simp
  have hq := cell_lt h0
  have hb := cell_lt h0t
  unfold strV at h0t
  unfold rdW
  have n1 : ¬ q = b := by omega
  have n2 : ¬ q = w.heap.size := by omega
  have n3 : ¬ w.heap.size = q := by omega
  have hsz : (ByteArray.mk c.text.toArray).size = c.text.length := by simp [ByteArray.size]
  dsimp only at h1 h2
  generalize (c :: l).length = ll at *
  go_enter Tryd.func94, Tryd.ntmps94
  go_wp2
  go_quiet (fail)
  go_wp2
  go_quiet (fail)
  go_wp2
  go_ret2
  exact ⟨rfl, _, rfl⟩

set_option maxRecDepth 100000 in
set_option maxHeartbeats 800000 in
theorem read_one (w : World) (q b o lc : Nat) (r : Int) (c : Sg.Pc) (l : List Sg.Pc) (a e : Nat) (h : SrcAt w q (some ⟨b, o, none⟩) lc r ⟨c :: l, a, e⟩) (ha : c.text.length ≤ a) (hN : a < 1000000000) (hE : e < 1000000000) (hbq : b ≠ q)
    (h0t : w.cell? ⟨b, o, none⟩ = some (strV c.text)) (h1t : w.cell? ⟨b, o + 1, none⟩ = some (.int .i64 c.n)) (h2t : w.cell? ⟨b, o + 2, none⟩ = some (.int .i64 c.kind)) (pb po most cap : Nat) (hM : most < 1000000000) (hen : c.n ≤ (e : Int)) (hk : c.kind = 1) :
    Calls Tryd.prog 94 #[.pointer (some ⟨q, 0, none⟩), .slice (some ⟨pb, po, none⟩) most cap] w fun en w' => en = .returned (.tuple #[.int .i64 0, errV (some 14)]) ∧ ∃ n, w' = (rdW w q r c).drewN n := by
  have h0 := h.c0
  have h1 := h.c1
  have h2 := h.c2
  have h3 := h.c3
  have hf := h.fr
  have g1 : (((c :: l).length : Nat) : Int) ≠ 0 := by simp; omega
  have g2 : ((((c :: l).length : Nat) : Int) == 0) = false := beq_eq_false_iff_ne.2 g1
  have g3 : 0 < (c :: l).length := by simp
  have hq := cell_lt h0
  have hb := cell_lt h0t
  unfold strV at h0t
  unfold rdW
  have n1 : ¬ q = b := by omega
  have n2 : ¬ q = w.heap.size := by omega
  have n3 : ¬ w.heap.size = q := by omega
  have hsz : (ByteArray.mk c.text.toArray).size = c.text.length := by simp [ByteArray.size]
  dsimp only at h1 h2
  generalize (c :: l).length = ll at *
  rw [hk] at h2t ⊢
  go_enter Tryd.func94, Tryd.ntmps94
  go_wp2
  go_quiet (fail)
  go_wp2
  go_quiet (fail)
  go_wp2
  go_ret2
  exact ⟨rfl, _, rfl⟩

set_option maxRecDepth 100000 in
set_option maxHeartbeats 800000 in
theorem read_five (w : World) (q b o lc : Nat) (r : Int) (c : Sg.Pc) (l : List Sg.Pc) (a e : Nat) (h : SrcAt w q (some ⟨b, o, none⟩) lc r ⟨c :: l, a, e⟩) (ha : c.text.length ≤ a) (hN : a < 1000000000) (hE : e < 1000000000) (hbq : b ≠ q)
    (h0t : w.cell? ⟨b, o, none⟩ = some (strV c.text)) (h1t : w.cell? ⟨b, o + 1, none⟩ = some (.int .i64 c.n)) (h2t : w.cell? ⟨b, o + 2, none⟩ = some (.int .i64 c.kind)) (pb po most cap : Nat) (hM : most < 1000000000) (hen : c.n ≤ (e : Int)) (hk : c.kind = 5) :
    Calls Tryd.prog 94 #[.pointer (some ⟨q, 0, none⟩), .slice (some ⟨pb, po, none⟩) most cap] w fun en w' => en = .returned (.tuple #[.int .i64 0, errV (some 14)]) ∧ ∃ n, w' = (rdW w q r c).drewN n := by
  have h0 := h.c0
  have h1 := h.c1
  have h2 := h.c2
  have h3 := h.c3
  have hf := h.fr
  have g1 : (((c :: l).length : Nat) : Int) ≠ 0 := by simp; omega
  have g2 : ((((c :: l).length : Nat) : Int) == 0) = false := beq_eq_false_iff_ne.2 g1
  have g3 : 0 < (c :: l).length := by simp
  have hq := cell_lt h0
  have hb := cell_lt h0t
  unfold strV at h0t
  unfold rdW
  have n1 : ¬ q = b := by omega
  have n2 : ¬ q = w.heap.size := by omega
  have n3 : ¬ w.heap.size = q := by omega
  have hsz : (ByteArray.mk c.text.toArray).size = c.text.length := by simp [ByteArray.size]
  dsimp only at h1 h2
  generalize (c :: l).length = ll at *
  rw [hk] at h2t ⊢
  go_enter Tryd.func94, Tryd.ntmps94
  go_wp2
  go_quiet (fail)
  go_wp2
  go_quiet (fail)
  go_wp2
  go_ret2
  exact ⟨rfl, _, rfl⟩

set_option maxRecDepth 100000 in
set_option maxHeartbeats 800000 in
theorem read_below (w : World) (q b o lc : Nat) (r : Int) (c : Sg.Pc) (l : List Sg.Pc) (a e : Nat) (h : SrcAt w q (some ⟨b, o, none⟩) lc r ⟨c :: l, a, e⟩) (ha : c.text.length ≤ a) (hN : a < 1000000000) (hE : e < 1000000000) (hbq : b ≠ q)
    (h0t : w.cell? ⟨b, o, none⟩ = some (strV c.text)) (h1t : w.cell? ⟨b, o + 1, none⟩ = some (.int .i64 c.n)) (h2t : w.cell? ⟨b, o + 2, none⟩ = some (.int .i64 c.kind)) (pb po most cap : Nat) (hM : most < 1000000000) (hen : c.n ≤ (e : Int)) (hk : c.kind = 2) :
    Calls Tryd.prog 94 #[.pointer (some ⟨q, 0, none⟩), .slice (some ⟨pb, po, none⟩) most cap] w fun en w' => en = .returned (.tuple #[.int .i64 (-1), errV none]) ∧ ∃ n, w' = (rdW w q r c).drewN n := by
  have h0 := h.c0
  have h1 := h.c1
  have h2 := h.c2
  have h3 := h.c3
  have hf := h.fr
  have g1 : (((c :: l).length : Nat) : Int) ≠ 0 := by simp; omega
  have g2 : ((((c :: l).length : Nat) : Int) == 0) = false := beq_eq_false_iff_ne.2 g1
  have g3 : 0 < (c :: l).length := by simp
  have hq := cell_lt h0
  have hb := cell_lt h0t
  unfold strV at h0t
  unfold rdW
  have n1 : ¬ q = b := by omega
  have n2 : ¬ q = w.heap.size := by omega
  have n3 : ¬ w.heap.size = q := by omega
  have hsz : (ByteArray.mk c.text.toArray).size = c.text.length := by simp [ByteArray.size]
  dsimp only at h1 h2
  generalize (c :: l).length = ll at *
  rw [hk] at h2t ⊢
  go_enter Tryd.func94, Tryd.ntmps94
  go_wp2
  go_quiet (fail)
  go_wp2
  go_quiet (fail)
  go_wp2
  go_ret2
  exact ⟨rfl, _, rfl⟩

set_option maxRecDepth 100000 in
set_option maxHeartbeats 800000 in
theorem read_above (w : World) (q b o lc : Nat) (r : Int) (c : Sg.Pc) (l : List Sg.Pc) (a e : Nat) (h : SrcAt w q (some ⟨b, o, none⟩) lc r ⟨c :: l, a, e⟩) (ha : c.text.length ≤ a) (hN : a < 1000000000) (hE : e < 1000000000) (hbq : b ≠ q)
    (h0t : w.cell? ⟨b, o, none⟩ = some (strV c.text)) (h1t : w.cell? ⟨b, o + 1, none⟩ = some (.int .i64 c.n)) (h2t : w.cell? ⟨b, o + 2, none⟩ = some (.int .i64 c.kind)) (pb po most cap : Nat) (hM : most < 1000000000) (hen : c.n ≤ (e : Int)) (hk : c.kind = 3) :
    Calls Tryd.prog 94 #[.pointer (some ⟨q, 0, none⟩), .slice (some ⟨pb, po, none⟩) most cap] w fun en w' => en = .returned (.tuple #[.int .i64 ((most : Int) + 1), errV none]) ∧ ∃ n, w' = (rdW w q r c).drewN n := by
  have h0 := h.c0
  have h1 := h.c1
  have h2 := h.c2
  have h3 := h.c3
  have hf := h.fr
  have g1 : (((c :: l).length : Nat) : Int) ≠ 0 := by simp; omega
  have g2 : ((((c :: l).length : Nat) : Int) == 0) = false := beq_eq_false_iff_ne.2 g1
  have g3 : 0 < (c :: l).length := by simp
  have hq := cell_lt h0
  have hb := cell_lt h0t
  unfold strV at h0t
  unfold rdW
  have n1 : ¬ q = b := by omega
  have n2 : ¬ q = w.heap.size := by omega
  have n3 : ¬ w.heap.size = q := by omega
  have hsz : (ByteArray.mk c.text.toArray).size = c.text.length := by simp [ByteArray.size]
  dsimp only at h1 h2
  generalize (c :: l).length = ll at *
  rw [hk] at h2t ⊢
  go_enter Tryd.func94, Tryd.ntmps94
  go_wp2
  go_quiet (fail)
  go_wp2
  go_quiet (fail)
  go_wp2
  go_ret2
  exact ⟨rfl, _, rfl⟩
end Go.Proofs.YtlhokghgicgppaaDoor
