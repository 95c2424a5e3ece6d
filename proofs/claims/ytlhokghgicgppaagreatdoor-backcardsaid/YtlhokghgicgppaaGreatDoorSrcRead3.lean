/- (*plain.Source).Read, where no bytes are given. -/
/- (*plain.Source).Read: a panic; the next piece. -/
import Derived.Test.YtlhokghgicgppaaGreatDoorSrcRead
set_option linter.unusedSimpArgs false
set_option linter.unusedVariables false
set_option maxRecDepth 100000
set_option maxHeartbeats 4000000
namespace Go.Proofs.YtlhokghgicgppaaGreatDoor
open Go.RowKit Go.Extern
def rdW (w : World) (q : Nat) (r : Int) (c : Sg.Pc) : World :=
  (w.setCell ⟨q, 3, none⟩ (.int .i64 (wrap64 (r + 1)))).alloc (.cells #[.string ⟨c.text.toArray⟩, .int .i64 c.n, .int .i64 c.kind] 40)
theorem read_empty (w : World) (q b o lc : Nat) (r : Int) (c : Sg.Pc) (l : List Sg.Pc) (a e : Nat) (h : SrcAt w q (some ⟨b, o, none⟩) lc r ⟨c :: l, a, e⟩) (ha : c.text.length ≤ a) (hN : a < 1000000000) (hE : e < 1000000000) (hbq : b ≠ q)
    (h0t : w.cell? ⟨b, o, none⟩ = some (strV c.text)) (h1t : w.cell? ⟨b, o + 1, none⟩ = some (.int .i64 c.n)) (h2t : w.cell? ⟨b, o + 2, none⟩ = some (.int .i64 c.kind)) (pb po most cap : Nat) (hen : (e : Int) < c.n) :
    Calls Tryz.prog 266 #[.pointer (some ⟨q, 0, none⟩), .slice (some ⟨pb, po, none⟩) most cap] w fun en w' => en = .returned (.tuple #[.int .i64 0, errV none]) ∧ ∃ n, w' = ((rdW w q r c).setCell ⟨q, 2, none⟩ (.int .i64 ((e : Int) + 1))).drewN n := by
  have h0 := h.c0
  have h1 := h.c1
  have h2 := h.c2
  have h3 := h.c3
  have hf := h.fr
  have g1 : (((c :: l).length : Nat) : Int) ≠ 0 := by simp; omega
  have g2 : ((((c :: l).length : Nat) : Int) == 0) = false := beq_eq_false_iff_ne.2 g1
  have g3 : 0 < (c :: l).length := by simp
  have hq := cell_lt h0
  have hb := cell_lt h0t
  unfold strV at h0t
  unfold rdW
  have n1 : ¬ q = b := by omega
  have n2 : ¬ q = w.heap.size := by omega
  have n3 : ¬ w.heap.size = q := by omega
  have hsz : (ByteArray.mk c.text.toArray).size = c.text.length := by simp [ByteArray.size]
  dsimp only at h1 h2
  generalize (c :: l).length = ll at *
  go_enter Tryz.func266, Tryz.ntmps266
  go_wp2
  go_quiet (fail)
  go_wp2
  go_quiet (fail)
  go_wp2
  go_ret2
  exact ⟨rfl, _, rfl⟩
theorem read_one (w : World) (q b o lc : Nat) (r : Int) (c : Sg.Pc) (l : List Sg.Pc) (a e : Nat) (h : SrcAt w q (some ⟨b, o, none⟩) lc r ⟨c :: l, a, e⟩) (ha : c.text.length ≤ a) (hN : a < 1000000000) (hE : e < 1000000000) (hbq : b ≠ q)
    (h0t : w.cell? ⟨b, o, none⟩ = some (strV c.text)) (h1t : w.cell? ⟨b, o + 1, none⟩ = some (.int .i64 c.n)) (h2t : w.cell? ⟨b, o + 2, none⟩ = some (.int .i64 c.kind)) (pb po most cap : Nat) (hM : most < 1000000000) (hen : c.n ≤ (e : Int)) (hk : c.kind = 1) :
    Calls Tryz.prog 266 #[.pointer (some ⟨q, 0, none⟩), .slice (some ⟨pb, po, none⟩) most cap] w fun en w' => en = .returned (.tuple #[.int .i64 0, errV (some 14)]) ∧ ∃ n, w' = (rdW w q r c).drewN n := by
  have h0 := h.c0
  have h1 := h.c1
  have h2 := h.c2
  have h3 := h.c3
  have hf := h.fr
  have g1 : (((c :: l).length : Nat) : Int) ≠ 0 := by simp; omega
  have g2 : ((((c :: l).length : Nat) : Int) == 0) = false := beq_eq_false_iff_ne.2 g1
  have g3 : 0 < (c :: l).length := by simp
  have hq := cell_lt h0
  have hb := cell_lt h0t
  unfold strV at h0t
  unfold rdW
  have n1 : ¬ q = b := by omega
  have n2 : ¬ q = w.heap.size := by omega
  have n3 : ¬ w.heap.size = q := by omega
  have hsz : (ByteArray.mk c.text.toArray).size = c.text.length := by simp [ByteArray.size]
  dsimp only at h1 h2
  generalize (c :: l).length = ll at *
  rw [hk] at h2t ⊢
  go_enter Tryz.func266, Tryz.ntmps266
  go_wp2
  go_quiet (fail)
  go_wp2
  go_quiet (fail)
  go_wp2
  go_ret2
  exact ⟨rfl, _, rfl⟩
theorem read_five (w : World) (q b o lc : Nat) (r : Int) (c : Sg.Pc) (l : List Sg.Pc) (a e : Nat) (h : SrcAt w q (some ⟨b, o, none⟩) lc r ⟨c :: l, a, e⟩) (ha : c.text.length ≤ a) (hN : a < 1000000000) (hE : e < 1000000000) (hbq : b ≠ q)
    (h0t : w.cell? ⟨b, o, none⟩ = some (strV c.text)) (h1t : w.cell? ⟨b, o + 1, none⟩ = some (.int .i64 c.n)) (h2t : w.cell? ⟨b, o + 2, none⟩ = some (.int .i64 c.kind)) (pb po most cap : Nat) (hM : most < 1000000000) (hen : c.n ≤ (e : Int)) (hk : c.kind = 5) :
    Calls Tryz.prog 266 #[.pointer (some ⟨q, 0, none⟩), .slice (some ⟨pb, po, none⟩) most cap] w fun en w' => en = .returned (.tuple #[.int .i64 0, errV (some 14)]) ∧ ∃ n, w' = (rdW w q r c).drewN n := by
  have h0 := h.c0
  have h1 := h.c1
  have h2 := h.c2
  have h3 := h.c3
  have hf := h.fr
  have g1 : (((c :: l).length : Nat) : Int) ≠ 0 := by simp; omega
  have g2 : ((((c :: l).length : Nat) : Int) == 0) = false := beq_eq_false_iff_ne.2 g1
  have g3 : 0 < (c :: l).length := by simp
  have hq := cell_lt h0
  have hb := cell_lt h0t
  unfold strV at h0t
  unfold rdW
  have n1 : ¬ q = b := by omega
  have n2 : ¬ q = w.heap.size := by omega
  have n3 : ¬ w.heap.size = q := by omega
  have hsz : (ByteArray.mk c.text.toArray).size = c.text.length := by simp [ByteArray.size]
  dsimp only at h1 h2
  generalize (c :: l).length = ll at *
  rw [hk] at h2t ⊢
  go_enter Tryz.func266, Tryz.ntmps266
  go_wp2
  go_quiet (fail)
  go_wp2
  go_quiet (fail)
  go_wp2
  go_ret2
  exact ⟨rfl, _, rfl⟩
theorem read_below (w : World) (q b o lc : Nat) (r : Int) (c : Sg.Pc) (l : List Sg.Pc) (a e : Nat) (h : SrcAt w q (some ⟨b, o, none⟩) lc r ⟨c :: l, a, e⟩) (ha : c.text.length ≤ a) (hN : a < 1000000000) (hE : e < 1000000000) (hbq : b ≠ q)
    (h0t : w.cell? ⟨b, o, none⟩ = some (strV c.text)) (h1t : w.cell? ⟨b, o + 1, none⟩ = some (.int .i64 c.n)) (h2t : w.cell? ⟨b, o + 2, none⟩ = some (.int .i64 c.kind)) (pb po most cap : Nat) (hM : most < 1000000000) (hen : c.n ≤ (e : Int)) (hk : c.kind = 2) :
    Calls Tryz.prog 266 #[.pointer (some ⟨q, 0, none⟩), .slice (some ⟨pb, po, none⟩) most cap] w fun en w' => en = .returned (.tuple #[.int .i64 (-1), errV none]) ∧ ∃ n, w' = (rdW w q r c).drewN n := by
  have h0 := h.c0
  have h1 := h.c1
  have h2 := h.c2
  have h3 := h.c3
  have hf := h.fr
  have g1 : (((c :: l).length : Nat) : Int) ≠ 0 := by simp; omega
  have g2 : ((((c :: l).length : Nat) : Int) == 0) = false := beq_eq_false_iff_ne.2 g1
  have g3 : 0 < (c :: l).length := by simp
  have hq := cell_lt h0
  have hb := cell_lt h0t
  unfold strV at h0t
  unfold rdW
  have n1 : ¬ q = b := by omega
  have n2 : ¬ q = w.heap.size := by omega
  have n3 : ¬ w.heap.size = q := by omega
  have hsz : (ByteArray.mk c.text.toArray).size = c.text.length := by simp [ByteArray.size]
  dsimp only at h1 h2
  generalize (c :: l).length = ll at *
  rw [hk] at h2t ⊢
  go_enter Tryz.func266, Tryz.ntmps266
  go_wp2
  go_quiet (fail)
  go_wp2
  go_quiet (fail)
  go_wp2
  go_ret2
  exact ⟨rfl, _, rfl⟩
theorem read_above (w : World) (q b o lc : Nat) (r : Int) (c : Sg.Pc) (l : List Sg.Pc) (a e : Nat) (h : SrcAt w q (some ⟨b, o, none⟩) lc r ⟨c :: l, a, e⟩) (ha : c.text.length ≤ a) (hN : a < 1000000000) (hE : e < 1000000000) (hbq : b ≠ q)
    (h0t : w.cell? ⟨b, o, none⟩ = some (strV c.text)) (h1t : w.cell? ⟨b, o + 1, none⟩ = some (.int .i64 c.n)) (h2t : w.cell? ⟨b, o + 2, none⟩ = some (.int .i64 c.kind)) (pb po most cap : Nat) (hM : most < 1000000000) (hen : c.n ≤ (e : Int)) (hk : c.kind = 3) :
    Calls Tryz.prog 266 #[.pointer (some ⟨q, 0, none⟩), .slice (some ⟨pb, po, none⟩) most cap] w fun en w' => en = .returned (.tuple #[.int .i64 ((most : Int) + 1), errV none]) ∧ ∃ n, w' = (rdW w q r c).drewN n := by
  have h0 := h.c0
  have h1 := h.c1
  have h2 := h.c2
  have h3 := h.c3
  have hf := h.fr
  have g1 : (((c :: l).length : Nat) : Int) ≠ 0 := by simp; omega
  have g2 : ((((c :: l).length : Nat) : Int) == 0) = false := beq_eq_false_iff_ne.2 g1
  have g3 : 0 < (c :: l).length := by simp
  have hq := cell_lt h0
  have hb := cell_lt h0t
  unfold strV at h0t
  unfold rdW
  have n1 : ¬ q = b := by omega
  have n2 : ¬ q = w.heap.size := by omega
  have n3 : ¬ w.heap.size = q := by omega
  have hsz : (ByteArray.mk c.text.toArray).size = c.text.length := by simp [ByteArray.size]
  dsimp only at h1 h2
  generalize (c :: l).length = ll at *
  rw [hk] at h2t ⊢
  go_enter Tryz.func266, Tryz.ntmps266
  go_wp2
  go_quiet (fail)
  go_wp2
  go_quiet (fail)
  go_wp2
  go_ret2
  exact ⟨rfl, _, rfl⟩
end Go.Proofs.YtlhokghgicgppaaGreatDoor
namespace Go.Proofs.YtlhokghgicgppaaGreatDoor
open Go.RowKit Go.Extern
def popW (w : World) (q : Nat) (r : Int) (c : Sg.Pc) (v : Value) (n : Nat) : World :=
  (((((rdW w q r c).drewN n).setCell ⟨q, 0, none⟩ v).setCell ⟨q, 1, none⟩ (.int .i64 0)).setCell ⟨q, 2, none⟩ (.int .i64 0)).setCell ⟨q, 3, none⟩ (.int .i64 (wrap64 (wrap64 (r + 1) - 1)))
theorem read_throws (w : World) (q b o lc : Nat) (r : Int) (c : Sg.Pc) (l : List Sg.Pc) (a e : Nat) (h : SrcAt w q (some ⟨b, o, none⟩) lc r ⟨c :: l, a, e⟩) (ha : c.text.length ≤ a) (hN : a < 1000000000) (hE : e < 1000000000) (hbq : b ≠ q)
    (h0t : w.cell? ⟨b, o, none⟩ = some (strV c.text)) (h1t : w.cell? ⟨b, o + 1, none⟩ = some (.int .i64 c.n)) (h2t : w.cell? ⟨b, o + 2, none⟩ = some (.int .i64 c.kind)) (pb po most cap : Nat) (hM : most < 1000000000) (hen : c.n ≤ (e : Int)) (hk : c.kind = 4) :
    Calls Tryz.prog 266 #[.pointer (some ⟨q, 0, none⟩), .slice (some ⟨pb, po, none⟩) most cap] w fun en w' => (∃ v, en = .panicked [{ v := .iface 9 v, recovered := false }]) ∧ ∃ n, w' = (rdW w q r c).drewN n := by
  have h0 := h.c0
  have h1 := h.c1
  have h2 := h.c2
  have h3 := h.c3
  have hf := h.fr
  have g1 : (((c :: l).length : Nat) : Int) ≠ 0 := by simp; omega
  have g2 : ((((c :: l).length : Nat) : Int) == 0) = false := beq_eq_false_iff_ne.2 g1
  have g3 : 0 < (c :: l).length := by simp
  have hq := cell_lt h0
  have hb := cell_lt h0t
  unfold strV at h0t
  unfold rdW
  have n1 : ¬ q = b := by omega
  have n2 : ¬ q = w.heap.size := by omega
  have n3 : ¬ w.heap.size = q := by omega
  have hsz : (ByteArray.mk c.text.toArray).size = c.text.length := by simp [ByteArray.size]
  dsimp only at h1 h2
  generalize (c :: l).length = ll at *
  rw [hk] at h2t ⊢
  have hpan : ∀ t v W, (Instr.panic (.iface t v)).run Tryz.prog W = .halt (.panic (.iface t v)) W := fun _ _ _ => rfl
  go_enter Tryz.func266, Tryz.ntmps266
  go_wp2
  go_quiet (fail)
  go_wp2
  go_quiet (fail)
  go_wp2
  exact ⟨rfl, ⟨_, rfl⟩, _, rfl⟩
theorem read_pop (w : World) (q b o lc : Nat) (r : Int) (c : Sg.Pc) (l : List Sg.Pc) (a e : Nat) (h : SrcAt w q (some ⟨b, o, none⟩) lc r ⟨c :: l, a, e⟩) (ha : c.text.length ≤ a) (hN : a < 1000000000) (hE : e < 1000000000) (hbq : b ≠ q)
    (h0t : w.cell? ⟨b, o, none⟩ = some (strV c.text)) (h1t : w.cell? ⟨b, o + 1, none⟩ = some (.int .i64 c.n)) (h2t : w.cell? ⟨b, o + 2, none⟩ = some (.int .i64 c.kind)) (pb po most cap : Nat) (hM : most < 1000000000) (hen : c.n ≤ (e : Int)) (hk1 : (c.kind == 1) = false) (hk2 : (c.kind == 2) = false) (hk3 : (c.kind == 3) = false) (hk4 : (c.kind == 4) = false) (hk5 : (c.kind == 5) = false) (lb : Nat) (ld : Nat) (hl : (1 < lc ∧ lb = o + 3 ∧ ld = lc - 1) ∨ (lc = 1 ∧ lb = o ∧ ld = 0)) (R1 : Value → Value → World → Prop) (R2 : List PanicEntry → World → Prop)
    (hrec : ∀ n, Calls Tryz.prog 266 #[.pointer (some ⟨q, 0, none⟩), .slice (some ⟨pb, po, none⟩) most cap] (popW w q r c (.slice (some ⟨b, lb, none⟩) ((c :: l).length - 1) ld) n) fun en w' => (∃ v1 v2, en = .returned (.tuple #[v1, v2]) ∧ R1 v1 v2 w') ∨ ∃ ch, en = .panicked ch ∧ R2 ch w') :
    Calls Tryz.prog 266 #[.pointer (some ⟨q, 0, none⟩), .slice (some ⟨pb, po, none⟩) most cap] w fun en w' => (∃ v1 v2, en = .returned (.tuple #[v1, v2]) ∧ R1 v1 v2 w') ∨ ∃ ch, en = .panicked ch ∧ R2 ch w' := by
  have h0 := h.c0
  have h1 := h.c1
  have h2 := h.c2
  have h3 := h.c3
  have hf := h.fr
  have g1 : (((c :: l).length : Nat) : Int) ≠ 0 := by simp; omega
  have g2 : ((((c :: l).length : Nat) : Int) == 0) = false := beq_eq_false_iff_ne.2 g1
  have g3 : 0 < (c :: l).length := by simp
  have hq := cell_lt h0
  have hb := cell_lt h0t
  unfold strV at h0t
  have n1 : ¬ q = b := by omega
  have n2 : ¬ q = w.heap.size := by omega
  have n3 : ¬ w.heap.size = q := by omega
  have hsz : (ByteArray.mk c.text.toArray).size = c.text.length := by simp [ByteArray.size]
  dsimp only at h1 h2
  generalize (c :: l).length = ll at *
  unfold popW rdW at hrec
  have Hrec : Hid (∀ n, Calls _ _ _ _ _) := hrec
  clear hrec
  rcases hl with ⟨hl1, rfl, rfl⟩ | ⟨rfl, rfl, rfl⟩
  all_goals
    go_enter Tryz.func266, Tryz.ntmps266
    go_wp2
    go_quiet (fail)
    go_wp2
    go_quiet (fail)
    go_wp2_with fail
    refine (Hrec.out _).mono ?_
    rintro e2 w2 (⟨v1, v2, rfl, hr⟩ | ⟨ch, rfl, hr⟩)
    · go_wp2
      go_ret2
      exact .inl ⟨_, _, rfl, hr⟩
    · go_wp2
      exact ⟨rfl, .inr ⟨_, rfl, hr⟩⟩
end Go.Proofs.YtlhokghgicgppaaGreatDoor
