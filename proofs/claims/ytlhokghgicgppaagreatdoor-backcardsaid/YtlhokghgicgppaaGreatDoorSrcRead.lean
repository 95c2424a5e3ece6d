/- (*plain.Source).Read. -/
import Derived.Test.YtlhokghgicgppaaGreatDoorIsEnd
import Derived.Laws.IdiomCopy
set_option linter.unusedSimpArgs false
set_option linter.unusedVariables false
set_option maxRecDepth 100000
set_option maxHeartbeats 4000000
namespace Go.Proofs.YtlhokghgicgppaaGreatDoor
open Go.RowKit Go.Extern
def bytesV (l : Sg.Bs) : List Value := l.map fun x => .int .u8 x.toNat
def strV (l : Sg.Bs) : Value := .string ⟨l.toArray⟩
def PcAt (w : World) (la : Option Addr) (l : List Sg.Pc) : Prop :=
  l = [] ∨ ∃ b o, la = some ⟨b, o, none⟩ ∧ ∀ i, (h : i < l.length) → w.cell? ⟨b, o + i * 3, none⟩ = some (strV l[i].text) ∧ w.cell? ⟨b, o + i * 3 + 1, none⟩ = some (.int .i64 l[i].n) ∧ w.cell? ⟨b, o + i * 3 + 2, none⟩ = some (.int .i64 l[i].kind)
structure SrcAt (w : World) (q : Nat) (la : Option Addr) (lc : Nat) (r : Int) (s : Sg.Src) : Prop where
  c0 : w.cell? ⟨q, 0, none⟩ = some (.slice la s.l.length lc)
  c1 : w.cell? ⟨q, 1, none⟩ = some (.int .i64 s.at_)
  c2 : w.cell? ⟨q, 2, none⟩ = some (.int .i64 s.empty)
  c3 : w.cell? ⟨q, 3, none⟩ = some (.int .i64 r)
  fr : ∀ j, w.frozen? ⟨q, j, none⟩ = false
  pcs : PcAt w la s.l
  cap : s.l.length ≤ lc
theorem read_end (w : World) (q : Nat) (la : Option Addr) (lc : Nat) (r : Int) (a e : Nat) (h : SrcAt w q la lc r ⟨[], a, e⟩) (p : Value) :
    Calls Tryz.prog 266 #[.pointer (some ⟨q, 0, none⟩), p] w fun en w' => en = .returned (.tuple #[.int .i64 0, errV (some 13)]) ∧ w' = w.setCell ⟨q, 3, none⟩ (.int .i64 (wrap64 (r + 1))) := by
  have h0 := h.c0
  have h3 := h.c3
  have hf := h.fr
  simp only [List.length_nil] at h0
  go_enter Tryz.func266, Tryz.ntmps266
  go_wp2
  go_ret2
  exact ⟨rfl, rfl⟩
theorem run_copy_string {P : Program} (w : World) (dT sT ty elem : TypeId) (b o dLen dCap : Nat) (t : Sg.Bs) (cs : List Value)
    (hu : P.underlying dT = some (.slice elem)) (hs : (P.info? elem).map (·.size) = some 1) (hn : cs = bytesV (t.take dLen))
    (hc : ∀ j, j < cs.length → (w.cell? ⟨b, o + j, none⟩).isSome = true) (hf : ∀ j, j < cs.length → w.frozen? ⟨b, o + j, none⟩ = false) :
    (Builtin.copy_ #[dT, sT] ty #[.slice (some ⟨b, o, none⟩) dLen dCap, .string ⟨t.toArray⟩]).run P w = .ok (.int .i64 cs.length) (w.setCells b o cs) := by
  have h1 : ∀ v ∈ cs, v.oneCell' = true := by
    intro v hv
    rw [hn] at hv
    unfold bytesV at hv
    rw [List.mem_map] at hv
    obtain ⟨x, _, rfl⟩ := hv
    rfl
  have hst := run_storeCells_cells (P := P) b o cs 0 w (by simpa using hc) (by simpa using hf) h1
  have hlen : cs.length = min t.length dLen := by rw [hn]; unfold bytesV; simp [Nat.min_comm]
  cases hq : P.info? elem with
  | none => simp [hq] at hs
  | some i =>
    have hi : i.size = 1 := by simpa [hq] using hs
    simp only [Builtin.copy_, Builtin.lenOf, Builtin.firstCells, List.size_toArray, List.length_cons, List.length_nil]
    simp [run_underlying hu, sizeOf, typeInfo, hq, Builtin.lenOf, Builtin.firstCells, goInt]
    have hsz : (ByteArray.mk t.toArray).size = t.length := by simp [ByteArray.size]
    have e1 : List.take ((ByteArray.mk t.toArray).size.min dLen) (List.map (fun b => Value.int IntKind.u8 (b.toNat : Int)) t) = cs := by
      rw [hn, hsz]
      unfold bytesV
      rw [List.map_take]
      show List.take (min t.length dLen) _ = _
      rw [Nat.min_def]
      split
      · rename_i h
        rw [List.take_of_length_le (by simp), List.take_of_length_le (by simpa using h)]
      · rfl
    rw [e1, hst, hsz]
    have e2 : t.length.min dLen = cs.length := hlen.symm
    rw [e2]
    rfl
theorem hide2 {p : Prop} (h : p) : Hid p := h
theorem setCells_drewN (b : Nat) : ∀ (vs : List Value) (o n : Nat) (w : World), (w.drewN n).setCells b o vs = (w.setCells b o vs).drewN n
  | [], _, _, _ => rfl
  | v :: r, o, n, w => by
    rw [World.setCells, World.setCells]
    exact setCells_drewN b r (o + 1) n (w.setCell ⟨b, o, none⟩ v)
theorem drop_extract (t : Sg.Bs) (a : Nat) : (ByteArray.mk t.toArray).extract a t.length = ⟨(t.drop a).toArray⟩ := by
  apply ByteArray.ext
  apply Array.toList_inj.1
  simp [ByteArray.data_extract, List.drop_take]
  try (rw [List.take_of_length_le (by simp)])
theorem read_bytes (w : World) (q b o lc : Nat) (r : Int) (c : Sg.Pc) (l : List Sg.Pc) (a e : Nat) (h : SrcAt w q (some ⟨b, o, none⟩) lc r ⟨c :: l, a, e⟩) (ha : a < c.text.length) (hN : c.text.length < 1000000000) (hbq : b ≠ q)
    (h0t : w.cell? ⟨b, o, none⟩ = some (strV c.text)) (h1t : w.cell? ⟨b, o + 1, none⟩ = some (.int .i64 c.n)) (h2t : w.cell? ⟨b, o + 2, none⟩ = some (.int .i64 c.kind))
    (pb po most cap : Nat) (hpq : pb ≠ q) (hpb : pb ≠ b) (hpc : ∀ j, j < most → (w.cell? ⟨pb, po + j, none⟩).isSome = true) (hpf : ∀ j, w.frozen? ⟨pb, j, none⟩ = false) (hm : 1 ≤ most) (hM : most < 1000000000) :
    Calls Tryz.prog 266 #[.pointer (some ⟨q, 0, none⟩), .slice (some ⟨pb, po, none⟩) most cap] w fun en w' =>
      en = .returned (.tuple #[.int .i64 ((c.text.drop a).take most).length, errV (if c.kind = 5 ∧ a + min most (c.text.length - a) = c.text.length then some 14 else none)]) ∧
      ∃ W1 : World, W1 = (((w.setCell ⟨q, 3, none⟩ (.int .i64 (wrap64 (r + 1)))).alloc (.cells #[strV c.text, .int .i64 c.n, .int .i64 c.kind] 40)).setCells pb po (bytesV ((c.text.drop a).take most))).setCell ⟨q, 1, none⟩ (.int .i64 ((a + min most (c.text.length - a) : Nat) : Int)) ∧ ∃ n, w' = W1.drewN n := by
  have h0 := h.c0
  have h1 := h.c1
  have h2 := h.c2
  have h3 := h.c3
  have hf := h.fr
  have g1 : (((c :: l).length : Nat) : Int) ≠ 0 := by simp; omega
  have g2 : ((((c :: l).length : Nat) : Int) == 0) = false := beq_eq_false_iff_ne.2 g1
  have g3 : 0 < (c :: l).length := by simp
  have hlen : ((c.text.drop a).take most).length = min most (c.text.length - a) := by simp
  have hblen : (bytesV ((c.text.drop a).take most)).length = min most (c.text.length - a) := by unfold bytesV; simp
  have hq := cell_lt h0
  have hb := cell_lt h0t
  have hpl : pb < w.heap.size := by
    obtain ⟨v, hv⟩ := Option.isSome_iff_exists.1 (hpc 0 (by omega)); exact cell_lt hv
  have hcopy : ∀ (m : Nat) (ty : TypeId), (Builtin.copy_ #[60, 9] ty #[.slice (some ⟨pb, po, none⟩) most cap, .string ((ByteArray.mk c.text.toArray).extract a c.text.length)]).run Tryz.prog
      ((((w.setCell ⟨q, 3, none⟩ (.int .i64 (wrap64 (r + 1)))).alloc (.cells #[.string ⟨c.text.toArray⟩, .int .i64 c.n, .int .i64 c.kind] 40))).drewN m) =
      .ok (.int .i64 (min most (c.text.length - a) : Nat)) (((((w.setCell ⟨q, 3, none⟩ (.int .i64 (wrap64 (r + 1)))).alloc (.cells #[.string ⟨c.text.toArray⟩, .int .i64 c.n, .int .i64 c.kind] 40))).drewN m).setCells pb po (bytesV ((c.text.drop a).take most))) := fun m ty => by
    rw [drop_extract, ← hblen]
    refine run_copy_string _ _ _ _ 5 pb po most cap (c.text.drop a) _ Tryz.underlying60 (by kernel_rfl) rfl ?_ ?_
    · intro j hj
      rw [World.cell?_drewN, World.cell?_alloc_lt _ _ ⟨pb, po + j, none⟩ (by simp <;> omega), World.cell?_setCell_other _ _ _ _ (by simp <;> omega)]
      exact hpc j (by omega)
    · intro j hj
      rw [World.frozen?_drewN, World.frozen?_alloc_old _ _ ⟨pb, po + j, none⟩ (by simp; omega), World.frozen?_setCell]
      exact hpf _
  obtain ⟨W1, hW1⟩ : ∃ W1 : World, (((w.setCell ⟨q, 3, none⟩ (.int .i64 (wrap64 (r + 1)))).alloc (.cells #[.string ⟨c.text.toArray⟩, .int .i64 c.n, .int .i64 c.kind] 40))).setCells pb po (bytesV ((c.text.drop a).take most)) = W1 := ⟨_, rfl⟩
  have hcopy2 : ∀ (m : Nat) (ty : TypeId), (Builtin.copy_ #[60, 9] ty #[.slice (some ⟨pb, po, none⟩) most cap, .string ((ByteArray.mk c.text.toArray).extract a c.text.length)]).run Tryz.prog
      ((((w.setCell ⟨q, 3, none⟩ (.int .i64 (wrap64 (r + 1)))).alloc (.cells #[.string ⟨c.text.toArray⟩, .int .i64 c.n, .int .i64 c.kind] 40))).drewN m) =
      .ok (.int .i64 (min most (c.text.length - a) : Nat)) (W1.drewN m) := fun m ty => by
    rw [hcopy m ty, setCells_drewN, hW1]
  clear hcopy
  have k1 : W1.cell? ⟨q, 1, none⟩ = some (.int .i64 a) := by
    rw [← hW1, World.cell?_setCells_out _ _ _ _ _ (fun hh => absurd hh (by simp; omega)), World.cell?_alloc_lt _ _ ⟨q, 1, none⟩ (by simp <;> omega), World.cell?_setCell_other _ _ _ _ (by simp)]
    exact h1
  have kf : ∀ j, W1.frozen? ⟨q, j, none⟩ = false := fun j => by
    rw [← hW1, World.frozen?_setCells, World.frozen?_alloc_old _ _ ⟨q, j, none⟩ (by simp; omega), World.frozen?_setCell]
    exact hf j
  have kc : ∀ j, W1.cell? ⟨w.heap.size, j, none⟩ = #[Value.string ⟨c.text.toArray⟩, .int .i64 c.n, .int .i64 c.kind][j]? := fun j => by
    rw [← hW1, World.cell?_setCells_out _ _ _ _ _ (fun hh => absurd hh (by simp; omega)), World.cell?_alloc_at _ _ _ _ (by simp)]
  have kc0 : W1.cell? ⟨w.heap.size, 0, none⟩ = some (Value.string ⟨c.text.toArray⟩) := kc 0
  have kc2 : W1.cell? ⟨w.heap.size, 2, none⟩ = some (.int .i64 c.kind) := kc 2
  have HW1 := hide2 hW1
  clear hW1 kc
  unfold strV at h0t
  have n1 : ¬ q = b := by omega
  have n2 : ¬ q = w.heap.size := by omega
  have n3 : ¬ w.heap.size = q := by omega
  have hmin : min most (c.text.length - a) ≤ c.text.length - a := Nat.min_le_right _ _
  rw [hlen]
  clear hlen hblen
  generalize min most (c.text.length - a) = nn at *
  generalize (c :: l).length = ll at *
  dsimp only at h1 h2
  have hsz : (ByteArray.mk c.text.toArray).size = c.text.length := by simp [ByteArray.size]
  have fin : ∀ m n, ∃ W2 : World, W2 = (((w.setCell ⟨q, 3, none⟩ (.int .i64 (wrap64 (r + 1)))).alloc (.cells #[strV c.text, .int .i64 c.n, .int .i64 c.kind] 40)).setCells pb po (bytesV ((c.text.drop a).take most))).setCell ⟨q, 1, none⟩ (.int .i64 ((a + nn : Nat) : Int)) ∧ ∃ k, ((W1.drewN m).setCell ⟨q, 1, none⟩ (.int .i64 ((a : Int) + nn))).drewN n = W2.drewN k := fun m n =>
    ⟨_, rfl, m + n, by rw [← HW1.out, ← World.drewN_drewN]; rfl⟩
  have Hfin := hide2 fin
  clear fin
  by_cases hk : c.kind = 5
  · have gk : (c.kind == 5) = true := beq_iff_eq.2 hk
    by_cases he : a + nn = c.text.length
    · have ge : (((a : Int) + nn) == (c.text.length : Int)) = true := beq_iff_eq.2 (by omega)
      rw [if_pos ⟨hk, he⟩]
      rw [hk] at kc2 hcopy2
      clear he
      go_enter Tryz.func266, Tryz.ntmps266
      go_wp2
      go_quiet (fail)
      go_wp2
      go_region
      go_wp2
      go_quiet (fail)
      go_wp2
      go_ret2
      exact ⟨rfl, Hfin.out _ _⟩
    · have ge : (((a : Int) + nn) == (c.text.length : Int)) = false := beq_eq_false_iff_ne.2 (by omega)
      rw [if_neg (fun x => he x.2)]
      rw [hk] at kc2 hcopy2
      clear he
      go_enter Tryz.func266, Tryz.ntmps266
      go_wp2
      go_quiet (fail)
      go_wp2
      go_region
      go_wp2
      go_quiet (fail)
      go_wp2
      go_ret2
      exact ⟨rfl, Hfin.out _ _⟩
  · have gk : (c.kind == 5) = false := beq_eq_false_iff_ne.2 hk
    rw [if_neg (fun x => hk x.1)]
    clear hk
    go_enter Tryz.func266, Tryz.ntmps266
    go_wp2
    go_quiet (fail)
    go_wp2
    go_region
    go_wp2
    go_quiet (fail)
    go_wp2
    go_ret2
    exact ⟨rfl, Hfin.out _ _⟩
end Go.Proofs.YtlhokghgicgppaaGreatDoor
