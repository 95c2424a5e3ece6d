/- (*layout).join. -/
/- (*layout).place. -/
/- Trees in memory. -/
/- The layout of places as the plain layout. -/
import Derived.Test.YtlhokghgicgppaaGreatDoorMatching
import Derived.Test.YtlhokghgicgppaaGreatDoorSortA
set_option linter.unusedSimpArgs false
set_option linter.unusedVariables false
set_option maxRecDepth 100000
set_option maxHeartbeats 4000000
namespace Go.Proofs.YtlhokghgicgppaaGreatDoor
open Go.RowKit Go.Extern
def pcA (f0 f1 l0 l1 : Int) (e : Bool) : Array Value := #[.int .u32 f0, .int .u32 f1, .int .u32 l0, .int .u32 l1, .bool e]
structure Five (w : World) (k : Nat) (f0 f1 l0 l1 : Int) (e : Bool) : Prop where
  a0 : w.cell? ⟨k, 0, none⟩ = some (.int .u32 f0)
  a1 : w.cell? ⟨k, 1, none⟩ = some (.int .u32 f1)
  a2 : w.cell? ⟨k, 2, none⟩ = some (.int .u32 l0)
  a3 : w.cell? ⟨k, 3, none⟩ = some (.int .u32 l1)
  a4 : w.cell? ⟨k, 4, none⟩ = some (.bool e)
  z0 : w.frozen? ⟨k, 0, none⟩ = false
  z1 : w.frozen? ⟨k, 1, none⟩ = false
  z2 : w.frozen? ⟨k, 2, none⟩ = false
  z3 : w.frozen? ⟨k, 3, none⟩ = false
  z4 : w.frozen? ⟨k, 4, none⟩ = false
theorem five {w : World} {k : Nat} {f0 f1 l0 l1 : Int} {e : Bool} {t : TypeId} (h : w.heap[k]? = some (.cells (pcA f0 f1 l0 l1 e) t)) : Five w k f0 f1 l0 l1 e := by
  constructor <;> first | (unfold World.cell?; simp only [h]; rfl) | (unfold World.frozen?; simp only [h]; rfl)
theorem below1 (w : World) (o : Obj) : Below w.heap.size w (w.alloc o) := (Below.refl _ _).alloc (Nat.le_refl _) o
theorem alloc3_low (w : World) (o1 o2 o3 : Obj) : (((w.alloc o1).alloc o2).alloc o3).heap[w.heap.size]? = some o1 := by
  rw [Go.heap_alloc_old ((w.alloc o1).alloc o2) o3 (by simp; omega : w.heap.size < ((w.alloc o1).alloc o2).heap.size)]
  exact alloc2_low w o1 o2
theorem set5_row {w : World} {g : Nat} {t : TypeId} {cs : Array Value} (hs : cs.size = 5) (h : w.heap[g]? = some (.cells cs t)) (v0 v1 v2 v3 v4 : Value) :
    (((((w.setCell ⟨g, 0, none⟩ v0).setCell ⟨g, 1, none⟩ v1).setCell ⟨g, 2, none⟩ v2).setCell ⟨g, 3, none⟩ v3).setCell ⟨g, 4, none⟩ v4).heap[g]? = some (.cells #[v0, v1, v2, v3, v4] t) := by
  obtain ⟨l⟩ := cs
  match l, hs with
  | [x0, x1, x2, x3, x4], _ => simp [World.setCell, Array.getElem?_modify, h]
theorem FunAt.other {w : World} {p n : Nat} {F : Nat → Nat} (h : FunAt w p n F) {k : Nat} (hk : k ≠ p) (o : Nat) (v : Value) : FunAt (w.setCell ⟨k, o, none⟩ v) p n F :=
  have hne : ∀ o', (⟨k, o, none⟩ : Addr) ≠ ⟨p, o', none⟩ := fun _ e => hk (congrArg Addr.block e)
  ⟨(World.cell?_setCell_other _ _ _ _ (hne _)).trans h.c0, fun i hi => (World.cell?_setCell_other _ _ _ _ (hne _)).trans (h.f0 i hi), fun i hi => (World.cell?_setCell_other _ _ _ _ (hne _)).trans (h.f1 i hi), fun o' => by rw [World.frozen?_setCell]; exact h.fz o'⟩
theorem Chg.set_new {T : Nat → Nat → Prop} {a b : World} (h : Chg T a b) {k : Nat} (hk : a.heap.size ≤ k) (o : Nat) (v : Value) : Chg T a (b.setCell ⟨k, o, none⟩ v) :=
  h.trans_new ((Chg.refl (fun i _ => i = k) b).setCell rfl v) (fun i o hi e => by subst e; exact absurd hi (Nat.not_lt.2 hk))
theorem join_end {w x : World} {p n : Nat} {F : Nat → Nat} (hp : p < w.heap.size) {cs : Array Value} (hs : cs.size = 5) {t : TypeId} (h : x.heap[w.heap.size + 1 + 1]? = some (.cells cs t)) (hF : FunAt x p n F) (hC : Chg (folT p) w x) (v0 v1 v2 v3 v4 : Value) :
    (((((x.setCell ⟨w.heap.size + 1 + 1, 0, none⟩ v0).setCell ⟨w.heap.size + 1 + 1, 1, none⟩ v1).setCell ⟨w.heap.size + 1 + 1, 2, none⟩ v2).setCell ⟨w.heap.size + 1 + 1, 3, none⟩ v3).setCell ⟨w.heap.size + 1 + 1, 4, none⟩ v4).heap[w.heap.size + 1 + 1]? = some (.cells #[v0, v1, v2, v3, v4] t) ∧
    FunAt (((((x.setCell ⟨w.heap.size + 1 + 1, 0, none⟩ v0).setCell ⟨w.heap.size + 1 + 1, 1, none⟩ v1).setCell ⟨w.heap.size + 1 + 1, 2, none⟩ v2).setCell ⟨w.heap.size + 1 + 1, 3, none⟩ v3).setCell ⟨w.heap.size + 1 + 1, 4, none⟩ v4) p n F ∧
    Chg (folT p) w (((((x.setCell ⟨w.heap.size + 1 + 1, 0, none⟩ v0).setCell ⟨w.heap.size + 1 + 1, 1, none⟩ v1).setCell ⟨w.heap.size + 1 + 1, 2, none⟩ v2).setCell ⟨w.heap.size + 1 + 1, 3, none⟩ v3).setCell ⟨w.heap.size + 1 + 1, 4, none⟩ v4) := by
  have hk : w.heap.size + 1 + 1 ≠ p := by omega
  have hl : w.heap.size ≤ w.heap.size + 1 + 1 := by omega
  exact ⟨set5_row hs h _ _ _ _ _, ((((hF.other hk _ _).other hk _ _).other hk _ _).other hk _ _).other hk _ _, ((((hC.set_new hl _ _).set_new hl _ _).set_new hl _ _).set_new hl _ _).set_new hl _ _⟩
theorem join_ff (w : World) (p n : Nat) (L : Nat → Nat) (P Q : Sg.Pc2) (hP : P.last < 18446744073709551616) (hQ : Q.first < 18446744073709551616) (hL : ∀ i, L i < 18446744073709551616) (hn : n ≤ 64) (h : FunAt w p n L)
    (p0 p1 p2 p3 q0 q1 q2 q3 : Int) (hl : psV P.last = .agg #[.int .u32 p2, .int .u32 p3]) (hf : psV Q.first = .agg #[.int .u32 q0, .int .u32 q1]) :
    Calls Tryz.prog 146 #[.pointer (some ⟨p, 0, none⟩), .agg (pcA p0 p1 p2 p3 false), .agg (pcA q0 q1 q2 q3 false)] w fun e w' => e = .returned (.agg (pcA p0 p1 q2 q3 false)) ∧ FunAt w' p n (conF L P.last Q.first n) ∧ Chg (folT p) w w' := by
  have HC := hide2 (fun (wx : World) (hx : FunAt wx p n L) => connect_any wx p n L P.last Q.first hP hQ hL hn hx)
  rw [hl, hf] at HC
  have HF := hide2 h
  have hp := cell_lt h.c0
  clear h hl hf hP hQ
  unfold pcA
  go_enter Tryz.func146, Tryz.ntmps146
  go_wp2_with (go_at_call 174; refine (HC.out _ (HF.out.below (below3 _ _ _ _))).mono ?_; rintro e w1 ⟨rfl, hF1, hC1⟩; obtain ⟨s0, s1, s2, s3, s4, _, _, _, _, _⟩ := five (show w1.heap[w.heap.size]? = some (.cells (pcA p0 p1 p2 p3 false) 232) from (hC1.block _ (by simp; omega) (fun o t => by have := t.1; omega)).trans (alloc3_low w _ _ _)); obtain ⟨t0, t1, t2, t3, t4, _, _, _, _, _⟩ := five (show w1.heap[w.heap.size + 1]? = some (.cells (pcA q0 q1 q2 q3 false) 232) from (hC1.block _ (by simp) (fun o t => by have := t.1; omega)).trans (alloc3_mid w _ _ _)); have hr1 : w1.heap[w.heap.size + 1 + 1]? = some (.cells (pcA 0 0 0 0 false) 232) := (hC1.block _ (by simp) (fun o t => by have := t.1; omega)).trans (alloc3_top w _ _ _); obtain ⟨r0, r1, r2, r3, r4, x0, x1, x2, x3, x4⟩ := five hr1; have HN := hide2 (And.intro hr1 (And.intro hF1 hC1)); have s4' := fun o => below_keep (below1 w1 o) s4; have t4' := fun o => below_keep (below1 w1 o) t4; have r0' := fun o => below_keep (below1 w1 o) r0; have r1' := fun o => below_keep (below1 w1 o) r1; have r2' := fun o => below_keep (below1 w1 o) r2; have r3' := fun o => below_keep (below1 w1 o) r3; have r4' := fun o => below_keep (below1 w1 o) r4; have x0' := fun o => below_frz (below1 w1 o) (cell_lt r0) x0; have x1' := fun o => below_frz (below1 w1 o) (cell_lt r0) x1; have x2' := fun o => below_frz (below1 w1 o) (cell_lt r0) x2; have x3' := fun o => below_frz (below1 w1 o) (cell_lt r0) x3; have x4' := fun o => below_frz (below1 w1 o) (cell_lt r0) x4; clear hr1 hF1 hC1)
  obtain ⟨e1, e2, e3⟩ := join_end (x := w1.alloc (.cells #[.int .u32 p0, .int .u32 p1, .int .u32 q2, .int .u32 q3, .bool false] 232)) hp rfl (below_blk (below1 w1 _) HN.out.1) (HN.out.2.1.below (below1 w1 _)) (((Chg.of_below (below3 w _ _ _)).trans HN.out.2.2).alloc _) (.int .u32 p0) (.int .u32 p1) (.int .u32 q2) (.int .u32 q3) (.bool false)
  refine bodyPost_ret (results_cell_row rfl _ _ (w.heap.size + 1 + 1) 232 #[.int .u32 p0, .int .u32 p1, .int .u32 q2, .int .u32 q3, .bool false] (0, 0) _ rfl e1 Tryz.underlying232 rfl (by kernel_rfl)) rfl ?_
  exact ⟨rfl, e2, e3⟩
theorem join_tf (w : World) (p n : Nat) (L : Nat → Nat) (P Q : Sg.Pc2) (hP : P.last < 18446744073709551616) (hQ : Q.first < 18446744073709551616) (hL : ∀ i, L i < 18446744073709551616) (hn : n ≤ 64) (h : FunAt w p n L)
    (p0 p1 p2 p3 q0 q1 q2 q3 : Int) (m0 m1 : Int) (hO : ∀ wx, Calls Tryz.prog 105 #[.agg #[.int .u32 p0, .int .u32 p1], .agg #[.int .u32 q0, .int .u32 q1]] wx fun e w' => e = .returned (.agg #[.int .u32 m0, .int .u32 m1]) ∧ Below wx.heap.size wx w') (hl : psV P.last = .agg #[.int .u32 p2, .int .u32 p3]) (hf : psV Q.first = .agg #[.int .u32 q0, .int .u32 q1]) :
    Calls Tryz.prog 146 #[.pointer (some ⟨p, 0, none⟩), .agg (pcA p0 p1 p2 p3 true), .agg (pcA q0 q1 q2 q3 false)] w fun e w' => e = .returned (.agg (pcA m0 m1 q2 q3 false)) ∧ FunAt w' p n (conF L P.last Q.first n) ∧ Chg (folT p) w w' := by
  have HC := hide2 (fun (wx : World) (hx : FunAt wx p n L) => connect_any wx p n L P.last Q.first hP hQ hL hn hx)
  rw [hl, hf] at HC
  have HF := hide2 h
  have hp := cell_lt h.c0
  have HO := hide2 hO
  clear h hl hf hP hQ hO
  unfold pcA
  go_enter Tryz.func146, Tryz.ntmps146
  go_wp2_with (first
    | (go_at_call 174; refine (HC.out _ (HF.out.below (below3 _ _ _ _))).mono ?_; rintro e w1 ⟨rfl, hF1, hC1⟩; obtain ⟨s0, s1, s2, s3, s4, _, _, _, _, _⟩ := five (show w1.heap[w.heap.size]? = some (.cells (pcA p0 p1 p2 p3 true) 232) from (hC1.block _ (by simp; omega) (fun o t => by have := t.1; omega)).trans (alloc3_low w _ _ _)); obtain ⟨t0, t1, t2, t3, t4, _, _, _, _, _⟩ := five (show w1.heap[w.heap.size + 1]? = some (.cells (pcA q0 q1 q2 q3 false) 232) from (hC1.block _ (by simp) (fun o t => by have := t.1; omega)).trans (alloc3_mid w _ _ _)); have hr1 : w1.heap[w.heap.size + 1 + 1]? = some (.cells (pcA 0 0 0 0 false) 232) := (hC1.block _ (by simp) (fun o t => by have := t.1; omega)).trans (alloc3_top w _ _ _); obtain ⟨r0, r1, r2, r3, r4, x0, x1, x2, x3, x4⟩ := five hr1; have HN := hide2 (And.intro hr1 (And.intro hF1 hC1)); have s4' := fun o => below_keep (below1 w1 o) s4; have t4' := fun o => below_keep (below1 w1 o) t4; have r0' := fun o => below_keep (below1 w1 o) r0; have r1' := fun o => below_keep (below1 w1 o) r1; have r2' := fun o => below_keep (below1 w1 o) r2; have r3' := fun o => below_keep (below1 w1 o) r3; have r4' := fun o => below_keep (below1 w1 o) r4; have x0' := fun o => below_frz (below1 w1 o) (cell_lt r0) x0; have x1' := fun o => below_frz (below1 w1 o) (cell_lt r0) x1; have x2' := fun o => below_frz (below1 w1 o) (cell_lt r0) x2; have x3' := fun o => below_frz (below1 w1 o) (cell_lt r0) x3; have x4' := fun o => below_frz (below1 w1 o) (cell_lt r0) x4; have t0' := fun o => below_keep (below1 w1 o) t0; have t1' := fun o => below_keep (below1 w1 o) t1; have hk1 : w.heap.size + 1 + 1 < w1.heap.size := cell_lt r0; clear hr1 hF1 hC1)
    | (go_at_call 105; refine (HO.out _).mono ?_; rintro e w2 ⟨rfl, hb2⟩; have hj2 : w2.heap[w1.heap.size]? = some (.cells (pcA p0 p1 q2 q3 false) 232) := below_blk hb2 (heap_alloc_new w1 _); obtain ⟨i0, i1, i2, i3, i4, y0, y1, y2, y3, y4⟩ := five hj2; have t4'' := below_keep hb2 (t4' _); have r0'' := below_keep hb2 (r0' _); have r1'' := below_keep hb2 (r1' _); have r2'' := below_keep hb2 (r2' _); have r3'' := below_keep hb2 (r3' _); have r4'' := below_keep hb2 (r4' _); have x0'' := below_frz hb2 (cell_lt (r0' _)) (x0' _); have x1'' := below_frz hb2 (cell_lt (r0' _)) (x1' _); have x2'' := below_frz hb2 (cell_lt (r0' _)) (x2' _); have x3'' := below_frz hb2 (cell_lt (r0' _)) (x3' _); have x4'' := below_frz hb2 (cell_lt (r0' _)) (x4' _); have HB2 := hide2 hb2; clear hb2 hj2; have ne1 : ¬ w1.heap.size = w.heap.size + 1 := (by omega); have ne2 : ¬ w1.heap.size = w.heap.size + 1 + 1 := (by omega); have ne3 : ¬ w.heap.size + 1 + 1 = w1.heap.size := (by omega); have ne4 : ¬ w.heap.size + 1 = w1.heap.size := (by omega)))
  obtain ⟨e1, e2, e3⟩ := join_end (x := (w2.setCell ⟨w1.heap.size, 0, none⟩ (.int .u32 m0)).setCell ⟨w1.heap.size, 1, none⟩ (.int .u32 m1)) hp rfl
    (by rw [Below.heap_setCell _ _ _ _ (by show w.heap.size + 1 + 1 ≠ w1.heap.size; omega), Below.heap_setCell _ _ _ _ (by show w.heap.size + 1 + 1 ≠ w1.heap.size; omega)]; exact below_blk HB2.out (below_blk (below1 w1 _) HN.out.1))
    ((((HN.out.2.1.below (below1 w1 _)).below HB2.out).other (by omega) _ _).other (by omega) _ _)
    (((((((Chg.of_below (below3 w _ _ _)).trans HN.out.2.2).alloc _).trans (Chg.of_below HB2.out)).set_new (by omega) _ _).set_new (by omega) _ _)) (.int .u32 m0) (.int .u32 m1) (.int .u32 q2) (.int .u32 q3) (.bool false)
  refine bodyPost_ret (results_cell_row rfl _ _ (w.heap.size + 1 + 1) 232 #[.int .u32 m0, .int .u32 m1, .int .u32 q2, .int .u32 q3, .bool false] (0, 0) _ rfl e1 Tryz.underlying232 rfl (by kernel_rfl)) rfl ?_
  exact ⟨rfl, e2, e3⟩
theorem join_ft (w : World) (p n : Nat) (L : Nat → Nat) (P Q : Sg.Pc2) (hP : P.last < 18446744073709551616) (hQ : Q.first < 18446744073709551616) (hL : ∀ i, L i < 18446744073709551616) (hn : n ≤ 64) (h : FunAt w p n L)
    (p0 p1 p2 p3 q0 q1 q2 q3 : Int) (m0 m1 : Int) (hO : ∀ wx, Calls Tryz.prog 105 #[.agg #[.int .u32 q2, .int .u32 q3], .agg #[.int .u32 p2, .int .u32 p3]] wx fun e w' => e = .returned (.agg #[.int .u32 m0, .int .u32 m1]) ∧ Below wx.heap.size wx w') (hl : psV P.last = .agg #[.int .u32 p2, .int .u32 p3]) (hf : psV Q.first = .agg #[.int .u32 q0, .int .u32 q1]) :
    Calls Tryz.prog 146 #[.pointer (some ⟨p, 0, none⟩), .agg (pcA p0 p1 p2 p3 false), .agg (pcA q0 q1 q2 q3 true)] w fun e w' => e = .returned (.agg (pcA p0 p1 m0 m1 false)) ∧ FunAt w' p n (conF L P.last Q.first n) ∧ Chg (folT p) w w' := by
  have HC := hide2 (fun (wx : World) (hx : FunAt wx p n L) => connect_any wx p n L P.last Q.first hP hQ hL hn hx)
  rw [hl, hf] at HC
  have HF := hide2 h
  have hp := cell_lt h.c0
  have HO := hide2 hO
  clear h hl hf hP hQ hO
  unfold pcA
  go_enter Tryz.func146, Tryz.ntmps146
  go_wp2_with (first
    | (go_at_call 174; refine (HC.out _ (HF.out.below (below3 _ _ _ _))).mono ?_; rintro e w1 ⟨rfl, hF1, hC1⟩; obtain ⟨s0, s1, s2, s3, s4, _, _, _, _, _⟩ := five (show w1.heap[w.heap.size]? = some (.cells (pcA p0 p1 p2 p3 false) 232) from (hC1.block _ (by simp; omega) (fun o t => by have := t.1; omega)).trans (alloc3_low w _ _ _)); obtain ⟨t0, t1, t2, t3, t4, _, _, _, _, _⟩ := five (show w1.heap[w.heap.size + 1]? = some (.cells (pcA q0 q1 q2 q3 true) 232) from (hC1.block _ (by simp) (fun o t => by have := t.1; omega)).trans (alloc3_mid w _ _ _)); have hr1 : w1.heap[w.heap.size + 1 + 1]? = some (.cells (pcA 0 0 0 0 false) 232) := (hC1.block _ (by simp) (fun o t => by have := t.1; omega)).trans (alloc3_top w _ _ _); obtain ⟨r0, r1, r2, r3, r4, x0, x1, x2, x3, x4⟩ := five hr1; have HN := hide2 (And.intro hr1 (And.intro hF1 hC1)); have s4' := fun o => below_keep (below1 w1 o) s4; have t4' := fun o => below_keep (below1 w1 o) t4; have r0' := fun o => below_keep (below1 w1 o) r0; have r1' := fun o => below_keep (below1 w1 o) r1; have r2' := fun o => below_keep (below1 w1 o) r2; have r3' := fun o => below_keep (below1 w1 o) r3; have r4' := fun o => below_keep (below1 w1 o) r4; have x0' := fun o => below_frz (below1 w1 o) (cell_lt r0) x0; have x1' := fun o => below_frz (below1 w1 o) (cell_lt r0) x1; have x2' := fun o => below_frz (below1 w1 o) (cell_lt r0) x2; have x3' := fun o => below_frz (below1 w1 o) (cell_lt r0) x3; have x4' := fun o => below_frz (below1 w1 o) (cell_lt r0) x4; have s2' := fun o => below_keep (below1 w1 o) s2; have s3' := fun o => below_keep (below1 w1 o) s3; have hk1 : w.heap.size + 1 + 1 < w1.heap.size := cell_lt r0; clear hr1 hF1 hC1)
    | (go_at_call 105; refine (HO.out _).mono ?_; rintro e w2 ⟨rfl, hb2⟩; have hj2 : w2.heap[w1.heap.size]? = some (.cells (pcA p0 p1 q2 q3 false) 232) := below_blk hb2 (heap_alloc_new w1 _); obtain ⟨i0, i1, i2, i3, i4, y0, y1, y2, y3, y4⟩ := five hj2; have t4'' := below_keep hb2 (t4' _); have r0'' := below_keep hb2 (r0' _); have r1'' := below_keep hb2 (r1' _); have r2'' := below_keep hb2 (r2' _); have r3'' := below_keep hb2 (r3' _); have r4'' := below_keep hb2 (r4' _); have x0'' := below_frz hb2 (cell_lt (r0' _)) (x0' _); have x1'' := below_frz hb2 (cell_lt (r0' _)) (x1' _); have x2'' := below_frz hb2 (cell_lt (r0' _)) (x2' _); have x3'' := below_frz hb2 (cell_lt (r0' _)) (x3' _); have x4'' := below_frz hb2 (cell_lt (r0' _)) (x4' _); have HB2 := hide2 hb2; clear hb2 hj2; have ne1 : ¬ w1.heap.size = w.heap.size + 1 := (by omega); have ne2 : ¬ w1.heap.size = w.heap.size + 1 + 1 := (by omega); have ne3 : ¬ w.heap.size + 1 + 1 = w1.heap.size := (by omega); have ne4 : ¬ w.heap.size + 1 = w1.heap.size := (by omega)))
  obtain ⟨e1, e2, e3⟩ := join_end (x := (w2.setCell ⟨w1.heap.size, 2, none⟩ (.int .u32 m0)).setCell ⟨w1.heap.size, 3, none⟩ (.int .u32 m1)) hp rfl
    (by rw [Below.heap_setCell _ _ _ _ (by show w.heap.size + 1 + 1 ≠ w1.heap.size; omega), Below.heap_setCell _ _ _ _ (by show w.heap.size + 1 + 1 ≠ w1.heap.size; omega)]; exact below_blk HB2.out (below_blk (below1 w1 _) HN.out.1))
    ((((HN.out.2.1.below (below1 w1 _)).below HB2.out).other (by omega) _ _).other (by omega) _ _)
    (((((((Chg.of_below (below3 w _ _ _)).trans HN.out.2.2).alloc _).trans (Chg.of_below HB2.out)).set_new (by omega) _ _).set_new (by omega) _ _)) (.int .u32 p0) (.int .u32 p1) (.int .u32 m0) (.int .u32 m1) (.bool false)
  refine bodyPost_ret (results_cell_row rfl _ _ (w.heap.size + 1 + 1) 232 #[.int .u32 p0, .int .u32 p1, .int .u32 m0, .int .u32 m1, .bool false] (0, 0) _ rfl e1 Tryz.underlying232 rfl (by kernel_rfl)) rfl ?_
  exact ⟨rfl, e2, e3⟩
theorem set2_five {w : World} {k : Nat} {t : TypeId} {a b c d : Int} {e : Bool} (h : w.heap[k]? = some (.cells (pcA a b c d e) t)) (v0 v1 : Int) : ((w.setCell ⟨k, 0, none⟩ (.int .u32 v0)).setCell ⟨k, 1, none⟩ (.int .u32 v1)).heap[k]? = some (.cells (pcA v0 v1 c d e) t) := by
  unfold pcA at h ⊢
  simp [World.setCell, Array.getElem?_modify, h]
theorem keep2 {w : World} {k b o : Nat} (hk : ¬ k = b) (u u' : Value) {v : Value} (h : w.cell? ⟨b, o, none⟩ = some v) : ((w.setCell ⟨k, 0, none⟩ u).setCell ⟨k, 1, none⟩ u').cell? ⟨b, o, none⟩ = some v :=
  (World.cell?_setCell_other _ _ _ _ (fun e => hk (congrArg Addr.block e))).trans ((World.cell?_setCell_other _ _ _ _ (fun e => hk (congrArg Addr.block e))).trans h)
theorem frz2 {w : World} {b o : Nat} {v : Bool} (k : Nat) (u u' : Value) (h : w.frozen? ⟨b, o, none⟩ = v) : ((w.setCell ⟨k, 0, none⟩ u).setCell ⟨k, 1, none⟩ u').frozen? ⟨b, o, none⟩ = v := by
  rw [World.frozen?_setCell, World.frozen?_setCell]; exact h
theorem join_tt (w : World) (p n : Nat) (L : Nat → Nat) (P Q : Sg.Pc2) (hP : P.last < 18446744073709551616) (hQ : Q.first < 18446744073709551616) (hL : ∀ i, L i < 18446744073709551616) (hn : n ≤ 64) (h : FunAt w p n L)
    (p0 p1 p2 p3 q0 q1 q2 q3 : Int) (m0 m1 l0 l1 : Int) (hO2 : ∀ wx, Calls Tryz.prog 105 #[.agg #[.int .u32 q2, .int .u32 q3], .agg #[.int .u32 p2, .int .u32 p3]] wx fun e w' => e = .returned (.agg #[.int .u32 l0, .int .u32 l1]) ∧ Below wx.heap.size wx w') (hO : ∀ wx, Calls Tryz.prog 105 #[.agg #[.int .u32 p0, .int .u32 p1], .agg #[.int .u32 q0, .int .u32 q1]] wx fun e w' => e = .returned (.agg #[.int .u32 m0, .int .u32 m1]) ∧ Below wx.heap.size wx w') (hl : psV P.last = .agg #[.int .u32 p2, .int .u32 p3]) (hf : psV Q.first = .agg #[.int .u32 q0, .int .u32 q1]) :
    Calls Tryz.prog 146 #[.pointer (some ⟨p, 0, none⟩), .agg (pcA p0 p1 p2 p3 true), .agg (pcA q0 q1 q2 q3 true)] w fun e w' => e = .returned (.agg (pcA m0 m1 l0 l1 true)) ∧ FunAt w' p n (conF L P.last Q.first n) ∧ Chg (folT p) w w' := by
  have HC := hide2 (fun (wx : World) (hx : FunAt wx p n L) => connect_any wx p n L P.last Q.first hP hQ hL hn hx)
  rw [hl, hf] at HC
  have HF := hide2 h
  have hp := cell_lt h.c0
  have HO := hide2 hO
  have HO2 := hide2 hO2
  clear h hl hf hP hQ hO hO2
  unfold pcA
  go_enter Tryz.func146, Tryz.ntmps146
  go_wp2_with (first
    | (go_at_call 174; refine (HC.out _ (HF.out.below (below3 _ _ _ _))).mono ?_; rintro e w1 ⟨rfl, hF1, hC1⟩; obtain ⟨s0, s1, s2, s3, s4, _, _, _, _, _⟩ := five (show w1.heap[w.heap.size]? = some (.cells (pcA p0 p1 p2 p3 true) 232) from (hC1.block _ (by simp; omega) (fun o t => by have := t.1; omega)).trans (alloc3_low w _ _ _)); obtain ⟨t0, t1, t2, t3, t4, _, _, _, _, _⟩ := five (show w1.heap[w.heap.size + 1]? = some (.cells (pcA q0 q1 q2 q3 true) 232) from (hC1.block _ (by simp) (fun o t => by have := t.1; omega)).trans (alloc3_mid w _ _ _)); have hr1 : w1.heap[w.heap.size + 1 + 1]? = some (.cells (pcA 0 0 0 0 false) 232) := (hC1.block _ (by simp) (fun o t => by have := t.1; omega)).trans (alloc3_top w _ _ _); obtain ⟨r0, r1, r2, r3, r4, x0, x1, x2, x3, x4⟩ := five hr1; have HN := hide2 (And.intro hr1 (And.intro hF1 hC1)); have s4' := fun o => below_keep (below1 w1 o) s4; have t4' := fun o => below_keep (below1 w1 o) t4; have r0' := fun o => below_keep (below1 w1 o) r0; have r1' := fun o => below_keep (below1 w1 o) r1; have r2' := fun o => below_keep (below1 w1 o) r2; have r3' := fun o => below_keep (below1 w1 o) r3; have r4' := fun o => below_keep (below1 w1 o) r4; have x0' := fun o => below_frz (below1 w1 o) (cell_lt r0) x0; have x1' := fun o => below_frz (below1 w1 o) (cell_lt r0) x1; have x2' := fun o => below_frz (below1 w1 o) (cell_lt r0) x2; have x3' := fun o => below_frz (below1 w1 o) (cell_lt r0) x3; have x4' := fun o => below_frz (below1 w1 o) (cell_lt r0) x4; have s2' := fun o => below_keep (below1 w1 o) s2; have s3' := fun o => below_keep (below1 w1 o) s3; have t0' := fun o => below_keep (below1 w1 o) t0; have t1' := fun o => below_keep (below1 w1 o) t1; have hk1 : w.heap.size + 1 + 1 < w1.heap.size := cell_lt r0; clear hr1 hF1 hC1)
    | (go_at_call 105; refine (HO.out _).mono ?_; clear HO; rintro e w2 ⟨rfl, hb2⟩; have hj2 : w2.heap[w1.heap.size]? = some (.cells (pcA p0 p1 q2 q3 true) 232) := below_blk hb2 (heap_alloc_new w1 _); obtain ⟨i0, i1, i2, i3, i4, y0, y1, y2, y3, y4⟩ := five hj2; have t4'' := below_keep hb2 (t4' _); have r0'' := below_keep hb2 (r0' _); have r1'' := below_keep hb2 (r1' _); have r2'' := below_keep hb2 (r2' _); have r3'' := below_keep hb2 (r3' _); have r4'' := below_keep hb2 (r4' _); have x0'' := below_frz hb2 (cell_lt (r0' _)) (x0' _); have x1'' := below_frz hb2 (cell_lt (r0' _)) (x1' _); have x2'' := below_frz hb2 (cell_lt (r0' _)) (x2' _); have x3'' := below_frz hb2 (cell_lt (r0' _)) (x3' _); have x4'' := below_frz hb2 (cell_lt (r0' _)) (x4' _); have s2'' := below_keep hb2 (s2' _); have s3'' := below_keep hb2 (s3' _); have HJ2 := hide2 hj2; have HB2 := hide2 hb2; clear hb2 hj2; have ne5 : ¬ w1.heap.size = w.heap.size := (by omega); have ne1 : ¬ w1.heap.size = w.heap.size + 1 := (by omega); have ne2 : ¬ w1.heap.size = w.heap.size + 1 + 1 := (by omega); have ne3 : ¬ w.heap.size + 1 + 1 = w1.heap.size := (by omega); have ne4 : ¬ w.heap.size + 1 = w1.heap.size := (by omega))
    | (go_at_call 105; refine (HO2.out _).mono ?_; rintro e w3 ⟨rfl, hb3⟩; have hj3 : w3.heap[w1.heap.size]? = some (.cells (pcA m0 m1 q2 q3 true) 232) := below_blk hb3 (set2_five HJ2.out m0 m1); obtain ⟨j0, j1, j2, j3, j4, v0, v1, v2, v3, v4⟩ := five hj3; have R0 := below_keep hb3 (keep2 ne2 _ _ r0''); have R1 := below_keep hb3 (keep2 ne2 _ _ r1''); have R2 := below_keep hb3 (keep2 ne2 _ _ r2''); have R3 := below_keep hb3 (keep2 ne2 _ _ r3''); have R4 := below_keep hb3 (keep2 ne2 _ _ r4''); have X0 := below_frz hb3 (cell_lt (keep2 ne2 _ _ r0'')) (frz2 _ _ _ x0''); have X1 := below_frz hb3 (cell_lt (keep2 ne2 _ _ r0'')) (frz2 _ _ _ x1''); have X2 := below_frz hb3 (cell_lt (keep2 ne2 _ _ r0'')) (frz2 _ _ _ x2''); have X3 := below_frz hb3 (cell_lt (keep2 ne2 _ _ r0'')) (frz2 _ _ _ x3''); have X4 := below_frz hb3 (cell_lt (keep2 ne2 _ _ r0'')) (frz2 _ _ _ x4''); have HB3 := hide2 hb3; clear hb3 hj3))
  obtain ⟨e1, e2, e3⟩ := join_end (x := (w3.setCell ⟨w1.heap.size, 2, none⟩ (.int .u32 l0)).setCell ⟨w1.heap.size, 3, none⟩ (.int .u32 l1)) hp rfl
    (by rw [Below.heap_setCell _ _ _ _ (by show w.heap.size + 1 + 1 ≠ w1.heap.size; omega), Below.heap_setCell _ _ _ _ (by show w.heap.size + 1 + 1 ≠ w1.heap.size; omega)]; exact below_blk HB3.out (by rw [Below.heap_setCell _ _ _ _ (by show w.heap.size + 1 + 1 ≠ w1.heap.size; omega), Below.heap_setCell _ _ _ _ (by show w.heap.size + 1 + 1 ≠ w1.heap.size; omega)]; exact below_blk HB2.out (below_blk (below1 w1 _) HN.out.1)))
    (((((((HN.out.2.1.below (below1 w1 _)).below HB2.out).other (by omega) _ _).other (by omega) _ _).below HB3.out).other (by omega) _ _).other (by omega) _ _)
    (((((((((Chg.of_below (below3 w _ _ _)).trans HN.out.2.2).alloc _).trans (Chg.of_below HB2.out)).set_new (by omega) _ _).set_new (by omega) _ _).trans (Chg.of_below HB3.out)).set_new (by omega) _ _).set_new (by omega) _ _) (.int .u32 m0) (.int .u32 m1) (.int .u32 l0) (.int .u32 l1) (.bool true)
  refine bodyPost_ret (results_cell_row rfl _ _ (w.heap.size + 1 + 1) 232 #[.int .u32 m0, .int .u32 m1, .int .u32 l0, .int .u32 l1, .bool true] (0, 0) _ rfl e1 Tryz.underlying232 rfl (by kernel_rfl)) rfl ?_
  exact ⟨rfl, e2, e3⟩
def pcV (P : Sg.Pc2) : Value := .agg (pcA ((P.first % 4294967296 : Nat) : Int) ((P.first / 4294967296 : Nat) : Int) ((P.last % 4294967296 : Nat) : Int) ((P.last / 4294967296 : Nat) : Int) P.empty)
def joinP (P Q : Sg.Pc2) : Sg.Pc2 := ⟨if P.empty then P.first ||| Q.first else P.first, if Q.empty then Q.last ||| P.last else Q.last, P.empty && Q.empty⟩
structure Pok (P : Sg.Pc2) : Prop where
  f : P.first < 18446744073709551616
  l : P.last < 18446744073709551616
theorem joinP_ok {P Q : Sg.Pc2} (hP : Pok P) (hQ : Pok Q) : Pok (joinP P Q) := by
  constructor
  · show (if P.empty = true then P.first ||| Q.first else P.first) < _
    split
    · exact Nat.or_lt_two_pow (n := 64) hP.f hQ.f
    · exact hP.f
  · show (if Q.empty = true then Q.last ||| P.last else Q.last) < _
    split
    · exact Nat.or_lt_two_pow (n := 64) hQ.l hP.l
    · exact hQ.l
theorem join_any (w : World) (p n : Nat) (L : Nat → Nat) (P Q : Sg.Pc2) (hP : Pok P) (hQ : Pok Q) (hL : ∀ i, L i < 18446744073709551616) (hn : n ≤ 64) (h : FunAt w p n L) :
    Calls Tryz.prog 146 #[.pointer (some ⟨p, 0, none⟩), pcV P, pcV Q] w fun e w' => e = .returned (pcV (joinP P Q)) ∧ FunAt w' p n (conF L P.last Q.first n) ∧ Chg (folT p) w w' := by
  obtain ⟨pf, pl, pe⟩ := P
  obtain ⟨qf, ql, qe⟩ := Q
  cases pe <;> cases qe
  · exact join_ff w p n L ⟨pf, pl, false⟩ ⟨qf, ql, false⟩ hP.l hQ.f hL hn h _ _ _ _ _ _ _ _ rfl rfl
  · exact join_ft w p n L ⟨pf, pl, false⟩ ⟨qf, ql, true⟩ hP.l hQ.f hL hn h _ _ _ _ _ _ _ _ _ _ (fun wx => or_any ql pl hQ.l hP.l wx) rfl rfl
  · exact join_tf w p n L ⟨pf, pl, true⟩ ⟨qf, ql, false⟩ hP.l hQ.f hL hn h _ _ _ _ _ _ _ _ _ _ (fun wx => or_any pf qf hP.f hQ.f wx) rfl rfl
  · exact join_tt w p n L ⟨pf, pl, true⟩ ⟨qf, ql, true⟩ hP.l hQ.f hL hn h _ _ _ _ _ _ _ _ _ _ _ _ (fun wx => or_any ql pl hQ.l hP.l wx) (fun wx => or_any pf qf hP.f hQ.f wx) rfl rfl
end Go.Proofs.YtlhokghgicgppaaGreatDoor
namespace Go.Proofs.YtlhokghgicgppaaGreatDoor
open Go.RowKit Go.Extern
abbrev plT (p n : Nat) : Nat → Nat → Prop := fun i o => i = p ∧ (o = 0 ∨ o = 1 + n)
theorem keep5 {w : World} {k b o : Nat} (hk : ¬ k = b) (u0 u1 u2 u3 u4 : Value) {v : Value} (h : w.cell? ⟨b, o, none⟩ = some v) :
    (((((w.setCell ⟨k, 0, none⟩ u0).setCell ⟨k, 1, none⟩ u1).setCell ⟨k, 2, none⟩ u2).setCell ⟨k, 3, none⟩ u3).setCell ⟨k, 4, none⟩ u4).cell? ⟨b, o, none⟩ = some v := by
  have hne : ∀ i, (⟨k, i, none⟩ : Addr) ≠ ⟨b, o, none⟩ := fun _ e => hk (congrArg Addr.block e)
  rw [World.cell?_setCell_other _ _ _ _ (hne _), World.cell?_setCell_other _ _ _ _ (hne _), World.cell?_setCell_other _ _ _ _ (hne _), World.cell?_setCell_other _ _ _ _ (hne _), World.cell?_setCell_other _ _ _ _ (hne _)]
  exact h
theorem place_any (w : World) (p n : Nat) (hn : n < 64) (c0 : w.cell? ⟨p, 0, none⟩ = some (.int .i64 n)) (u : Value) (c1 : w.cell? ⟨p, 1 + n, none⟩ = some u) (z0 : w.frozen? ⟨p, 0, none⟩ = false) (z1 : w.frozen? ⟨p, 1 + n, none⟩ = false) (ra : Option Addr) (ln rc : Nat) :
    Calls Tryz.prog 143 #[.pointer (some ⟨p, 0, none⟩), .slice ra ln rc] w fun e w' => e = .returned (pcV ⟨2 ^ n, 2 ^ n, false⟩) ∧ w'.cell? ⟨p, 0, none⟩ = some (.int .i64 ((n + 1 : Nat) : Int)) ∧ w'.cell? ⟨p, 1 + n, none⟩ = some (.slice ra ln rc) ∧ Chg (plT p n) w w' := by
  have hp := cell_lt c0
  have HO := hide2 (fun wx => one_any n hn wx)
  have hps : psV (2 ^ n) = .agg #[.int .u32 ((2 ^ n % 4294967296 : Nat) : Int), .int .u32 ((2 ^ n / 4294967296 : Nat) : Int)] := rfl
  rw [hps] at HO
  have HP := hide2 (show pcV ⟨2 ^ n, 2 ^ n, false⟩ = .agg #[.int .u32 ((2 ^ n % 4294967296 : Nat) : Int), .int .u32 ((2 ^ n / 4294967296 : Nat) : Int), .int .u32 ((2 ^ n % 4294967296 : Nat) : Int), .int .u32 ((2 ^ n / 4294967296 : Nat) : Int), .bool false] from rfl)
  generalize ((2 ^ n % 4294967296 : Nat) : Int) = m0 at *
  generalize ((2 ^ n / 4294967296 : Nat) : Int) = m1 at *
  generalize pcV ⟨2 ^ n, 2 ^ n, false⟩ = res at *
  have a0 := fun o => below_keep (below1 w o) c0
  have a1 := fun o => below_keep (below1 w o) c1
  have b0 := fun o => below_frz (below1 w o) hp z0
  have b1 := fun o => below_frz (below1 w o) hp z1
  have nep : ¬ w.heap.size = p := by omega
  have nep2 : ¬ p = w.heap.size := by omega
  clear hps
  go_enter Tryz.func143, Tryz.ntmps143
  go_wp2_with (go_at_call 150; refine (HO.out _).mono ?_; rintro e w2 ⟨rfl, hb2⟩; have hr2 : w2.heap[w.heap.size]? = some (.cells (pcA 0 0 0 0 false) 232) := below_blk hb2 (heap_alloc_new w _); have D0 := hide2 (below_keep hb2 (a0 _)); have D1 := hide2 (below_keep hb2 (a1 _)); have hp2 : p < w2.heap.size := cell_lt (below_keep hb2 (a0 _)); have F0 := hide2 (below_frz hb2 (cell_lt (a0 _)) (b0 _)); have F1 := hide2 (below_frz hb2 (cell_lt (a0 _)) (b1 _)); have d0 := fun o => below_keep (below1 w2 o) D0.out; have d1 := fun o => below_keep (below1 w2 o) D1.out; have f0 := fun o => below_frz (below1 w2 o) hp2 F0.out; have f1 := fun o => below_frz (below1 w2 o) hp2 F1.out; have HR2 := hide2 hr2; have HB2 := hide2 hb2; have neq : ¬ w2.heap.size = p := (by omega); have neq2 : ¬ p = w2.heap.size := (by omega); have nes : w.heap.size < w2.heap.size := (Array.getElem?_eq_some_iff.1 hr2).1; clear hr2 hb2)
  go_region
  clear d0 d1 f0 f1 a0 a1 b0 b1
  have E0 : (w2.setCell ⟨p, 1 + n, none⟩ (.slice ra ln rc)).cell? ⟨p, 0, none⟩ = some (.int .i64 n) := (World.cell?_setCell_other _ _ _ _ (by simp)).trans D0.out
  have E1 : (w2.setCell ⟨p, 1 + n, none⟩ (.slice ra ln rc)).cell? ⟨p, 1 + n, none⟩ = some (.slice ra ln rc) := World.cell?_setCell_same _ _ _ D1.out
  have G0 : (w2.setCell ⟨p, 1 + n, none⟩ (.slice ra ln rc)).frozen? ⟨p, 0, none⟩ = false := by rw [World.frozen?_setCell]; exact F0.out
  have R2 : (w2.setCell ⟨p, 1 + n, none⟩ (.slice ra ln rc)).heap[w.heap.size]? = some (.cells (pcA 0 0 0 0 false) 232) := by rw [Below.heap_setCell _ _ _ _ (by show w.heap.size ≠ p; omega)]; exact HR2.out
  have S2 : (w2.setCell ⟨p, 1 + n, none⟩ (.slice ra ln rc)).heap.size = w2.heap.size := by simp [World.setCell]
  have C2 : Chg (plT p n) w (w2.setCell ⟨p, 1 + n, none⟩ (.slice ra ln rc)) := (((Chg.refl _ w).alloc _).trans (Chg.of_below HB2.out)).setCell ⟨rfl, .inr rfl⟩ _
  generalize w2.setCell ⟨p, 1 + n, none⟩ (.slice ra ln rc) = w3 at *
  have hp3 : p < w3.heap.size := cell_lt E0
  have d0 := fun o => below_keep (below1 w3 o) E0
  have f0 := fun o => below_frz (below1 w3 o) hp3 G0
  have HE1 := hide2 E1
  have HE0 := hide2 E0
  have HR := hide2 R2
  have HC := hide2 C2
  clear E1 R2 C2 D0 D1 F0 F1 HR2 HB2 E0
  have Rx := fun x o => five (below_blk (below1 (w3.setCell ⟨p, 0, none⟩ x) o) (show (w3.setCell ⟨p, 0, none⟩ x).heap[w.heap.size]? = some (.cells (pcA 0 0 0 0 false) 232) by rw [Below.heap_setCell _ _ _ _ (by show w.heap.size ≠ p; omega)]; exact HR.out))
  have g0 := fun x o => (Rx x o).a0
  have g1 := fun x o => (Rx x o).a1
  have g2 := fun x o => (Rx x o).a2
  have g3 := fun x o => (Rx x o).a3
  have g4 := fun x o => (Rx x o).a4
  have k0 := fun x o => (Rx x o).z0
  have k1 := fun x o => (Rx x o).z1
  have k2 := fun x o => (Rx x o).z2
  have k3 := fun x o => (Rx x o).z3
  have k4 := fun x o => (Rx x o).z4
  clear Rx
  rw [← S2]
  have neq3 : ¬ w3.heap.size = p := by omega
  have nes3 : ¬ w3.heap.size = w.heap.size := by omega
  have nes4 : ¬ w.heap.size = w3.heap.size := by omega
  clear S2 neq neq2
  go_wp2
  have hcast : ((n + 1 : Nat) : Int) = (n : Int) + 1 := by omega
  have hX : ∀ o, ((w3.setCell ⟨p, 0, none⟩ (.int .i64 ((n : Int) + 1))).alloc o).heap[w.heap.size]? = some (.cells (pcA 0 0 0 0 false) 232) := fun o => below_blk (below1 _ o) (by rw [Below.heap_setCell _ _ _ _ (by show w.heap.size ≠ p; omega)]; exact HR.out)
  have e1 := set5_row rfl (hX (.cells #[.int .u32 m0, .int .u32 m1] 227)) (.int .u32 m0) (.int .u32 m1) (.int .u32 m0) (.int .u32 m1) (.bool false)
  have e2 := keep5 (o := 0) nep (.int .u32 m0) (.int .u32 m1) (.int .u32 m0) (.int .u32 m1) (.bool false) (below_keep (below1 _ (.cells #[.int .u32 m0, .int .u32 m1] 227)) (World.cell?_setCell_same w3 ⟨p, 0, none⟩ (.int .i64 ((n : Int) + 1)) HE0.out))
  have e3 := keep5 nep (.int .u32 m0) (.int .u32 m1) (.int .u32 m0) (.int .u32 m1) (.bool false) (below_keep (below1 _ (.cells #[.int .u32 m0, .int .u32 m1] 227)) ((World.cell?_setCell_other w3 ⟨p, 0, none⟩ ⟨p, 1 + n, none⟩ (.int .i64 ((n : Int) + 1)) (by simp)).trans HE1.out))
  have e4 := (((((((HC.out.setCell ⟨rfl, .inl rfl⟩ (.int .i64 ((n : Int) + 1))).alloc (.cells #[.int .u32 m0, .int .u32 m1] 227)).set_new (Nat.le_refl _) 0 (.int .u32 m0)).set_new (Nat.le_refl _) 1 (.int .u32 m1)).set_new (Nat.le_refl _) 2 (.int .u32 m0)).set_new (Nat.le_refl _) 3 (.int .u32 m1)).set_new (Nat.le_refl _) 4 (.bool false))
  generalize (((((((w3.setCell ⟨p, 0, none⟩ (.int .i64 ((n : Int) + 1))).alloc (.cells #[.int .u32 m0, .int .u32 m1] 227)).setCell ⟨w.heap.size, 0, none⟩ (.int .u32 m0)).setCell ⟨w.heap.size, 1, none⟩ (.int .u32 m1)).setCell ⟨w.heap.size, 2, none⟩ (.int .u32 m0)).setCell ⟨w.heap.size, 3, none⟩ (.int .u32 m1)).setCell ⟨w.heap.size, 4, none⟩ (.bool false)) = w9 at *
  have e1' : w9.drew.heap[w.heap.size]? = some (.cells #[.int .u32 m0, .int .u32 m1, .int .u32 m0, .int .u32 m1, .bool false] 232) := e1
  refine bodyPost_ret (results_cell_row rfl _ _ w.heap.size 232 #[.int .u32 m0, .int .u32 m1, .int .u32 m0, .int .u32 m1, .bool false] (0, 0) _ rfl e1' Tryz.underlying232 rfl (by kernel_rfl)) rfl ?_
  refine ⟨by rw [HP.out], ?_, ?_, ?_⟩
  · rw [hcast]; exact e2
  · exact e3
  · exact e4.drew
end Go.Proofs.YtlhokghgicgppaaGreatDoor
namespace Go.Proofs.YtlhokghgicgppaaGreatDoor
open Go.RowKit Go.Extern
def InD (D : Nat → Prop) (ra : Option Addr) : Prop := ∀ b o, ra = some ⟨b, o, none⟩ → D b
theorem InD.of {D E : Nat → Prop} {ra : Option Addr} (h : InD D ra) (hE : ∀ b, D b → E b) : InD E ra := fun b o e => hE b (h b o e)
def NodeAt (D : Nat → Prop) (w : World) : Nat → Value → Sg.Node → Prop
  | 0, _, _ => False
  | _ + 1, v, ⟨.inl s⟩ => ∃ ra rc, v = .iface 284 (.agg #[.slice ra s.length rc]) ∧ RowAt 2 w ra rc s.length (s.flatMap rgCells) ∧ InD D ra ∧ s.length < 1000000
  | k + 1, v, ⟨.inr (.inl l)⟩ => ∃ ra rc vs, v = .iface 290 (.slice ra l.length rc) ∧ RowAt 1 w ra rc l.length vs ∧ InD D ra ∧ l.length < 1000000 ∧ ∀ (i : Nat) (x : Sg.Node), l[i]? = some x → ∃ u, vs[i]? = some u ∧ NodeAt D w k u x
  | k + 1, v, ⟨.inr (.inr (.inl l))⟩ => ∃ ra rc vs, v = .iface 279 (.slice ra l.length rc) ∧ RowAt 1 w ra rc l.length vs ∧ InD D ra ∧ l.length < 1000000 ∧ ∀ (i : Nat) (x : Sg.Node), l[i]? = some x → ∃ u, vs[i]? = some u ∧ NodeAt D w k u x
  | k + 1, v, ⟨.inr (.inr (.inr (a, least, most)))⟩ => ∃ u, v = .iface 288 (.agg #[u, .int .i64 least, .int .i64 most]) ∧ NodeAt D w k u a ∧ (0 ≤ least ∧ least ≤ 8) ∧ (-1 ≤ most ∧ most ≤ 8)
def NodesAt (D : Nat → Prop) (w : World) (k : Nat) (vs : List Value) (l : List Sg.Node) : Prop := ∀ (i : Nat) (x : Sg.Node), l[i]? = some x → ∃ u, vs[i]? = some u ∧ NodeAt D w k u x
theorem NodeAt.of {D : Nat → Prop} {w w' : World} {T : Nat → Nat → Prop} (hc : Chg T w w') (hT : ∀ b o, D b → ¬ T b o) : ∀ (k : Nat) (v : Value) (x : Sg.Node), NodeAt D w k v x → NodeAt D w' k v x
  | 0, _, _, h => h
  | k + 1, v, ⟨.inl s⟩, h => by
    obtain ⟨ra, rc, e, h1, h2, h3⟩ := h
    exact ⟨ra, rc, e, h1.of hc (fun rb ro j er => hT rb _ (h2 rb ro er)), h2, h3⟩
  | k + 1, v, ⟨.inr (.inl l)⟩, h => by
    obtain ⟨ra, rc, vs, e, h1, h2, h3, h4⟩ := h
    refine ⟨ra, rc, vs, e, h1.of hc (fun rb ro j er => hT rb _ (h2 rb ro er)), h2, h3, fun i x hx => ?_⟩
    obtain ⟨u, hu, hn⟩ := h4 i x hx
    exact ⟨u, hu, NodeAt.of hc hT k u x hn⟩
  | k + 1, v, ⟨.inr (.inr (.inl l))⟩, h => by
    obtain ⟨ra, rc, vs, e, h1, h2, h3, h4⟩ := h
    refine ⟨ra, rc, vs, e, h1.of hc (fun rb ro j er => hT rb _ (h2 rb ro er)), h2, h3, fun i x hx => ?_⟩
    obtain ⟨u, hu, hn⟩ := h4 i x hx
    exact ⟨u, hu, NodeAt.of hc hT k u x hn⟩
  | k + 1, v, ⟨.inr (.inr (.inr (a, least, most)))⟩, h => by
    obtain ⟨u, e, h1, h2, h3⟩ := h
    exact ⟨u, e, NodeAt.of hc hT k u a h1, h2, h3⟩
theorem NodeAt.below {D : Nat → Prop} {w w' : World} (hb : Below w.heap.size w w') {k : Nat} {v : Value} {x : Sg.Node} (h : NodeAt D w k v x) : NodeAt D w' k v x :=
  NodeAt.of (Chg.of_below (T := fun _ _ => False) hb) (fun _ _ _ t => t) k v x h
theorem NodeAt.up {D : Nat → Prop} {w : World} : ∀ (k : Nat) (v : Value) (x : Sg.Node), NodeAt D w k v x → NodeAt D w (k + 1) v x
  | 0, _, _, h => h.elim
  | k + 1, v, ⟨.inl s⟩, h => h
  | k + 1, v, ⟨.inr (.inl l)⟩, h => by
    obtain ⟨ra, rc, vs, e, h1, h2, h3, h4⟩ := h
    refine ⟨ra, rc, vs, e, h1, h2, h3, fun i x hx => ?_⟩
    obtain ⟨u, hu, hn⟩ := h4 i x hx
    exact ⟨u, hu, NodeAt.up k u x hn⟩
  | k + 1, v, ⟨.inr (.inr (.inl l))⟩, h => by
    obtain ⟨ra, rc, vs, e, h1, h2, h3, h4⟩ := h
    refine ⟨ra, rc, vs, e, h1, h2, h3, fun i x hx => ?_⟩
    obtain ⟨u, hu, hn⟩ := h4 i x hx
    exact ⟨u, hu, NodeAt.up k u x hn⟩
  | k + 1, v, ⟨.inr (.inr (.inr (a, least, most)))⟩, h => by
    obtain ⟨u, e, h1, h2, h3⟩ := h
    exact ⟨u, e, NodeAt.up k u a h1, h2, h3⟩
theorem NodeAt.le {D : Nat → Prop} {w : World} {k m : Nat} (hk : k ≤ m) {v : Value} {x : Sg.Node} (h : NodeAt D w k v x) : NodeAt D w m v x := by
  induction hk with
  | refl => exact h
  | step _ ih => exact NodeAt.up _ v x ih
theorem NodeAt.inw {D E : Nat → Prop} {w : World} (hE : ∀ b, b < w.heap.size → D b → E b) : ∀ (k : Nat) (v : Value) (x : Sg.Node), NodeAt D w k v x → NodeAt E w k v x
  | 0, _, _, h => h
  | k + 1, v, ⟨.inl s⟩, h => by
    obtain ⟨ra, rc, e, h1, h2, h3⟩ := h
    exact ⟨ra, rc, e, h1, fun b o er => hE b (h1.lt er) (h2 b o er), h3⟩
  | k + 1, v, ⟨.inr (.inl l)⟩, h => by
    obtain ⟨ra, rc, vs, e, h1, h2, h3, h4⟩ := h
    refine ⟨ra, rc, vs, e, h1, fun b o er => hE b (h1.lt er) (h2 b o er), h3, fun i x hx => ?_⟩
    obtain ⟨u, hu, hn⟩ := h4 i x hx
    exact ⟨u, hu, NodeAt.inw hE k u x hn⟩
  | k + 1, v, ⟨.inr (.inr (.inl l))⟩, h => by
    obtain ⟨ra, rc, vs, e, h1, h2, h3, h4⟩ := h
    refine ⟨ra, rc, vs, e, h1, fun b o er => hE b (h1.lt er) (h2 b o er), h3, fun i x hx => ?_⟩
    obtain ⟨u, hu, hn⟩ := h4 i x hx
    exact ⟨u, hu, NodeAt.inw hE k u x hn⟩
  | k + 1, v, ⟨.inr (.inr (.inr (a, least, most)))⟩, h => by
    obtain ⟨u, e, h1, h2, h3⟩ := h
    exact ⟨u, e, NodeAt.inw hE k u a h1, h2, h3⟩
theorem NodesAt.of {D : Nat → Prop} {w w' : World} {T : Nat → Nat → Prop} (hc : Chg T w w') (hT : ∀ b o, D b → ¬ T b o) {k : Nat} {vs : List Value} {l : List Sg.Node} (h : NodesAt D w k vs l) : NodesAt D w' k vs l := fun i x hx => by
  obtain ⟨u, hu, hn⟩ := h i x hx
  exact ⟨u, hu, NodeAt.of hc hT k u x hn⟩
theorem NodesAt.snoc {D : Nat → Prop} {w : World} {k : Nat} {vs : List Value} {l : List Sg.Node} (h : NodesAt D w k vs l) (hl : vs.length = l.length) {u : Value} {x : Sg.Node} (hx : NodeAt D w k u x) : NodesAt D w k (vs ++ [u]) (l ++ [x]) := fun i y hy => by
  by_cases hi : i < l.length
  · rw [List.getElem?_append_left hi] at hy
    obtain ⟨a, ha, hn⟩ := h i y hy
    exact ⟨a, by rw [List.getElem?_append_left (by omega)]; exact ha, hn⟩
  · rw [List.getElem?_append_right (by omega)] at hy
    have hz : i - l.length = 0 := by
      have := (List.getElem?_eq_some_iff.1 hy).1
      simp at this; omega
    rw [hz] at hy
    simp only [List.getElem?_cons_zero, Option.some.injEq] at hy
    subst hy
    refine ⟨u, ?_, hx⟩
    rw [List.getElem?_append_right (by omega), hl, hz]; rfl
end Go.Proofs.YtlhokghgicgppaaGreatDoor
namespace Go.Proofs.YtlhokghgicgppaaGreatDoor
open Go.RowKit Go.Extern
abbrev layT (p : Nat) : Nat → Nat → Prop := fun i o => i = p ∧ o < 193
structure LtAt (D : Nat → Prop) (w : World) (p : Nat) (l : Sg.Lt) : Prop where
  fn : FunAt w p l.cls.length (fun i => l.follow.getD i 0)
  cls : ∀ i, i < l.cls.length → ∃ ra rc, w.cell? ⟨p, 1 + i, none⟩ = some (.slice ra (l.cls.getD i []).length rc) ∧ RowAt 2 w ra rc (l.cls.getD i []).length ((l.cls.getD i []).flatMap rgCells) ∧ InD D ra
  cell : ∀ i, i < 64 → ∃ u, w.cell? ⟨p, 1 + i, none⟩ = some u
  lt : ∀ i, l.follow.getD i 0 < 18446744073709551616
  len : l.follow.length = l.cls.length
  n : l.cls.length ≤ 64
  cl : ∀ i, (l.cls.getD i []).length < 1000000
  d : ¬ D p
theorem getD_range (n : Nat) (f : Nat → Nat) (i : Nat) : ((List.range n).map f).getD i 0 = if i < n then f i else 0 := by
  rw [List.getD_eq_getElem?_getD, List.getElem?_map]
  by_cases h : i < n
  · rw [List.getElem?_range h, if_pos h]; rfl
  · rw [List.getElem?_eq_none (by simpa using h), if_neg h]; rfl
theorem connect_follow (l : Sg.Lt) (hl : l.follow.length = l.cls.length) (a b i : Nat) : (l.connect a b).follow.getD i 0 = conF (fun i => l.follow.getD i 0) a b l.cls.length i := by
  unfold Sg.Lt.connect conF
  dsimp only
  rw [getD_range, hl]
  by_cases h : i < l.cls.length
  · simp [h]
  · rw [if_neg h, if_neg (fun hh => h hh.1), List.getD_eq_getElem?_getD, List.getElem?_eq_none (by omega)]; rfl
theorem LtAt.keep {D : Nat → Prop} {w w' : World} {p : Nat} {l l' : Sg.Lt} (h : LtAt D w p l) {T : Nat → Nat → Prop} (hc : Chg T w w') (hT : ∀ i o, T i o → i = p ∧ (o = 0 ∨ 65 ≤ o)) (hcl : l'.cls = l.cls) (hfn : FunAt w' p l.cls.length (fun i => l'.follow.getD i 0)) (hlt : ∀ i, l'.follow.getD i 0 < 18446744073709551616) (hlen : l'.follow.length = l.follow.length) : LtAt D w' p l' := by
  have hp : p < w.heap.size := cell_lt h.fn.c0
  refine ⟨by rw [hcl]; exact hfn, fun i hi => ?_, fun i hi => ?_, hlt, by rw [hlen, hcl]; exact h.len, by rw [hcl]; exact h.n, by rw [hcl]; exact h.cl, h.d⟩
  · rw [hcl] at hi ⊢
    obtain ⟨ra, rc, h1, h2, h3⟩ := h.cls i hi
    have := h.n
    refine ⟨ra, rc, (hc.cell _ _ hp (fun t => by have := hT _ _ t; omega)).trans h1, h2.of hc (fun rb ro j er t => h.d ((hT _ _ t).1 ▸ h3 rb ro er)), h3⟩
  · obtain ⟨u, hu⟩ := h.cell i hi
    exact ⟨u, (hc.cell _ _ hp (fun t => by have := hT _ _ t; omega)).trans hu⟩
theorem LtAt.connect {D : Nat → Prop} {w w' : World} {p : Nat} {l : Sg.Lt} (h : LtAt D w p l) {a b : Nat} (hb : b < 18446744073709551616) (hf : FunAt w' p l.cls.length (conF (fun i => l.follow.getD i 0) a b l.cls.length)) (hc : Chg (folT p) w w') : LtAt D w' p (l.connect a b) := by
  have e : (fun i => (l.connect a b).follow.getD i 0) = conF (fun i => l.follow.getD i 0) a b l.cls.length := funext fun i => connect_follow l h.len a b i
  refine h.keep hc (fun i o t => ⟨t.1, .inr t.2.1⟩) rfl (by rw [e]; exact hf) (fun i => ?_) (by unfold Sg.Lt.connect; simp)
  rw [connect_follow l h.len a b i]
  unfold conF
  split
  · exact Nat.or_lt_two_pow (n := 64) (h.lt i) hb
  · exact h.lt i
theorem LtAt.below {D : Nat → Prop} {w w' : World} {p : Nat} {l : Sg.Lt} (h : LtAt D w p l) (hb : Below w.heap.size w w') : LtAt D w' p l :=
  h.keep (Chg.of_below (T := fun _ _ => False) hb) (fun _ _ t => t.elim) rfl (h.fn.below hb) h.lt rfl
theorem LtAt.of {D : Nat → Prop} {w w' : World} {p : Nat} {l : Sg.Lt} (h : LtAt D w p l) {B : Nat} {T : Nat → Nat → Prop} (hc : Chg T w w') (hT : ∀ i o, T i o → B ≤ i) (hB : w.heap.size ≤ B) : LtAt D w' p l :=
  h.below ⟨hc.os, hc.tape, hc.output, hc.size, fun k hk => hc.block k hk (fun o t => by have := hT _ _ t; omega)⟩
theorem getD_snoc {α : Type} (l : List α) (x d : α) (i : Nat) : (l ++ [x]).getD i d = if i = l.length then x else l.getD i d := by
  simp only [List.getD_eq_getElem?_getD]
  by_cases h : i < l.length
  · rw [List.getElem?_append_left h, if_neg (by omega)]
  · rw [List.getElem?_append_right (by omega)]
    by_cases e : i = l.length
    · subst e; simp
    · rw [if_neg e, List.getElem?_eq_none (by simp; omega), List.getElem?_eq_none (by omega)]
theorem LtAt.place {D : Nat → Prop} {w w' : World} {p : Nat} {l : Sg.Lt} (h : LtAt D w p l) (hn : l.cls.length < 64) {ra : Option Addr} {rc : Nat} {s : List (Int × Int)} (hr : RowAt 2 w ra rc s.length (s.flatMap rgCells)) (hd : InD D ra) (hs : s.length < 1000000)
    (h0 : w'.cell? ⟨p, 0, none⟩ = some (.int .i64 ((l.cls.length + 1 : Nat) : Int))) (h1 : w'.cell? ⟨p, 1 + l.cls.length, none⟩ = some (.slice ra s.length rc)) (hc : Chg (plT p l.cls.length) w w') : LtAt D w' p ⟨l.cls ++ [s], l.follow ++ [0]⟩ := by
  have hp : p < w.heap.size := cell_lt h.fn.c0
  have ef : ∀ i, (l.follow ++ [0]).getD i 0 = l.follow.getD i 0 := fun i => by
    rw [getD_snoc]
    split
    · rename_i e; rw [e, List.getD_eq_getElem?_getD, List.getElem?_eq_none (Nat.le_refl _)]; rfl
    · rfl
  have hnp : ∀ b o, InD D (some ⟨b, o, none⟩) → ∀ j, ¬ plT p l.cls.length b j := fun b o hb j t => h.d (t.1 ▸ hb b o rfl)
  refine ⟨⟨?_, ?_, ?_, ?_⟩, ?_, ?_, ?_, ?_, ?_, ?_, h.d⟩
  · show w'.cell? ⟨p, 0, none⟩ = some (.int .i64 ((l.cls ++ [s]).length : Int))
    rw [List.length_append]; exact h0
  · intro i hi
    show w'.cell? ⟨p, 65 + i * 2, none⟩ = some (.int .u32 (((l.follow ++ [0]).getD i 0 % 4294967296 : Nat) : Int))
    rw [ef]; exact (hc.cell _ _ hp (fun t => by rcases t.2 with t | t <;> omega)).trans (h.fn.f0 i hi)
  · intro i hi
    show w'.cell? ⟨p, 65 + i * 2 + 1, none⟩ = some (.int .u32 (((l.follow ++ [0]).getD i 0 / 4294967296 : Nat) : Int))
    rw [ef]; exact (hc.cell _ _ hp (fun t => by rcases t.2 with t | t <;> omega)).trans (h.fn.f1 i hi)
  · intro o; exact (hc.frz _ _ hp).trans (h.fn.fz o)
  · intro i hi
    show ∃ ra rc, w'.cell? ⟨p, 1 + i, none⟩ = some (.slice ra ((l.cls ++ [s]).getD i []).length rc) ∧ RowAt 2 w' ra rc ((l.cls ++ [s]).getD i []).length (((l.cls ++ [s]).getD i []).flatMap rgCells) ∧ InD D ra
    have hi' : i < l.cls.length + 1 := by have : i < (l.cls ++ [s]).length := hi; rw [List.length_append] at this; exact this
    rw [getD_snoc]
    by_cases e : i = l.cls.length
    · rw [if_pos e]
      exact ⟨ra, rc, by rw [e]; exact h1, hr.of hc (fun rb ro j er => by subst er; exact hnp rb ro hd j), hd⟩
    · rw [if_neg e]
      obtain ⟨ra', rc', k1, k2, k3⟩ := h.cls i (by omega)
      exact ⟨ra', rc', (hc.cell _ _ hp (fun t => by rcases t.2 with t | t <;> omega)).trans k1, k2.of hc (fun rb ro j er => by subst er; exact hnp rb ro k3 j), k3⟩
  · intro i hi
    by_cases e : i = l.cls.length
    · exact ⟨_, by rw [e]; exact h1⟩
    · obtain ⟨u, hu⟩ := h.cell i hi
      exact ⟨u, (hc.cell _ _ hp (fun t => by rcases t.2 with t | t <;> omega)).trans hu⟩
  · intro i
    show (l.follow ++ [0]).getD i 0 < _
    rw [ef]; exact h.lt i
  · show (l.follow ++ [0]).length = (l.cls ++ [s]).length
    rw [List.length_append, List.length_append, h.len]; rfl
  · show (l.cls ++ [s]).length ≤ 64
    rw [List.length_append]; exact hn
  · intro i
    show ((l.cls ++ [s]).getD i []).length < _
    rw [getD_snoc]
    split
    · exact hs
    · exact h.cl i
end Go.Proofs.YtlhokghgicgppaaGreatDoor
