/- What lies behind a set of places. -/
/- peek, take, accept, expect, rowEnds. -/
import Derived.Test.YtlhokghgicgppaaGreatDoorSortA
set_option linter.unusedSimpArgs false
set_option linter.unusedVariables false
set_option maxRecDepth 100000
set_option maxHeartbeats 4000000
namespace Go.Proofs.YtlhokghgicgppaaGreatDoor
open Go.RowKit Go.Extern
structure FolAt (w : World) (p : Nat) (l : List Nat) : Prop where
  c0 : w.cell? ⟨p, 0, none⟩ = some (.int .i64 l.length)
  f0 : ∀ i, i < l.length → w.cell? ⟨p, 65 + i * 2, none⟩ = some (.int .u32 ((l.getD i 0 % 4294967296 : Nat) : Int))
  f1 : ∀ i, i < l.length → w.cell? ⟨p, 65 + i * 2 + 1, none⟩ = some (.int .u32 ((l.getD i 0 / 4294967296 : Nat) : Int))
  lt : ∀ i, l.getD i 0 < 18446744073709551616
  n : l.length ≤ 64
theorem FolAt.below {w w' : World} {p : Nat} {l : List Nat} (h : FolAt w p l) (hb : Below w.heap.size w w') : FolAt w' p l :=
  ⟨below_keep hb h.c0, fun i hi => below_keep hb (h.f0 i hi), fun i hi => below_keep hb (h.f1 i hi), h.lt, h.n⟩
def Sg.behGo (l : List Nat) (s : Nat) (j : Nat) : Nat := (List.range j).foldl (fun a i => if s.testBit i then a ||| l.getD i 0 else a) 0
theorem Sg.behGo_succ (l : List Nat) (s j : Nat) : Sg.behGo l s (j + 1) = if s.testBit j then Sg.behGo l s j ||| l.getD j 0 else Sg.behGo l s j := by
  unfold Sg.behGo; rw [List.range_succ, List.foldl_append]; rfl
theorem Sg.behGo_lt (l : List Nat) (s : Nat) (h : ∀ i, l.getD i 0 < 18446744073709551616) : ∀ j, Sg.behGo l s j < 18446744073709551616
  | 0 => by simp [Sg.behGo]
  | j + 1 => by
    rw [Sg.behGo_succ]
    have := Sg.behGo_lt l s h j
    split
    · exact Nat.or_lt_two_pow (n := 64) this (h j)
    · exact this
theorem alloc3_mid (w : World) (o1 o2 o3 : Obj) : (((w.alloc o1).alloc o2).alloc o3).heap[w.heap.size + 1]? = some o2 := by
  have h := heap_alloc_new (w.alloc o1) o2
  have e : (w.alloc o1).heap.size = w.heap.size + 1 := by simp
  rw [Go.heap_alloc_old ((w.alloc o1).alloc o2) o3 (by simp : w.heap.size + 1 < ((w.alloc o1).alloc o2).heap.size)]
  rw [e] at h; exact h
theorem set2_row {w : World} {g : Nat} {t : TypeId} {u0 u1 : Value} (h : w.heap[g]? = some (.cells #[u0, u1] t)) (v0 v1 : Value) : ((w.setCell ⟨g, 0, none⟩ v0).setCell ⟨g, 1, none⟩ v1).heap[g]? = some (.cells #[v0, v1] t) := by
  simp [World.setCell, Array.getElem?_modify, h]
theorem below_frz {a b : World} (h : Below a.heap.size a b) {i o : Nat} (hi : i < a.heap.size) {x : Bool} (e : a.frozen? ⟨i, o, none⟩ = x) : b.frozen? ⟨i, o, none⟩ = x := (frozen_block (h.block i hi)).trans e
theorem below_blk {a b : World} (h : Below a.heap.size a b) {i : Nat} {x : Obj} (e : a.heap[i]? = some x) : b.heap[i]? = some x := (h.block i (Array.getElem?_eq_some_iff.1 e).1).trans e
theorem behind_any (w : World) (p : Nat) (l : List Nat) (s : Nat) (hs : s < 18446744073709551616) (h : FolAt w p l) :
    Calls Tryz.prog 111 #[.pointer (some ⟨p, 0, none⟩), psV s] w fun e w' => e = .returned (psV (Sg.behGo l s l.length)) ∧ Below w.heap.size w w' := by
  have hN := h.n
  have HF := hide2 h
  have hc := h.c0
  have hp := cell_lt hc
  clear h
  have hc3 : ∀ o1 o2 o3, (((w.alloc o1).alloc o2).alloc o3).cell? ⟨p, 0, none⟩ = some (.int .i64 l.length) := fun o1 o2 o3 => below_keep (below3 w o1 o2 o3) hc
  have HHas := hide2 (fun (i : Nat) (hi : i < 64) (wx : World) => has_any s hs i hi wx)
  have hps : psV s = .agg #[.int .u32 ((s % 4294967296 : Nat) : Int), .int .u32 ((s / 4294967296 : Nat) : Int)] := rfl
  rw [hps]
  rw [hps] at HHas
  clear hps hc hs
  generalize ((s % 4294967296 : Nat) : Int) = s0 at *
  generalize ((s / 4294967296 : Nat) : Int) = s1 at *
  go_enter Tryz.func111, Tryz.ntmps111
  go_wp2
  go_loopw [11] (fun iv wr => ∃ (j a : Nat), iv = .int .i64 j ∧ j ≤ l.length ∧ wr.cell? ⟨w.heap.size, 0, none⟩ = some (.int .u32 s0) ∧ wr.cell? ⟨w.heap.size, 1, none⟩ = some (.int .u32 s1) ∧
      wr.cell? ⟨w.heap.size + 1 + 1, 0, none⟩ = some (.int .u32 ((a % 4294967296 : Nat) : Int)) ∧ wr.cell? ⟨w.heap.size + 1 + 1, 1, none⟩ = some (.int .u32 ((a / 4294967296 : Nat) : Int)) ∧
      wr.frozen? ⟨w.heap.size + 1 + 1, 0, none⟩ = false ∧ wr.frozen? ⟨w.heap.size + 1 + 1, 1, none⟩ = false ∧ wr.heap[w.heap.size + 1]? = some (.cells #[.int .u32 0, .int .u32 0] 227) ∧
      Hid (Below w.heap.size w wr ∧ a = Sg.behGo l s j)) (fun iv _ => l.length - (intOf iv).toNat)
  case atStart => exact ⟨0, 0, rfl, Nat.zero_le _, by go_simp, by go_simp, by go_simp, by go_simp, by go_simp, by go_simp, alloc3_mid _ _ _ _, hide2 ⟨below3 _ _ _ _, rfl⟩⟩
  case round =>
    obtain ⟨j, a, rfl, hj, b0, b1, a0, a1, z0, z1, hres, H⟩ := hrel
    by_cases hlt : j < l.length
    · have hF := HF.out.below H.out.1
      have k0 := hF.f0 j hlt
      have k1 := hF.f1 j hlt
      have hH := fun wx => HHas.out j (by omega) wx
      have ha : a < 18446744073709551616 := by rw [H.out.2]; exact Sg.behGo_lt l s hF.lt j
      have hO := fun wx => or_any a (l.getD j 0) ha (hF.lt j) wx
      have hsucc := Sg.behGo_succ l s j
      rw [← H.out.2] at hsucc
      cases hbit : s.testBit j with
      | false =>
        rw [hbit] at hsucc hH
        have HH := hide2 hH
        have HX := hide2 hsucc
        clear hH hO hsucc hF
        go_wp2_with (go_at_call 151; refine (HH.out _).mono ?_; rintro e w2 ⟨rfl, hb2⟩)
        exact ⟨⟨j + 1, a, rfl, by omega, below_keep hb2 b0, below_keep hb2 b1, below_keep hb2 a0, below_keep hb2 a1, below_frz hb2 (cell_lt a0) z0, below_frz hb2 (cell_lt a0) z1, below_blk hb2 hres, hide2 ⟨below_go H.out.1 hb2, by have := HX.out; simpa using this.symm⟩⟩, by simp [intOf]; omega⟩
      | true =>
        rw [hbit] at hsucc hH
        have HH := hide2 hH
        have HX := hide2 hsucc
        have hpx : psV (l.getD j 0) = .agg #[.int .u32 ((l.getD j 0 % 4294967296 : Nat) : Int), .int .u32 ((l.getD j 0 / 4294967296 : Nat) : Int)] := rfl
        have hpa : psV a = .agg #[.int .u32 ((a % 4294967296 : Nat) : Int), .int .u32 ((a / 4294967296 : Nat) : Int)] := rfl
        rw [hpx, hpa] at hO
        have hpr : psV (a ||| l.getD j 0) = .agg #[.int .u32 (((a ||| l.getD j 0) % 4294967296 : Nat) : Int), .int .u32 (((a ||| l.getD j 0) / 4294967296 : Nat) : Int)] := rfl
        rw [hpr] at hO
        have HO := hide2 hO
        clear hH hO hsucc hF hpx hpa hpr
        go_wp2_with (go_at_call 151; refine (HH.out _).mono ?_; rintro e w2 ⟨rfl, hb2⟩)
        have c0 := below_keep hb2 a0
        have c1 := below_keep hb2 a1
        have m0 := below_keep hb2 k0
        have m1 := below_keep hb2 k1
        have y0 := below_frz hb2 (cell_lt a0) z0
        have y1 := below_frz hb2 (cell_lt a0) z1
        have e0 := below_keep hb2 b0
        have e1 := below_keep hb2 b1
        have er := below_blk hb2 hres
        have HB := hide2 (below_go H.out.1 hb2)
        clear a0 a1 z0 z1 k0 k1 b0 b1 hres hb2 HH HHas hc3
        generalize hv : a ||| l.getD j 0 = v at *
        generalize hv0 : ((v % 4294967296 : Nat) : Int) = v0 at *
        generalize hv1 : ((v / 4294967296 : Nat) : Int) = v1 at *
        have HV := hide2 (And.intro hv0 hv1)
        have HXv := hide2 (show Sg.behGo l s (j + 1) = v by have := HX.out; simpa using this)
        clear hv0 hv1 hv HX
        generalize ((a % 4294967296 : Nat) : Int) = q0 at *
        generalize ((a / 4294967296 : Nat) : Int) = q1 at *
        generalize ((l.getD j 0 % 4294967296 : Nat) : Int) = x0 at *
        generalize ((l.getD j 0 / 4294967296 : Nat) : Int) = x1 at *
        go_region_with (go_at_call 105; refine (HO.out _).mono ?_; rintro e w3 ⟨rfl, hb3⟩; have g0 := below_keep hb3 c0; have g1 := below_keep hb3 c1; have h0 := below_frz hb3 (cell_lt c0) y0; have h1 := below_frz hb3 (cell_lt c0) y1)
        all_goals
          have n0 := below_keep hb3 e0
          have n1 := below_keep hb3 e1
          have nr := below_blk hb3 er
          have nb := below_go (HB.out.drew) hb3
          clear c0 c1 m0 m1 y0 y1 e0 e1 er HO HB hb3
          go_wp2
          refine ⟨⟨j + 1, v, rfl, by omega, ?_, ?_, ?_, ?_, ?_, ?_, ?_, hide2 ⟨(nb.setCell (by show w.heap.size ≤ w.heap.size + 1 + 1; omega) _).setCell (by show w.heap.size ≤ w.heap.size + 1 + 1; omega) _, HXv.out.symm⟩⟩, by simp [intOf]; omega⟩
          · exact (World.cell?_setCell_other _ _ _ _ (by simp)).trans ((World.cell?_setCell_other _ _ _ _ (by simp)).trans n0)
          · exact (World.cell?_setCell_other _ _ _ _ (by simp)).trans ((World.cell?_setCell_other _ _ _ _ (by simp)).trans n1)
          · rw [HV.out.1]; exact (World.cell?_setCell_other _ _ _ _ (by simp)).trans (World.cell?_setCell_same _ _ _ g0)
          · rw [HV.out.2]; exact World.cell?_setCell_same _ _ _ ((World.cell?_setCell_other _ _ _ _ (by simp)).trans g1)
          · rw [World.frozen?_setCell, World.frozen?_setCell]; exact h0
          · rw [World.frozen?_setCell, World.frozen?_setCell]; exact h1
          · rw [Below.heap_setCell _ _ _ _ (by simp), Below.heap_setCell _ _ _ _ (by simp)]; exact nr
    · have r0 : wr.cell? ⟨w.heap.size + 1, 0, none⟩ = some (.int .u32 0) := by unfold World.cell?; simp only [hres]; rfl
      have r1 : wr.cell? ⟨w.heap.size + 1, 1, none⟩ = some (.int .u32 0) := by unfold World.cell?; simp only [hres]; rfl
      have t0 : wr.frozen? ⟨w.heap.size + 1, 0, none⟩ = false := by unfold World.frozen?; simp only [hres]; rfl
      have t1 : wr.frozen? ⟨w.heap.size + 1, 1, none⟩ = false := by unfold World.frozen?; simp only [hres]; rfl
      have HRes := hide2 hres
      clear hres
      go_wp2
      have hst := set2_row HRes.out (.int .u32 ((a : Int) % 4294967296)) (.int .u32 ((a : Int) / 4294967296))
      refine bodyPost_ret (results_cell_row rfl _ _ (w.heap.size + 1) 227 #[.int .u32 ((a : Int) % 4294967296), .int .u32 ((a : Int) / 4294967296)] (0, 0) _ rfl hst Tryz.underlying227 rfl (by kernel_rfl)) rfl ?_
      have hj' : j = l.length := by omega
      have ha := H.out.2
      rw [hj'] at ha
      rw [← ha]
      exact ⟨rfl, (H.out.1.setCell (by show w.heap.size ≤ w.heap.size + 1; omega) _).setCell (by show w.heap.size ≤ w.heap.size + 1; omega) _⟩
end Go.Proofs.YtlhokghgicgppaaGreatDoor
namespace Go.Proofs.YtlhokghgicgppaaGreatDoor
open Go.RowKit Go.Extern
theorem blw1 (w : World) (o : Obj) : Below w.heap.size w (w.alloc o) := (Below.refl _ _).alloc (Nat.le_refl _) o
theorem alloc2_top (w : World) (o1 o2 : Obj) : ((w.alloc o1).alloc o2).heap[w.heap.size + 1]? = some o2 := by
  have h := heap_alloc_new (w.alloc o1) o2
  have e : (w.alloc o1).heap.size = w.heap.size + 1 := by simp
  rw [e] at h; exact h
theorem cell_of {w : World} {k : Nat} {cs : Array Value} {t : TypeId} (h : w.heap[k]? = some (.cells cs t)) (o : Nat) : w.cell? ⟨k, o, none⟩ = cs[o]? := by
  unfold World.cell?; simp [h]
theorem frz_of {w : World} {k : Nat} {cs : Array Value} {t : TypeId} (h : w.heap[k]? = some (.cells cs t)) (o : Nat) : w.frozen? ⟨k, o, none⟩ = false := by
  unfold World.frozen?; simp [h]
theorem peek_any (w : World) (q : Nat) (r : Sg.Rd) (h : RdAt w q r) :
    Calls Tryz.prog 142 #[.pointer (some ⟨q, 0, none⟩)] w fun e w' => e = .returned (scV r.peek) ∧ Below w.heap.size w w' := by
  obtain ⟨lb, lo, lc, h1, h2, h3, h4⟩ := h.l
  have hlt := h.ok.lt
  have k3 := h3 _ hlt
  have k4 := h4 _ hlt
  have hn := h.n
  have hpk : scV r.peek = .agg #[.int .i32 (r.list.getD r.next (-1, 0)).1, .int .i64 (r.list.getD r.next (-1, 0)).2] := rfl
  rw [hpk]
  clear h hpk h3 h4
  generalize (r.list.getD r.next (-1, 0)).1 = v at *
  generalize (r.list.getD r.next (-1, 0)).2 = a at *
  generalize r.next = n at *
  generalize r.list.length = m at *
  have a1 := fun o => below_keep (blw1 w o) h1
  have a2 := fun o => below_keep (blw1 w o) hn
  have a3 := fun o => below_keep (blw1 w o) k3
  have a4 := fun o => below_keep (blw1 w o) k4
  have hq := cell_lt hn
  clear h1 hn k3 k4
  go_enter Tryz.func142, Tryz.ntmps142
  go_wp2
  go_region
  go_wp2
  have e1 : (w.alloc (.cells #[.int .i32 v, .int .i64 a] 278)).drew.heap[w.heap.size]? = some (.cells #[.int .i32 v, .int .i64 a] 278) := heap_alloc_new w _
  refine bodyPost_ret (results_cell_row rfl _ _ w.heap.size 278 #[.int .i32 v, .int .i64 a] (0, 0) _ rfl e1 Tryz.underlying278 rfl (by kernel_rfl)) rfl ?_
  exact ⟨rfl, (blw1 w _).drew⟩
theorem take_any (w : World) (q : Nat) (r : Sg.Rd) (h : RdAt w q r) :
    Calls Tryz.prog 172 #[.pointer (some ⟨q, 0, none⟩)] w fun e w' => e = .returned (scV r.peek) ∧ RdSt w q w' r.take.2 := by
  have S := hide2 (RdSt.start h)
  obtain ⟨lb, lo, lc, h1, h2, h3, h4⟩ := h.l
  have hlt := h.ok.lt
  have hmx := h.ok.len
  have k3 := h3 _ hlt
  have k4 := h4 _ hlt
  have hn := h.n
  have hz := h.z2
  have hpk : scV r.peek = .agg #[.int .i32 (r.list.getD r.next (-1, 0)).1, .int .i64 (r.list.getD r.next (-1, 0)).2] := rfl
  have hq := cell_lt hn
  have HV := hide2 (show r.peek.1 = (r.list.getD r.next (-1, 0)).1 from rfl)
  rw [hpk]
  clear h hpk h3 h4
  generalize hv : (r.list.getD r.next (-1, 0)).1 = v at *
  generalize (r.list.getD r.next (-1, 0)).2 = a at *
  generalize hnn : r.next = n at k3 k4 hn hlt
  generalize r.list.length = m at *
  have HN := hide2 hnn
  clear hnn hv
  have a1 := fun o => below_keep (blw1 w o) h1
  have a2 := fun o => below_keep (blw1 w o) hn
  have a3 := fun o => below_keep (blw1 w o) k3
  have a4 := fun o => below_keep (blw1 w o) k4
  have b1 := fun o o' => below_keep (below2 w o o') h1
  have b2 := fun o o' => below_keep (below2 w o o') hn
  have b3 := fun o o' => below_keep (below2 w o o') k3
  have b4 := fun o o' => below_keep (below2 w o o') k4
  have z2 := fun o o' => below_frz (below2 w o o') hq hz
  have hne : ¬ w.heap.size = q := by omega
  have hne2 : ¬ w.heap.size + 1 = q := by omega
  have hn1000 : n < 1000 := by omega
  clear h1 hn k3 k4 hz
  by_cases hv1 : v = -1
  · subst hv1
    go_enter Tryz.func172, Tryz.ntmps172
    go_wp2
    go_region
    go_wp2
    have e1 : ((w.alloc (.cells #[.int .i32 (-1), .int .i64 a] 278)).alloc (.cells #[.int .i32 (-1), .int .i64 a] 278)).drew.heap[w.heap.size]? = some (.cells #[.int .i32 (-1), .int .i64 a] 278) := alloc2_low w _ _
    refine bodyPost_ret (results_cell_row rfl _ _ w.heap.size 278 #[.int .i32 (-1), .int .i64 a] (0, 0) _ rfl e1 Tryz.underlying278 rfl (by kernel_rfl)) rfl ?_
    have et : r.take.2 = r := by
      have := HV.out
      unfold Sg.Rd.take; simp [this]
    rw [et]
    exact ⟨rfl, ((S.out.alloc _).alloc _).drew⟩
  · go_enter Tryz.func172, Tryz.ntmps172
    go_wp2
    go_region
    have D0 : ((w.alloc (.cells #[.int .i32 0, .int .i64 0] 278)).alloc (.cells #[.int .i32 v, .int .i64 a] 278)).drew.cell? ⟨q, 2, none⟩ = some (.int .i64 n) := b2 _ _
    have F0 : ((w.alloc (.cells #[.int .i32 0, .int .i64 0] 278)).alloc (.cells #[.int .i32 v, .int .i64 a] 278)).drew.frozen? ⟨q, 2, none⟩ = false := z2 _ _
    have R0 : ((w.alloc (.cells #[.int .i32 0, .int .i64 0] 278)).alloc (.cells #[.int .i32 v, .int .i64 a] 278)).drew.heap[w.heap.size]? = some (.cells #[.int .i32 0, .int .i64 0] 278) := alloc2_low w _ _
    have R1 : ((w.alloc (.cells #[.int .i32 0, .int .i64 0] 278)).alloc (.cells #[.int .i32 v, .int .i64 a] 278)).drew.heap[w.heap.size + 1]? = some (.cells #[.int .i32 v, .int .i64 a] 278) := alloc2_top w _ _
    have S1 := hide2 (((S.out.alloc (.cells #[.int .i32 0, .int .i64 0] 278)).alloc (.cells #[.int .i32 v, .int .i64 a] 278)).drew)
    clear a1 a2 a3 a4 b1 b2 b3 b4 z2
    generalize ((w.alloc (.cells #[.int .i32 0, .int .i64 0] 278)).alloc (.cells #[.int .i32 v, .int .i64 a] 278)).drew = W at *
    have c0 : W.cell? ⟨w.heap.size + 1, 0, none⟩ = some (.int .i32 v) := cell_of R1 0
    have c1 : W.cell? ⟨w.heap.size + 1, 1, none⟩ = some (.int .i64 a) := cell_of R1 1
    have c0' : ∀ u, (W.setCell ⟨q, 2, none⟩ u).cell? ⟨w.heap.size + 1, 0, none⟩ = some (.int .i32 v) := fun u => (World.cell?_setCell_other _ _ _ _ (by simp)).trans c0
    have c1' : ∀ u, (W.setCell ⟨q, 2, none⟩ u).cell? ⟨w.heap.size + 1, 1, none⟩ = some (.int .i64 a) := fun u => (World.cell?_setCell_other _ _ _ _ (by simp)).trans c1
    have hxq : ¬ q = w.heap.size := by omega
    have hxq1 : ¬ q = w.heap.size + 1 := by omega
    have g0 : ∀ u, (W.setCell ⟨q, 2, none⟩ u).cell? ⟨w.heap.size, 0, none⟩ = some (.int .i32 0) := fun u => cell_of (show (W.setCell ⟨q, 2, none⟩ u).heap[w.heap.size]? = _ by rw [Below.heap_setCell _ _ _ _ (by show w.heap.size ≠ q; omega)]; exact R0) 0
    have g1 : ∀ u, (W.setCell ⟨q, 2, none⟩ u).cell? ⟨w.heap.size, 1, none⟩ = some (.int .i64 0) := fun u => cell_of (show (W.setCell ⟨q, 2, none⟩ u).heap[w.heap.size]? = _ by rw [Below.heap_setCell _ _ _ _ (by show w.heap.size ≠ q; omega)]; exact R0) 1
    have k0 := fun u => frz_of (show (W.setCell ⟨q, 2, none⟩ u).heap[w.heap.size]? = _ by rw [Below.heap_setCell _ _ _ _ (by show w.heap.size ≠ q; omega)]; exact R0) 0
    have k1 := fun u => frz_of (show (W.setCell ⟨q, 2, none⟩ u).heap[w.heap.size]? = _ by rw [Below.heap_setCell _ _ _ _ (by show w.heap.size ≠ q; omega)]; exact R0) 1
    have HR := hide2 R0
    clear R0 R1
    go_wp2
    have S2 := S1.out.next (by rw [HV.out]; exact hv1)
    rw [HN.out] at S2
    have e1 := set2_row (show (W.setCell ⟨q, 2, none⟩ (.int .i64 ((n : Int) + 1))).heap[w.heap.size]? = _ by rw [Below.heap_setCell _ _ _ _ (by show w.heap.size ≠ q; omega)]; exact HR.out) (.int .i32 v) (.int .i64 a)
    refine bodyPost_ret (results_cell_row rfl _ _ w.heap.size 278 #[.int .i32 v, .int .i64 a] (0, 0) _ rfl e1 Tryz.underlying278 rfl (by kernel_rfl)) rfl ?_
    exact ⟨rfl, (S2.set (Nat.le_refl _) _ _).set (Nat.le_refl _) _ _⟩
end Go.Proofs.YtlhokghgicgppaaGreatDoor
