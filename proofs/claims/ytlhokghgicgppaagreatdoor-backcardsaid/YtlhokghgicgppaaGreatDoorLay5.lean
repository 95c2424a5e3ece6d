/- (*layout).times. -/
import Derived.Test.YtlhokghgicgppaaGreatDoorLay4
set_option linter.unusedSimpArgs false
set_option linter.unusedVariables false
set_option maxRecDepth 100000
set_option maxHeartbeats 4000000
namespace Go.Proofs.YtlhokghgicgppaaGreatDoor
open Go.RowKit Go.Extern
theorem connect_lt {B : Nat} {w : World} {p : Nat} {l : Sg.Lt} (h : LtAt (fun b => b < B) w p l) {a b : Nat} (ha : a < 18446744073709551616) (hb : b < 18446744073709551616) :
    Calls Tryz.prog 174 #[.pointer (some ⟨p, 0, none⟩), psV a, psV b] w fun e w' => e = .returned (.tuple #[]) ∧ LtAt (fun b => b < B) w' p (l.connect a b) ∧ Chg (folT p) w w' :=
  (connect_any w p l.cls.length _ a b ha hb h.lt h.n h.fn).mono fun _ _ ⟨h1, h2, h3⟩ => ⟨h1, h.connect hb h2 h3, h3⟩
theorem times_any (k : Nat) (hk : Lays k) (B : Nat) (w : World) (p : Nat) (l : Sg.Lt) (t : TypeId) (u : Value) (a : Sg.Node) (least most : Int) (hL : LtAt (fun b => b < B) w p l) (hN : NodeAt (fun b => b < B) w k (.iface t u) a) (h1 : 0 ≤ least ∧ least ≤ 8) (h2 : -1 ≤ most ∧ most ≤ 8) (h64 : (l.cls.length : Int) + Sg.copies least most * Sg.placesN k a ≤ 64) (hao : Sg.altOk k a = true) :
    Calls Tryz.prog 145 #[.pointer (some ⟨p, 0, none⟩), .agg #[.iface t u, .int .i64 least, .int .i64 most]] w (LayPost B w p l (Sg.layN (k + 1) (.times a least most) l).1 (Sg.layN (k + 1) (.times a least most) l).2 (Sg.copies least most * Sg.placesN k a)) := by
  have hp : p < w.heap.size := cell_lt hL.fn.c0
  have hB : B ≤ p := by have := hL.d; omega
  have hnn := places_nonneg k _ a hN
  have hcp := copies_nonneg h1 h2
  have HC := hide2 (fun wx => copies_any wx (.iface t u) rfl least most h1 h2)
  have hlay : Sg.layN (k + 1) (.times a least most) l = Sg.timesGo (Sg.layN k a) least most (Sg.copies least most) (Sg.copies least most).toNat 0 ⟨0, 0, true⟩ l := rfl
  rw [hlay]
  clear hlay
  unfold LayPost
  generalize Sg.copies least most = c at *
  generalize hfin : Sg.timesGo (Sg.layN k a) least most c c.toNat 0 ⟨0, 0, true⟩ l = fin
  have HF := hide2 hfin
  have HLt := hide2 (And.intro hL hN)
  clear hfin hL hN
  go_enter Tryz.func145, Tryz.ntmps145
  go_wp2_with (go_at_call 173; refine (HC.out _).mono ?_; rintro e w0 ⟨rfl, hb0⟩)
  have hz : (((w.alloc (.cells #[.iface t u, .int .i64 least, .int .i64 most] 288)).alloc (.cells #[.int .u32 0, .int .u32 0, .int .u32 0, .int .u32 0, .bool false] 232)).alloc (.cells #[.int .u32 0, .int .u32 0, .int .u32 0, .int .u32 0, .bool true] 232)).heap.size = w.heap.size + 3 := by simp
  have hb3 := below3 w (.cells #[.iface t u, .int .i64 least, .int .i64 most] 288) (.cells #[.int .u32 0, .int .u32 0, .int .u32 0, .int .u32 0, .bool false] 232) (.cells #[.int .u32 0, .int .u32 0, .int .u32 0, .int .u32 0, .bool true] 232)
  have a0 := below_blk hb0 (alloc3_low w (.cells #[.iface t u, .int .i64 least, .int .i64 most] 288) (.cells #[.int .u32 0, .int .u32 0, .int .u32 0, .int .u32 0, .bool false] 232) (.cells #[.int .u32 0, .int .u32 0, .int .u32 0, .int .u32 0, .bool true] 232))
  have a1 := below_blk hb0 (alloc3_mid w (.cells #[.iface t u, .int .i64 least, .int .i64 most] 288) (.cells #[.int .u32 0, .int .u32 0, .int .u32 0, .int .u32 0, .bool false] 232) (.cells #[.int .u32 0, .int .u32 0, .int .u32 0, .int .u32 0, .bool true] 232))
  have a2 := below_blk hb0 (alloc3_top w (.cells #[.iface t u, .int .i64 least, .int .i64 most] 288) (.cells #[.int .u32 0, .int .u32 0, .int .u32 0, .int .u32 0, .bool false] 232) (.cells #[.int .u32 0, .int .u32 0, .int .u32 0, .int .u32 0, .bool true] 232))
  have hbw : Below w.heap.size w w0 := below_go hb3 hb0
  have HA := hide2 (And.intro a0 (And.intro a1 (And.intro a2 hbw)))
  clear hz hb3 a0 a1 a2 hbw hb0 HC
  go_loopw [13] (fun iv wr => ∃ (j : Nat) (P : Sg.Pc2) (l1 : Sg.Lt), iv = .int .i64 j ∧ (j : Int) ≤ c ∧ Hid (wr.heap[w.heap.size]? = some (.cells #[.iface t u, .int .i64 least, .int .i64 most] 288) ∧ wr.heap[w.heap.size + 1]? = some (.cells (pcA 0 0 0 0 false) 232) ∧ (∃ cs, pcV P = .agg cs ∧ wr.heap[w.heap.size + 1 + 1]? = some (.cells cs 232)) ∧ Pok P ∧ LtAt (fun b => b < B) wr p l1 ∧ Chg (layT p) w wr ∧ Sg.timesGo (Sg.layN k a) least most c (c.toNat - j) j P l1 = fin ∧ (l1.cls.length : Int) + (c - j) * Sg.placesN k a = l.cls.length + c * Sg.placesN k a)) (fun iv _ => c.toNat - (intOf iv).toNat)
  case atStart =>
    obtain ⟨x0, x1, x2, x3⟩ := HA.out
    exact ⟨0, ⟨0, 0, true⟩, l, rfl, by omega, hide2 ⟨x0, x1, ⟨_, rfl, x2⟩, ⟨by decide, by decide⟩, HLt.out.1.below x3, Chg.of_below x3, HF.out, by simp⟩⟩
  case round =>
    obtain ⟨j, P, l1, rfl, hj, H⟩ := hrel
    obtain ⟨g0, gr, ⟨cs, g1, g2⟩, g3, g4, g5, g6, g7⟩ := H.out
    clear H HA
    obtain ⟨m0, m1, m2, m3, b, hpc⟩ := pcV_eq P
    obtain rfl : cs = pcA m0 m1 m2 m3 b := by rw [hpc] at g1; cases g1; rfl
    by_cases hlt : (j : Int) < c
    · obtain ⟨n, hn⟩ : ∃ n, c.toNat - j = n + 1 := ⟨c.toNat - j - 1, by omega⟩
      rw [hn] at g6
      unfold Sg.timesGo at g6
      dsimp only at g6
      have hn' : n = c.toNat - (j + 1) := by omega
      have e7 : (c - j) * Sg.placesN k a = Sg.placesN k a + (c - (j + 1)) * Sg.placesN k a := by
        rw [show c - (j : Int) = 1 + (c - (j + 1)) by omega, Int.add_mul, Int.one_mul]
      have hge : 0 ≤ (c - (j + 1)) * Sg.placesN k a := Int.mul_nonneg (by omega) hnn
      rw [e7] at g7
      clear e7
      have hNr : ∀ W, Chg (layT p) w W → NodeAt (fun b => b < B) W k (.iface t u) a := fun W hc => NodeAt.of hc (fun b o hb t => by have := t.1; omega) _ _ _ HLt.out.2
      obtain ⟨n0, n1, hqf⟩ := ps_agg (Sg.layN k a l1).1.first
      obtain ⟨n2, n3, hql⟩ := ps_agg (Sg.layN k a l1).1.last
      have hqc := pcV_ps _ hqf hql
      have HLay : Hid (Calls Tryz.prog 104 #[.pointer (some ⟨p, 0, none⟩), .iface t u] wr fun e w' => e = .returned (.agg #[.int .u32 n0, .int .u32 n1, .int .u32 n2, .int .u32 n3, .bool (Sg.layN k a l1).1.empty]) ∧ Pok (Sg.layN k a l1).1 ∧ LtAt (fun b => b < B) w' p (Sg.layN k a l1).2 ∧ Chg (layT p) wr w' ∧ ((Sg.layN k a l1).2.cls.length : Int) = l1.cls.length + Sg.placesN k a) := by
        have := hk B wr p l1 (.iface t u) a hao g4 (hNr wr g5) (by omega)
        unfold LayPost at this
        rw [hqc] at this
        exact hide2 this
      have HCn : Hid (∀ W, Pok (Sg.layN k a l1).1 → LtAt (fun b => b < B) W p (Sg.layN k a l1).2 → Calls Tryz.prog 174 #[.pointer (some ⟨p, 0, none⟩), .agg #[.int .u32 n2, .int .u32 n3], .agg #[.int .u32 n0, .int .u32 n1]] W fun e w' => e = .returned (.tuple #[]) ∧ LtAt (fun b => b < B) w' p ((Sg.layN k a l1).2.connect (Sg.layN k a l1).1.last (Sg.layN k a l1).1.first) ∧ Chg (folT p) W w') := hide2 (fun W hQ hW => by
        have := connect_lt hW hQ.l hQ.f
        rw [hqf, hql] at this; exact this)
      generalize hQ : (Sg.layN k a l1).1 = Q at *
      generalize hl2 : (Sg.layN k a l1).2 = l2 at *
      have hRw : w.heap.size + 1 + 1 < wr.heap.size := (Array.getElem?_eq_some_iff.1 g2).1
      have c0 : wr.cell? ⟨w.heap.size, 0, none⟩ = some (.iface t u) := cell_of g0 0
      have HX := hide2 (And.intro g0 (And.intro gr (And.intro g2 (And.intro g3 (And.intro g5 (And.intro g6 (And.intro g7 hn')))))))
      obtain ⟨qf, qlst, qe⟩ := Q
      clear g0 g1 gr g2 g4 g5 g6 g7 hNr hQ hl2 hqc hge
      dsimp only at *
      by_cases hc1 : most = -1 ∧ (j : Int) = c - 1
      · have hmb : (most == -1) = true := by simp [hc1.1]
        have hjb : ((j : Int) == c - 1) = true := by simp [hc1.2]
        have HC1 := hide2 hc1
        clear hc1
        by_cases hc2 : least ≤ (j : Int)
        · skip
          have hl3 : True := trivial
          obtain ⟨i0, i1, i2, i3, b3, hic⟩ := pcV_eq (joinP P ⟨qf, qlst, true⟩)
          have hqc2 := pcV_ps (⟨qf, qlst, true⟩ : Sg.Pc2) hqf hql
          have HJ : Hid (∀ W, Pok ⟨qf, qlst, qe⟩ → LtAt (fun b => b < B) W p (l2.connect qlst qf) → Calls Tryz.prog 146 #[.pointer (some ⟨p, 0, none⟩), .agg #[.int .u32 m0, .int .u32 m1, .int .u32 m2, .int .u32 m3, .bool b], .agg #[.int .u32 n0, .int .u32 n1, .int .u32 n2, .int .u32 n3, .bool true]] W fun e w' => e = .returned (.agg #[.int .u32 i0, .int .u32 i1, .int .u32 i2, .int .u32 i3, .bool b3]) ∧ LtAt (fun b => b < B) w' p ((l2.connect qlst qf).connect P.last qf) ∧ Chg (folT p) W w') := hide2 (fun W hQ hW => by
            have := join_lt hW g3 (Q := ⟨qf, qlst, true⟩) ⟨hQ.f, hQ.l⟩
            rw [hpc, hqc2, hic] at this
            exact this)
          have HI := hide2 hic
          clear hic hqc2 hpc g3 hl3
          go_wp2_with (first
            | (go_at_call 104; refine HLay.out.mono ?_; clear HLay; rintro e w1 ⟨rfl, P1, L1, C1, N1⟩; have k0 : w1.heap[w.heap.size]? = some (.cells #[.iface t u, .int .i64 least, .int .i64 most] 288) := (C1.block _ (by omega) (fun o t => by have := t.1; omega)).trans HX.out.1; have k2 : w1.heap[w.heap.size + 1 + 1]? = some (.cells (pcA m0 m1 m2 m3 b) 232) := (C1.block _ hRw (fun o t => by have := t.1; omega)).trans HX.out.2.2.1; have s1 := C1.size; have e1 : ∀ o, (w1.alloc o).cell? ⟨w.heap.size, 1, none⟩ = some (.int .i64 least) := fun o => cell_of (below_blk (below1 w1 o) k0) 1; have e2 : ∀ o, (w1.alloc o).cell? ⟨w.heap.size, 2, none⟩ = some (.int .i64 most) := fun o => cell_of (below_blk (below1 w1 o) k0) 2; have F1 := fun o => five (below_blk (below1 w1 o) k2); have p0 := fun o => (F1 o).a0; have p1 := fun o => (F1 o).a1; have p2 := fun o => (F1 o).a2; have p3 := fun o => (F1 o).a3; have p4 := fun o => (F1 o).a4; have HN1 := hide2 (And.intro N1 (And.intro k0 k2)); clear F1 N1 k0 k2)
            | (go_at_call 174; refine (HCn.out _ P1 (L1.below (below1 w1 _))).mono ?_; clear HCn; rintro e w2 ⟨rfl, L2, C2⟩; have hz1 : (w1.alloc (.cells #[.int .u32 n0, .int .u32 n1, .int .u32 n2, .int .u32 n3, .bool qe] 232)).heap.size = w1.heap.size + 1 := (by simp); have q0 : w2.heap[w1.heap.size]? = some (.cells (pcA n0 n1 n2 n3 qe) 232) := (C2.block _ (by omega) (fun o t => by have := t.1; omega)).trans (heap_alloc_new w1 _); have k0' := (C2.block _ (by omega) (fun o t => by have := t.1; omega)).trans (below_blk (below1 w1 (.cells #[.int .u32 n0, .int .u32 n1, .int .u32 n2, .int .u32 n3, .bool qe] 232)) HN1.out.2.1); have k2' := (C2.block _ (by omega) (fun o t => by have := t.1; omega)).trans (below_blk (below1 w1 (.cells #[.int .u32 n0, .int .u32 n1, .int .u32 n2, .int .u32 n3, .bool qe] 232)) HN1.out.2.2); have e1' : w2.cell? ⟨w.heap.size, 1, none⟩ = some (.int .i64 least) := cell_of k0' 1; obtain ⟨t0, t1, t2, t3, t4, v0, v1, v2, v3, v4⟩ := five q0; obtain ⟨o0, o1, o2, o3, o4, _, _, _, _, _⟩ := five k2'; have HQ2 := hide2 (And.intro k2' q0); have s2 := C2.size; rw [hz1] at s2; clear k0' k2' q0 hz1)
            | (go_at_call 146; refine (HJ.out _ P1 (L2.mut (Chg.setCell1 (T := fun i _ => i = w1.heap.size) rfl _) (fun i o t => (by omega)))).mono ?_; clear HJ; rintro e w3 ⟨rfl, L3, C3⟩; have HC3 := hide2 C3; have s3 := C3.size; have K2 : w3.heap[w.heap.size + 1 + 1]? = some (.cells (pcA m0 m1 m2 m3 b) 232) := (C3.block _ (by simp [World.setCell]; omega) (fun o t => by have := t.1; omega)).trans ((Below.heap_setCell _ _ _ _ (by show w.heap.size + 1 + 1 ≠ w1.heap.size; omega)).trans HQ2.out.1); obtain ⟨u0, u1, u2, u3, u4, x0, x1, x2, x3, x4⟩ := five K2; have HK2 := hide2 K2; clear K2 C3))
          obtain ⟨f0, fr, f2, f3, f5, f6, f7, f8⟩ := HX.out
          have cw := ((((f5.trans C1).alloc (.cells #[.int .u32 n0, .int .u32 n1, .int .u32 n2, .int .u32 n3, .bool qe] 232)).trans (C2.mono (fun i o _ t => ⟨t.1, t.2.2⟩))).set_new (show w.heap.size ≤ w1.heap.size by omega) 4 (.bool true)).trans (HC3.out.mono (fun i o _ t => (⟨t.1, t.2.2⟩ : layT p i o)))
          obtain ⟨d1, d2, d3⟩ := lay_end hB hp (show w.heap.size ≤ w.heap.size + 1 + 1 by omega) rfl HK2.out L3 cw (.int .u32 i0) (.int .u32 i1) (.int .u32 i2) (.int .u32 i3) (.bool b3)
          have hbk : ∀ k', k' < wr.heap.size → k' ≠ p → w3.heap[k']? = wr.heap[k']? := fun k' hk1 hk2 => by
            rw [HC3.out.block k' (by simp [World.setCell]; omega) (fun o t => hk2 t.1), Below.heap_setCell _ _ _ _ (by show k' ≠ w1.heap.size; omega), C2.block k' (by simp; omega) (fun o t => hk2 t.1)]
            exact ((below1 w1 _).block k' (by omega)).trans (C1.block k' hk1 (fun o t => hk2 t.1))
          rw [if_pos HC1.out, if_pos (show least ≤ (j : Int) by omega)] at f6
          refine ⟨⟨j + 1, joinP P ⟨qf, qlst, true⟩, (l2.connect qlst qf).connect P.last qf, by go_num, by omega, hide2 ⟨(set5_blk _ _ _ (by omega) _ _ _ _ _).trans ((hbk _ (by omega) (by omega)).trans f0), (set5_blk _ _ _ (by omega) _ _ _ _ _).trans ((hbk _ (by omega) (by omega)).trans fr), ⟨_, HI.out, d1⟩, joinP_ok f3 ⟨P1.f, P1.l⟩, d2, d3, ?_, ?_⟩⟩, by simp [intOf]; omega⟩
          · rw [← f8, show (((j + 1 : Nat)) : Int) = (j : Int) + 1 by omega]; exact f6
          · have := HN1.out.1
            have ec : ((l2.connect qlst qf).connect P.last qf).cls.length = l2.cls.length := rfl
            rw [ec]; push_cast; omega
        · skip
          have hl3 : True := trivial
          obtain ⟨i0, i1, i2, i3, b3, hic⟩ := pcV_eq (joinP P ⟨qf, qlst, qe⟩)
          have hqc2 := pcV_ps (⟨qf, qlst, qe⟩ : Sg.Pc2) hqf hql
          have HJ : Hid (∀ W, Pok ⟨qf, qlst, qe⟩ → LtAt (fun b => b < B) W p (l2.connect qlst qf) → Calls Tryz.prog 146 #[.pointer (some ⟨p, 0, none⟩), .agg #[.int .u32 m0, .int .u32 m1, .int .u32 m2, .int .u32 m3, .bool b], .agg #[.int .u32 n0, .int .u32 n1, .int .u32 n2, .int .u32 n3, .bool qe]] W fun e w' => e = .returned (.agg #[.int .u32 i0, .int .u32 i1, .int .u32 i2, .int .u32 i3, .bool b3]) ∧ LtAt (fun b => b < B) w' p ((l2.connect qlst qf).connect P.last qf) ∧ Chg (folT p) W w') := hide2 (fun W hQ hW => by
            have := join_lt hW g3 (Q := ⟨qf, qlst, qe⟩) ⟨hQ.f, hQ.l⟩
            rw [hpc, hqc2, hic] at this
            exact this)
          have HI := hide2 hic
          clear hic hqc2 hpc g3 hl3
          go_wp2_with (first
            | (go_at_call 104; refine HLay.out.mono ?_; clear HLay; rintro e w1 ⟨rfl, P1, L1, C1, N1⟩; have k0 : w1.heap[w.heap.size]? = some (.cells #[.iface t u, .int .i64 least, .int .i64 most] 288) := (C1.block _ (by omega) (fun o t => by have := t.1; omega)).trans HX.out.1; have k2 : w1.heap[w.heap.size + 1 + 1]? = some (.cells (pcA m0 m1 m2 m3 b) 232) := (C1.block _ hRw (fun o t => by have := t.1; omega)).trans HX.out.2.2.1; have s1 := C1.size; have e1 : ∀ o, (w1.alloc o).cell? ⟨w.heap.size, 1, none⟩ = some (.int .i64 least) := fun o => cell_of (below_blk (below1 w1 o) k0) 1; have e2 : ∀ o, (w1.alloc o).cell? ⟨w.heap.size, 2, none⟩ = some (.int .i64 most) := fun o => cell_of (below_blk (below1 w1 o) k0) 2; have F1 := fun o => five (below_blk (below1 w1 o) k2); have p0 := fun o => (F1 o).a0; have p1 := fun o => (F1 o).a1; have p2 := fun o => (F1 o).a2; have p3 := fun o => (F1 o).a3; have p4 := fun o => (F1 o).a4; have HN1 := hide2 (And.intro N1 (And.intro k0 k2)); clear F1 N1 k0 k2)
            | (go_at_call 174; refine (HCn.out _ P1 (L1.below (below1 w1 _))).mono ?_; clear HCn; rintro e w2 ⟨rfl, L2, C2⟩; have hz1 : (w1.alloc (.cells #[.int .u32 n0, .int .u32 n1, .int .u32 n2, .int .u32 n3, .bool qe] 232)).heap.size = w1.heap.size + 1 := (by simp); have q0 : w2.heap[w1.heap.size]? = some (.cells (pcA n0 n1 n2 n3 qe) 232) := (C2.block _ (by omega) (fun o t => by have := t.1; omega)).trans (heap_alloc_new w1 _); have k0' := (C2.block _ (by omega) (fun o t => by have := t.1; omega)).trans (below_blk (below1 w1 (.cells #[.int .u32 n0, .int .u32 n1, .int .u32 n2, .int .u32 n3, .bool qe] 232)) HN1.out.2.1); have k2' := (C2.block _ (by omega) (fun o t => by have := t.1; omega)).trans (below_blk (below1 w1 (.cells #[.int .u32 n0, .int .u32 n1, .int .u32 n2, .int .u32 n3, .bool qe] 232)) HN1.out.2.2); have e1' : w2.cell? ⟨w.heap.size, 1, none⟩ = some (.int .i64 least) := cell_of k0' 1; obtain ⟨t0, t1, t2, t3, t4, v0, v1, v2, v3, v4⟩ := five q0; obtain ⟨o0, o1, o2, o3, o4, _, _, _, _, _⟩ := five k2'; have HQ2 := hide2 (And.intro k2' q0); have s2 := C2.size; rw [hz1] at s2; clear k0' k2' q0 hz1)
            | (go_at_call 146; refine (HJ.out _ P1 L2).mono ?_; clear HJ; rintro e w3 ⟨rfl, L3, C3⟩; have HC3 := hide2 C3; have s3 := C3.size; have K2 : w3.heap[w.heap.size + 1 + 1]? = some (.cells (pcA m0 m1 m2 m3 b) 232) := (C3.block _ (by omega) (fun o t => by have := t.1; omega)).trans HQ2.out.1; obtain ⟨u0, u1, u2, u3, u4, x0, x1, x2, x3, x4⟩ := five K2; have HK2 := hide2 K2; clear K2 C3))
          obtain ⟨f0, fr, f2, f3, f5, f6, f7, f8⟩ := HX.out
          have cw := (((f5.trans C1).alloc (.cells #[.int .u32 n0, .int .u32 n1, .int .u32 n2, .int .u32 n3, .bool qe] 232)).trans (C2.mono (fun i o _ t => ⟨t.1, t.2.2⟩))).trans (HC3.out.mono (fun i o _ t => (⟨t.1, t.2.2⟩ : layT p i o)))
          obtain ⟨d1, d2, d3⟩ := lay_end hB hp (show w.heap.size ≤ w.heap.size + 1 + 1 by omega) rfl HK2.out L3 cw (.int .u32 i0) (.int .u32 i1) (.int .u32 i2) (.int .u32 i3) (.bool b3)
          have hbk : ∀ k', k' < wr.heap.size → k' ≠ p → w3.heap[k']? = wr.heap[k']? := fun k' hk1 hk2 => by
            rw [HC3.out.block k' (by omega) (fun o t => hk2 t.1), C2.block k' (by simp; omega) (fun o t => hk2 t.1)]
            exact ((below1 w1 _).block k' (by omega)).trans (C1.block k' hk1 (fun o t => hk2 t.1))
          rw [if_pos HC1.out, if_neg (show ¬ least ≤ (j : Int) by omega)] at f6
          refine ⟨⟨j + 1, joinP P ⟨qf, qlst, qe⟩, (l2.connect qlst qf).connect P.last qf, by go_num, by omega, hide2 ⟨(set5_blk _ _ _ (by omega) _ _ _ _ _).trans ((hbk _ (by omega) (by omega)).trans f0), (set5_blk _ _ _ (by omega) _ _ _ _ _).trans ((hbk _ (by omega) (by omega)).trans fr), ⟨_, HI.out, d1⟩, joinP_ok f3 ⟨P1.f, P1.l⟩, d2, d3, ?_, ?_⟩⟩, by simp [intOf]; omega⟩
          · rw [← f8, show (((j + 1 : Nat)) : Int) = (j : Int) + 1 by omega]; exact f6
          · have := HN1.out.1
            have ec : ((l2.connect qlst qf).connect P.last qf).cls.length = l2.cls.length := rfl
            rw [ec]; push_cast; omega
      · have HC1 := hide2 hc1
        clear hc1
        by_cases hc2 : least ≤ (j : Int)
        · by_cases hm1 : most = -1
          · have hjb : ((j : Int) == c - 1) = false := by
              have := fun e => HC1.out ⟨hm1, e⟩
              simpa using this
            have hmb : (most == -1) = true := by simp [hm1]
            clear hm1
            have hl3 : True := trivial
            obtain ⟨i0, i1, i2, i3, b3, hic⟩ := pcV_eq (joinP P ⟨qf, qlst, true⟩)
            have hqc2 := pcV_ps (⟨qf, qlst, true⟩ : Sg.Pc2) hqf hql
            have HJ : Hid (∀ W, Pok ⟨qf, qlst, qe⟩ → LtAt (fun b => b < B) W p l2 → Calls Tryz.prog 146 #[.pointer (some ⟨p, 0, none⟩), .agg #[.int .u32 m0, .int .u32 m1, .int .u32 m2, .int .u32 m3, .bool b], .agg #[.int .u32 n0, .int .u32 n1, .int .u32 n2, .int .u32 n3, .bool true]] W fun e w' => e = .returned (.agg #[.int .u32 i0, .int .u32 i1, .int .u32 i2, .int .u32 i3, .bool b3]) ∧ LtAt (fun b => b < B) w' p (l2.connect P.last qf) ∧ Chg (folT p) W w') := hide2 (fun W hQ hW => by
              have := join_lt hW g3 (Q := ⟨qf, qlst, true⟩) ⟨hQ.f, hQ.l⟩
              rw [hpc, hqc2, hic] at this
              exact this)
            have HI := hide2 hic
            clear hic hqc2 hpc g3 hl3
            go_wp2_with (first
              | (go_at_call 104; refine HLay.out.mono ?_; clear HLay; rintro e w1 ⟨rfl, P1, L1, C1, N1⟩; have k0 : w1.heap[w.heap.size]? = some (.cells #[.iface t u, .int .i64 least, .int .i64 most] 288) := (C1.block _ (by omega) (fun o t => by have := t.1; omega)).trans HX.out.1; have k2 : w1.heap[w.heap.size + 1 + 1]? = some (.cells (pcA m0 m1 m2 m3 b) 232) := (C1.block _ hRw (fun o t => by have := t.1; omega)).trans HX.out.2.2.1; have s1 := C1.size; have e1 : ∀ o, (w1.alloc o).cell? ⟨w.heap.size, 1, none⟩ = some (.int .i64 least) := fun o => cell_of (below_blk (below1 w1 o) k0) 1; have e2 : ∀ o, (w1.alloc o).cell? ⟨w.heap.size, 2, none⟩ = some (.int .i64 most) := fun o => cell_of (below_blk (below1 w1 o) k0) 2; have F1 := fun o => five (below_blk (below1 w1 o) k2); have p0 := fun o => (F1 o).a0; have p1 := fun o => (F1 o).a1; have p2 := fun o => (F1 o).a2; have p3 := fun o => (F1 o).a3; have p4 := fun o => (F1 o).a4; have HN1 := hide2 (And.intro N1 (And.intro k0 k2)); clear F1 N1 k0 k2)
              | (go_at_call 146; refine (HJ.out _ P1 (L1.below (below1 w1 _))).mono ?_; clear HJ; rintro e w3 ⟨rfl, L3, C3⟩; have HC3 := hide2 C3; have s3 := C3.size; have K2 : w3.heap[w.heap.size + 1 + 1]? = some (.cells (pcA m0 m1 m2 m3 b) 232) := (C3.block _ (by simp; omega) (fun o t => by have := t.1; omega)).trans (below_blk (below1 w1 _) HN1.out.2.2); obtain ⟨u0, u1, u2, u3, u4, x0, x1, x2, x3, x4⟩ := five K2; have HK2 := hide2 K2; clear K2 C3))
            obtain ⟨f0, fr, f2, f3, f5, f6, f7, f8⟩ := HX.out
            have cw := ((f5.trans C1).alloc (.cells #[.int .u32 n0, .int .u32 n1, .int .u32 n2, .int .u32 n3, .bool true] 232)).trans (HC3.out.mono (fun i o _ t => (⟨t.1, t.2.2⟩ : layT p i o)))
            obtain ⟨d1, d2, d3⟩ := lay_end hB hp (show w.heap.size ≤ w.heap.size + 1 + 1 by omega) rfl HK2.out L3 cw (.int .u32 i0) (.int .u32 i1) (.int .u32 i2) (.int .u32 i3) (.bool b3)
            have hbk : ∀ k', k' < wr.heap.size → k' ≠ p → w3.heap[k']? = wr.heap[k']? := fun k' hk1 hk2 => by
              rw [HC3.out.block k' (by simp; omega) (fun o t => hk2 t.1)]
              exact ((below1 w1 _).block k' (by omega)).trans (C1.block k' hk1 (fun o t => hk2 t.1))
            rw [if_neg HC1.out, if_pos (show least ≤ (j : Int) by omega)] at f6
            refine ⟨⟨j + 1, joinP P ⟨qf, qlst, true⟩, l2.connect P.last qf, by go_num, by omega, hide2 ⟨(set5_blk _ _ _ (by omega) _ _ _ _ _).trans ((hbk _ (by omega) (by omega)).trans f0), (set5_blk _ _ _ (by omega) _ _ _ _ _).trans ((hbk _ (by omega) (by omega)).trans fr), ⟨_, HI.out, d1⟩, joinP_ok f3 ⟨P1.f, P1.l⟩, d2, d3, ?_, ?_⟩⟩, by simp [intOf]; omega⟩
            · rw [← f8, show (((j + 1 : Nat)) : Int) = (j : Int) + 1 by omega]; exact f6
            · have := HN1.out.1
              have ec : (l2.connect P.last qf).cls.length = l2.cls.length := rfl
              rw [ec]; push_cast; omega
          · have hmb : (most == -1) = false := by simpa using hm1
            clear hm1
            have hl3 : True := trivial
            obtain ⟨i0, i1, i2, i3, b3, hic⟩ := pcV_eq (joinP P ⟨qf, qlst, true⟩)
            have hqc2 := pcV_ps (⟨qf, qlst, true⟩ : Sg.Pc2) hqf hql
            have HJ : Hid (∀ W, Pok ⟨qf, qlst, qe⟩ → LtAt (fun b => b < B) W p l2 → Calls Tryz.prog 146 #[.pointer (some ⟨p, 0, none⟩), .agg #[.int .u32 m0, .int .u32 m1, .int .u32 m2, .int .u32 m3, .bool b], .agg #[.int .u32 n0, .int .u32 n1, .int .u32 n2, .int .u32 n3, .bool true]] W fun e w' => e = .returned (.agg #[.int .u32 i0, .int .u32 i1, .int .u32 i2, .int .u32 i3, .bool b3]) ∧ LtAt (fun b => b < B) w' p (l2.connect P.last qf) ∧ Chg (folT p) W w') := hide2 (fun W hQ hW => by
              have := join_lt hW g3 (Q := ⟨qf, qlst, true⟩) ⟨hQ.f, hQ.l⟩
              rw [hpc, hqc2, hic] at this
              exact this)
            have HI := hide2 hic
            clear hic hqc2 hpc g3 hl3
            go_wp2_with (first
              | (go_at_call 104; refine HLay.out.mono ?_; clear HLay; rintro e w1 ⟨rfl, P1, L1, C1, N1⟩; have k0 : w1.heap[w.heap.size]? = some (.cells #[.iface t u, .int .i64 least, .int .i64 most] 288) := (C1.block _ (by omega) (fun o t => by have := t.1; omega)).trans HX.out.1; have k2 : w1.heap[w.heap.size + 1 + 1]? = some (.cells (pcA m0 m1 m2 m3 b) 232) := (C1.block _ hRw (fun o t => by have := t.1; omega)).trans HX.out.2.2.1; have s1 := C1.size; have e1 : ∀ o, (w1.alloc o).cell? ⟨w.heap.size, 1, none⟩ = some (.int .i64 least) := fun o => cell_of (below_blk (below1 w1 o) k0) 1; have e2 : ∀ o, (w1.alloc o).cell? ⟨w.heap.size, 2, none⟩ = some (.int .i64 most) := fun o => cell_of (below_blk (below1 w1 o) k0) 2; have F1 := fun o => five (below_blk (below1 w1 o) k2); have p0 := fun o => (F1 o).a0; have p1 := fun o => (F1 o).a1; have p2 := fun o => (F1 o).a2; have p3 := fun o => (F1 o).a3; have p4 := fun o => (F1 o).a4; have HN1 := hide2 (And.intro N1 (And.intro k0 k2)); clear F1 N1 k0 k2)
              | (go_at_call 146; refine (HJ.out _ P1 (L1.below (below1 w1 _))).mono ?_; clear HJ; rintro e w3 ⟨rfl, L3, C3⟩; have HC3 := hide2 C3; have s3 := C3.size; have K2 : w3.heap[w.heap.size + 1 + 1]? = some (.cells (pcA m0 m1 m2 m3 b) 232) := (C3.block _ (by simp; omega) (fun o t => by have := t.1; omega)).trans (below_blk (below1 w1 _) HN1.out.2.2); obtain ⟨u0, u1, u2, u3, u4, x0, x1, x2, x3, x4⟩ := five K2; have HK2 := hide2 K2; clear K2 C3))
            obtain ⟨f0, fr, f2, f3, f5, f6, f7, f8⟩ := HX.out
            have cw := ((f5.trans C1).alloc (.cells #[.int .u32 n0, .int .u32 n1, .int .u32 n2, .int .u32 n3, .bool true] 232)).trans (HC3.out.mono (fun i o _ t => (⟨t.1, t.2.2⟩ : layT p i o)))
            obtain ⟨d1, d2, d3⟩ := lay_end hB hp (show w.heap.size ≤ w.heap.size + 1 + 1 by omega) rfl HK2.out L3 cw (.int .u32 i0) (.int .u32 i1) (.int .u32 i2) (.int .u32 i3) (.bool b3)
            have hbk : ∀ k', k' < wr.heap.size → k' ≠ p → w3.heap[k']? = wr.heap[k']? := fun k' hk1 hk2 => by
              rw [HC3.out.block k' (by simp; omega) (fun o t => hk2 t.1)]
              exact ((below1 w1 _).block k' (by omega)).trans (C1.block k' hk1 (fun o t => hk2 t.1))
            rw [if_neg HC1.out, if_pos (show least ≤ (j : Int) by omega)] at f6
            refine ⟨⟨j + 1, joinP P ⟨qf, qlst, true⟩, l2.connect P.last qf, by go_num, by omega, hide2 ⟨(set5_blk _ _ _ (by omega) _ _ _ _ _).trans ((hbk _ (by omega) (by omega)).trans f0), (set5_blk _ _ _ (by omega) _ _ _ _ _).trans ((hbk _ (by omega) (by omega)).trans fr), ⟨_, HI.out, d1⟩, joinP_ok f3 ⟨P1.f, P1.l⟩, d2, d3, ?_, ?_⟩⟩, by simp [intOf]; omega⟩
            · rw [← f8, show (((j + 1 : Nat)) : Int) = (j : Int) + 1 by omega]; exact f6
            · have := HN1.out.1
              have ec : (l2.connect P.last qf).cls.length = l2.cls.length := rfl
              rw [ec]; push_cast; omega
        · by_cases hm1 : most = -1
          · have hjb : ((j : Int) == c - 1) = false := by
              have := fun e => HC1.out ⟨hm1, e⟩
              simpa using this
            have hmb : (most == -1) = true := by simp [hm1]
            clear hm1
            have hl3 : True := trivial
            obtain ⟨i0, i1, i2, i3, b3, hic⟩ := pcV_eq (joinP P ⟨qf, qlst, qe⟩)
            have hqc2 := pcV_ps (⟨qf, qlst, qe⟩ : Sg.Pc2) hqf hql
            have HJ : Hid (∀ W, Pok ⟨qf, qlst, qe⟩ → LtAt (fun b => b < B) W p l2 → Calls Tryz.prog 146 #[.pointer (some ⟨p, 0, none⟩), .agg #[.int .u32 m0, .int .u32 m1, .int .u32 m2, .int .u32 m3, .bool b], .agg #[.int .u32 n0, .int .u32 n1, .int .u32 n2, .int .u32 n3, .bool qe]] W fun e w' => e = .returned (.agg #[.int .u32 i0, .int .u32 i1, .int .u32 i2, .int .u32 i3, .bool b3]) ∧ LtAt (fun b => b < B) w' p (l2.connect P.last qf) ∧ Chg (folT p) W w') := hide2 (fun W hQ hW => by
              have := join_lt hW g3 (Q := ⟨qf, qlst, qe⟩) ⟨hQ.f, hQ.l⟩
              rw [hpc, hqc2, hic] at this
              exact this)
            have HI := hide2 hic
            clear hic hqc2 hpc g3 hl3
            go_wp2_with (first
              | (go_at_call 104; refine HLay.out.mono ?_; clear HLay; rintro e w1 ⟨rfl, P1, L1, C1, N1⟩; have k0 : w1.heap[w.heap.size]? = some (.cells #[.iface t u, .int .i64 least, .int .i64 most] 288) := (C1.block _ (by omega) (fun o t => by have := t.1; omega)).trans HX.out.1; have k2 : w1.heap[w.heap.size + 1 + 1]? = some (.cells (pcA m0 m1 m2 m3 b) 232) := (C1.block _ hRw (fun o t => by have := t.1; omega)).trans HX.out.2.2.1; have s1 := C1.size; have e1 : ∀ o, (w1.alloc o).cell? ⟨w.heap.size, 1, none⟩ = some (.int .i64 least) := fun o => cell_of (below_blk (below1 w1 o) k0) 1; have e2 : ∀ o, (w1.alloc o).cell? ⟨w.heap.size, 2, none⟩ = some (.int .i64 most) := fun o => cell_of (below_blk (below1 w1 o) k0) 2; have F1 := fun o => five (below_blk (below1 w1 o) k2); have p0 := fun o => (F1 o).a0; have p1 := fun o => (F1 o).a1; have p2 := fun o => (F1 o).a2; have p3 := fun o => (F1 o).a3; have p4 := fun o => (F1 o).a4; have HN1 := hide2 (And.intro N1 (And.intro k0 k2)); clear F1 N1 k0 k2)
              | (go_at_call 146; refine (HJ.out _ P1 (L1.below (below1 w1 _))).mono ?_; clear HJ; rintro e w3 ⟨rfl, L3, C3⟩; have HC3 := hide2 C3; have s3 := C3.size; have K2 : w3.heap[w.heap.size + 1 + 1]? = some (.cells (pcA m0 m1 m2 m3 b) 232) := (C3.block _ (by simp; omega) (fun o t => by have := t.1; omega)).trans (below_blk (below1 w1 _) HN1.out.2.2); obtain ⟨u0, u1, u2, u3, u4, x0, x1, x2, x3, x4⟩ := five K2; have HK2 := hide2 K2; clear K2 C3))
            obtain ⟨f0, fr, f2, f3, f5, f6, f7, f8⟩ := HX.out
            have cw := ((f5.trans C1).alloc (.cells #[.int .u32 n0, .int .u32 n1, .int .u32 n2, .int .u32 n3, .bool qe] 232)).trans (HC3.out.mono (fun i o _ t => (⟨t.1, t.2.2⟩ : layT p i o)))
            obtain ⟨d1, d2, d3⟩ := lay_end hB hp (show w.heap.size ≤ w.heap.size + 1 + 1 by omega) rfl HK2.out L3 cw (.int .u32 i0) (.int .u32 i1) (.int .u32 i2) (.int .u32 i3) (.bool b3)
            have hbk : ∀ k', k' < wr.heap.size → k' ≠ p → w3.heap[k']? = wr.heap[k']? := fun k' hk1 hk2 => by
              rw [HC3.out.block k' (by simp; omega) (fun o t => hk2 t.1)]
              exact ((below1 w1 _).block k' (by omega)).trans (C1.block k' hk1 (fun o t => hk2 t.1))
            rw [if_neg HC1.out, if_neg (show ¬ least ≤ (j : Int) by omega)] at f6
            refine ⟨⟨j + 1, joinP P ⟨qf, qlst, qe⟩, l2.connect P.last qf, by go_num, by omega, hide2 ⟨(set5_blk _ _ _ (by omega) _ _ _ _ _).trans ((hbk _ (by omega) (by omega)).trans f0), (set5_blk _ _ _ (by omega) _ _ _ _ _).trans ((hbk _ (by omega) (by omega)).trans fr), ⟨_, HI.out, d1⟩, joinP_ok f3 ⟨P1.f, P1.l⟩, d2, d3, ?_, ?_⟩⟩, by simp [intOf]; omega⟩
            · rw [← f8, show (((j + 1 : Nat)) : Int) = (j : Int) + 1 by omega]; exact f6
            · have := HN1.out.1
              have ec : (l2.connect P.last qf).cls.length = l2.cls.length := rfl
              rw [ec]; push_cast; omega
          · have hmb : (most == -1) = false := by simpa using hm1
            clear hm1
            have hl3 : True := trivial
            obtain ⟨i0, i1, i2, i3, b3, hic⟩ := pcV_eq (joinP P ⟨qf, qlst, qe⟩)
            have hqc2 := pcV_ps (⟨qf, qlst, qe⟩ : Sg.Pc2) hqf hql
            have HJ : Hid (∀ W, Pok ⟨qf, qlst, qe⟩ → LtAt (fun b => b < B) W p l2 → Calls Tryz.prog 146 #[.pointer (some ⟨p, 0, none⟩), .agg #[.int .u32 m0, .int .u32 m1, .int .u32 m2, .int .u32 m3, .bool b], .agg #[.int .u32 n0, .int .u32 n1, .int .u32 n2, .int .u32 n3, .bool qe]] W fun e w' => e = .returned (.agg #[.int .u32 i0, .int .u32 i1, .int .u32 i2, .int .u32 i3, .bool b3]) ∧ LtAt (fun b => b < B) w' p (l2.connect P.last qf) ∧ Chg (folT p) W w') := hide2 (fun W hQ hW => by
              have := join_lt hW g3 (Q := ⟨qf, qlst, qe⟩) ⟨hQ.f, hQ.l⟩
              rw [hpc, hqc2, hic] at this
              exact this)
            have HI := hide2 hic
            clear hic hqc2 hpc g3 hl3
            go_wp2_with (first
              | (go_at_call 104; refine HLay.out.mono ?_; clear HLay; rintro e w1 ⟨rfl, P1, L1, C1, N1⟩; have k0 : w1.heap[w.heap.size]? = some (.cells #[.iface t u, .int .i64 least, .int .i64 most] 288) := (C1.block _ (by omega) (fun o t => by have := t.1; omega)).trans HX.out.1; have k2 : w1.heap[w.heap.size + 1 + 1]? = some (.cells (pcA m0 m1 m2 m3 b) 232) := (C1.block _ hRw (fun o t => by have := t.1; omega)).trans HX.out.2.2.1; have s1 := C1.size; have e1 : ∀ o, (w1.alloc o).cell? ⟨w.heap.size, 1, none⟩ = some (.int .i64 least) := fun o => cell_of (below_blk (below1 w1 o) k0) 1; have e2 : ∀ o, (w1.alloc o).cell? ⟨w.heap.size, 2, none⟩ = some (.int .i64 most) := fun o => cell_of (below_blk (below1 w1 o) k0) 2; have F1 := fun o => five (below_blk (below1 w1 o) k2); have p0 := fun o => (F1 o).a0; have p1 := fun o => (F1 o).a1; have p2 := fun o => (F1 o).a2; have p3 := fun o => (F1 o).a3; have p4 := fun o => (F1 o).a4; have HN1 := hide2 (And.intro N1 (And.intro k0 k2)); clear F1 N1 k0 k2)
              | (go_at_call 146; refine (HJ.out _ P1 (L1.below (below1 w1 _))).mono ?_; clear HJ; rintro e w3 ⟨rfl, L3, C3⟩; have HC3 := hide2 C3; have s3 := C3.size; have K2 : w3.heap[w.heap.size + 1 + 1]? = some (.cells (pcA m0 m1 m2 m3 b) 232) := (C3.block _ (by simp; omega) (fun o t => by have := t.1; omega)).trans (below_blk (below1 w1 _) HN1.out.2.2); obtain ⟨u0, u1, u2, u3, u4, x0, x1, x2, x3, x4⟩ := five K2; have HK2 := hide2 K2; clear K2 C3))
            obtain ⟨f0, fr, f2, f3, f5, f6, f7, f8⟩ := HX.out
            have cw := ((f5.trans C1).alloc (.cells #[.int .u32 n0, .int .u32 n1, .int .u32 n2, .int .u32 n3, .bool qe] 232)).trans (HC3.out.mono (fun i o _ t => (⟨t.1, t.2.2⟩ : layT p i o)))
            obtain ⟨d1, d2, d3⟩ := lay_end hB hp (show w.heap.size ≤ w.heap.size + 1 + 1 by omega) rfl HK2.out L3 cw (.int .u32 i0) (.int .u32 i1) (.int .u32 i2) (.int .u32 i3) (.bool b3)
            have hbk : ∀ k', k' < wr.heap.size → k' ≠ p → w3.heap[k']? = wr.heap[k']? := fun k' hk1 hk2 => by
              rw [HC3.out.block k' (by simp; omega) (fun o t => hk2 t.1)]
              exact ((below1 w1 _).block k' (by omega)).trans (C1.block k' hk1 (fun o t => hk2 t.1))
            rw [if_neg HC1.out, if_neg (show ¬ least ≤ (j : Int) by omega)] at f6
            refine ⟨⟨j + 1, joinP P ⟨qf, qlst, qe⟩, l2.connect P.last qf, by go_num, by omega, hide2 ⟨(set5_blk _ _ _ (by omega) _ _ _ _ _).trans ((hbk _ (by omega) (by omega)).trans f0), (set5_blk _ _ _ (by omega) _ _ _ _ _).trans ((hbk _ (by omega) (by omega)).trans fr), ⟨_, HI.out, d1⟩, joinP_ok f3 ⟨P1.f, P1.l⟩, d2, d3, ?_, ?_⟩⟩, by simp [intOf]; omega⟩
            · rw [← f8, show (((j + 1 : Nat)) : Int) = (j : Int) + 1 by omega]; exact f6
            · have := HN1.out.1
              have ec : (l2.connect P.last qf).cls.length = l2.cls.length := rfl
              rw [ec]; push_cast; omega
    · have hz0 : c.toNat - j = 0 := by omega
      have hcj : c - (j : Int) = 0 := by omega
      rw [hz0] at g6
      rw [hcj, Int.zero_mul] at g7
      have g6' : (P, l1) = fin := g6
      obtain ⟨s0, s1, s2, s3, s4, z0, z1, z2, z3, z4⟩ := five g2
      obtain ⟨r0, r1, r2, r3, r4, x0, x1, x2, x3, x4⟩ := five gr
      have HX := hide2 (And.intro gr (And.intro g3 (And.intro g4 (And.intro g5 (And.intro g6' (And.intro g7 hpc))))))
      clear g0 gr g1 g2 g3 g4 g5 g6 g7 g6' hpc hz0 hcj
      go_wp2
      obtain ⟨f0, f3, f4, f5, f6, f7, f8⟩ := HX.out
      obtain ⟨e1, e2, e3⟩ := lay_end hB hp (Nat.le_succ _) rfl f0 f4 f5 (.int .u32 m0) (.int .u32 m1) (.int .u32 m2) (.int .u32 m3) (.bool b)
      refine bodyPost_ret (results_cell_row rfl _ _ (w.heap.size + 1) 232 #[.int .u32 m0, .int .u32 m1, .int .u32 m2, .int .u32 m3, .bool b] (0, 0) _ rfl e1 Tryz.underlying232 rfl (by kernel_rfl)) rfl ?_
      rw [← f6]
      exact ⟨by dsimp only; rw [f8]; rfl, f3, e2, e3, by dsimp only; omega⟩
end Go.Proofs.YtlhokghgicgppaaGreatDoor
