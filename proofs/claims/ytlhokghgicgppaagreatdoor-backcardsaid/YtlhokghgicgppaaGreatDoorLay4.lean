/- (*layout).alt. -/
import Derived.Test.YtlhokghgicgppaaGreatDoorLay3
import Derived.Test.YtlhokghgicgppaaGreatDoorIsEnd
set_option linter.unusedSimpArgs false
set_option linter.unusedVariables false
set_option maxRecDepth 100000
set_option maxHeartbeats 4000000
namespace Go.Proofs.YtlhokghgicgppaaGreatDoor
open Go.RowKit Go.Extern
def orP (P Q : Sg.Pc2) : Sg.Pc2 := ⟨P.first ||| Q.first, P.last ||| Q.last, P.empty || Q.empty⟩
def altStep (k : Nat) (a : Sg.Pc2 × Sg.Lt) (n : Sg.Node) : Sg.Pc2 × Sg.Lt := (orP a.1 (Sg.layN k n a.2).1, (Sg.layN k n a.2).2)
theorem layN_alt (k : Nat) (ns : List Sg.Node) (l : Sg.Lt) : Sg.layN (k + 1) (.alt ns) l = ns.foldl (altStep k) (⟨0, 0, false⟩, l) := rfl
theorem orP_ok {P Q : Sg.Pc2} (hP : Pok P) (hQ : Pok Q) : Pok (orP P Q) := ⟨Nat.or_lt_two_pow (n := 64) hP.f hQ.f, Nat.or_lt_two_pow (n := 64) hP.l hQ.l⟩
theorem ps_agg (s : Nat) : ∃ a b, psV s = .agg #[.int .u32 a, .int .u32 b] := ⟨_, _, rfl⟩
theorem pcV_ps (P : Sg.Pc2) {a b c d : Int} (h1 : psV P.first = .agg #[.int .u32 a, .int .u32 b]) (h2 : psV P.last = .agg #[.int .u32 c, .int .u32 d]) : pcV P = .agg (pcA a b c d P.empty) := by
  have e1 : Value.agg #[.int .u32 ((P.first % 4294967296 : Nat) : Int), .int .u32 ((P.first / 4294967296 : Nat) : Int)] = .agg #[.int .u32 a, .int .u32 b] := h1
  have e2 : Value.agg #[.int .u32 ((P.last % 4294967296 : Nat) : Int), .int .u32 ((P.last / 4294967296 : Nat) : Int)] = .agg #[.int .u32 c, .int .u32 d] := h2
  simp only [Value.agg.injEq, Array.mk.injEq, List.cons.injEq, Value.int.injEq, true_and, and_true] at e1 e2
  unfold pcV
  rw [e1.1, e1.2, e2.1, e2.2]
theorem alt_any (k : Nat) (hk : Lays k) (B : Nat) (w : World) (p : Nat) (l : Sg.Lt) (ra : Option Addr) (rc : Nat) (ns : List Sg.Node) (vs : List Value) (hL : LtAt (fun b => b < B) w p l) (hR : RowAt 1 w ra rc ns.length vs) (hd : InD (fun b => b < B) ra) (hnl : ns.length < 1000000) (hN : NodesAt (fun b => b < B) w k vs ns) (h64 : (l.cls.length : Int) + ns.foldl (fun n x => n + Sg.placesN k x) 0 ≤ 64) (hnn : ∀ x ∈ ns, 0 ≤ Sg.placesN k x) (hao : ∀ x ∈ ns, Sg.altOk k x = true) (hem : ∀ x ∈ ns, ∀ l, (Sg.layN k x l).1.empty = false) :
    Calls Tryz.prog 144 #[.pointer (some ⟨p, 0, none⟩), .slice ra ns.length rc] w (LayPost B w p l (ns.foldl (altStep k) (⟨0, 0, false⟩, l)).1 (ns.foldl (altStep k) (⟨0, 0, false⟩, l)).2 (ns.foldl (fun n x => n + Sg.placesN k x) 0)) := by
  have hp : p < w.heap.size := cell_lt hL.fn.c0
  have hB : B ≤ p := by have := hL.d; omega
  have HR := hide2 hR
  have HN := hide2 (And.intro hN (And.intro hd hnn))
  have HAO := hide2 hao
  clear hao
  have HEm := hide2 hem
  clear hem
  have HLt := hide2 hL
  clear hR hN hd hnn hL
  unfold LayPost
  generalize hfin : ns.foldl (altStep k) (⟨0, 0, false⟩, l) = fin
  have HF := hide2 hfin
  clear hfin
  generalize htot : ns.foldl (fun n x => n + Sg.placesN k x) 0 = tot at *
  have HTo := hide2 htot
  clear htot
  have hbl := below2 w (.cells #[.int .u32 0, .int .u32 0, .int .u32 0, .int .u32 0, .bool false] 232) (.cells #[.int .u32 0, .int .u32 0, .int .u32 0, .int .u32 0, .bool false] 232)
  have hal := alloc2_low w (.cells #[.int .u32 0, .int .u32 0, .int .u32 0, .int .u32 0, .bool false] 232) (.cells #[.int .u32 0, .int .u32 0, .int .u32 0, .int .u32 0, .bool false] 232)
  have hal2 := alloc2_top w (.cells #[.int .u32 0, .int .u32 0, .int .u32 0, .int .u32 0, .bool false] 232) (.cells #[.int .u32 0, .int .u32 0, .int .u32 0, .int .u32 0, .bool false] 232)
  have HAl := hide2 (And.intro hbl (And.intro hal hal2))
  clear hbl hal hal2
  go_enter Tryz.func144, Tryz.ntmps144
  go_wp2
  go_loopw [11] (fun iv wr => ∃ (j : Nat) (P : Sg.Pc2) (l1 : Sg.Lt), iv = .int .i64 j ∧ j ≤ ns.length ∧ Hid (P.empty = false ∧ wr.heap[w.heap.size]? = some (.cells (pcA 0 0 0 0 false) 232) ∧ (∃ cs, pcV P = .agg cs ∧ wr.heap[w.heap.size + 1]? = some (.cells cs 232)) ∧ Pok P ∧ LtAt (fun b => b < B) wr p l1 ∧ Chg (layT p) w wr ∧ (ns.drop j).foldl (altStep k) (P, l1) = fin ∧ (l1.cls.length : Int) + (ns.drop j).foldl (fun n x => n + Sg.placesN k x) 0 = l.cls.length + tot)) (fun iv _ => ns.length - (intOf iv).toNat)
  case atStart =>
    obtain ⟨h1, h2, h3⟩ := HAl.out
    exact ⟨0, ⟨0, 0, false⟩, l, rfl, Nat.zero_le _, hide2 ⟨rfl, h2, ⟨_, rfl, h3⟩, ⟨by decide, by decide⟩, HLt.out.below h1, Chg.of_below h1, HF.out, by rw [← HTo.out]; rfl⟩⟩
  case round =>
    obtain ⟨j, P, l1, rfl, hj, H⟩ := hrel
    obtain ⟨gE, g0, ⟨cs, g1, g2⟩, g3, g4, g5, g6, g7⟩ := H.out
    clear H HAl HLt
    by_cases hlt : j < ns.length
    · obtain ⟨m0, m1, hpf⟩ := ps_agg P.first
      obtain ⟨m2, m3, hpl⟩ := ps_agg P.last
      have hpc := pcV_ps P hpf hpl
      rw [gE] at hpc
      obtain rfl : cs = pcA m0 m1 m2 m3 false := by rw [hpc] at g1; cases g1; rfl
      rw [List.drop_eq_getElem_cons hlt, List.foldl_cons] at g6 g7
      rw [sum_shift] at g7
      obtain ⟨v, hv1, hv2⟩ := HN.out.1 j ns[j] (List.getElem?_eq_getElem hlt)
      have hp0 := HN.out.2.2 ns[j] (List.getElem_mem _)
      have hay := HAO.out ns[j] (List.getElem_mem _)
      have hrest := sum_nonneg k (ns.drop (j + 1)) (fun x hx => HN.out.2.2 x (List.mem_of_mem_drop hx)) 0
      have hNr : ∀ W, Chg (layT p) w W → NodeAt (fun b => b < B) W k v ns[j] := fun W hc => NodeAt.of hc (fun b o hb t => by have := t.1; omega) _ _ _ hv2
      unfold altStep at g6
      dsimp only at g6
      have hqE := HEm.out ns[j] (List.getElem_mem _) l1
      generalize ns[j] = y at *
      obtain ⟨n0, n1, hqf⟩ := ps_agg (Sg.layN k y l1).1.first
      obtain ⟨n2, n3, hql⟩ := ps_agg (Sg.layN k y l1).1.last
      have hqc := pcV_ps _ hqf hql
      rw [hqE] at hqc
      obtain ⟨i0, i1, hif⟩ := ps_agg (P.first ||| (Sg.layN k y l1).1.first)
      obtain ⟨i2, i3, hil⟩ := ps_agg (P.last ||| (Sg.layN k y l1).1.last)
      have hic := pcV_ps (orP P (Sg.layN k y l1).1) hif hil
      have hie : (orP P (Sg.layN k y l1).1).empty = false := by show (P.empty || (Sg.layN k y l1).1.empty) = false; rw [gE, hqE]; rfl
      rw [hie] at hic
      have HLay : Hid (∀ W, Below wr.heap.size wr W → Calls Tryz.prog 104 #[.pointer (some ⟨p, 0, none⟩), v] W fun e w' => e = .returned (.agg #[.int .u32 n0, .int .u32 n1, .int .u32 n2, .int .u32 n3, .bool false]) ∧ Pok (Sg.layN k y l1).1 ∧ LtAt (fun b => b < B) w' p (Sg.layN k y l1).2 ∧ Chg (layT p) wr w' ∧ ((Sg.layN k y l1).2.cls.length : Int) = l1.cls.length + Sg.placesN k y) := hide2 (fun W hW => by
        have := hk B W p l1 v y hay (g4.below hW) (hNr W (g5.trans (Chg.of_below hW))) (by omega)
        unfold LayPost at this
        rw [hqc] at this
        exact this.mono fun e w' ⟨h1, h2, h3, h4, h5⟩ => ⟨h1, h2, h3, (Chg.of_below hW).trans h4, h5⟩)
      have HO1 : Hid (∀ W, Pok (Sg.layN k y l1).1 → Calls Tryz.prog 105 #[.agg #[.int .u32 m0, .int .u32 m1], .agg #[.int .u32 n0, .int .u32 n1]] W fun e w' => e = .returned (.agg #[.int .u32 i0, .int .u32 i1]) ∧ Below W.heap.size W w') := hide2 (fun W hQ => by
        have := or_any P.first (Sg.layN k y l1).1.first g3.f hQ.f W
        rw [hpf, hqf, hif] at this; exact this)
      have HO2 : Hid (∀ W, Pok (Sg.layN k y l1).1 → Calls Tryz.prog 105 #[.agg #[.int .u32 m2, .int .u32 m3], .agg #[.int .u32 n2, .int .u32 n3]] W fun e w' => e = .returned (.agg #[.int .u32 i2, .int .u32 i3]) ∧ Below W.heap.size W w') := hide2 (fun W hQ => by
        have := or_any P.last (Sg.layN k y l1).1.last g3.l hQ.l W
        rw [hpl, hql, hil] at this; exact this)
      have hrr := HR.out.of g5 (fun rb ro j' e t => by have := HN.out.2.1 rb ro e; have := t.1; omega)
      obtain ⟨rb, ro, rfl, k0⟩ : ∃ rb ro, ra = some ⟨rb, ro, none⟩ ∧ wr.cell? ⟨rb, ro + j, none⟩ = some v := by
        rcases hrr.row with ⟨_, _, h⟩ | ⟨rb, ro, e, _, h2, _⟩
        · omega
        · exact ⟨rb, ro, e, h2 j _ hv1⟩
      have hRw : w.heap.size + 1 < wr.heap.size := (Array.getElem?_eq_some_iff.1 g2).1
      generalize hQ : (Sg.layN k y l1).1 = Q at *
      generalize hl2 : (Sg.layN k y l1).2 = l2 at *
      have HX := hide2 (And.intro g0 (And.intro g2 (And.intro g3 (And.intro g5 (And.intro g6 (And.intro g7 (And.intro hic hie)))))))
      clear gE hqE hie g0 g1 g2 g3 g4 g5 g6 g7 hNr hrr hv1 hv2 hQ hl2 hpc hqc hic hpf hpl hqf hql hif hil
      go_wp2_with (go_at_call 104; refine (HLay.out _ (Below.refl _ _)).mono ?_; clear HLay; rintro e w1 ⟨rfl, P1, L1, C1, N1⟩)
      have hW1 : (w1.alloc (.cells #[.int .u32 n0, .int .u32 n1, .int .u32 n2, .int .u32 n3, .bool false] 232)).heap[w.heap.size + 1]? = some (.cells (pcA m0 m1 m2 m3 false) 232) := below_blk (below1 w1 _) ((C1.block _ hRw (fun o t => by have := t.1; omega)).trans HX.out.2.1)
      have hW2 := heap_alloc_new w1 (.cells (pcA n0 n1 n2 n3 false) 232)
      have hW3 : LtAt (fun b => b < B) (w1.alloc (.cells #[.int .u32 n0, .int .u32 n1, .int .u32 n2, .int .u32 n3, .bool false] 232)) p l2 := L1.below (below1 w1 _)
      have hW4 : Chg (layT p) wr (w1.alloc (.cells #[.int .u32 n0, .int .u32 n1, .int .u32 n2, .int .u32 n3, .bool false] 232)) := C1.alloc _
      have hW5 : w.heap.size + 1 < w1.heap.size := Nat.lt_of_lt_of_le hRw C1.size
      unfold pcA at hW2
      clear L1 C1
      generalize hQb : w1.heap.size = Qb at *
      generalize w1.alloc (.cells #[.int .u32 n0, .int .u32 n1, .int .u32 n2, .int .u32 n3, .bool false] 232) = W at *
      clear hQb
      have F1 := five hW1
      have F2 := five (show W.heap[Qb]? = some (.cells (pcA n0 n1 n2 n3 false) 232) from hW2)
      have HS : Hid (∀ w', Below W.heap.size W w' → Below W.heap.size W w' ∧ w'.cell? ⟨w.heap.size + 1, 0, none⟩ = some (.int .u32 m0) ∧ w'.cell? ⟨w.heap.size + 1, 1, none⟩ = some (.int .u32 m1) ∧ w'.cell? ⟨w.heap.size + 1, 2, none⟩ = some (.int .u32 m2) ∧ w'.cell? ⟨w.heap.size + 1, 3, none⟩ = some (.int .u32 m3) ∧ w'.cell? ⟨w.heap.size + 1, 4, none⟩ = some (.bool false) ∧
          w'.cell? ⟨Qb, 0, none⟩ = some (.int .u32 n0) ∧ w'.cell? ⟨Qb, 1, none⟩ = some (.int .u32 n1) ∧ w'.cell? ⟨Qb, 2, none⟩ = some (.int .u32 n2) ∧ w'.cell? ⟨Qb, 3, none⟩ = some (.int .u32 n3) ∧ w'.cell? ⟨Qb, 4, none⟩ = some (.bool false) ∧
          w'.frozen? ⟨w.heap.size + 1, 0, none⟩ = false ∧ w'.frozen? ⟨w.heap.size + 1, 1, none⟩ = false ∧ w'.frozen? ⟨w.heap.size + 1, 2, none⟩ = false ∧ w'.frozen? ⟨w.heap.size + 1, 3, none⟩ = false ∧ w'.frozen? ⟨w.heap.size + 1, 4, none⟩ = false) := hide2 (fun w' hb =>
        ⟨hb, below_keep hb F1.a0, below_keep hb F1.a1, below_keep hb F1.a2, below_keep hb F1.a3, below_keep hb F1.a4, below_keep hb F2.a0, below_keep hb F2.a1, below_keep hb F2.a2, below_keep hb F2.a3, below_keep hb F2.a4, below_frz hb (cell_lt F1.a0) F1.z0, below_frz hb (cell_lt F1.a0) F1.z1, below_frz hb (cell_lt F1.a0) F1.z2, below_frz hb (cell_lt F1.a0) F1.z3, below_frz hb (cell_lt F1.a0) F1.z4⟩)
      have HY := hide2 (And.intro hW1 (And.intro hW3 hW4))
      have HN1 := hide2 N1
      clear hW1 hW2 hW3 hW4 F1 F2 N1
      refine wp_region_last (fun w' => Below W.heap.size W w' ∧ w'.cell? ⟨w.heap.size + 1, 0, none⟩ = some (.int .u32 m0) ∧ w'.cell? ⟨w.heap.size + 1, 1, none⟩ = some (.int .u32 m1) ∧ w'.cell? ⟨w.heap.size + 1, 2, none⟩ = some (.int .u32 m2) ∧ w'.cell? ⟨w.heap.size + 1, 3, none⟩ = some (.int .u32 m3) ∧ w'.cell? ⟨w.heap.size + 1, 4, none⟩ = some (.bool false) ∧ w'.cell? ⟨Qb, 0, none⟩ = some (.int .u32 n0) ∧ w'.cell? ⟨Qb, 1, none⟩ = some (.int .u32 n1) ∧ w'.cell? ⟨Qb, 2, none⟩ = some (.int .u32 n2) ∧ w'.cell? ⟨Qb, 3, none⟩ = some (.int .u32 n3) ∧ w'.cell? ⟨Qb, 4, none⟩ = some (.bool false) ∧ w'.frozen? ⟨w.heap.size + 1, 0, none⟩ = false ∧ w'.frozen? ⟨w.heap.size + 1, 1, none⟩ = false ∧ w'.frozen? ⟨w.heap.size + 1, 2, none⟩ = false ∧ w'.frozen? ⟨w.heap.size + 1, 3, none⟩ = false ∧ w'.frozen? ⟨w.heap.size + 1, 4, none⟩ = false) 17 (by kernel_rfl) (HS.out _ ((Below.refl _ _).drew)) (fun hSw => ?_)
      refine last_take (i := 0) (v := ?_) rfl (by kernel_rfl) (by decide) (by kernel_rfl) (by kernel_rfl) (by kernel_rfl) (by kernel_rfl) (fun _ _ _ h => h) (Or.inl ⟨by rfl, ?_⟩) hSw ?_
      rotate_left
      · intro w' hS'
        obtain ⟨_, a0, a1, a2, a3, a4, b0, b1, b2, b3, b4, z0, z1, z2, z3, z4⟩ := hS'
        go_simp
        try with_reducible rfl
      try simp only [Act.put, List.setIfInBounds_toArray, List.set_cons_zero, List.set_cons_succ]
      refine last_take (i := 1) (v := ?_) rfl (by kernel_rfl) (by decide) (by kernel_rfl) (by kernel_rfl) (by kernel_rfl) (by kernel_rfl) (fun _ _ _ h => h) (Or.inl ⟨by rfl, ?_⟩) hSw ?_
      rotate_left
      · intro w' hS'
        obtain ⟨_, a0, a1, a2, a3, a4, b0, b1, b2, b3, b4, z0, z1, z2, z3, z4⟩ := hS'
        go_simp
        try with_reducible rfl
      try simp only [Act.put, List.setIfInBounds_toArray, List.set_cons_zero, List.set_cons_succ]
      refine last_take (i := 2) (v := ?_) rfl (by kernel_rfl) (by decide) (by kernel_rfl) (by kernel_rfl) (by kernel_rfl) (by kernel_rfl) (fun _ _ _ h => h) (Or.inl ⟨by rfl, ?_⟩) hSw ?_
      rotate_left
      · intro w' hS'
        obtain ⟨_, a0, a1, a2, a3, a4, b0, b1, b2, b3, b4, z0, z1, z2, z3, z4⟩ := hS'
        go_simp
        try with_reducible rfl
      try simp only [Act.put, List.setIfInBounds_toArray, List.set_cons_zero, List.set_cons_succ]
      refine last_take (i := 3) (v := ?_) rfl (by kernel_rfl) (by decide) (by kernel_rfl) (by kernel_rfl) (by kernel_rfl) (by kernel_rfl) (fun _ _ _ h => h) (Or.inl ⟨by rfl, ?_⟩) hSw ?_
      rotate_left
      · intro w' hS'
        obtain ⟨_, a0, a1, a2, a3, a4, b0, b1, b2, b3, b4, z0, z1, z2, z3, z4⟩ := hS'
        go_simp
        try with_reducible rfl
      try simp only [Act.put, List.setIfInBounds_toArray, List.set_cons_zero, List.set_cons_succ]
      refine last_take (i := 5) (v := ?_) rfl (by kernel_rfl) (by decide) (by kernel_rfl) (by kernel_rfl) (by kernel_rfl) (by kernel_rfl) (fun _ _ _ h => h) (Or.inl ⟨by rfl, ?_⟩) hSw ?_
      rotate_left
      · intro w' hS'
        obtain ⟨_, a0, a1, a2, a3, a4, b0, b1, b2, b3, b4, z0, z1, z2, z3, z4⟩ := hS'
        go_simp
        try with_reducible rfl
      try simp only [Act.put, List.setIfInBounds_toArray, List.set_cons_zero, List.set_cons_succ]
      refine last_take (i := 6) (v := ?_) rfl (by kernel_rfl) (by decide) (by kernel_rfl) (by kernel_rfl) (by kernel_rfl) (by kernel_rfl) (fun _ _ _ h => h) (Or.inl ⟨by rfl, ?_⟩) hSw ?_
      rotate_left
      · intro w' hS'
        obtain ⟨_, a0, a1, a2, a3, a4, b0, b1, b2, b3, b4, z0, z1, z2, z3, z4⟩ := hS'
        go_simp
        try with_reducible rfl
      try simp only [Act.put, List.setIfInBounds_toArray, List.set_cons_zero, List.set_cons_succ]
      refine last_take (i := 7) (v := ?_) rfl (by kernel_rfl) (by decide) (by kernel_rfl) (by kernel_rfl) (by kernel_rfl) (by kernel_rfl) (fun _ _ _ h => h) (Or.inl ⟨by rfl, ?_⟩) hSw ?_
      rotate_left
      · intro w' hS'
        obtain ⟨_, a0, a1, a2, a3, a4, b0, b1, b2, b3, b4, z0, z1, z2, z3, z4⟩ := hS'
        go_simp
        try with_reducible rfl
      try simp only [Act.put, List.setIfInBounds_toArray, List.set_cons_zero, List.set_cons_succ]
      refine last_take (i := 8) (v := ?_) rfl (by kernel_rfl) (by decide) (by kernel_rfl) (by kernel_rfl) (by kernel_rfl) (by kernel_rfl) (fun _ _ _ h => h) (Or.inl ⟨by rfl, ?_⟩) hSw ?_
      rotate_left
      · intro w' hS'
        obtain ⟨_, a0, a1, a2, a3, a4, b0, b1, b2, b3, b4, z0, z1, z2, z3, z4⟩ := hS'
        go_simp
        try with_reducible rfl
      try simp only [Act.put, List.setIfInBounds_toArray, List.set_cons_zero, List.set_cons_succ]
      refine last_take (i := 10) (v := ?_) rfl (by kernel_rfl) (by decide) (by kernel_rfl) (by kernel_rfl) (by kernel_rfl) (by kernel_rfl) (fun _ _ _ h => h) (Or.inl ⟨by rfl, ?_⟩) hSw ?_
      rotate_left
      · intro w' hS'
        obtain ⟨_, a0, a1, a2, a3, a4, b0, b1, b2, b3, b4, z0, z1, z2, z3, z4⟩ := hS'
        go_simp
        try with_reducible rfl
      try simp only [Act.put, List.setIfInBounds_toArray, List.set_cons_zero, List.set_cons_succ]
      refine last_take (i := 11) (v := ?_) rfl (by kernel_rfl) (by decide) (by kernel_rfl) (by kernel_rfl) (by kernel_rfl) (by kernel_rfl) (fun _ _ _ h => h) (Or.inl ⟨by rfl, ?_⟩) hSw ?_
      rotate_left
      · intro w' hS'
        obtain ⟨_, a0, a1, a2, a3, a4, b0, b1, b2, b3, b4, z0, z1, z2, z3, z4⟩ := hS'
        go_simp
        try with_reducible rfl
      try simp only [Act.put, List.setIfInBounds_toArray, List.set_cons_zero, List.set_cons_succ]
      refine last_step (i := 4) rfl (by kernel_rfl) (fun K' hK' => ?_)
      go_simp
      refine (HO1.out _ P1).mono ?_
      rintro e w2 ⟨rfl, hb2⟩
      have hw2 : Below W.heap.size W w2 := below_go ((Below.refl _ _).drew) hb2
      have hSw2 := HS.out _ hw2
      refine hK'.out _ _ (fun _ _ => hSw2) ?_
      clear hK' HO1 hb2 hSw
      try simp only [Act.put, List.setIfInBounds_toArray, List.set_cons_zero, List.set_cons_succ]
      refine last_step (i := 9) rfl (by kernel_rfl) (fun K' hK' => ?_)
      go_simp
      refine (HO2.out _ P1).mono ?_
      rintro e w3 ⟨rfl, hb3⟩
      have hw3 : Below W.heap.size W w3 := below_go hw2 hb3
      have hSw3 := HS.out _ hw3
      refine hK'.out _ _ (fun _ _ => hSw3) ?_
      clear hK' HO2 hb3 hSw2
      try simp only [Act.put, List.setIfInBounds_toArray, List.set_cons_zero, List.set_cons_succ]
      refine last_take (i := 12) (v := ?_) rfl (by kernel_rfl) (by decide) (by kernel_rfl) (by kernel_rfl) (by kernel_rfl) (by kernel_rfl) (fun _ _ _ h => h) (Or.inl ⟨by rfl, ?_⟩) hSw3 ?_
      rotate_left
      · intro w' hS'
        obtain ⟨_, a0, a1, a2, a3, a4, b0, b1, b2, b3, b4, z0, z1, z2, z3, z4⟩ := hS'
        go_simp
        try with_reducible rfl
      try simp only [Act.put, List.setIfInBounds_toArray, List.set_cons_zero, List.set_cons_succ]
      refine last_take (i := 13) (v := ?_) rfl (by kernel_rfl) (by decide) (by kernel_rfl) (by kernel_rfl) (by kernel_rfl) (by kernel_rfl) (fun _ _ _ h => h) (Or.inl ⟨by rfl, ?_⟩) hSw3 ?_
      rotate_left
      · intro w' hS'
        obtain ⟨_, a0, a1, a2, a3, a4, b0, b1, b2, b3, b4, z0, z1, z2, z3, z4⟩ := hS'
        go_simp
        try with_reducible rfl
      try simp only [Act.put, List.setIfInBounds_toArray, List.set_cons_zero, List.set_cons_succ]
      refine last_take (i := 14) (v := ?_) rfl (by kernel_rfl) (by decide) (by kernel_rfl) (by kernel_rfl) (by kernel_rfl) (by kernel_rfl) (fun _ _ _ h => h) (Or.inl ⟨by rfl, ?_⟩) hSw3 ?_
      rotate_left
      · intro w' hS'
        obtain ⟨_, a0, a1, a2, a3, a4, b0, b1, b2, b3, b4, z0, z1, z2, z3, z4⟩ := hS'
        go_simp
        try with_reducible rfl
      try simp only [Act.put, List.setIfInBounds_toArray, List.set_cons_zero, List.set_cons_succ]
      refine last_take (i := 15) (v := ?_) rfl (by kernel_rfl) (by decide) (by kernel_rfl) (by kernel_rfl) (by kernel_rfl) (by kernel_rfl) (fun _ _ _ h => h) (Or.inl ⟨by rfl, ?_⟩) hSw3 ?_
      rotate_left
      · intro w' hS'
        obtain ⟨_, a0, a1, a2, a3, a4, b0, b1, b2, b3, b4, z0, z1, z2, z3, z4⟩ := hS'
        go_simp
        try with_reducible rfl
      try simp only [Act.put, List.setIfInBounds_toArray, List.set_cons_zero, List.set_cons_succ]
      refine last_take (i := 16) (v := ?_) rfl (by kernel_rfl) (by decide) (by kernel_rfl) (by kernel_rfl) (by kernel_rfl) (by kernel_rfl) (fun _ _ _ h => h) (Or.inl ⟨by rfl, ?_⟩) hSw3 ?_
      rotate_left
      · intro w' hS'
        obtain ⟨_, a0, a1, a2, a3, a4, b0, b1, b2, b3, b4, z0, z1, z2, z3, z4⟩ := hS'
        go_simp
        try with_reducible rfl
      try simp only [Act.put, List.setIfInBounds_toArray, List.set_cons_zero, List.set_cons_succ]
      obtain ⟨_, a0, a1, a2, a3, a4, b0, b1, b2, b3, b4, z0, z1, z2, z3, z4⟩ := hSw3
      refine last_step (i := 17) rfl (by kernel_rfl) (fun K' hK' => ?_)
      go_simp
      refine hK'.out _ _ (fun h => absurd rfl h) ?_
      clear hK' a0 a1 a2 a3 a4 b0 b1 b2 b3 b4 z0 z1 z2 z3 z4
      refine last_done (by kernel_rfl) ?_ _
      go_wp2
      obtain ⟨f0, f2, f3, f5, f6, f7, f8, f9⟩ := HX.out
      obtain ⟨y1, y3, y4⟩ := HY.out
      have cw : Chg (layT p) w w3 := (f5.trans y4).trans (Chg.of_below hw3)
      obtain ⟨e1, e2, e3⟩ := lay_end hB hp (Nat.le_succ _) rfl (below_blk hw3 y1) (y3.below hw3) cw (.int .u32 i0) (.int .u32 i1) (.int .u32 i2) (.int .u32 i3) (.bool false)
      have b0 : w3.heap[w.heap.size]? = some (.cells (pcA 0 0 0 0 false) 232) := below_blk hw3 ((y4.block _ (by omega) (fun o t => by have := t.1; omega)).trans f0)
      exact ⟨⟨j + 1, orP P Q, l2, by go_num, by omega, hide2 ⟨f9, (set5_blk _ _ _ (by omega) _ _ _ _ _).trans b0, ⟨_, f8, e1⟩, orP_ok f3 P1, e2, e3, f6, by have := HN1.out; omega⟩⟩, by simp [intOf]; omega⟩
    · rw [List.drop_of_length_le (by omega)] at g6 g7
      obtain ⟨m0, m1, m2, m3, b, hpc⟩ := pcV_eq P
      obtain rfl : cs = pcA m0 m1 m2 m3 b := by rw [hpc] at g1; cases g1; rfl
      have g6' : (P, l1) = fin := g6
      have g7' : (l1.cls.length : Int) + 0 = l.cls.length + tot := g7
      obtain ⟨s0, s1, s2, s3, s4, z0, z1, z2, z3, z4⟩ := five g2
      obtain ⟨r0, r1, r2, r3, r4, x0, x1, x2, x3, x4⟩ := five g0
      have HX := hide2 (And.intro g0 (And.intro g3 (And.intro g4 (And.intro g5 (And.intro g6' (And.intro g7' hpc))))))
      clear g0 g1 g2 g3 g4 g5 g6 g7 g6' g7' hpc gE
      go_wp2
      obtain ⟨f0, f3, f4, f5, f6, f7, f8⟩ := HX.out
      obtain ⟨e1, e2, e3⟩ := lay_end hB hp (Nat.le_refl _) rfl f0 f4 f5 (.int .u32 m0) (.int .u32 m1) (.int .u32 m2) (.int .u32 m3) (.bool b)
      refine bodyPost_ret (results_cell_row rfl _ _ w.heap.size 232 #[.int .u32 m0, .int .u32 m1, .int .u32 m2, .int .u32 m3, .bool b] (0, 0) _ rfl e1 Tryz.underlying232 rfl (by kernel_rfl)) rfl ?_
      rw [← f6]
      exact ⟨by dsimp only; rw [f8]; rfl, f3, e2, e3, by dsimp only; omega⟩
end Go.Proofs.YtlhokghgicgppaaGreatDoor
