/- layOut. -/
import Derived.Test.YtlhokghgicgppaaGreatDoorParse2
set_option linter.unusedSimpArgs false
set_option linter.unusedVariables false
set_option maxRecDepth 100000
set_option maxHeartbeats 4000000
namespace Go.Proofs.YtlhokghgicgppaaGreatDoor
open Go.RowKit Go.Extern
def layZ : Array Value := #[.int .i64 0] ++ Array.replicate 64 (.slice none 0 0) ++ Array.replicate 130 (.int .u32 0) ++ #[.slice none 0 0]
theorem zc_eq : Tryz.zeroCells230 = layZ := by kernel_rfl
theorem layZ_cls (i : Nat) (h : i < 64) : layZ[1 + i]? = some (.slice none 0 0) := by
  unfold layZ
  rw [Array.getElem?_append_left (by simp; omega), Array.getElem?_append_left (by simp; omega), Array.getElem?_append_right (by simp), Array.getElem?_replicate, if_pos (by simp; omega)]
theorem layZ_fol (i : Nat) (h1 : 65 ≤ i) (h2 : i < 195) : layZ[i]? = some (.int .u32 0) := by
  unfold layZ
  rw [Array.getElem?_append_left (by simp; omega), Array.getElem?_append_right (by simp; omega), Array.getElem?_replicate, if_pos (by simp; omega)]
theorem layZ_0 : layZ[0]? = some (.int .i64 0) := by
  unfold layZ
  rw [Array.getElem?_append_left (by simp), Array.getElem?_append_left (by simp), Array.getElem?_append_left (by simp)]; rfl
theorem layZ_195 : layZ[195]? = some (.slice none 0 0) := by
  unfold layZ
  rw [Array.getElem?_append_right (by simp)]; simp
structure LoAt (B : Nat) (w : World) (p : Nat) (lo : Sg.Lo) : Prop where
  lt : LtAt (fun b => b < B) w p lo.lt
  f0 : w.cell? ⟨p, 193, none⟩ = some (.int .u32 ((lo.first % 4294967296 : Nat) : Int))
  f1 : w.cell? ⟨p, 194, none⟩ = some (.int .u32 ((lo.first / 4294967296 : Nat) : Int))
  fl : lo.first < 18446744073709551616
  la : ∃ ra rc, w.cell? ⟨p, 195, none⟩ = some (.slice ra lo.last.length rc) ∧ RowAt 2 w ra rc lo.last.length (lo.last.flatMap psCells) ∧ InD (fun b => p < b) ra
  ll : ∀ x ∈ lo.last, x < 18446744073709551616
theorem lo_new (w : World) : LoAt w.heap.size (w.alloc (.cells layZ 230)) w.heap.size ⟨⟨[], []⟩, 0, []⟩ := by
  have hb := heap_alloc_new w (.cells layZ 230)
  have hc : ∀ o, (w.alloc (.cells layZ 230)).cell? ⟨w.heap.size, o, none⟩ = layZ[o]? := cell_of' hb
  have hfun : FunAt (w.alloc (.cells layZ 230)) w.heap.size 0 (fun _ => 0) := ⟨(hc _).trans layZ_0, fun i hi => (hc _).trans (layZ_fol _ (by omega) (by omega)), fun i hi => (hc _).trans (layZ_fol _ (by omega) (by omega)), fun o => frz_of hb o⟩
  have hlt : LtAt (fun b => b < w.heap.size) (w.alloc (.cells layZ 230)) w.heap.size ⟨[], []⟩ :=
    ⟨by simpa using hfun, (fun i hi => absurd hi (Nat.not_lt_zero _)), (fun i hi => ⟨_, (hc _).trans (layZ_cls i hi)⟩), (fun i => by simp), rfl, (by simp), (fun i => by simp), (by simp)⟩
  exact ⟨hlt, (hc _).trans (layZ_fol _ (by omega) (by omega)), (hc _).trans (layZ_fol _ (by omega) (by omega)), by decide, ⟨none, 0, (hc _).trans layZ_195, RowAt.nil 2 _, fun b o e => by cases e⟩, fun x hx => by cases hx⟩
def loStep (a : Sg.Lo) (n : Sg.Node) : Sg.Lo := ⟨(Sg.layN 100 n a.lt).2, a.first ||| (Sg.layN 100 n a.lt).1.first, a.last ++ [(Sg.layN 100 n a.lt).1.last]⟩
theorem loStep_eq (a : Sg.Lo) (n : Sg.Node) : loStep a n = ⟨(Sg.layN 100 n a.lt).2, a.first ||| (Sg.layN 100 n a.lt).1.first, a.last ++ [(Sg.layN 100 n a.lt).1.last]⟩ := rfl
theorem layAll_eq (ns : List Sg.Node) : Sg.layAll ns = ns.foldl loStep ⟨⟨[], []⟩, 0, []⟩ := rfl
theorem LtAt.hi {B : Nat} {w : World} {p : Nat} {l : Sg.Lt} (h : LtAt (fun b => b < B) w p l) (o : Nat) (ho : 193 ≤ o) (v : Value) : LtAt (fun b => b < B) (w.setCell ⟨p, o, none⟩ v) p l := by
  have g : ∀ j, j < 193 → (w.setCell ⟨p, o, none⟩ v).cell? ⟨p, j, none⟩ = w.cell? ⟨p, j, none⟩ := fun j hj => World.cell?_setCell_other _ _ _ _ (fun e => by have h9 : o = j := congrArg Addr.off e; omega)
  have hB : B ≤ p := by have := h.d; omega
  refine ⟨⟨(g _ (by omega)).trans h.fn.c0, fun i hi => (g _ (by omega)).trans (h.fn.f0 i hi), fun i hi => (g _ (by omega)).trans (h.fn.f1 i hi), fun j => by rw [World.frozen?_setCell]; exact h.fn.fz j⟩, fun i hi => ?_, fun i hi => ?_, h.lt, h.len, h.n, h.cl, h.d⟩
  · obtain ⟨ra, rc, h1, h2, h3⟩ := h.cls i hi
    exact ⟨ra, rc, (g _ (by have := h.n; omega)).trans h1, h2.of (Chg.setCell1 (T := fun i _ => i = p) rfl v) (fun rb ro j e t => by have := h3 rb ro e; omega), h3⟩
  · obtain ⟨u, hu⟩ := h.cell i hi
    exact ⟨u, (g _ (by omega)).trans hu⟩
theorem info_set : (Tryz.prog.info? 227).map (fun i => (i.zero, i.size, i.bytes)) = some (some (.agg #[.int .u32 0, .int .u32 0]), 2, 8) := by kernel_rfl
theorem ps_snoc (l : List Nat) (x : Nat) : l.flatMap psCells ++ [.int .u32 ((x % 4294967296 : Nat) : Int), .int .u32 ((x / 4294967296 : Nat) : Int)] = (l ++ [x]).flatMap psCells := by
  rw [List.flatMap_append]; rfl
theorem last_append {P : Program} {ops : Array Oper} {Q : Exit → Act → World → Prop} {o : Oper} {a : Act} {w w' : World} {K : Act → World → Prop} {E : Prop}
    (hg : o.guard = none) (s x : Operand) (t tx : TypeId) (hop : o.op = Op.call { callee := Callee.builtin Builtin.append, args := #[s, x], argTypes := #[t, tx] })
    (v1 v2 v : Value) (h1 : a.eval s = v1) (h2 : a.eval x = v2) (hrun : (Builtin.append_ #[t, tx] o.type #[v1, v2]).run P w = .ok v w') (hK : K (a.put o.dst v) w') :
    if Region.wanted o (yielded ops a.tmps) = true then Oper.wp P o a w K Q else E := by
  have hw : Region.wanted o (yielded ops a.tmps) = true := by simp [Region.wanted, hg]
  rw [if_pos hw]
  unfold Oper.wp
  simp [execOp, hop, resolve, invoke, builtin, h1, h2, hrun, Result.andThen]
  exact hK
theorem layOut_any (w : World) (ra : Option Addr) (rc : Nat) (ns : List Sg.Node) (vs : List Value) (hR : RowAt 1 w ra rc ns.length vs) (hnl : ns.length ≤ 8) (hN : NodesAt (fun b => b < w.heap.size) w 100 vs ns) (h64 : ns.foldl (fun n x => n + Sg.placesN 100 x) 0 ≤ 64) (hao : ∀ x ∈ ns, Sg.altOk 100 x = true) :
    Calls Tryz.prog 72 #[.slice ra ns.length rc] w fun e w' => e = .returned (.pointer (some ⟨w.heap.size, 0, none⟩)) ∧ LoAt w.heap.size w' w.heap.size (Sg.layAll ns) ∧ Below w.heap.size w w' := by
  have HR := hide2 hR
  have HN := hide2 (And.intro hN (And.intro hN.nonneg hao))
  clear hR hN hao
  rw [layAll_eq]
  generalize hfin : ns.foldl loStep ⟨⟨[], []⟩, 0, []⟩ = fin
  have HF := hide2 hfin
  clear hfin
  have HL0 := hide2 (lo_new w)
  rw [← zc_eq] at HL0
  go_enter Tryz.func72, Tryz.ntmps72
  go_wp2
  generalize hW0 : w.alloc (.cells Tryz.zeroCells230 230) = W0 at *
  have hb0 : Below w.heap.size w W0 := by rw [← hW0]; exact blw1' w _
  have HB0 := hide2 hb0
  clear hb0 hW0
  go_loopw [11] (fun iv wr => ∃ (j : Nat) (lo : Sg.Lo), iv = .int .i64 j ∧ j ≤ ns.length ∧ Hid (LoAt w.heap.size wr w.heap.size lo ∧ Below w.heap.size w wr ∧ (ns.drop j).foldl loStep lo = fin ∧ lo.last.length = j ∧ (lo.lt.cls.length : Int) + (ns.drop j).foldl (fun n x => n + Sg.placesN 100 x) 0 ≤ 64)) (fun iv _ => ns.length - (intOf iv).toNat)
  case atStart => exact ⟨0, _, rfl, Nat.zero_le _, hide2 ⟨HL0.out, HB0.out, HF.out, rfl, by show (0 : Int) + _ ≤ 64; rw [List.drop_zero]; omega⟩⟩
  case round =>
    obtain ⟨j, lo, rfl, hj, H⟩ := hrel
    obtain ⟨g1, g2, g3, g4, g5⟩ := H.out
    clear H HL0 HB0
    by_cases hlt : j < ns.length
    · rw [List.drop_eq_getElem_cons hlt, List.foldl_cons] at g3 g5
      rw [sum_shift] at g5
      obtain ⟨v, hv1, hv2⟩ := HN.out.1 j ns[j] (List.getElem?_eq_getElem hlt)
      have hay := HN.out.2.2 ns[j] (List.getElem_mem _)
      have hrest := sum_nonneg 100 (ns.drop (j + 1)) (fun x hx => HN.out.2.1 x (List.mem_of_mem_drop hx)) 0
      have hnv := NodeAt.below g2 hv2
      have hrr := HR.out.below g2
      obtain ⟨rb, ro, rfl, k0⟩ : ∃ rb ro, ra = some ⟨rb, ro, none⟩ ∧ wr.cell? ⟨rb, ro + j, none⟩ = some v := by
        rcases hrr.row with ⟨_, _, h⟩ | ⟨rb, ro, e, _, h2, _⟩
        · omega
        · exact ⟨rb, ro, e, h2 j _ hv1⟩
      rw [loStep_eq] at g3
      have hlay := lay_any 100 w.heap.size wr w.heap.size lo.lt v ns[j] hay g1.lt hnv (by omega)
      unfold LayPost at hlay
      generalize ns[j] = y at *
      obtain ⟨n0, n1, hqf⟩ := ps_agg (Sg.layN 100 y lo.lt).1.first
      have hql : psV (Sg.layN 100 y lo.lt).1.last = .agg #[.int .u32 (((Sg.layN 100 y lo.lt).1.last % 4294967296 : Nat) : Int), .int .u32 (((Sg.layN 100 y lo.lt).1.last / 4294967296 : Nat) : Int)] := rfl
      have hqc := pcV_ps _ hqf hql
      rw [hqc] at hlay
      unfold pcA at hlay
      have HO : Hid (∀ W, Pok (Sg.layN 100 y lo.lt).1 → Calls Tryz.prog 105 #[.agg #[.int .u32 ((lo.first % 4294967296 : Nat) : Int), .int .u32 ((lo.first / 4294967296 : Nat) : Int)], .agg #[.int .u32 n0, .int .u32 n1]] W fun e w' => e = .returned (.agg #[.int .u32 (((lo.first ||| (Sg.layN 100 y lo.lt).1.first) % 4294967296 : Nat) : Int), .int .u32 (((lo.first ||| (Sg.layN 100 y lo.lt).1.first) / 4294967296 : Nat) : Int)]) ∧ Below W.heap.size W w') := hide2 (fun W hQ => by
        have := or_any lo.first (Sg.layN 100 y lo.lt).1.first g1.fl hQ.f W
        rw [hqf] at this; exact this)
      have HLay := hide2 hlay
      have hor : ∀ (hQ : Pok (Sg.layN 100 y lo.lt).1), lo.first ||| (Sg.layN 100 y lo.lt).1.first < 18446744073709551616 := fun hQ => Nat.or_lt_two_pow (n := 64) g1.fl hQ.f
      have HOr := hide2 hor
      clear hlay hqc hql hqf hor hnv hrr hv1 hv2 hay
      generalize (Sg.layN 100 y lo.lt).1 = Q at *
      generalize (Sg.layN 100 y lo.lt).2 = l2 at *
      obtain ⟨qf, qla, qe⟩ := Q
      try dsimp only at *
      generalize hq2 : ((qla % 4294967296 : Nat) : Int) = n2 at *
      generalize hq3 : ((qla / 4294967296 : Nat) : Int) = n3 at *
      generalize hi0 : (((lo.first ||| qf) % 4294967296 : Nat) : Int) = i0 at *
      generalize hi1 : (((lo.first ||| qf) / 4294967296 : Nat) : Int) = i1 at *
      have HI := hide2 (And.intro hq2 (And.intro hq3 (And.intro hi0 hi1)))
      clear hq2 hq3 hi0 hi1
      have G1 := hide2 g1
      have HX := hide2 (And.intro g2 (And.intro g3 (And.intro g4 g5)))
      clear g2 g3 g4 g5
      have f0' := g1.f0
      have f1' := g1.f1
      clear g1
      generalize ((lo.first % 4294967296 : Nat) : Int) = a0 at *
      generalize ((lo.first / 4294967296 : Nat) : Int) = a1 at *
      have HFC := hide2 (And.intro f0' f1')
      clear f0' f1'
      go_wp2_with (go_at_call 104; refine HLay.out.mono ?_; clear HLay; rintro e w1 ⟨rfl, P1, L1, C1, N1⟩)
      -- region 6
      have hpw : w.heap.size < wr.heap.size := cell_lt HFC.out.1
      have s1 := C1.size
      have hkeep : ∀ o, 193 ≤ o → w1.cell? ⟨w.heap.size, o, none⟩ = wr.cell? ⟨w.heap.size, o, none⟩ := fun o ho => C1.cell _ _ hpw (fun t => by have := t.2; omega)
      have hfz := L1.fn.fz
      have hW2 : (w1.alloc (.cells #[.int .u32 n0, .int .u32 n1, .int .u32 n2, .int .u32 n3, .bool qe] 232)).heap[w1.heap.size]? = some (.cells #[.int .u32 n0, .int .u32 n1, .int .u32 n2, .int .u32 n3, .bool qe] 232) := heap_alloc_new w1 _
      have hbA := blw1' w1 (.cells #[.int .u32 n0, .int .u32 n1, .int .u32 n2, .int .u32 n3, .bool qe] 232)
      have d0 := below_keep hbA ((hkeep 193 (by omega)).trans HFC.out.1)
      have d1 := below_keep hbA ((hkeep 194 (by omega)).trans HFC.out.2)
      have z0 := below_frz hbA (i := w.heap.size) (o := 193) (by omega) (hfz _)
      have z1 := below_frz hbA (i := w.heap.size) (o := 194) (by omega) (hfz _)
      have LA := L1.below hbA
      have hQb : w.heap.size < w1.heap.size := by omega
      obtain ⟨la, lc, m1, m2, m3⟩ := G1.out.la
      have m1' := below_keep hbA ((hkeep 195 (by omega)).trans m1)
      have m2' : RowAt 2 (w1.alloc (.cells #[.int .u32 n0, .int .u32 n1, .int .u32 n2, .int .u32 n3, .bool qe] 232)) la lc lo.last.length (lo.last.flatMap psCells) := (m2.of C1 (fun rb ro j e t => by have := m3 rb ro e; have := t.1; omega)).below hbA
      have hlaQ : ∀ b o, la = some ⟨b, o, none⟩ → b < w1.heap.size := fun b o e => Nat.lt_of_lt_of_le (m2.lt e) s1
      have hBel : Below w.heap.size w (w1.alloc (.cells #[.int .u32 n0, .int .u32 n1, .int .u32 n2, .int .u32 n3, .bool qe] 232)) := (HX.out.1.trans (C1.below (by omega) (fun k o hk t => by have := t.1; omega))).alloc (by omega) _
      have HM := hide2 (And.intro m1' (And.intro m2' (And.intro m3 (And.intro hlaQ (And.intro hBel LA)))))
      clear m1 m2 m3 m1' m2' hlaQ hBel LA hkeep hfz C1 L1
      generalize hQb' : w1.heap.size = Qb at *
      generalize w1.alloc (.cells #[.int .u32 n0, .int .u32 n1, .int .u32 n2, .int .u32 n3, .bool qe] 232) = W at *
      have hQW : Qb < W.heap.size := (Array.getElem?_eq_some_iff.1 hW2).1
      have q0 : W.cell? ⟨Qb, 0, none⟩ = some (.int .u32 n0) := cell_of' hW2 0
      have q1 : W.cell? ⟨Qb, 1, none⟩ = some (.int .u32 n1) := cell_of' hW2 1
      have HQb := hide2 hW2
      clear hW2 hQb' hbA
      have HS : Hid (∀ w', Below W.heap.size W w' → w'.cell? ⟨w.heap.size, 193, none⟩ = some (.int .u32 a0) ∧ w'.cell? ⟨w.heap.size, 194, none⟩ = some (.int .u32 a1) ∧ w'.cell? ⟨Qb, 0, none⟩ = some (.int .u32 n0) ∧ w'.cell? ⟨Qb, 1, none⟩ = some (.int .u32 n1) ∧ w'.frozen? ⟨w.heap.size, 193, none⟩ = false ∧ w'.frozen? ⟨w.heap.size, 194, none⟩ = false) := hide2 (fun w' hb => ⟨below_keep hb d0, below_keep hb d1, below_keep hb q0, below_keep hb q1, below_frz hb (cell_lt d0) z0, below_frz hb (cell_lt d0) z1⟩)
      clear d0 d1 z0 z1 q0 q1
      refine wp_region_last (fun w' => w'.cell? ⟨w.heap.size, 193, none⟩ = some (.int .u32 a0) ∧ w'.cell? ⟨w.heap.size, 194, none⟩ = some (.int .u32 a1) ∧ w'.cell? ⟨Qb, 0, none⟩ = some (.int .u32 n0) ∧ w'.cell? ⟨Qb, 1, none⟩ = some (.int .u32 n1) ∧ w'.frozen? ⟨w.heap.size, 193, none⟩ = false ∧ w'.frozen? ⟨w.heap.size, 194, none⟩ = false) 10 (by kernel_rfl) (HS.out _ ((Below.refl _ _).drew)) (fun hSw => ?_)
      refine last_pure (i := 0) (v := ?_) rfl (by decide) (by kernel_rfl) (by kernel_rfl) (by kernel_rfl) (fun _ _ _ h => h) (Or.inl ⟨by rfl, ?_⟩) hSw ?_
      rotate_left
      · intro w' _
        go_simp
        try with_reducible rfl
      try simp only [Act.put, List.setIfInBounds_toArray, List.set_cons_zero, List.set_cons_succ]
      refine last_pure (i := 1) (v := ?_) rfl (by decide) (by kernel_rfl) (by kernel_rfl) (by kernel_rfl) (fun _ _ _ h => h) (Or.inl ⟨by rfl, ?_⟩) hSw ?_
      rotate_left
      · intro w' _
        go_simp
        try with_reducible rfl
      try simp only [Act.put, List.setIfInBounds_toArray, List.set_cons_zero, List.set_cons_succ]
      refine last_pure (i := 2) (v := ?_) rfl (by decide) (by kernel_rfl) (by kernel_rfl) (by kernel_rfl) (fun _ _ _ h => h) (Or.inl ⟨by rfl, ?_⟩) hSw ?_
      rotate_left
      · intro w' _
        go_simp
        try with_reducible rfl
      try simp only [Act.put, List.setIfInBounds_toArray, List.set_cons_zero, List.set_cons_succ]
      refine last_pure (i := 3) (v := ?_) rfl (by decide) (by kernel_rfl) (by kernel_rfl) (by kernel_rfl) (fun _ _ _ h => h) (Or.inl ⟨by rfl, ?_⟩) hSw ?_
      rotate_left
      · intro w' _
        go_simp
        try with_reducible rfl
      try simp only [Act.put, List.setIfInBounds_toArray, List.set_cons_zero, List.set_cons_succ]
      refine last_take (i := 4) (v := ?_) rfl (by kernel_rfl) (by decide) (by kernel_rfl) (by kernel_rfl) (by kernel_rfl) (by kernel_rfl) (fun _ _ _ h => h) (Or.inl ⟨by rfl, ?_⟩) hSw ?_
      rotate_left
      · intro w' hS'
        obtain ⟨a0, a1, b0, b1, z0, z1⟩ := hS'
        go_simp
        try with_reducible rfl
      try simp only [Act.put, List.setIfInBounds_toArray, List.set_cons_zero, List.set_cons_succ]
      refine last_pure (i := 5) (v := ?_) rfl (by decide) (by kernel_rfl) (by kernel_rfl) (by kernel_rfl) (fun _ _ _ h => h) (Or.inl ⟨by rfl, ?_⟩) hSw ?_
      rotate_left
      · intro w' _
        go_simp
        try with_reducible rfl
      try simp only [Act.put, List.setIfInBounds_toArray, List.set_cons_zero, List.set_cons_succ]
      refine last_take (i := 6) (v := ?_) rfl (by kernel_rfl) (by decide) (by kernel_rfl) (by kernel_rfl) (by kernel_rfl) (by kernel_rfl) (fun _ _ _ h => h) (Or.inl ⟨by rfl, ?_⟩) hSw ?_
      rotate_left
      · intro w' hS'
        obtain ⟨a0, a1, b0, b1, z0, z1⟩ := hS'
        go_simp
        try with_reducible rfl
      try simp only [Act.put, List.setIfInBounds_toArray, List.set_cons_zero, List.set_cons_succ]
      refine last_step (i := 7) rfl (by kernel_rfl) (fun K' hK' => ?_)
      go_simp
      refine (HO.out _ P1).mono ?_
      rintro e w2 ⟨rfl, hb2⟩
      have hw2 : Below W.heap.size W w2 := below_go ((Below.refl _ _).drew) hb2
      have hSw2 := HS.out _ hw2
      refine hK'.out _ _ (fun _ _ => hSw2) ?_
      clear hK' HO hb2 hSw
      try simp only [Act.put, List.setIfInBounds_toArray, List.set_cons_zero, List.set_cons_succ]
      refine last_pure (i := 8) (v := ?_) rfl (by decide) (by kernel_rfl) (by kernel_rfl) (by kernel_rfl) (fun _ _ _ h => h) (Or.inl ⟨by rfl, ?_⟩) hSw2 ?_
      rotate_left
      · intro w' _
        go_simp
        try with_reducible rfl
      try simp only [Act.put, List.setIfInBounds_toArray, List.set_cons_zero, List.set_cons_succ]
      refine last_pure (i := 9) (v := ?_) rfl (by decide) (by kernel_rfl) (by kernel_rfl) (by kernel_rfl) (fun _ _ _ h => h) (Or.inl ⟨by rfl, ?_⟩) hSw2 ?_
      rotate_left
      · intro w' _
        go_simp
        try with_reducible rfl
      try simp only [Act.put, List.setIfInBounds_toArray, List.set_cons_zero, List.set_cons_succ]
      obtain ⟨d0, d1, q0, q1, z0, z1⟩ := hSw2
      refine last_step (i := 10) rfl (by kernel_rfl) (fun K' hK' => ?_)
      go_simp
      refine hK'.out _ _ (fun h => absurd rfl h) ?_
      clear hK'
      refine last_done (by kernel_rfl) ?_ _
      obtain ⟨m1, m2, m3, m4, m5, m6⟩ := HM.out
      have c2 : Chg (fun i _ => i = w.heap.size) w2 (((w2.setCell ⟨w.heap.size, 193, none⟩ (.int .u32 i0)).setCell ⟨w.heap.size, 194, none⟩ (.int .u32 i1))) := (Chg.setCell1 (k := w.heap.size) (o := 193) (T := fun i _ => i = w.heap.size) rfl (.int .u32 i0)).setCell (k := w.heap.size) (o := 194) rfl (.int .u32 i1)
      have x195 : ((w2.setCell ⟨w.heap.size, 193, none⟩ (.int .u32 i0)).setCell ⟨w.heap.size, 194, none⟩ (.int .u32 i1)).cell? ⟨w.heap.size, 195, none⟩ = some (.slice la lo.last.length lc) := (World.cell?_setCell_other _ _ _ _ (by simp)).trans ((World.cell?_setCell_other _ _ _ _ (by simp)).trans (below_keep hw2 m1))
      have xR : RowAt 2 ((w2.setCell ⟨w.heap.size, 193, none⟩ (.int .u32 i0)).setCell ⟨w.heap.size, 194, none⟩ (.int .u32 i1)) la lc lo.last.length (lo.last.flatMap psCells) := (m2.below hw2).of c2 (fun rb ro j e t => by have := m3 rb ro e; omega)
      have xL : LtAt (fun b => b < w.heap.size) ((w2.setCell ⟨w.heap.size, 193, none⟩ (.int .u32 i0)).setCell ⟨w.heap.size, 194, none⟩ (.int .u32 i1)) w.heap.size l2 := ((m6.below hw2).hi 193 (by omega) _).hi 194 (by omega) _
      have xB : Below w.heap.size w ((w2.setCell ⟨w.heap.size, 193, none⟩ (.int .u32 i0)).setCell ⟨w.heap.size, 194, none⟩ (.int .u32 i1)) := ((below_go m5 hw2).setCell (Nat.le_refl _) _).setCell (Nat.le_refl _) _
      have x193 : ((w2.setCell ⟨w.heap.size, 193, none⟩ (.int .u32 i0)).setCell ⟨w.heap.size, 194, none⟩ (.int .u32 i1)).cell? ⟨w.heap.size, 193, none⟩ = some (.int .u32 i0) := (World.cell?_setCell_other _ _ _ _ (by simp)).trans (World.cell?_setCell_same _ _ _ d0)
      have x194 : ((w2.setCell ⟨w.heap.size, 193, none⟩ (.int .u32 i0)).setCell ⟨w.heap.size, 194, none⟩ (.int .u32 i1)).cell? ⟨w.heap.size, 194, none⟩ = some (.int .u32 i1) := World.cell?_setCell_same _ _ _ ((World.cell?_setCell_other _ _ _ _ (by simp)).trans d1)
      have xQ : ((w2.setCell ⟨w.heap.size, 193, none⟩ (.int .u32 i0)).setCell ⟨w.heap.size, 194, none⟩ (.int .u32 i1)).heap[Qb]? = some (.cells #[.int .u32 n0, .int .u32 n1, .int .u32 n2, .int .u32 n3, .bool qe] 232) := (c2.block _ (Nat.lt_of_lt_of_le hQW hw2.size) (fun o t => by omega)).trans (below_blk hw2 HQb.out)
      have GL := G1.out.ll
      clear d0 d1 q0 q1 z0 z1 m1 m2 m5 m6 c2 HS HQb hQW HFC G1 HM
      generalize (w2.setCell ⟨w.heap.size, 193, none⟩ (.int .u32 i0)).setCell ⟨w.heap.size, 194, none⟩ (.int .u32 i1) = V at *
      clear hw2
      have hVz : V.frozen? ⟨w.heap.size, 195, none⟩ = false := xL.fn.fz _
      have v2 : V.cell? ⟨Qb, 2, none⟩ = some (.int .u32 n2) := cell_of' xQ 2
      have v3 : V.cell? ⟨Qb, 3, none⟩ = some (.int .u32 n3) := cell_of' xQ 3
      have hlal : lo.last.length < 2000000000 := by have := HX.out.2.2.1; omega
      obtain ⟨la2, lc2, w8, p1, p2, p3, p4⟩ := append_two (w := V.drew) 161 227 _ 8 info_set rfl Tryz.underlying161 (by omega) (xR.below (below_drew' V)) (.int .u32 n2) (.int .u32 n3) rfl rfl hlal 161 227
      have p1' : (Builtin.append_ #[161, 161] 161 #[.slice la lo.last.length lc, .slice (some ⟨V.heap.size, 0, none⟩) 1 1]).run Tryz.prog (V.drew.alloc (.cells #[.int .u32 n2, .int .u32 n3] 227)) = .ok (.slice la2 (lo.last.length + 1) lc2) w8 := p1
      have HP1 := hide2 p1'
      have hlB : ∀ o b, ¬ rowT la w.heap.size b ∧ ¬ rowT la Qb o := fun o b => ⟨fun ⟨o', e⟩ => by have := m3 _ _ e; omega, fun ⟨o', e⟩ => by have := m4 _ _ e; omega⟩
      have hVs : w.heap.size < V.heap.size := cell_lt x195
      have hQs : Qb < V.heap.size := (Array.getElem?_eq_some_iff.1 xQ).1
      have S8 : w8.cell? ⟨w.heap.size, 195, none⟩ = some (.slice la lo.last.length lc) ∧ w8.cell? ⟨Qb, 2, none⟩ = some (.int .u32 n2) ∧ w8.cell? ⟨Qb, 3, none⟩ = some (.int .u32 n3) ∧ w8.frozen? ⟨w.heap.size, 195, none⟩ = false :=
        ⟨(p3.cell _ _ hVs (hlB 0 _).1).trans x195, (p3.cell _ _ hQs (hlB _ 0).2).trans v2, (p3.cell _ _ hQs (hlB _ 0).2).trans v3, (p3.frz _ _ hVs).trans hVz⟩
      have HS8 := hide2 S8
      have S7 : ∀ o, (V.drew.alloc o).cell? ⟨w.heap.size, 195, none⟩ = some (.slice la lo.last.length lc) ∧ (V.drew.alloc o).cell? ⟨Qb, 2, none⟩ = some (.int .u32 n2) ∧ (V.drew.alloc o).cell? ⟨Qb, 3, none⟩ = some (.int .u32 n3) ∧ (V.drew.alloc o).frozen? ⟨w.heap.size, 195, none⟩ = false := fun o =>
        have hb := below_go (below_drew' V) (blw1' V.drew o)
        ⟨below_keep hb x195, below_keep hb v2, below_keep hb v3, below_frz hb hVs hVz⟩
      have HS7 := hide2 S7
      have HE := hide2 (And.intro x193 (And.intro x194 (And.intro xL (And.intro xB (And.intro p2 (And.intro p3 (And.intro p4 m3)))))))
      have hS0 : V.drew.cell? ⟨w.heap.size, 195, none⟩ = some (.slice la lo.last.length lc) ∧ V.drew.cell? ⟨Qb, 2, none⟩ = some (.int .u32 n2) ∧ V.drew.cell? ⟨Qb, 3, none⟩ = some (.int .u32 n3) ∧ V.drew.frozen? ⟨w.heap.size, 195, none⟩ = false := ⟨x195, v2, v3, hVz⟩
      clear p1 p1' p2 p3 p4 S8 S7 xL xB xR x193 x194 m3 m4 xQ hlB
      have HGl := hide2 GL
      clear GL
      generalize hll : lo.last.length = ll at *
      have HLL := hide2 hll
      clear hll
      go_wp2
      refine wp_region_last (fun w' => w'.cell? ⟨w.heap.size, 195, none⟩ = some (.slice la ll lc) ∧ w'.cell? ⟨Qb, 2, none⟩ = some (.int .u32 n2) ∧ w'.cell? ⟨Qb, 3, none⟩ = some (.int .u32 n3) ∧ w'.frozen? ⟨w.heap.size, 195, none⟩ = false) 11 (by kernel_rfl) hS0 (fun hSw => ?_)
      refine last_pure (i := 0) (v := ?_) rfl (by decide) (by kernel_rfl) (by kernel_rfl) (by kernel_rfl) (fun _ _ _ h => h) (Or.inl ⟨by rfl, ?_⟩) hSw ?_
      rotate_left
      · intro w' _
        go_simp
        try with_reducible rfl
      try simp only [Act.put, List.setIfInBounds_toArray, List.set_cons_zero, List.set_cons_succ]
      refine last_pure (i := 1) (v := ?_) rfl (by decide) (by kernel_rfl) (by kernel_rfl) (by kernel_rfl) (fun _ _ _ h => h) (Or.inl ⟨by rfl, ?_⟩) hSw ?_
      rotate_left
      · intro w' _
        go_simp
        try with_reducible rfl
      try simp only [Act.put, List.setIfInBounds_toArray, List.set_cons_zero, List.set_cons_succ]
      refine last_pure (i := 2) (v := ?_) rfl (by decide) (by kernel_rfl) (by kernel_rfl) (by kernel_rfl) (fun _ _ _ h => h) (Or.inl ⟨by rfl, ?_⟩) hSw ?_
      rotate_left
      · intro w' _
        go_simp
        try with_reducible rfl
      try simp only [Act.put, List.setIfInBounds_toArray, List.set_cons_zero, List.set_cons_succ]
      refine last_pure (i := 3) (v := ?_) rfl (by decide) (by kernel_rfl) (by kernel_rfl) (by kernel_rfl) (fun _ _ _ h => h) (Or.inl ⟨by rfl, ?_⟩) hSw ?_
      rotate_left
      · intro w' _
        go_simp
        try with_reducible rfl
      try simp only [Act.put, List.setIfInBounds_toArray, List.set_cons_zero, List.set_cons_succ]
      refine last_take (i := 4) (v := ?_) rfl (by kernel_rfl) (by decide) (by kernel_rfl) (by kernel_rfl) (by kernel_rfl) (by kernel_rfl) (fun _ _ _ h => h) (Or.inl ⟨by rfl, ?_⟩) hSw ?_
      rotate_left
      · intro w' hS'
        obtain ⟨a0, b0, b1, z0⟩ := hS'
        go_simp
        try with_reducible rfl
      try simp only [Act.put, List.setIfInBounds_toArray, List.set_cons_zero, List.set_cons_succ]
      refine last_pure (i := 5) (v := ?_) rfl (by decide) (by kernel_rfl) (by kernel_rfl) (by kernel_rfl) (fun _ _ _ h => h) (Or.inl ⟨by rfl, ?_⟩) hSw ?_
      rotate_left
      · intro w' _
        go_simp
        try with_reducible rfl
      try simp only [Act.put, List.setIfInBounds_toArray, List.set_cons_zero, List.set_cons_succ]
      refine last_take (i := 6) (v := ?_) rfl (by kernel_rfl) (by decide) (by kernel_rfl) (by kernel_rfl) (by kernel_rfl) (by kernel_rfl) (fun _ _ _ h => h) (Or.inl ⟨by rfl, ?_⟩) hSw ?_
      rotate_left
      · intro w' hS'
        obtain ⟨a0, b0, b1, z0⟩ := hS'
        go_simp
        try with_reducible rfl
      try simp only [Act.put, List.setIfInBounds_toArray, List.set_cons_zero, List.set_cons_succ]
      refine last_step (i := 7) rfl (by kernel_rfl) (fun K' hK' => ?_)
      go_simp
      refine hK'.out _ _ (fun _ _ => HS7.out _) ?_
      clear hK'
      try simp only [Act.put, List.setIfInBounds_toArray, List.set_cons_zero, List.set_cons_succ]
      refine last_step (i := 8) rfl (by kernel_rfl) (fun K' hK' => ?_)
      refine last_append rfl _ _ _ _ rfl _ _ _ rfl rfl HP1.out ?_
      refine hK'.out _ _ (fun _ _ => HS8.out) ?_
      clear hK' HP1
      try simp only [Act.put, List.setIfInBounds_toArray, List.set_cons_zero, List.set_cons_succ]
      refine last_pure (i := 9) (v := ?_) rfl (by decide) (by kernel_rfl) (by kernel_rfl) (by kernel_rfl) (fun _ _ _ h => h) (Or.inl ⟨by rfl, ?_⟩) HS8.out ?_
      rotate_left
      · intro w' _
        go_simp
        try with_reducible rfl
      try simp only [Act.put, List.setIfInBounds_toArray, List.set_cons_zero, List.set_cons_succ]
      refine last_pure (i := 10) (v := ?_) rfl (by decide) (by kernel_rfl) (by kernel_rfl) (by kernel_rfl) (fun _ _ _ h => h) (Or.inl ⟨by rfl, ?_⟩) HS8.out ?_
      rotate_left
      · intro w' _
        go_simp
        try with_reducible rfl
      try simp only [Act.put, List.setIfInBounds_toArray, List.set_cons_zero, List.set_cons_succ]
      obtain ⟨k195, k2, k3, kz⟩ := HS8.out
      refine last_step (i := 11) rfl (by kernel_rfl) (fun K' hK' => ?_)
      go_simp
      refine hK'.out _ _ (fun h => absurd rfl h) ?_
      clear hK'
      refine last_done (by kernel_rfl) ?_ _
      go_wp2
      obtain ⟨y193, y194, yL, yB, y2, y3, y4, y5⟩ := HE.out
      obtain ⟨rfl, rfl, rfl, rfl⟩ := HI.out
      obtain ⟨u1, u2, u3, u4⟩ := HX.out
      have hll := HLL.out
      have hno : ∀ o, ¬ rowT la w.heap.size o := fun o ⟨o', e⟩ => by have := y5 _ _ e; omega
      have e193 := (y3.cell _ 193 hVs (hno _)).trans y193
      have e194 := (y3.cell _ 194 hVs (hno _)).trans y194
      have yL2 : LtAt (fun b => b < w.heap.size) w8 w.heap.size l2 := (yL.below (below_drew' V)).mut y3 (fun i o ⟨o', e⟩ => by have := y5 _ _ e; omega)
      have yB2 : Below w.heap.size w w8 := (yB.trans ((below_drew' V).mono (Nat.le_of_lt hVs))).trans (y3.below (Nat.le_of_lt hVs) (fun k o hk ⟨o', e⟩ => by have := y5 _ _ e; omega))
      have hla2 : InD (fun b => w.heap.size < b) la2 := fun b o e => by
        rcases y4 with h | ⟨rb, h, h'⟩
        · rw [h] at e; exact y5 b o e
        · rw [h] at e; cases e; exact Nat.lt_of_lt_of_le hVs h'
      have yR : RowAt 2 (w8.setCell ⟨w.heap.size, 195, none⟩ (.slice la2 (ll + 1) lc2)) la2 lc2 (ll + 1) ((lo.last ++ [qla]).flatMap psCells) := by
        rw [← ps_snoc]
        exact y2.of (Chg.setCell1 (T := fun i _ => i = w.heap.size) rfl _) (fun rb ro j e t => by have := hla2 rb ro e; omega)
      have hlen : (lo.last ++ [qla]).length = ll + 1 := by rw [List.length_append, hll]; rfl
      refine ⟨⟨j + 1, ⟨l2, lo.first ||| qf, lo.last ++ [qla]⟩, by go_num, by omega, hide2 ⟨⟨yL2.hi 195 (by omega) _, (World.cell?_setCell_other _ _ _ _ (by simp)).trans e193, (World.cell?_setCell_other _ _ _ _ (by simp)).trans e194, HOr.out P1, ⟨la2, lc2, ?_, ?_, hla2⟩, ?_⟩, yB2.setCell (Nat.le_refl _) _, u2, ?_, ?_⟩⟩, by simp [intOf]; omega⟩
      · show _ = some (Value.slice la2 (lo.last ++ [qla]).length lc2)
        rw [hlen]; exact World.cell?_setCell_same _ _ _ k195
      · show RowAt 2 _ la2 lc2 (lo.last ++ [qla]).length _
        rw [hlen]; exact yR
      · intro x hx
        rcases List.mem_append.1 hx with h | h
        · exact HGl.out x h
        · rw [List.mem_singleton.1 h]; exact P1.l
      · show (lo.last ++ [qla]).length = j + 1
        rw [hlen, u3]
      · show (l2.cls.length : Int) + _ ≤ 64
        rw [N1]; omega
    · rw [List.drop_of_length_le (by omega)] at g3
      have g3' : lo = fin := g3
      have HX := hide2 (And.intro g1 g2)
      rw [g3'] at HX
      clear g1 g2 g3 g3' g4 g5
      go_wp2
      go_ret
      exact ⟨rfl, HX.out.1, HX.out.2⟩
end Go.Proofs.YtlhokghgicgppaaGreatDoor
