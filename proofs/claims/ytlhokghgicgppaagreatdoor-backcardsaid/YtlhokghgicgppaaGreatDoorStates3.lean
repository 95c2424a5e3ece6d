/- states, whole. -/
import Derived.Test.YtlhokghgicgppaaGreatDoorStates2
import Derived.Deep.OwnRows
import Derived.Deep.DeepCutAuto
import Derived.Outline
set_option linter.unusedSimpArgs false
set_option linter.unusedVariables false
set_option maxRecDepth 100000
set_option maxHeartbeats 4000000
namespace Go.Proofs.YtlhokghgicgppaaGreatDoor
open Go.RowKit Go.Extern Go.Maps
theorem two_cells {w : World} {B p : Nat} {lo : Sg.Lo} (h : LoAt B w p lo) : ∃ f0 f1, psV lo.first = .agg #[.int .u32 f0, .int .u32 f1] ∧ w.cell? ⟨p, 193, none⟩ = some (.int .u32 f0) ∧ w.cell? ⟨p, 194, none⟩ = some (.int .u32 f1) := ⟨_, _, rfl, h.f0, h.f1⟩
theorem ps_in {w : World} {ra : Option Addr} {rc n : Nat} {l : List Nat} (hn : n = l.length) (h : RowAt 2 w ra rc n (l.flatMap psCells)) {j x : Nat} (hj : l[j]? = some x) {a b : Int} (hx : psV x = .agg #[.int .u32 a, .int .u32 b]) :
    ∃ rb ro, ra = some ⟨rb, ro, none⟩ ∧ w.cell? ⟨rb, ro + j * 2, none⟩ = some (.int .u32 a) ∧ w.cell? ⟨rb, ro + j * 2 + 1, none⟩ = some (.int .u32 b) := by
  subst hn
  obtain ⟨hjl, e0⟩ := List.getElem?_eq_some_iff.1 hj
  obtain ⟨rb, ro, e, _, k0, k1⟩ := ps_cells h j hjl
  have e1 : l.getD j 0 = x := by rw [List.getD_eq_getElem?_getD, hj]; rfl
  rw [e1] at k0 k1
  have e2 : Value.agg #[.int .u32 ((x % 4294967296 : Nat) : Int), .int .u32 ((x / 4294967296 : Nat) : Int)] = .agg #[.int .u32 a, .int .u32 b] := hx
  simp only [Value.agg.injEq, Array.mk.injEq, List.cons.injEq, Value.int.injEq, true_and, and_true] at e2
  rw [e2.1] at k0
  rw [e2.2] at k1
  exact ⟨rb, ro, e, k0, k1⟩
theorem nextRow_zero (l : Sg.Lo) (b m : Nat) (r sets : List Nat) (out : List Int) (h : b &&& m = 0) : Sg.nextRow l b (m :: r) sets out = Sg.nextRow l b r sets (out ++ [-1]) := by rw [Sg.nextRow]; simp only [h, if_true]
theorem nextRow_old (l : Sg.Lo) (b m : Nat) (r sets : List Nat) (out : List Int) (h : b &&& m ≠ 0) (hk : sets.idxOf (b &&& m) < sets.length) : Sg.nextRow l b (m :: r) sets out = Sg.nextRow l b r sets (out ++ [((sets.idxOf (b &&& m) : Nat) : Int) + 1]) := by rw [Sg.nextRow]; simp only [h, if_false, hk, if_true]
theorem nextRow_new (l : Sg.Lo) (b m : Nat) (r sets : List Nat) (out : List Int) (h : b &&& m ≠ 0) (hk : ¬ sets.idxOf (b &&& m) < sets.length) : Sg.nextRow l b (m :: r) sets out = if sets.length = 200 then none else Sg.nextRow l b r (sets ++ [b &&& m]) (out ++ [((sets.idxOf (b &&& m) : Nat) : Int) + 1]) := by rw [Sg.nextRow]; simp only [h, if_false, hk]
theorem madeCells_i64 (n j : Nat) (h : j < n) : (madeCells #[Value.int .i64 0] n)[j]? = some (.int .i64 0) := by
  unfold madeCells
  simp [h, Nat.mod_one]
theorem made_row (w : World) (K : Nat) (t : TypeId) : RowAt 1 (w.alloc (.cells (madeCells #[.int .i64 0] K) t)) (some ⟨w.heap.size, 0, none⟩) K K ((padded K []).map i64V) := by
  refine ⟨by rw [List.length_map, padded_len K [] (Nat.zero_le _)]; omega, .inr ⟨w.heap.size, 0, rfl, Nat.le_refl _, fun j v hj => ?_, fun j hj => ?_, by simp, fun j => World.frozen?_alloc_at _ _ _ _ rfl⟩⟩
  · have hjl : j < K := by
      have := (List.getElem?_eq_some_iff.1 hj).1
      rw [List.length_map, padded_len K [] (Nat.zero_le _)] at this; exact this
    have e : v = .int .i64 0 := by
      unfold padded at hj
      rw [List.nil_append, List.getElem?_map, List.getElem?_replicate] at hj
      rw [if_pos (by simpa using hjl)] at hj
      simpa [i64V] using hj.symm
    rw [World.cell?_alloc_at _ _ _ _ rfl, Nat.zero_add, madeCells_i64 _ _ hjl, e]
  · rw [World.cell?_alloc_at _ _ _ _ rfl, Nat.zero_add, madeCells_i64 _ _ (by omega)]; rfl
theorem row_new (w : World) (a b : Value) (t : TypeId) : RowAt 2 (w.alloc (.cells #[a, b] t)) (some ⟨w.heap.size, 0, none⟩) 1 1 [a, b] := by
  refine ⟨rfl, .inr ⟨w.heap.size, 0, rfl, Nat.le_refl _, fun j v hj => ?_, fun j hj => ?_, by simp, fun j => World.frozen?_alloc_at _ _ _ _ rfl⟩⟩
  · rw [World.cell?_alloc_at _ _ _ _ rfl, Nat.zero_add, ← hj]; simp
  · rw [World.cell?_alloc_at _ _ _ _ rfl, Nat.zero_add]
    match j, hj with
    | 0, _ => rfl
    | 1, _ => rfl
theorem set_flat (zs : List (Int × Value)) (i : Nat) (z : Int × Value) (v : Value) (h : zs[i]? = some z) : (zs.flatMap stCells).set (i * 2 + 1) v = (zs.set i (z.1, v)).flatMap stCells := by
  induction zs generalizing i with
  | nil => simp at h
  | cons y r ih =>
    cases i with
    | zero =>
      simp only [List.getElem?_cons_zero, Option.some.injEq] at h
      subst h
      rfl
    | succ i =>
      rw [List.getElem?_cons_succ] at h
      rw [List.flatMap_cons, List.set_cons_succ, List.flatMap_cons, ← ih i h]
      show ([Value.int .i64 y.1, y.2] ++ r.flatMap stCells).set ((i + 1) * 2 + 1) v = [Value.int .i64 y.1, y.2] ++ (r.flatMap stCells).set (i * 2 + 1) v
      rw [show (i + 1) * 2 + 1 = (i * 2 + 1) + 2 by omega, List.set_append_right _ _ (by simp)]
      simp
theorem NI.fin {w : World} {lo : Sg.Lo} {m K nb : Nat} {wr : World} {sb so : Nat} {ba : Option Addr} {sc bc at_ : Nat} {sets : List Nat} {zs : List (Int × Value)} {rows : List (List Int)} {out : List Int} {zx : Int × Value} (h : NI w lo m K nb nb wr (some ⟨sb, so, none⟩) ba sc bc sets zs rows out) (hz : zs[at_]? = some zx) (ho : out.length = K) (hat : at_ < sets.length + 1) (hr : rows.length = at_) :
    SI w lo m K (wr.setCell ⟨sb, so + at_ * 2 + 1, none⟩ (.slice (some ⟨nb, 0, none⟩) K K)).heap.size (wr.setCell ⟨sb, so + at_ * 2 + 1, none⟩ (.slice (some ⟨nb, 0, none⟩) K K)) (some ⟨sb, so, none⟩) ba sc bc sets (zs.set at_ (zx.1, .slice (some ⟨nb, 0, none⟩) K K)) (rows ++ [out]) := by
  have hc : Chg (fun i _ => i = sb) wr (wr.setCell ⟨sb, so + at_ * 2 + 1, none⟩ (.slice (some ⟨nb, 0, none⟩) K K)) := Chg.setCell1 (T := fun i _ => i = sb) rfl _
  have hzl := h.si.len
  have hS := h.si
  have hpl : (padded K out).map i64V = out.map i64V := by unfold padded; rw [ho, Nat.sub_self]; simp
  have hnl : nb < wr.heap.size := h.row.lt rfl
  refine ⟨?_, hS.rb.of hc (fun rb ro j e t => hS.sd _ _ _ (by rw [← t]) e), ?_, hS.mp.of hc (fun o t => (hS.ds _ _ rfl).2 t.symm), hS.nd, hS.bel.trans (hc.below hS.bel.size (fun k o hk t => by have : w.heap.size ≤ sb ∧ _ := hS.ds _ _ rfl; have := this.1; omega)), hS.ds, hS.db, hS.sd, hS.mB, hS.lt, ?_⟩
  · rw [← set_flat zs at_ zx _ hz]
    refine ⟨by rw [List.length_set]; exact hS.rs.len, ?_⟩
    rcases hS.rs.row with ⟨h0, _⟩ | ⟨rb, ro, e, h1, h2, h3, h4, h5⟩
    · cases h0
    · cases e
      refine .inr ⟨sb, so, rfl, h1, fun j v hj => ?_, fun j hj => by rw [hc.live _ _ h4]; exact h3 j hj, Nat.lt_of_lt_of_le h4 hc.size, fun j => (hc.frz _ _ h4).trans (h5 j)⟩
      rw [List.getElem?_set] at hj
      by_cases hja : at_ * 2 + 1 = j
      · subst hja
        have hl : at_ * 2 + 1 < (zs.flatMap stCells).length := by rw [hS.rs.len]; omega
        rw [if_pos rfl, if_pos hl] at hj
        cases hj
        have := h3 (at_ * 2 + 1) (by have := hS.rs.le; omega)
        obtain ⟨v0, hv0⟩ := Option.isSome_iff_exists.1 this
        rw [← Nat.add_assoc] at hv0 ⊢
        exact World.cell?_setCell_same _ _ _ hv0
      · rw [if_neg hja] at hj
        rw [World.cell?_setCell_other _ _ _ _ (fun e => hja (by have := congrArg Addr.off e; simp at this; omega))]
        exact h2 j v hj
  · rw [List.map_set, ← hS.zl]
    refine List.ext_getElem? fun i => ?_
    rw [List.getElem?_set]
    by_cases hi : at_ = i
    · subst hi
      rw [if_pos rfl, if_pos (by simpa [hzl] using hat), List.getElem?_map, hz]; rfl
    · rw [if_neg hi]
  · intro i row hi
    have hnb : nb ≠ sb := fun e => h.ns so (by rw [e])
    by_cases hir : i < rows.length
    · rw [List.getElem?_append_left hir] at hi
      obtain ⟨nb', d1, d2, d3, d4, d5, d6, d7⟩ := hS.done i row hi
      refine ⟨nb', ?_, d2.of hc (fun rb ro j e t => by cases e; exact d6 so (by rw [t])), d3, d4, by have := hc.size; omega, d6, d7⟩
      rw [List.getElem?_set, if_neg (by omega)]; exact d1
    · rw [List.getElem?_append_right (by omega)] at hi
      have hil : i - rows.length = 0 := by
        have := (List.getElem?_eq_some_iff.1 hi).1
        simp at this; omega
      rw [hil] at hi
      simp at hi
      subst hi
      have hia : i = at_ := by omega
      subst hia
      refine ⟨nb, by rw [List.getElem?_set, if_pos rfl, if_pos (by omega)]; rfl, ?_, h.nw, h.nm, by have := hc.size; omega, h.ns, h.nb_⟩
      rw [← hpl]
      exact h.row.of hc (fun rb ro j e t => by cases e; exact hnb t)
theorem SI.start (w : World) (lo : Sg.Lo) (K : Nat) (f0 f1 : Int) (hf : psV lo.first = .agg #[.int .u32 f0, .int .u32 f1]) (t1 t2 : TypeId) : SI w lo (w.heap.size + 1 + 1) K (w.heap.size + 1 + 1 + 1) (((w.alloc (.cells #[.int .i64 (-1), .slice none 0 0] t1)).alloc (.cells #[.int .u32 f0, .int .u32 f1] t2)).alloc (.map #[] 0)) (some ⟨w.heap.size, 0, none⟩) (some ⟨w.heap.size + 1, 0, none⟩) 1 1 [] [(-1, .slice none 0 0)] [] := by
  have e1 : (w.alloc (.cells #[.int .i64 (-1), .slice none 0 0] t1)).heap.size = w.heap.size + 1 := by simp
  have e2 : ((w.alloc (.cells #[.int .i64 (-1), .slice none 0 0] t1)).alloc (.cells #[.int .u32 f0, .int .u32 f1] t2)).heap.size = w.heap.size + 1 + 1 := by simp
  have r1 : RowAt 2 (w.alloc (.cells #[.int .i64 (-1), .slice none 0 0] t1)) (some ⟨w.heap.size, 0, none⟩) 1 1 [.int .i64 (-1), .slice none 0 0] := row_new w _ _ t1
  have r2 : RowAt 2 ((w.alloc (.cells #[.int .i64 (-1), .slice none 0 0] t1)).alloc (.cells #[.int .u32 f0, .int .u32 f1] t2)) (some ⟨w.heap.size + 1, 0, none⟩) 1 1 [.int .u32 f0, .int .u32 f1] := by
    have := row_new (w.alloc (.cells #[.int .i64 (-1), .slice none 0 0] t1)) (.int .u32 f0) (.int .u32 f1) t2
    rw [e1] at this; exact this
  have hcs : psCells lo.first = [.int .u32 f0, .int .u32 f1] := by
    have : Value.agg (psCells lo.first).toArray = .agg #[.int .u32 f0, .int .u32 f1] := hf
    simpa using this
  refine ⟨(r1.below (blw1' _ _)).below (blw1' _ _), ?_, rfl, ?_, List.nodup_nil, below3 w _ _ _, (fun b o e => by cases e; omega), (fun b o e => by cases e; omega), (fun b o o' e e2 => by cases e; simp at e2), by omega, (fun x hx => by cases hx), (fun i row hi => by simp at hi)⟩
  · have e : (lo.first :: List.map (Sg.behindT lo) []).flatMap psCells = [.int .u32 f0, .int .u32 f1] := by simp [hcs]
    rw [e]
    exact r2.below (blw1' _ _)
  · have := MapAt.made ((w.alloc (.cells #[.int .i64 (-1), .slice none 0 0] t1)).alloc (.cells #[.int .u32 f0, .int .u32 f1] t2)) 1
    rw [e2] at this; exact this
theorem states_any (B p : Nat) (w : World) (lo : Sg.Lo) (hlo : LoAt B w p lo) (h8 : lo.last.length ≤ 8) (ka : Option Addr) (kc : Nat) (kinds : List Nat) (hK : RowAt 2 w ka kc kinds.length (kinds.flatMap psCells)) (hkl : kinds.length < 1000000) (hks : ∀ x ∈ kinds, x < 18446744073709551616) (fs : List Nat) (frows : List (List Int)) (hgo : Sg.rowsGo lo kinds 202 0 [] [] = some (fs, frows)) :
    Calls Tryz.prog 74 #[.pointer (some ⟨p, 0, none⟩), .slice ka kinds.length kc] w fun e w' => ∃ sa sc, e = .returned (.tuple #[.slice sa (fs.length + 1) sc, .nilIface]) ∧ frows.length = fs.length + 1 ∧ ∃ ba bc zs m, SI w lo m kinds.length w'.heap.size w' sa ba sc bc fs zs frows := by
  have hmm := @run_makeMap Tryz.prog
  obtain ⟨f0, f1, hfp, hc0, hc1⟩ := two_cells hlo
  have hd0 : ∀ o, (w.alloc o).cell? ⟨p, 193, none⟩ = some (.int .u32 f0) := fun o => below_keep (blw1' w o) hc0
  have hd1 : ∀ o, (w.alloc o).cell? ⟨p, 194, none⟩ = some (.int .u32 f1) := fun o => below_keep (blw1' w o) hc1
  have hmk := fun W => run_make_row' (P := Tryz.prog) 24 3 (.int .i64 0) 8 Tryz.underlying24 (by kernel_rfl) rfl .i64 .i64 kinds.length (by omega) (by omega) W
  have HMK := hide2 hmk
  have HLO := hide2 (And.intro hlo h8)
  have HK := hide2 (And.intro hK hks)
  have HGo := hide2 hgo
  have HFP := hide2 hfp
  clear hlo hK hks hgo hfp hc0 hc1 hmk
  go_enter Tryz.func74, Tryz.ntmps74
  go_wp2
  clear hd0 hd1
  have hS0 : Hid (SI w lo (w.heap.size + 1 + 1) kinds.length (w.heap.size + 1 + 1 + 1) (((w.alloc (.cells #[.int .i64 (-1), .slice none 0 0] 153)).alloc (.cells #[.int .u32 f0, .int .u32 f1] 227)).alloc (.map #[] 0)) (some ⟨w.heap.size, 0, none⟩) (some ⟨w.heap.size + 1, 0, none⟩) 1 1 [] [(-1, .slice none 0 0)] []) := by
    exact SI.start w lo kinds.length f0 f1 HFP.out _ _
  go_loopw [6, 7, 9] (fun sv bv iv wr => ∃ (at_ : Nat) (sa ba : Option Addr) (sc bc ns : Nat) (sets : List Nat) (zs : List (Int × Value)) (rows : List (List Int)), sv = .slice sa (ns + 1) sc ∧ bv = .slice ba (ns + 1) bc ∧ iv = .int .i64 at_ ∧ at_ ≤ ns + 1 ∧ ns ≤ 200 ∧ Hid (ns = sets.length ∧ SI w lo (w.heap.size + 1 + 1) kinds.length wr.heap.size wr sa ba sc bc sets zs rows ∧ rows.length = at_ ∧ Sg.rowsGo lo kinds (202 - at_) at_ sets rows = some (fs, frows))) (fun _ _ iv _ => 202 - (intOf iv).toNat)
  case atStart => exact ⟨0, _, _, 1, 1, 0, [], _, [], rfl, rfl, rfl, Nat.zero_le _, Nat.zero_le _, hide2 ⟨rfl, by have := hS0.out; simpa using this, rfl, HGo.out⟩⟩
  case round =>
    obtain ⟨at_, sa, ba, sc, bc, ns, sets, zs, rows, rfl, rfl, rfl, hat, hns, H⟩ := hrel
    clear hS0 HGo
    by_cases hlt : at_ < ns + 1
    · obtain ⟨hn, hS, hr, hg⟩ := H.out
      rw [show 202 - at_ = (201 - at_) + 1 by omega, rowsGo_step _ _ _ _ _ _ (by omega)] at hg
      obtain ⟨sets', row, hnr, hg2⟩ : ∃ sets' row, Sg.nextRow lo (behAt lo sets at_) kinds sets [] = some (sets', row) ∧ Sg.rowsGo lo kinds (201 - at_) (at_ + 1) sets' (rows ++ [row]) = some (fs, frows) := by
        cases hx : Sg.nextRow lo (behAt lo sets at_) kinds sets [] with
        | none => rw [hx] at hg; cases hg
        | some q => rw [hx] at hg; exact ⟨q.1, q.2, rfl, hg⟩
      have hbl := behAt_lt HLO.out.1 sets at_
      generalize hb : behAt lo sets at_ = b at *
      obtain ⟨b0, b1, hpb⟩ := ps_agg b
      have HB := hide2 (And.intro hpb (And.intro hbl (And.intro hg2 hr)))
      have HBq := hide2 hb
      have hNI0 : NI w lo (w.heap.size + 1 + 1) kinds.length wr.heap.size wr.heap.size (wr.alloc (.cells (madeCells #[.int .i64 0] kinds.length) 3)) sa ba sc bc sets zs rows [] :=
        ⟨hS.below (blw1' wr _), made_row wr kinds.length _, Nat.le_refl _, hS.bel.size, by have := hS.mp.lt; omega, fun o e => by have := hS.rs.lt e; omega, fun o e => by have := hS.rb.lt e; omega⟩
      have HN0 := hide2 (And.intro hNI0 (And.intro hn hnr))
      have hmk := HMK.out wr
      have hdec : ((at_ : Int) < (ns : Int) + 1) = True := eq_true (by omega)
      clear hb hpb hbl hg hg2 hS hn hnr hNI0 hr H
      go_wp2
      clear hmk hdec
      generalize hnb : wr.heap.size = nb at *
      clear hnb
      generalize wr.alloc (.cells (madeCells #[.int .i64 0] kinds.length) 3) = wq at *
      go_loopw [6, 7, 35] (fun sv bv jv wr => ∃ (j : Nat) (sa ba : Option Addr) (sc bc ns : Nat) (sets : List Nat) (zs : List (Int × Value)) (out : List Int), sv = .slice sa (ns + 1) sc ∧ bv = .slice ba (ns + 1) bc ∧ jv = .int .i64 j ∧ j ≤ kinds.length ∧ at_ < ns + 1 ∧ ns ≤ 200 ∧ Hid (ns = sets.length ∧ NI w lo (w.heap.size + 1 + 1) kinds.length nb nb wr sa ba sc bc sets zs rows out ∧ out.length = j ∧ behAt lo sets at_ = b ∧ Sg.nextRow lo b (kinds.drop j) sets out = some (sets', row))) (fun _ _ jv _ => kinds.length - (intOf jv).toNat)
      case atStart => exact ⟨0, sa, ba, sc, bc, ns, sets, zs, [], rfl, rfl, rfl, Nat.zero_le _, hlt, hns, hide2 ⟨HN0.out.2.1, HN0.out.1, rfl, HBq.out, HN0.out.2.2⟩⟩
      case round =>
        clear HN0 HBq hns hlt hat
        obtain ⟨j, sa, ba, sc, bc, ns, sets, zs, out, rfl, rfl, rfl, hj, hlt, hns, H⟩ := hrel
        by_cases hjk : j < kinds.length
        · obtain ⟨hn, hN, hol, hbq, hnr⟩ := H.out
          clear H
          obtain ⟨kv, hkv⟩ : ∃ kv, kinds[j]? = some kv := ⟨_, List.getElem?_eq_getElem hjk⟩
          have hdr : kinds.drop j = kv :: kinds.drop (j + 1) := by
            rw [List.drop_eq_getElem_cons hjk]
            rw [List.getElem?_eq_getElem hjk] at hkv
            cases hkv; rfl
          rw [hdr] at hnr
          have hkl2 := HK.out.2 kv (List.mem_of_getElem? hkv)
          obtain ⟨k0, k1, hpk⟩ := ps_agg kv
          have hbel := hN.si.bel
          obtain ⟨kb, ko, rfl, kc0, kc1⟩ := ps_in rfl (HK.out.1.below hbel) hkv hpk
          obtain ⟨bb, bo, rfl, bc0, bc1⟩ := ps_in (by simp [hn]) (hn ▸ hN.si.rb) (behAt_eq lo sets at_ (by omega)) (hbq ▸ HB.out.1)
          have hAnd := fun W => and_any b kv HB.out.2.1 hkl2 W
          have hsl : b &&& kv < 18446744073709551616 := Nat.lt_of_le_of_lt Nat.and_le_left HB.out.2.1
          obtain ⟨s0, s1, hps⟩ := ps_agg (b &&& kv)
          have hEmp := fun W => isEmpty_any (b &&& kv) W
          rw [HB.out.1, hpk, hps] at hAnd
          rw [hps] at hEmp
          have HAnd := hide2 hAnd
          have HEmp := hide2 hEmp
          have HX := hide2 (And.intro hn (And.intro hN (And.intro hol (And.intro hbq hnr))))
          have HS := hide2 (And.intro hps hsl)
          clear hn hN hol hbq hnr hAnd hEmp hpk hsl hps hkl2 hdr hkv hbel
          go_upto_region 11 with fail
          have q0 : (wr.alloc (.cells #[.int .u32 k0, .int .u32 k1] 227)).cell? ⟨wr.heap.size, 0, none⟩ = some (.int .u32 k0) := cell_of' (heap_alloc_new wr _) 0
          have q1 : (wr.alloc (.cells #[.int .u32 k0, .int .u32 k1] 227)).cell? ⟨wr.heap.size, 1, none⟩ = some (.int .u32 k1) := cell_of' (heap_alloc_new wr _) 1
          have g0 := below_keep (blw1' wr (.cells #[.int .u32 k0, .int .u32 k1] 227)) bc0
          have g1 := below_keep (blw1' wr (.cells #[.int .u32 k0, .int .u32 k1] 227)) bc1
          have HNW := hide2 (HX.out.2.1.below (blw1' wr (.cells #[.int .u32 k0, .int .u32 k1] 227)))
          clear bc0 bc1 kc0 kc1
          generalize wr.alloc (.cells #[.int .u32 k0, .int .u32 k1] 227) = wy at *
          generalize wr.heap.size = S at *
          have HSt : Hid (∀ w', Below wy.heap.size wy w' → Below wy.heap.size wy w' ∧ w'.cell? ⟨S, 0, none⟩ = some (.int .u32 k0) ∧ w'.cell? ⟨S, 1, none⟩ = some (.int .u32 k1) ∧ w'.cell? ⟨bb, bo + at_ * 2, none⟩ = some (.int .u32 b0) ∧ w'.cell? ⟨bb, bo + at_ * 2 + 1, none⟩ = some (.int .u32 b1)) := hide2 fun w' hb => ⟨hb, below_keep hb q0, below_keep hb q1, below_keep hb g0, below_keep hb g1⟩
          have HKc : Hid (∀ W, Calls Tryz.prog 108 #[.agg #[.int .u32 b0, .int .u32 b1], .agg #[.int .u32 k0, .int .u32 k1]] W fun e w' => e = .returned (.agg #[.int .u32 s0, .int .u32 s1]) ∧ (wy.heap.size < W.heap.size → w'.cell? ⟨wy.heap.size, 0, none⟩ = W.cell? ⟨wy.heap.size, 0, none⟩) ∧ (wy.heap.size < W.heap.size → w'.cell? ⟨wy.heap.size, 1, none⟩ = W.cell? ⟨wy.heap.size, 1, none⟩) ∧ (∀ j, wy.heap.size < W.heap.size → w'.frozen? ⟨wy.heap.size, j, none⟩ = W.frozen? ⟨wy.heap.size, j, none⟩) ∧ (Below wy.heap.size wy W → Below wy.heap.size wy w')) := hide2 fun W => (HAnd.out W).mono (by
            rintro e w' ⟨rfl, hb⟩
            exact ⟨rfl, fun g => hb.cell (p := ⟨wy.heap.size, 0, none⟩) g, fun g => hb.cell (p := ⟨wy.heap.size, 1, none⟩) g, fun j g => hb.frozen (p := ⟨wy.heap.size, j, none⟩) g, fun g => g.trans (hb.mono g.size)⟩)
          clear HAnd
          go_cut [13] from 40 to 45 (fun t w3 => ∃ tb, t = .pointer (some ⟨tb, 0, none⟩) ∧ wy.heap.size ≤ tb ∧ w3.cell? ⟨tb, 0, none⟩ = some (.int .u32 s0) ∧ w3.cell? ⟨tb, 1, none⟩ = some (.int .u32 s1) ∧ Below wy.heap.size wy w3)
          case first =>
            go_region_held (fun w' => Below wy.heap.size wy w' ∧ w'.cell? ⟨S, 0, none⟩ = some (.int .u32 k0) ∧ w'.cell? ⟨S, 1, none⟩ = some (.int .u32 k1) ∧ w'.cell? ⟨bb, bo + at_ * 2, none⟩ = some (.int .u32 b0) ∧ w'.cell? ⟨bb, bo + at_ * 2 + 1, none⟩ = some (.int .u32 b1))
              ((with_reducible refine HSt.out _ ?_; first
                | with_reducible exact (Below.refl _ _).drew
                | with_reducible exact ((Below.refl _ _).alloc (Nat.le_refl _) _).drew
                | with_reducible exact hw2
                | with_reducible exact hw2.alloc hw2.size _
                | with_reducible exact (hw2.setCell (p := ⟨wy.heap.size, 0, none⟩) (Nat.le_refl _) _).setCell (p := ⟨wy.heap.size, 1, none⟩) (Nat.le_refl _) _))
              ((go_at_call 108; refine (HKc.out _).mono ?_; rintro e w2 ⟨rfl, z0, z1, zf, hk⟩; have hw2 : Below wy.heap.size wy w2 := hk (by first | with_reducible exact (Below.refl _ _).drew | with_reducible exact ((Below.refl _ _).alloc (Nat.le_refl _) _).drew); clear hk; simp at z0 z1 zf))
            all_goals go_wp2_with fail
            all_goals go_meet
            · exact ⟨_, rfl, hw2.size, cell_of' (heap_alloc_new w2 _) 0, cell_of' (heap_alloc_new w2 _) 1, hw2.alloc hw2.size _⟩
            · exact ⟨_, rfl, Nat.le_refl _, (World.cell?_setCell_other _ _ _ _ (by simp)).trans (World.cell?_setCell_same _ _ _ z0), World.cell?_setCell_same _ _ _ ((World.cell?_setCell_other _ _ _ _ (by simp)).trans z1), (hw2.setCell (p := ⟨wy.heap.size, 0, none⟩) (Nat.le_refl _) _).setCell (p := ⟨wy.heap.size, 1, none⟩) (Nat.le_refl _) _⟩
            · exact ⟨_, rfl, Nat.le_refl _, (World.cell?_setCell_other _ _ _ _ (by simp)).trans (World.cell?_setCell_same _ _ _ z0), World.cell?_setCell_same _ _ _ ((World.cell?_setCell_other _ _ _ _ (by simp)).trans z1), (hw2.setCell (p := ⟨wy.heap.size, 0, none⟩) (Nat.le_refl _) _).setCell (p := ⟨wy.heap.size, 1, none⟩) (Nat.le_refl _) _⟩
          case rest =>
            obtain ⟨tb, rfl, htb, t0, t1, hb3⟩ := hcut
            have HTb : Hid (tb ≠ w.heap.size + 1 + 1 ∧ (∀ o, sa ≠ some ⟨tb, o, none⟩) ∧ ∀ o, some (⟨bb, bo, none⟩ : Addr) ≠ some ⟨tb, o, none⟩) := hide2 ⟨by have := HNW.out.si.mp.lt; omega, fun o e => by have := HNW.out.si.rs.lt e; omega, fun o e => by have := HNW.out.si.rb.lt e; omega⟩
            have HN3 := hide2 (HNW.out.below hb3)
            clear HSt HKc HNW hb3 q0 q1 g0 g1
            obtain ⟨hn, _, hol, hbq, hnr⟩ := HX.out
            clear HX
            by_cases hz : b &&& kv = 0
            · rw [nextRow_zero _ _ _ _ _ _ hz] at hnr
              have hEmp := fun W => HEmp.out W
              rw [decide_eq_true hz] at hEmp
              have HEm := hide2 hEmp
              have HR := hide2 (And.intro hn (And.intro hol (And.intro hbq hnr)))
              clear hn hol hbq hnr hz HEmp hEmp
              go_wp2_with (go_at_call 109; refine (HEm.out _).mono ?_; rintro e w4 ⟨rfl, hb4⟩; have HN4 := hide2 (HN3.out.below hb4); obtain ⟨⟨v0, hv0⟩, hz0⟩ := HN4.out.cell (by rw [HR.out.2.1]; exact hjk); rw [HR.out.2.1, Nat.zero_add] at hv0 hz0; clear hb4)
              obtain ⟨hn, hol, hbq, hnr⟩ := HR.out
              have hput := HN4.out.put (by omega) (-1)
              rw [hol, Nat.zero_add] at hput
              exact ⟨⟨j + 1, _, _, _, _, ns, sets, zs, out ++ [-1], rfl, rfl, by go_num, by omega, hlt, hns, hide2 ⟨hn, hput, by simp [hol], hbq, hnr⟩⟩, by simp [intOf]; omega⟩
            · have hEmp := fun W => HEmp.out W
              rw [decide_eq_false hz] at hEmp
              have HEm := hide2 hEmp
              clear HEmp hEmp
              by_cases hkn : sets.idxOf (b &&& kv) < sets.length
              · rw [nextRow_old _ _ _ _ _ _ hz hkn] at hnr
                have HR := hide2 (And.intro hn (And.intro hol (And.intro hbq (And.intro hnr hkn))))
                clear hn hol hbq hnr hz hkn
                go_wp2_with (first
                  | (go_at_call 109; refine (HEm.out _).mono ?_; rintro e w4 ⟨rfl, hb4⟩; have HN4 := hide2 (HN3.out.below hb4); have t0' := below_keep hb4 t0; have t1' := below_keep hb4 t1; obtain ⟨⟨v0, hv0⟩, hz0⟩ := HN4.out.cell (by rw [HR.out.2.1]; exact hjk); rw [HR.out.2.1, Nat.zero_add] at hv0 hz0; clear hb4)
                  | (at_lookup
                     have hlk := HN4.out.si.mp.look HN4.out.si.nd HS.out.2
                     rw [HS.out.1, if_pos HR.out.2.2.2.2, decide_eq_true HR.out.2.2.2.2] at hlk
                     refine wpList_lookup_run rfl _ _ _ rfl _ _ _ rfl rfl hlk ?_
                     clear hlk))
                obtain ⟨hn, hol, hbq, hnr, hkn⟩ := HR.out
                have hput := HN4.out.put (by omega) (((sets.idxOf (b &&& kv) + 1 : Nat) : Int))
                rw [hol, Nat.zero_add] at hput
                exact ⟨⟨j + 1, _, _, _, _, ns, sets, zs, out ++ [((sets.idxOf (b &&& kv) + 1 : Nat) : Int)], rfl, rfl, by go_num, by omega, hlt, hns, hide2 ⟨hn, hput, by simp [hol], hbq, hnr⟩⟩, by simp [intOf]; omega⟩
              · rw [nextRow_new _ _ _ _ _ _ hz hkn] at hnr
                have h200 : sets.length ≠ 200 := fun e => by rw [if_pos e] at hnr; cases hnr
                rw [if_neg h200] at hnr
                have hidx : sets.idxOf (b &&& kv) = sets.length := by have := List.idxOf_le_length (a := b &&& kv) (l := sets); omega
                rw [hidx] at hnr
                have hns2 : ns < 200 := by omega
                have h2n : (((ns : Nat) : Int) == 200) = false := beq_eq_false_iff_ne.2 (by omega)
                have hb2 : behAt lo (sets ++ [b &&& kv]) at_ = b := by
                  rw [← hbq]
                  unfold behAt
                  split
                  · rfl
                  · rename_i ha
                    rw [List.getD_eq_getElem?_getD, List.getD_eq_getElem?_getD, List.getElem?_append_left (by omega)]
                obtain ⟨c0, c1, hpc⟩ := ps_agg (Sg.behindT lo (b &&& kv))
                have hRule := fun W (hW : Below w.heap.size w W) => rule_any W p lo (b &&& kv) HS.out.2 ((HLO.out.1.below hW).lastAt HLO.out.2)
                have hBeh := fun W (hW : Below w.heap.size w W) => behind_any W p lo.lt.follow (b &&& kv) HS.out.2 (HLO.out.1.below hW).folAt
                rw [← behindT_eq, hpc] at hBeh
                rw [HS.out.1] at hRule hBeh
                have HRu := hide2 hRule
                have HBe := hide2 hBeh
                have HPc := hide2 hpc
                have HR := hide2 (And.intro hn (And.intro hol (And.intro hb2 (And.intro hnr hkn))))
                clear hn hol hbq hb2 hnr hz hkn h200 hidx hpc hRule hBeh
                go_wp2_with (first
                  | (go_at_call 109; refine (HEm.out _).mono ?_; rintro e w4 ⟨rfl, hb4⟩; have HN4 := hide2 (HN3.out.below hb4); have t0' := below_keep hb4 t0; have t1' := below_keep hb4 t1; have hml := HN4.out.si.mp.len 3; rw [← HR.out.1] at hml; clear hb4)
                  | (at_lookup
                     have hlk := HN4.out.si.mp.look HN4.out.si.nd HS.out.2
                     rw [HS.out.1, if_neg HR.out.2.2.2.2, decide_eq_false HR.out.2.2.2.2] at hlk
                     refine wpList_lookup_run rfl _ _ _ rfl _ _ _ rfl rfl hlk ?_
                     clear hlk)
                  | (at_mapUpdate
                     have hadd := HN4.out.si.add (by have := HN4.out.row.lt rfl; omega) (by have := HR.out.1; omega) HS.out.2 HR.out.2.2.2.2 HS.out.1 HPc.out 149 153 161 227
                     rw [← HR.out.1, show ((ns + 1 : Nat) : Int) = (ns : Int) + 1 from rfl] at hadd
                     obtain ⟨W4, hput, A4, B4, hnext⟩ := hadd
                     have r0 := (cell_same (A4.2 tb (cell_lt t0') HTb.out.1 HTb.out.2.1 HTb.out.2.2) 0).trans t0'
                     have r1 := (cell_same (A4.2 tb (cell_lt t0') HTb.out.1 HTb.out.2.1 HTb.out.2.2) 1).trans t1'
                     have HNx := hide2 hnext
                     have HB4 := hide2 B4
                     have HT := hide2 (And.intro t0' t1')
                     refine wpList_mapUpdate_run rfl _ _ _ _ rfl _ _ _ rfl rfl rfl hput ?_
                     clear hput hnext A4 B4 t0' t1' hml)
                  | (go_at_call 110; refine (HRu.out _ HB4.out).mono ?_; rintro e w5 ⟨rfl, hb5⟩; obtain ⟨sa', sc', W6, hrun6, A6, B6, hnext⟩ := HNx.out w5 hb5; clear HNx hb5 r0 r1; have r0 := (cell_same (A6.2 tb (cell_lt HT.out.1) HTb.out.1 HTb.out.2.1 HTb.out.2.2) 0).trans HT.out.1; have r1 := (cell_same (A6.2 tb (cell_lt HT.out.1) HTb.out.1 HTb.out.2.1 HTb.out.2.2) 1).trans HT.out.2; have HNx := hide2 hnext; have HB6 := hide2 B6; clear hnext A6 B6)
                  | (at_builtin
                     refine wpList_append_run rfl _ _ _ _ rfl _ _ _ rfl rfl hrun6 ?_
                     clear hrun6)
                  | (go_at_call 111; refine (HBe.out _ HB6.out).mono ?_; rintro e w7 ⟨rfl, hb7⟩; obtain ⟨ba', bc', W8, hrun8, A8, HI8⟩ := HNx.out w7 hb7; clear HNx hb7; have HN8 := hide2 (HN4.out.of_add A8 HI8.out.1 HI8.out.2.1 HI8.out.2.2); obtain ⟨⟨v0, hv0⟩, hz0⟩ := HN8.out.cell (by rw [HR.out.2.1]; exact hjk); rw [HR.out.2.1, Nat.zero_add] at hv0 hz0; clear A8 HI8)
                  | (at_builtin
                     refine wpList_append_run rfl _ _ _ _ rfl _ _ _ rfl rfl hrun8 ?_
                     clear hrun8))
                obtain ⟨hn, hol, hbq, hnr, hkn⟩ := HR.out
                have hput := HN8.out.put (by omega) (((ns : Int) + 1))
                rw [hol, Nat.zero_add] at hput
                refine ⟨⟨j + 1, sa', ba', sc', bc', ns + 1, sets ++ [b &&& kv], _, out ++ [(ns : Int) + 1], rfl, rfl, by go_num, by omega, by omega, by omega, hide2 ⟨by simp [hn], hput, by simp [hol], hbq, ?_⟩⟩, by simp [intOf]; omega⟩
                rw [hn]; exact hnr
        · obtain ⟨hn, hN, hol, hbq, hnr⟩ := H.out
          rw [List.drop_of_length_le (by omega)] at hnr
          have hnr' : sets = sets' ∧ out = row := by
            unfold Sg.nextRow at hnr
            simpa using hnr
          obtain ⟨rfl, rfl⟩ := hnr'
          obtain ⟨_, _, hg2, hrl⟩ := HB.out
          have hzl := hN.si.len
          obtain ⟨zx, hzx⟩ : ∃ zx, zs[at_]? = some zx := ⟨_, List.getElem?_eq_getElem (by omega)⟩
          obtain ⟨sb, so, rfl, x0⟩ := row_cell hN.si.rs (j := at_ * 2 + 1) (v := zx.2) (by
            rw [flat_at stCells 2 (fun _ => rfl) _ at_ 1 (by omega) (by omega)]
            rw [List.getElem?_eq_getElem (by omega)] at hzx
            cases hzx; rfl)
          rw [← Nat.add_assoc] at x0
          have x1 : wr.frozen? ⟨sb, so + at_ * 2 + 1, none⟩ = false := by
            rcases hN.si.rs.row with ⟨h0, _⟩ | ⟨_, _, e, _, _, _, _, h5⟩
            · cases h0
            · cases e; exact h5 _
          have HE := hide2 (hN.fin hzx (by omega) (by omega) hrl)
          have HG := hide2 hg2
          clear hN hg2 hzx hzl
          go_wp2
          refine ⟨⟨at_ + 1, _, _, _, _, ns, sets, _, _, rfl, rfl, by go_num, by omega, hns, hide2 ⟨hn, HE.out, by simp [hrl], ?_⟩⟩, by simp [intOf]; omega⟩
          rw [show 202 - (at_ + 1) = 201 - at_ by omega]; exact HG.out
    · have hlt2 : ¬ ((at_ : Int) < ((ns + 1 : Nat) : Int)) := by omega
      go_wp2
      go_ret2
      obtain ⟨hn, hS, hr, hg⟩ := H.out
      subst hn
      rw [rowsGo_end _ _ _ _ _ _ (by omega)] at hg
      cases hg
      exact ⟨sa, sc, rfl, by omega, ba, bc, zs, _, hS⟩
end Go.Proofs.YtlhokghgicgppaaGreatDoor
