/- The iterator that Tokens gives: its walk. -/
/- plain.All. -/
import Derived.Test.YtlhokghgicgppaaGreatDoorTokens
import Derived.Test.YtlhokghgicgppaaGreatDoorWrite
set_option linter.unusedSimpArgs false
set_option linter.unusedVariables false
set_option maxRecDepth 100000
set_option maxHeartbeats 4000000
namespace Go.Proofs.YtlhokghgicgppaaGreatDoor
open Go.RowKit Go.Extern
attribute [local go_sem] Oper.semAt_some
abbrev tokW (w : World) (v0 v1 v2 v3 v4 : Value) : World := w.alloc (.cells #[v0, v1, v2, v3, v4] tyTok)
theorem tokW_below (w : World) (v0 v1 v2 v3 v4 : Value) : Below w.heap.size w (tokW w v0 v1 v2 v3 v4) := (Below.refl _ _).alloc (Nat.le_refl _) _
theorem keepsOthers_below {w w' : World} (h : Below w.heap.size w w') : KeepsOthers w w' := (Chg.of_below (T := fun _ _ => False) h).others
theorem tokens1_in (c : AC) (hc : c.Ok) (n l D : Nat) (ready : Loop) (dn : Code → Loop)
    (hY : ∀ (pre : List (Except Int Sg.Tok)) (x : Except Int Sg.Tok) (W : World), c.Iy (pre, x) W → RecAt l D ready W → YieldAt Fence.wide (n - 1) Tryz.prog l (encY x) W fun e W' =>
      (e = .returned (.bool true) ∧ c.I (pre ++ [x]) W' ∧ RecAt l D ready W') ∨ (e = .returned (.bool false) ∧ ∃ code, c.Ix code (pre ++ [x]) W' ∧ RecAt l D (dn code) W'))
    (W : World) (hI : c.I [] W) (hR : RecAt l D ready W) :
    CallsIn Fence.wide n Tryz.prog 56 (#[.func (.yield l) #[] #[]] ++ #[.pointer (some ⟨c.tb, 0, none⟩)]) W fun e W' => (∃ v, e = .returned v) ∧ ∃ pre code, c.Ix code pre W' ∧ RecAt l D (dn code) W' := by
  have hdd : ∀ k : Nat, (Fence.wide.depth.isSome = true → 1 ≤ k) := fun k h => by cases h
  refine callsIn_of_wp Tryz.func56 rfl trivial ?_ rfl
  simp only [Tryz.ntmps56, List.size_toArray, List.length_cons, List.length_nil, Nat.reduceAdd, Nat.reduceSub, Array.replicate_succ, Array.replicate_zero, List.push_toArray, List.append_toArray, List.nil_append, List.cons_append]
  gi_wp2
  gi_loopw [] (fun wr => (∃ xs, c.I xs wr) ∧ RecAt l D ready wr) (fun wr => c.ts.length + 1 - outLen c.ob wr)
  case atStart => exact ⟨⟨_, hI⟩, hR⟩
  case round =>
    obtain ⟨⟨xs, k, L, F, ra, rc, rfl, hst, hout⟩, hrec⟩ := hrel
    have hbox : wr.cell? ⟨c.tb, 0, none⟩ = some (.pointer (some ⟨c.sq, 0, none⟩)) := (hout.chg.cell _ _ hc.ltb (fun t => by rcases t with t | t; exact hc.ntb t; exact hc.ne t)).trans hc.box
    have hk3 := hst.le
    have hnx := scan_next c.m hc.hm c.sq c.bm c.nn L F (c.B0 + k * 100001) wr hst.scan (by have := hc.lt; have := hc.le; have := hc.b1; omega)
    have hlen := hout.len
    rcases hst.step hc with ⟨t, L', e1, e2, e3, hkl⟩ | ⟨⟨s, e1⟩, hkl⟩
    · rw [e1] at hnx
      have HN : Hid (CallsIn Fence.wide (n - 1) Tryz.prog 26 #[.pointer (some ⟨c.sq, 0, none⟩)] wr fun en w1 => en = .returned (.tuple #[.agg #[.int .i64 t.rule, .int .i64 t.at_, .int .i64 t.line, .int .i64 t.col, .string ⟨t.text.toArray⟩], .nilIface]) ∧
          ∃ fn tmps assign body, (Instr.yield l #[.agg #[.int .i64 t.rule, .int .i64 t.at_, .int .i64 t.line, .int .i64 t.col, .string ⟨t.text.toArray⟩], .nilIface]).run Tryz.prog (tokW w1 (.int .i64 t.rule) (.int .i64 t.at_) (.int .i64 t.line) (.int .i64 t.col) (.string ⟨t.text.toArray⟩)) = .ok (.round l fn tmps assign body) (tokW w1 (.int .i64 t.rule) (.int .i64 t.at_) (.int .i64 t.line) (.int .i64 t.col) (.string ⟨t.text.toArray⟩)) ∧
            RoundIn Fence.wide (n - 1) Tryz.prog l fn tmps assign body (tokW w1 (.int .i64 t.rule) (.int .i64 t.at_) (.int .i64 t.line) (.int .i64 t.col) (.string ⟨t.text.toArray⟩)) fun e W' => e = .returned (.bool true) ∧ (∃ xs, c.I xs W') ∧ outLen c.ob W' = k + 1 ∧ RecAt l D ready W') := by
        show CallsIn _ _ _ _ _ _ _
        refine callsIn_wide.2 (hnx.mono ?_)
        rintro en w1 ⟨hch, rfl, F', hsc, hfp⟩
        refine ⟨rfl, ?_⟩
        have hnF' : ∀ i, i < wr.heap.size → ¬ F i → ¬ F' i := fun i hi hn ht => hn (hfp i hi ht)
        have hobw := cell_lt hout.cell
        have hobF : ¬ F c.ob := fun ht => hc.nob (hst.fp _ hc.lob ht)
        have hout1 : c.Out k F' ra rc w1 :=
          ⟨(hch.cell _ _ hobw hobF).trans hout.cell, (hch.frz _ _ hobw).trans hout.free, hout.row.of hch (fun b o j e ht => (hout.nf b o e).1 ht), fun b o e => ⟨hnF' b (hout.row.lt e) (hout.nf b o e).1, (hout.nf b o e).2⟩, hout.chg.trans_new hch (fun i _ hi ht => .inl (hst.fp i hi ht))⟩
        have hst1 : c.St (k + 1) L' F' w1 := by
          refine ⟨?_, fun i hi ht => hst.fp i hi (hfp i (Nat.lt_of_lt_of_le hi hout.chg.size) ht), e3, hkl⟩
          have : c.B0 + (k + 1 : Nat) * 100001 = c.B0 + k * 100001 + 100001 := by omega
          rw [this]; exact hsc
        have hIy : c.Iy ((c.ts.take k).map .ok, .ok t) w1 := .inl ⟨k, L', F', ra, rc, t, rfl, e2, hst1, hout1⟩
        have hb := tokW_below w1 (.int .i64 t.rule) (.int .i64 t.at_) (.int .i64 t.line) (.int .i64 t.col) (.string ⟨t.text.toArray⟩)
        obtain ⟨fn, tmps, assign, body, g1, g2⟩ := hY _ _ _ (AC.Iy_below hc hIy hb) (hrec.keep (hch.others.trans (keepsOthers_below hb)))
        refine ⟨fn, tmps, assign, body, g1, g2.mono ?_⟩
        rintro e W' (⟨h1, h2, h3⟩ | ⟨_, code, h2, _⟩)
        · refine ⟨h1, ⟨_, h2⟩, ?_, h3⟩
          obtain ⟨k2, L2, F2, ra2, rc2, x1, x2, x3⟩ := h2
          have := congrArg List.length x1
          simp only [List.length_append, List.length_map, List.length_take, List.length_cons, List.length_nil] at this
          have hk2 := x2.le
          rw [x3.len]; omega
        · exfalso
          have := congrArg List.getLast? h2.2.1
          simp at this
      clear hnx hst hout hrec e2 e3
      gi_wp2_with (refine ⟨trivial, hdd _, ?_⟩; gi_at_call 26; refine HN.out.mono ?_; rintro en w1 ⟨rfl, fn, tmps, assign, body, hy, hR1⟩)
      refine ⟨hdd _, hR1.mono ?_⟩
      rintro e W3 ⟨rfl, hI3, hl3, hr3⟩
      gi_wp2
      go_roundw
      case rel => exact ⟨hI3, hr3⟩
      case measure => omega
    · subst hkl
      have HN : Hid (CallsIn Fence.wide (n - 1) Tryz.prog 26 #[.pointer (some ⟨c.sq, 0, none⟩)] wr fun en w1 => en = .returned (.tuple #[.agg #[.int .i64 0, .int .i64 0, .int .i64 0, .int .i64 0, .string ⟨#[]⟩], .iface 50 (.int .i64 c.e0)]) ∧
          ∃ fn tmps assign body, (Instr.yield l #[.agg #[.int .i64 0, .int .i64 0, .int .i64 0, .int .i64 0, .string ⟨#[]⟩], .iface 50 (.int .i64 c.e0)]).run Tryz.prog (tokW w1 (.int .i64 0) (.int .i64 0) (.int .i64 0) (.int .i64 0) (.string ⟨#[]⟩)) = .ok (.round l fn tmps assign body) (tokW w1 (.int .i64 0) (.int .i64 0) (.int .i64 0) (.int .i64 0) (.string ⟨#[]⟩)) ∧
            RoundIn Fence.wide (n - 1) Tryz.prog l fn tmps assign body (tokW w1 (.int .i64 0) (.int .i64 0) (.int .i64 0) (.int .i64 0) (.string ⟨#[]⟩)) fun e W' => e = .returned (.bool false) ∧ ∃ pre code, c.Ix code pre W' ∧ RecAt l D (dn code) W') := by
        show CallsIn _ _ _ _ _ _ _
        refine callsIn_wide.2 (hnx.mono ?_)
        rintro en w1 ⟨hch, hp⟩
        rw [e1] at hp
        obtain ⟨e2, rfl, h14⟩ : (∃ e', s = .inr e') ∧ en = .returned (.tuple #[tok0, errV (some c.e0)]) ∧ w1.cell? ⟨c.sq, 14, none⟩ = some (errV (some c.e0)) := by
          cases s with
          | inl _ => exact hp.elim
          | inr e' => exact ⟨⟨e', rfl⟩, hp.2⟩
        refine ⟨rfl, ?_⟩
        have hobw := cell_lt hout.cell
        have hobF : ¬ F c.ob := fun ht => hc.nob (hst.fp _ hc.lob ht)
        have hout1 : c.Out c.ts.length (fun _ => False) ra rc w1 :=
          ⟨(hch.cell _ _ hobw hobF).trans hout.cell, (hch.frz _ _ hobw).trans hout.free, hout.row.of hch (fun b o j e ht => (hout.nf b o e).1 ht), fun b o e => ⟨fun t => t, (hout.nf b o e).2⟩, hout.chg.trans_new hch (fun i _ hi ht => .inl (hst.fp i hi ht))⟩
        have hIy : c.Iy ((c.ts.take c.ts.length).map .ok, .error c.e0) w1 := .inr ⟨ra, rc, by rw [List.take_length], hout1, h14⟩
        have hb := tokW_below w1 (.int .i64 0) (.int .i64 0) (.int .i64 0) (.int .i64 0) (.string ⟨#[]⟩)
        obtain ⟨fn, tmps, assign, body, g1, g2⟩ := hY _ _ _ (AC.Iy_below hc hIy hb) (hrec.keep (hch.others.trans (keepsOthers_below hb)))
        refine ⟨fn, tmps, assign, body, g1, g2.mono ?_⟩
        rintro e W' (⟨_, h2, _⟩ | ⟨h1, code, h2, h3⟩)
        · exfalso
          obtain ⟨k2, L2, F2, ra2, rc2, x1, _, _⟩ := h2
          have := congrArg List.getLast? x1
          simp only [List.getLast?_append, List.getLast?_singleton, Option.some_or, List.getLast?_map] at this
          cases hx : (c.ts.take k2).getLast? with
          | none => rw [hx] at this; cases this
          | some y => rw [hx] at this; cases this
        · exact ⟨h1, _, code, h2, h3⟩
      clear hnx hst hout hrec
      gi_wp2_with (refine ⟨trivial, hdd _, ?_⟩; gi_at_call 26; refine HN.out.mono ?_; rintro en w1 ⟨rfl, fn, tmps, assign, body, hy, hR1⟩)
      refine ⟨hdd _, hR1.mono ?_⟩
      rintro e W3 ⟨rfl, hI3⟩
      have H3 := hide2 hI3
      clear hI3
      gi_wp2
      refine bodyPost_ret (results_none rfl _ _ _) rfl ?_
      exact ⟨⟨_, rfl⟩, H3.out⟩
end Go.Proofs.YtlhokghgicgppaaGreatDoor
namespace Go.Proofs.YtlhokghgicgppaaGreatDoor
open Go.RowKit Go.Extern
attribute [local go_sem] Oper.semAt_some
theorem tokens_in (n sq : Nat) (w : World) :
    CallsIn Fence.wide n Tryz.prog 34 #[.pointer (some ⟨sq, 0, none⟩)] w fun e w' => e = .returned (.func (.func 56) #[] #[.pointer (some ⟨w.heap.size, 0, none⟩)]) ∧ w' = w.alloc (.cells #[.pointer (some ⟨sq, 0, none⟩)] 43) := by
  refine callsIn_of_wp Tryz.func34 rfl trivial ?_ rfl
  simp only [Tryz.ntmps34, List.size_toArray, List.length_cons, List.length_nil, Nat.reduceAdd, Nat.reduceSub, Array.replicate_succ, Array.replicate_zero, List.push_toArray, List.append_toArray, List.nil_append, List.cons_append]
  gi_wp2
  go_ret
  exact ⟨rfl, rfl⟩
theorem kept_put {w : World} {l : Nat} {o o' : Obj} (hl : w.heap[l]? = some o) (ho : o.isCells = false) (ho' : o'.isCells = false) : Kept w (w.putObj l o') := by
  have hlt : l < w.heap.size := (Array.getElem?_eq_some_iff.1 hl).1
  have hnew : (w.putObj l o').heap[l]? = some o' := World.putObj_heap_same hlt
  have hoth : ∀ k, k ≠ l → (w.putObj l o').heap[k]? = w.heap[k]? := fun k hk => World.putObj_heap_other (fun e => hk (by first | exact e | exact e.symm))
  refine ⟨by simp, fun k j v hv => ?_, fun k j hk => ?_⟩
  · by_cases e : k = l
    · subst e
      obtain ⟨o2, h1, h2⟩ := cells_of_cell hv
      rw [hl] at h1; cases h1; rw [ho] at h2; cases h2
    · exact (cell_block (hoth k e)).trans hv
  · by_cases e : k = l
    · subst e
      unfold World.frozen?
      simp only [hl, hnew]
      cases o <;> cases o' <;> first | rfl | (simp [Obj.isCells] at ho ho')
    · exact frozen_block (hoth k e)
theorem append_new {w : World} (t e : TypeId) (zv : Value) (sz by_ : Nat) (hinfo : (Tryz.prog.info? e).map (fun i => (i.zero, i.size, i.bytes)) = some (some zv, sz, by_)) (hzc : zv.cells.size = sz) (hsz : 0 < sz) (hu : Tryz.prog.underlying t = some (.slice e)) (hby : by_ ≤ 64)
    {ra : Option Addr} {rc n : Nat} {l : List Value} (hR : RowAt sz w ra rc n l) (cs : List Value) (hcs : cs.length = sz) (hv : ∀ u ∈ cs, u.oneCell' = true) (hn : n < 2000000000) (ty : TypeId) (vt : TypeId) :
    ∃ ra' rc' w', (Builtin.append_ #[t, t] ty #[.slice ra n rc, .slice (some ⟨w.heap.size, 0, none⟩) 1 1]).run Tryz.prog (w.alloc (.cells cs.toArray vt)) = .ok (.slice ra' (n + 1) rc') w' ∧ RowAt sz w' ra' rc' (n + 1) (l ++ cs) ∧ Chg (rowT ra) w w' ∧ Moved w ra ra' := by
  obtain ⟨i, hi, hz, hs, hb⟩ := info_parts hinfo
  have hbl : Below w.heap.size w (w.alloc (.cells cs.toArray vt)) := (Below.refl _ _).alloc (Nat.le_refl _) _
  obtain ⟨ra', rc', w', h1, h2, h3, h4⟩ := append_row (P := Tryz.prog) (w.alloc (.cells cs.toArray vt)) t ty e i zv sz by_ hu hi hz hs hb hzc hsz ra rc n l (hR.below hbl) w.heap.size 0 1 1 (by omega) cs (by rw [hcs, Nat.one_mul]) (fun j u hj => by
    rw [World.cell?_alloc_at _ _ _ _ rfl, Nat.zero_add]
    simpa using hj) hv (by unfold maxLen; omega) (by
      have : (n + 1) * by_ ≤ (n + 1) * 64 := Nat.mul_le_mul_left _ hby
      omega)
  refine ⟨ra', rc', w', h1, h2, (Chg.of_below hbl).trans h3, ?_⟩
  rcases h4 with h4 | ⟨rb, e1, e2⟩
  · exact .inl h4
  · exact .inr ⟨rb, e1, by have : (w.alloc (.cells cs.toArray vt)).heap.size = w.heap.size + 1 := by simp
                           omega⟩
theorem info_tok : (Tryz.prog.info? 33).map (fun i => (i.zero, i.size, i.bytes)) = some (some (.agg #[.int .i64 0, .int .i64 0, .int .i64 0, .int .i64 0, .string ⟨#[]⟩]), 5, 48) := by kernel_rfl
abbrev allW (w : World) (sq most : Nat) : World := ((((w.alloc (.cells #[.int .i64 most] 3)).alloc (.cells #[.slice none 0 0] 29)).alloc (.cells #[.nilIface] 45)).alloc (.cells #[.slice none 0 0] 29)).alloc (.cells #[.pointer (some ⟨sq, 0, none⟩)] 43)
theorem AC.gather {c : AC} (hc : c.Ok) {k : Nat} {L : Sg.Live} {F : Nat → Prop} {ra ra2 : Option Addr} {rc rc2 : Nat} {t : Sg.Tok} {W W2 : World} (e2 : c.ts.drop k = t :: c.ts.drop (k + 1)) (hst : c.St (k + 1) L F W) (hout : c.Out k F ra rc W)
    (hrow : RowAt 5 W2 ra2 rc2 (k + 1) ((c.ts.take k).flatMap tokCells ++ tokCells t)) (hch : Chg (rowT ra) W W2) (hmv : Moved W ra ra2) :
    c.I ((c.ts.take k).map .ok ++ [.ok t]) (W2.setCell ⟨c.ob, 0, none⟩ (.slice ra2 (k + 1) rc2)) ∧ KeepsOthers W (W2.setCell ⟨c.ob, 0, none⟩ (.slice ra2 (k + 1) rc2)) ∧ W2.cell? ⟨c.ob, 0, none⟩ = some (.slice ra k rc) ∧ W2.frozen? ⟨c.ob, 0, none⟩ = false := by
  have hob := hc.lob
  have hsz := hout.chg.size
  have hsz2 := hch.size
  have hnr : ∀ i o, ra = some ⟨i, o, none⟩ → i ≠ c.ob := fun i o e => by have := (hout.nf i o e).2; omega
  have hnr2 : ∀ i o, ra2 = some ⟨i, o, none⟩ → i ≠ c.ob ∧ c.w0.heap.size ≤ i ∧ ¬ F i := fun i o e => by
    rcases hmv with h | ⟨rb, h1, h2⟩
    · rw [h] at e
      exact ⟨hnr i o e, (hout.nf i o e).2, (hout.nf i o e).1⟩
    · rw [h1] at e; cases e
      exact ⟨by omega, by omega, fun t => by have := (hst.scan.lt _ t).2; omega⟩
  have hcell : W2.cell? ⟨c.ob, 0, none⟩ = some (.slice ra k rc) := (hch.cell _ _ (by omega) (fun ⟨o, e⟩ => hnr _ o e rfl)).trans hout.cell
  have hfree : W2.frozen? ⟨c.ob, 0, none⟩ = false := (hch.frz _ _ (by omega)).trans hout.free
  have hset : Chg (fun i _ => i = c.ob) W2 (W2.setCell ⟨c.ob, 0, none⟩ (.slice ra2 (k + 1) rc2)) := Chg.setCell1 (T := fun i _ => i = c.ob) rfl _
  have hall : Chg (fun i _ => (∃ o, ra = some ⟨i, o, none⟩) ∨ i = c.ob) W (W2.setCell ⟨c.ob, 0, none⟩ (.slice ra2 (k + 1) rc2)) :=
    (hch.mono (fun i j _ t => .inl t)).trans_new hset (fun i j _ t => .inr t)
  have hobF : ¬ F c.ob := fun t => hc.nob (hst.fp _ hob t)
  have htk : c.ts.take (k + 1) = c.ts.take k ++ [t] := by
    have hlt : k < c.ts.length := hst.le
    have := List.drop_eq_getElem_cons hlt
    rw [this] at e2
    rw [List.take_add_one, List.getElem?_eq_getElem hlt]
    simp only [List.cons.injEq] at e2
    rw [e2.1]; rfl
  refine ⟨⟨k + 1, L, F, ra2, rc2, by rw [htk]; simp, ⟨?_, hst.fp, hst.all, hst.le⟩, ⟨?_, by rw [World.frozen?_setCell]; exact hfree, ?_, fun b o e => ⟨(hnr2 b o e).2.2, (hnr2 b o e).2.1⟩, ?_⟩⟩, (hch.others.trans (KeepsOthers.setCell _ _ _)), hcell, hfree⟩
  · refine hst.scan.chg hc.hm hall (fun i o t => ?_)
    rcases t with ⟨o2, e⟩ | rfl
    · have := hc.nn
      exact ⟨by have := (hout.nf i o2 e).2; omega, (hout.nf i o2 e).1⟩
    · exact ⟨hc.nn, hobF⟩
  · exact World.cell?_setCell_same _ _ _ hcell
  · rw [htk, List.flatMap_append]
    have : [t].flatMap tokCells = tokCells t := by simp
    rw [this]
    exact hrow.of hset (fun rb ro j e t => (hnr2 rb ro e).1 t)
  · refine hout.chg.trans_new hall (fun i j hi t => ?_)
    rcases t with ⟨o2, e⟩ | rfl
    · have := (hout.nf i o2 e).2; omega
    · exact .inr rfl
theorem AC.tell {c : AC} (hc : c.Ok) {ra : Option Addr} {rc : Nat} {W : World} (hout : c.Out c.ts.length (fun _ => False) ra rc W) (h14 : W.cell? ⟨c.sq, 14, none⟩ = some (errV (some c.e0))) (h4 : c.r4 < c.w0.heap.size) (h5 : c.r5 < c.w0.heap.size) (n1 : c.r4 ≠ c.r5) (n2 : c.sq ≠ c.r4) (n3 : c.sq ≠ c.r5) {v4 v5 : Value} (k4 : W.cell? ⟨c.r4, 0, none⟩ = some v4) (k5 : W.cell? ⟨c.r5, 0, none⟩ = some v5) :
    c.Ix .ret (c.ts.map .ok ++ [.error c.e0]) ((W.setCell ⟨c.r4, 0, none⟩ (.slice ra c.ts.length rc)).setCell ⟨c.r5, 0, none⟩ (errV (some c.e0))) ∧ KeepsOthers W ((W.setCell ⟨c.r4, 0, none⟩ (.slice ra c.ts.length rc)).setCell ⟨c.r5, 0, none⟩ (errV (some c.e0))) := by
  have hall : Chg (fun i _ => i = c.r4 ∨ i = c.r5) W ((W.setCell ⟨c.r4, 0, none⟩ (.slice ra c.ts.length rc)).setCell ⟨c.r5, 0, none⟩ (errV (some c.e0))) := ((Chg.refl _ _).setCell (T := fun i _ => i = c.r4 ∨ i = c.r5) (.inl rfl) _).setCell (.inr rfl) _
  refine ⟨⟨rfl, rfl, ra, rc, ?_, ?_, ⟨?_, fun b o e => (hout.nf b o e).2⟩, ?_, ?_⟩, hall.others⟩
  · rw [World.cell?_setCell_other _ _ _ _ (fun e => n1 (congrArg Addr.block e).symm)]
    exact World.cell?_setCell_same _ _ _ k4
  · exact World.cell?_setCell_same (u := v5) _ _ _ (by rw [World.cell?_setCell_other _ _ _ _ (fun e => n1 (congrArg Addr.block e))]; exact k5)
  · have := hout.row
    rw [List.take_length] at this
    exact this.of hall (fun rb ro j e t => by have := (hout.nf rb ro e).2; omega)
  · exact (hall.cell _ _ (cell_lt h14) (fun t => by omega)).trans h14
  · refine (hout.chg.mono (fun i j _ t => ?_)).trans_new hall (fun i j _ t => ?_)
    · rcases t with t | t
      · exact .inl t
      · exact .inr (.inl t)
    · exact .inr (.inr t)
def valY : Except Int Sg.Tok → Value
  | .ok t => .agg #[.int .i64 t.rule, .int .i64 t.at_, .int .i64 t.line, .int .i64 t.col, .string ⟨t.text.toArray⟩]
  | .error _ => .agg #[.int .i64 0, .int .i64 0, .int .i64 0, .int .i64 0, .string ⟨#[]⟩]
def errY : Except Int Sg.Tok → Value
  | .ok _ => .nilIface
  | .error e => .iface 50 (.int .i64 e)
def cellsY : Except Int Sg.Tok → List Value
  | .ok t => [.int .i64 t.rule, .int .i64 t.at_, .int .i64 t.line, .int .i64 t.col, .string ⟨t.text.toArray⟩]
  | .error _ => [.int .i64 0, .int .i64 0, .int .i64 0, .int .i64 0, .string ⟨#[]⟩]
def aZ (w : World) (sq most vb : Nat) (x : Except Int Sg.Tok) : Act :=
  { tmps := #[.pointer (some ⟨sq, 0, none⟩), .int .i64 most, undef, .pointer (some ⟨w.heap.size, 0, none⟩), .pointer (some ⟨w.heap.size + 1, 0, none⟩), .pointer (some ⟨w.heap.size + 1 + 1, 0, none⟩), .pointer (some ⟨w.heap.size + 1 + 1 + 1, 0, none⟩), .pointer (some ⟨vb, 0, none⟩), errY x, .int .i64 most, .bool (decide ((most : Int) < 1)), undef, .pointer (some ⟨sq, 0, none⟩), .func (.func 56) #[] #[.pointer (some ⟨w.heap.size + 1 + 1 + 1 + 1, 0, none⟩)], valY x, errY x, undef, undef, undef, undef, undef, undef, undef, undef, undef, undef, undef, undef, undef], defers := [] }
def allIz (c : AC) (w : World) (x : List (Except Int Sg.Tok) × Except Int Sg.Tok × Act) (W : World) : Prop :=
  c.Iy (x.1, x.2.1) W ∧ ∃ vb, x.2.2 = aZ w c.sq c.most vb x.2.1 ∧ ∀ j v, (cellsY x.2.1)[j]? = some v → W.cell? ⟨vb, j, none⟩ = some v
theorem allIz_own {c : AC} (hc : c.Ok) (w : World) : OwnSt c.w0.heap.size (allIz c w) :=
  ⟨fun _ W o ⟨h, vb, e, hv⟩ _ => ⟨AC.Iy_kept hc h (Kept.alloc W o) (fun g => g.alloc o), vb, e, fun j v hj => (Kept.alloc W o).cell _ _ _ (hv j v hj)⟩,
   fun _ W l r r' ⟨h, vb, e, hv⟩ hB hl => ⟨AC.Iy_kept hc h (Kept.loop hl) (fun g => g.loop hB _), vb, e, fun j v hj => (Kept.loop hl).cell _ _ _ (hv j v hj)⟩⟩
theorem newCell (w : World) (v : Value) (t : TypeId) (b : Nat) (hb : b = w.heap.size) : (w.alloc (.cells #[v] t)).cell? ⟨b, 0, none⟩ = some v := by
  subst hb
  rw [World.cell?_alloc_at _ _ _ _ rfl]; rfl
theorem oldCell {w : World} {b j : Nat} {v : Value} (o : Obj) (h : w.cell? ⟨b, j, none⟩ = some v) : (w.alloc o).cell? ⟨b, j, none⟩ = some v := (Kept.alloc w o).cell _ _ _ h
theorem allW_below (w : World) (sq most : Nat) : Below w.heap.size w (allW w sq most) :=
  ((((((Below.refl _ _).alloc (Nat.le_refl _) _).alloc (by simp) _).alloc (by simp; omega) _).alloc (by simp; omega) _).alloc (by simp; omega) _)
theorem allW_size (w : World) (sq most : Nat) : (allW w sq most).heap.size = w.heap.size + 5 := by simp
theorem allW_cells (w : World) (sq most : Nat) : (allW w sq most).cell? ⟨w.heap.size, 0, none⟩ = some (.int .i64 most) ∧ (allW w sq most).cell? ⟨w.heap.size + 1, 0, none⟩ = some (.slice none 0 0) ∧ (allW w sq most).cell? ⟨w.heap.size + 1 + 1, 0, none⟩ = some .nilIface ∧ (allW w sq most).cell? ⟨w.heap.size + 1 + 1 + 1, 0, none⟩ = some (.slice none 0 0) ∧ (allW w sq most).cell? ⟨w.heap.size + 1 + 1 + 1 + 1, 0, none⟩ = some (.pointer (some ⟨sq, 0, none⟩)) :=
  ⟨oldCell _ (oldCell _ (oldCell _ (oldCell _ (newCell _ _ _ _ rfl)))), oldCell _ (oldCell _ (oldCell _ (newCell _ _ _ _ (by simp)))), oldCell _ (oldCell _ (newCell _ _ _ _ (by simp))), oldCell _ (newCell _ _ _ _ (by simp)), newCell _ _ _ _ (by simp)⟩
theorem newFree (w : World) (v : Value) (t : TypeId) (b : Nat) (hb : b = w.heap.size) : (w.alloc (.cells #[v] t)).frozen? ⟨b, 0, none⟩ = false := by
  subst hb
  exact World.frozen?_alloc_at _ _ _ _ rfl
theorem oldFree {w : World} {b j : Nat} (o : Obj) (hb : b < w.heap.size) (h : w.frozen? ⟨b, j, none⟩ = false) : (w.alloc o).frozen? ⟨b, j, none⟩ = false := ((Kept.alloc w o).frz _ _ hb).trans h
theorem allW_free (w : World) (sq most : Nat) : (allW w sq most).frozen? ⟨w.heap.size + 1, 0, none⟩ = false ∧ (allW w sq most).frozen? ⟨w.heap.size + 1 + 1, 0, none⟩ = false ∧ (allW w sq most).frozen? ⟨w.heap.size + 1 + 1 + 1, 0, none⟩ = false :=
  ⟨oldFree _ (by simp) (oldFree _ (by simp) (oldFree _ (by simp) (newFree _ _ _ _ (by simp)))), oldFree _ (by simp) (oldFree _ (by simp) (newFree _ _ _ _ (by simp))), oldFree _ (by simp) (newFree _ _ _ _ (by simp))⟩
theorem Sg.allT_lt (m : Sg.Mach) (e0 : Int) : ∀ (n : Nat) (L : Sg.Live) (ts : List Sg.Tok), Sg.allT m n L = (ts, some e0) → ts.length < n
  | 0, L, ts, h => by simp [Sg.allT] at h
  | n + 1, L, ts, h => by
    unfold Sg.allT at h
    split at h
    · rename_i t L' _
      simp only [Prod.mk.injEq] at h
      rw [← h.1]
      have := Sg.allT_lt m e0 n L' (Sg.allT m n L').1 (by rw [← h.2])
      simp only [List.length_cons]; omega
    · simp only [Prod.mk.injEq] at h; rw [← h.1]; simp
    · simp only [Prod.mk.injEq] at h; rw [← h.1]; simp
theorem all_any (m : Sg.Mach) (hm : m.Ok) (sq bm nn : Nat) (L : Sg.Live) (F : Nat → Prop) (B : Int) (w : World) (h : ScanAt w sq bm nn m L F B) (hB0 : 0 ≤ B) (hB : B < 500000000000) (most : Nat) (h1 : 1 ≤ most) (hM : most ≤ 3000) (ts : List Sg.Tok) (e0 : Int) (hT : Sg.allT m most L = (ts, some e0)) :
    Calls Tryz.prog 23 #[.pointer (some ⟨sq, 0, none⟩), .int .i64 most] w fun en w' => ∃ ra rc, en = .returned (.tuple #[.slice ra ts.length rc, errV (some e0)]) ∧ RowAt 5 w' ra rc ts.length (ts.flatMap tokCells) ∧ NewRow w ra ∧ w'.cell? ⟨sq, 14, none⟩ = some (errV (some e0)) ∧ Chg (fun i _ => F i) w w' := by
  have hdd : ∀ k : Nat, (Fence.wide.depth.isSome = true → 1 ≤ k) := fun k h => by cases h
  refine (callsIn_wide (n := 5)).1 ?_
  refine callsIn_of_wp_marks Tryz.func23 rfl trivial ?_ rfl
  simp only [Tryz.ntmps23, List.size_toArray, List.length_cons, List.length_nil, Nat.reduceAdd, Nat.reduceSub, Array.replicate_succ, Array.replicate_zero, List.push_toArray, List.append_toArray, List.nil_append, List.cons_append]
  gi_wp2_with (refine ⟨trivial, ?_⟩; gi_at_call 34; refine (tokens_in _ sq _).mono ?_; rintro e w' ⟨rfl, rfl⟩)
  have hsz := allW_size w sq most
  have hbl := allW_below w sq most
  obtain ⟨k0, k1, k2, k3, k4⟩ := allW_cells w sq most
  obtain ⟨f1, f2, f3⟩ := allW_free w sq most
  have hFlt := h.lt
  have hnn := h.nn
  have hlts := Sg.allT_lt m e0 _ _ _ hT
  obtain ⟨c, hcd⟩ : ∃ c : AC, c = ⟨sq, bm, nn, m, ts, e0, most, F, B, w.heap.size + 1 + 1 + 1, w.heap.size + 1 + 1 + 1 + 1, w.heap.size + 1, w.heap.size + 1 + 1, allW w sq most⟩ := ⟨_, rfl⟩
  have n3 : ¬ F (w.heap.size + 1 + 1 + 1) := fun t => by have := (hFlt _ t).2; omega
  have n4 : ¬ F (w.heap.size + 1 + 1 + 1 + 1) := fun t => by have := (hFlt _ t).2; omega
  have hc : c.Ok := by
    rw [hcd]
    exact ⟨hm, hB0, hB, hlts, hM, n3, n4, by rw [hsz]; show _ + 1 + 1 + 1 < _; omega, by rw [hsz]; show _ + 1 + 1 + 1 + 1 < _; omega, by show nn ≤ w.heap.size + 1 + 1 + 1; omega, by show w.heap.size + 1 + 1 + 1 + 1 ≠ w.heap.size + 1 + 1 + 1; omega, k4⟩
  have hI0 : c.I [] (allW w sq most) := by
    rw [hcd]
    refine ⟨0, L, F, none, 0, rfl, ⟨?_, fun i _ t => t, hT, Nat.zero_le _⟩, ⟨k3, f3, RowAt.nil 5 _, (fun b o e => by cases e), Chg.refl _ _⟩⟩
    have := h.kept hm (Kept.of_below hbl)
    simpa using this
  have e4 : c.r4 = w.heap.size + 1 := by rw [hcd]
  have e5 : c.r5 = w.heap.size + 1 + 1 := by rw [hcd]
  have eo : c.ob = w.heap.size + 1 + 1 + 1 := by rw [hcd]
  have et : c.tb = w.heap.size + 1 + 1 + 1 + 1 := by rw [hcd]
  have es : c.sq = sq := by rw [hcd]
  have em : c.most = most := by rw [hcd]
  have ew : c.w0 = allW w sq most := by rw [hcd]
  have eF : c.F0 = F := by rw [hcd]
  have ets : c.ts = ts := by rw [hcd]
  have ee : c.e0 = e0 := by rw [hcd]
  clear hcd
  have hIown := AC.I_own hc
  have hIyown := AC.Iy_own hc
  have hIxown := fun code => AC.Ix_own (c := c) code
  have hIzown := allIz_own hc w
  rw [ew] at hIown hIyown hIxown hIzown
  refine wpIn_rangeFunc_st2 (α := Except Int Sg.Tok) rfl (by omega) (gf := 56) (lb := #[.pointer (some ⟨w.heap.size + 1 + 1 + 1 + 1, 0, none⟩)]) rfl trivial (enters_of Tryz.func56 (by kernel_rfl) rfl) (encs := encY) (S := fun _ => False) (Sp := fun _ => True) (fun x => by cases x <;> rfl) c.I c.Iy c.Ix (allIz c w) hIzown hIown hIyown hIxown hI0 ?seq ?assign ?body ?done ?stop
  case seq =>
    intro l D ready dn hY W hI hR
    have := tokens1_in c hc (5 - 1) l D ready dn hY W hI hR
    rw [et] at this
    refine this.mono ?_
    rintro e W' ⟨hv, pre, code, h1, h2⟩
    exact ⟨hv, .inr ⟨pre, code, trivial, h1, h2⟩⟩
  case done => exact fun _ _ _ _ hS => hS.elim
  case assign =>
    intro l pre x W hy
    cases x with
    | ok t =>
      simp only [encY, tokV, strV, errV]
      gi_wp2
      refine ⟨(KeepsOthers.alloc _ _).from _, AC.Iy_kept hc hy (Kept.alloc W _) (fun g => g.alloc _), W.heap.size, ?_, ?_⟩
      · rw [es, em]; rfl
      · intro j v hj
        rw [World.cell?_alloc_at _ _ _ _ rfl]
        simpa [cellsY] using hj
    | error e =>
      simp only [encY, tok0, errV]
      gi_wp2
      refine ⟨(KeepsOthers.alloc _ _).from _, AC.Iy_kept hc hy (Kept.alloc W _) (fun g => g.alloc _), W.heap.size, ?_, ?_⟩
      · rw [es, em]; rfl
      · intro j v hj
        rw [World.cell?_alloc_at _ _ _ _ rfl]
        simpa [cellsY] using hj
  case body =>
    rintro l pre x a' W ⟨hy, vb, ea, hcs⟩
    dsimp only at hy ea hcs
    subst ea
    rcases hy with ⟨k, L2, F2, ra, rc, t, e1, e2, hst, hout⟩ | ⟨ra, rc, e1, hout, h14⟩
    · simp only [Prod.mk.injEq] at e1
      obtain ⟨rfl, rfl⟩ := e1
      have hlt := hst.le
      have c0 := hcs 0 _ rfl
      have c1 := hcs 1 _ rfl
      have c2 := hcs 2 _ rfl
      have c3 := hcs 3 _ rfl
      have c4 := hcs 4 _ rfl
      have ho := hout.cell
      rw [eo] at ho
      obtain ⟨ra2, rc2, W2, hrun, hrow, hch, hmv⟩ := append_new (w := W) 29 33 _ 5 48 info_tok rfl (by omega) Tryz.underlying29 (by omega) hout.row (tokCells t) rfl (fun u hu => by
        simp only [tokCells, List.mem_cons, List.not_mem_nil, or_false] at hu
        rcases hu with rfl | rfl | rfl | rfl | rfl <;> rfl) (by have := hc.le; have := hc.lt; omega) 29 33
      obtain ⟨g1, g2, g3, g4⟩ := AC.gather hc e2 hst hout hrow hch hmv
      rw [eo] at g1 g2 g3 g4
      have hk0 : (W2.setCell ⟨w.heap.size + 1 + 1 + 1, 0, none⟩ (.slice ra2 (k + 1) rc2)).cell? ⟨w.heap.size, 0, none⟩ = some (.int .i64 most) := by
        obtain ⟨k', L', F', ra', rc', _, hst', hout'⟩ := g1
        rw [hout'.chg.cell _ _ (by rw [ew, hsz]; omega) (fun t => by rcases t with t | t; (rw [eF] at t; have := (hFlt _ t).2; omega); (rw [eo] at t; omega)), ew]
        exact k0
      have G1 := hide2 g1
      have G2 := hide2 g2
      have hne : ((k : Int) + 1 == (most : Int)) = false := beq_eq_false_iff_ne.2 (by rw [ets] at hlt; omega)
      have hne2 : ¬ ((k : Int) + 1 = (most : Int)) := by rw [ets] at hlt; omega
      simp only [tokCells, strV] at hrun
      have Hrun := hide2 hrun
      clear hrow hch hmv hrun hst hout hcs e2 g1 g2 hI0
      simp only [aZ, errY, valY]
      gi_wp2_with (gi_at_builtin; refine wpListIn_append_run rfl _ _ _ _ rfl _ _ _ rfl rfl Hrun.out ?_)
      exact ⟨G2.out.from _, G1.out⟩
    · simp only [Prod.mk.injEq] at e1
      obtain ⟨rfl, rfl⟩ := e1
      have ho := hout.cell
      rw [eo] at ho
      have q1 : W.cell? ⟨w.heap.size + 1, 0, none⟩ = some (.slice none 0 0) := by
        rw [hout.chg.cell _ _ (by rw [ew, hsz]; omega) (fun t => by rcases t with t | t; (rw [eF] at t; have := (hFlt _ t).2; omega); (rw [eo] at t; omega)), ew]
        exact k1
      have q2 : W.cell? ⟨w.heap.size + 1 + 1, 0, none⟩ = some .nilIface := by
        rw [hout.chg.cell _ _ (by rw [ew, hsz]; omega) (fun t => by rcases t with t | t; (rw [eF] at t; have := (hFlt _ t).2; omega); (rw [eo] at t; omega)), ew]
        exact k2
      have q3 : W.frozen? ⟨w.heap.size + 1, 0, none⟩ = false := by
        rw [hout.chg.frz _ _ (by rw [ew, hsz]; omega), ew]; exact f1
      have q4 : W.frozen? ⟨w.heap.size + 1 + 1, 0, none⟩ = false := by
        rw [hout.chg.frz _ _ (by rw [ew, hsz]; omega), ew]; exact f2
      have hsq : c.sq < w.heap.size := by rw [es]; exact (hFlt _ h.self).2
      obtain ⟨g1, g2⟩ := AC.tell hc hout h14 (by rw [ew, hsz, e4]; omega) (by rw [ew, hsz, e5]; omega) (by rw [e4, e5]; omega) (by rw [e4]; omega) (by rw [e5]; omega) (by rw [e4]; exact q1) (by rw [e5]; exact q2)
      rw [e4, e5] at g1 g2
      simp only [errV] at g1 g2
      have G1 := hide2 g1
      have G2 := hide2 g2
      clear hout h14 hcs g1 g2 hI0
      simp only [aZ, errY, valY]
      gi_wp2
      rw [← ets, ← ee]
      exact ⟨G2.out.from _, G1.out⟩
  case stop =>
    rintro D code pre W hD _ hIx hK
    obtain ⟨rfl, _, ra, rc, r1, r2, ⟨r3, r4⟩, r5, r6⟩ := hIx
    rw [e4] at r1
    rw [e5] at r2
    rw [es] at r5
    rw [ets] at r1 r3
    rw [ee] at r2 r5
    rw [ew, eF, eo, e4, e5] at r6
    rw [ew] at r4
    have hkp := kept_put (o' := .deferred none) hK rfl rfl
    have hfin : RowAt 5 (W.putObj D (.deferred none)) ra rc ts.length (ts.flatMap tokCells) ∧ NewRow w ra ∧ (W.putObj D (.deferred none)).cell? ⟨sq, 14, none⟩ = some (errV (some e0)) ∧ Chg (fun i _ => F i) w (W.putObj D (.deferred none)) := by
      refine ⟨r3.kept hkp, fun b o e => by have := r4 b o e; omega, hkp.cell _ _ _ r5, ?_⟩
      have hD' : (allW w sq most).heap.size ≤ D := hD
      refine (Chg.of_below hbl).trans_new (r6.loop hD' _) (fun i j hi t => ?_)
      rcases t with t | t | t | t
      · exact t
      · omega
      · omega
      · omega
    have w1 : (W.putObj D (.deferred none)).cell? ⟨w.heap.size + 1, 0, none⟩ = some (.slice ra ts.length rc) := hkp.cell _ _ _ r1
    have w2 : (W.putObj D (.deferred none)).cell? ⟨w.heap.size + 1 + 1, 0, none⟩ = some (errV (some e0)) := hkp.cell _ _ _ r2
    have HF := hide2 hfin
    clear hfin r3 r4 r5 r6 hI0
    gi_wp2
    refine ⟨by simp, .inl ⟨_, _, rfl, run_takeDeferred hK, ?_⟩⟩
    refine ⟨.tuple #[.slice ra ts.length rc, errV (some e0)], by simp [results, Tryz.results23, go_sem, w1, w2], ?_⟩
    exact ⟨ra, rc, rfl, HF.out⟩
end Go.Proofs.YtlhokghgicgppaaGreatDoor
