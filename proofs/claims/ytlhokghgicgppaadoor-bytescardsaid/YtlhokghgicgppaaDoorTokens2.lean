/- The iterator that Tokens gives: its walk. -/
import Derived.Test.YtlhokghgicgppaaDoorTokens
set_option linter.unusedSimpArgs false
set_option linter.unusedVariables false
namespace Go.Proofs.YtlhokghgicgppaaDoor
open Go.RowKit Go.Extern

attribute [local go_sem] Oper.semAt_some

/-- The world once the token lies in a block of its own. -/
abbrev tokW (w : World) (v0 v1 v2 v3 v4 : Value) : World := w.alloc (.cells #[v0, v1, v2, v3, v4] tyTok)
theorem tokW_below (w : World) (v0 v1 v2 v3 v4 : Value) : Below w.heap.size w (tokW w v0 v1 v2 v3 v4) := (Below.refl _ _).alloc (Nat.le_refl _) _
theorem keepsOthers_below {w w' : World} (h : Below w.heap.size w w') : KeepsOthers w w' := (Chg.of_below (T := fun _ _ => False) h).others

set_option maxRecDepth 100000 in
set_option maxHeartbeats 2000000 in
theorem tokens1_in (c : AC) (hc : c.Ok) (n l D : Nat) (ready : Loop) (dn : Code → Loop)
    (hY : ∀ (pre : List (Except Int Sg.Tok)) (x : Except Int Sg.Tok) (W : World), c.Iy (pre, x) W → RecAt l D ready W → YieldAt Fence.wide (n - 1) Tryd.prog l (encY x) W fun e W' =>
      (e = .returned (.bool true) ∧ c.I (pre ++ [x]) W' ∧ RecAt l D ready W') ∨ (e = .returned (.bool false) ∧ ∃ code, c.Ix code (pre ++ [x]) W' ∧ RecAt l D (dn code) W'))
    (W : World) (hI : c.I [] W) (hR : RecAt l D ready W) :
    CallsIn Fence.wide n Tryd.prog 40 (#[.func (.yield l) #[] #[]] ++ #[.pointer (some ⟨c.tb, 0, none⟩)]) W fun e W' => (∃ v, e = .returned v) ∧ ∃ pre code, c.Ix code pre W' ∧ RecAt l D (dn code) W' := by
  have hdd : ∀ k : Nat, (Fence.wide.depth.isSome = true → 1 ≤ k) := fun k h => by cases h
  refine callsIn_of_wp Tryd.func40 rfl trivial ?_ rfl
  simp only [Tryd.ntmps40, List.size_toArray, List.length_cons, List.length_nil, Nat.reduceAdd, Nat.reduceSub, Array.replicate_succ, Array.replicate_zero, List.push_toArray, List.append_toArray, List.nil_append, List.cons_append]
  gi_wp2
  gi_loopw [] (fun wr => (∃ xs, c.I xs wr) ∧ RecAt l D ready wr) (fun wr => c.ts.length + 1 - outLen c.ob wr)
  case atStart => exact ⟨⟨_, hI⟩, hR⟩
  case round =>
    obtain ⟨⟨xs, k, L, F, ra, rc, rfl, hst, hout⟩, hrec⟩ := hrel
    have hbox : wr.cell? ⟨c.tb, 0, none⟩ = some (.pointer (some ⟨c.sq, 0, none⟩)) := (hout.chg.cell _ _ hc.ltb (fun t => by rcases t with t | t; exact hc.ntb t; exact hc.ne t)).trans hc.box
    have hk3 := hst.le
    have hnx := scan_next c.m hc.hm c.sq c.bm c.nn L F (c.B0 + k * 100001) wr hst.scan (by have := hc.lt; have := hc.le; have := hc.b1; omega)
    have hlen := hout.len
    rcases hst.step hc with ⟨t, L', e1, e2, e3, hkl⟩ | ⟨⟨s, e1⟩, hkl⟩
    · rw [e1] at hnx
      have HN : Hid (CallsIn Fence.wide (n - 1) Tryd.prog 13 #[.pointer (some ⟨c.sq, 0, none⟩)] wr fun en w1 => en = .returned (.tuple #[.agg #[.int .i64 t.rule, .int .i64 t.at_, .int .i64 t.line, .int .i64 t.col, .string ⟨t.text.toArray⟩], .nilIface]) ∧
          ∃ fn tmps assign body, (Instr.yield l #[.agg #[.int .i64 t.rule, .int .i64 t.at_, .int .i64 t.line, .int .i64 t.col, .string ⟨t.text.toArray⟩], .nilIface]).run Tryd.prog (tokW w1 (.int .i64 t.rule) (.int .i64 t.at_) (.int .i64 t.line) (.int .i64 t.col) (.string ⟨t.text.toArray⟩)) = .ok (.round l fn tmps assign body) (tokW w1 (.int .i64 t.rule) (.int .i64 t.at_) (.int .i64 t.line) (.int .i64 t.col) (.string ⟨t.text.toArray⟩)) ∧
            RoundIn Fence.wide (n - 1) Tryd.prog l fn tmps assign body (tokW w1 (.int .i64 t.rule) (.int .i64 t.at_) (.int .i64 t.line) (.int .i64 t.col) (.string ⟨t.text.toArray⟩)) fun e W' => e = .returned (.bool true) ∧ (∃ xs, c.I xs W') ∧ outLen c.ob W' = k + 1 ∧ RecAt l D ready W') := by
        show CallsIn _ _ _ _ _ _ _
        refine callsIn_wide.2 (hnx.mono ?_)
        rintro en w1 ⟨hch, rfl, F', hsc, hfp⟩
        refine ⟨rfl, ?_⟩
        have hnF' : ∀ i, i < wr.heap.size → ¬ F i → ¬ F' i := fun i hi hn ht => hn (hfp i hi ht)
        have hobw := cell_lt hout.cell
        have hobF : ¬ F c.ob := fun ht => hc.nob (hst.fp _ hc.lob ht)
        have hout1 : c.Out k F' ra rc w1 :=
          ⟨(hch.cell _ _ hobw hobF).trans hout.cell, (hch.frz _ _ hobw).trans hout.free, hout.row.of hch (fun b o j e ht => (hout.nf b o e).1 ht), fun b o e => ⟨hnF' b (hout.row.lt e) (hout.nf b o e).1, (hout.nf b o e).2⟩, hout.chg.trans_new hch (fun i _ hi ht => .inl (hst.fp i hi ht))⟩
        have hst1 : c.St (k + 1) L' F' w1 := by
          refine ⟨?_, fun i hi ht => hst.fp i hi (hfp i (Nat.lt_of_lt_of_le hi hout.chg.size) ht), e3, hkl⟩
          have : c.B0 + (k + 1 : Nat) * 100001 = c.B0 + k * 100001 + 100001 := by omega
          rw [this]; exact hsc
        have hIy : c.Iy ((c.ts.take k).map .ok, .ok t) w1 := .inl ⟨k, L', F', ra, rc, t, rfl, e2, hst1, hout1⟩
        have hb := tokW_below w1 (.int .i64 t.rule) (.int .i64 t.at_) (.int .i64 t.line) (.int .i64 t.col) (.string ⟨t.text.toArray⟩)
        obtain ⟨fn, tmps, assign, body, g1, g2⟩ := hY _ _ _ (AC.Iy_below hc hIy hb) (hrec.keep (hch.others.trans (keepsOthers_below hb)))
        refine ⟨fn, tmps, assign, body, g1, g2.mono ?_⟩
        rintro e W' (⟨h1, h2, h3⟩ | ⟨_, code, h2, _⟩)
        · refine ⟨h1, ⟨_, h2⟩, ?_, h3⟩
          obtain ⟨k2, L2, F2, ra2, rc2, x1, x2, x3⟩ := h2
          have := congrArg List.length x1
          simp only [List.length_append, List.length_map, List.length_take, List.length_cons, List.length_nil] at this
          have hk2 := x2.le
          rw [x3.len]; omega
        · exfalso
          have := congrArg List.getLast? h2.2.1
          simp at this
      clear hnx hst hout hrec e2 e3
      gi_wp2_with (refine ⟨trivial, hdd _, ?_⟩; gi_at_call 13; refine HN.out.mono ?_; rintro en w1 ⟨rfl, fn, tmps, assign, body, hy, hR1⟩)
      refine ⟨hdd _, hR1.mono ?_⟩
      rintro e W3 ⟨rfl, hI3, hl3, hr3⟩
      gi_wp2
      go_roundw
      case rel => exact ⟨hI3, hr3⟩
      case measure => omega
    · subst hkl
      have HN : Hid (CallsIn Fence.wide (n - 1) Tryd.prog 13 #[.pointer (some ⟨c.sq, 0, none⟩)] wr fun en w1 => en = .returned (.tuple #[.agg #[.int .i64 0, .int .i64 0, .int .i64 0, .int .i64 0, .string ⟨#[]⟩], .iface 27 (.int .i64 c.e0)]) ∧
          ∃ fn tmps assign body, (Instr.yield l #[.agg #[.int .i64 0, .int .i64 0, .int .i64 0, .int .i64 0, .string ⟨#[]⟩], .iface 27 (.int .i64 c.e0)]).run Tryd.prog (tokW w1 (.int .i64 0) (.int .i64 0) (.int .i64 0) (.int .i64 0) (.string ⟨#[]⟩)) = .ok (.round l fn tmps assign body) (tokW w1 (.int .i64 0) (.int .i64 0) (.int .i64 0) (.int .i64 0) (.string ⟨#[]⟩)) ∧
            RoundIn Fence.wide (n - 1) Tryd.prog l fn tmps assign body (tokW w1 (.int .i64 0) (.int .i64 0) (.int .i64 0) (.int .i64 0) (.string ⟨#[]⟩)) fun e W' => e = .returned (.bool false) ∧ ∃ pre code, c.Ix code pre W' ∧ RecAt l D (dn code) W') := by
        show CallsIn _ _ _ _ _ _ _
        refine callsIn_wide.2 (hnx.mono ?_)
        rintro en w1 ⟨hch, hp⟩
        rw [e1] at hp
        obtain ⟨e2, rfl, h14⟩ : (∃ e', s = .inr e') ∧ en = .returned (.tuple #[tok0, errV (some c.e0)]) ∧ w1.cell? ⟨c.sq, 14, none⟩ = some (errV (some c.e0)) := by
          cases s with
          | inl _ => exact hp.elim
          | inr e' => exact ⟨⟨e', rfl⟩, hp.2⟩
        refine ⟨rfl, ?_⟩
        have hobw := cell_lt hout.cell
        have hobF : ¬ F c.ob := fun ht => hc.nob (hst.fp _ hc.lob ht)
        have hout1 : c.Out c.ts.length (fun _ => False) ra rc w1 :=
          ⟨(hch.cell _ _ hobw hobF).trans hout.cell, (hch.frz _ _ hobw).trans hout.free, hout.row.of hch (fun b o j e ht => (hout.nf b o e).1 ht), fun b o e => ⟨fun t => t, (hout.nf b o e).2⟩, hout.chg.trans_new hch (fun i _ hi ht => .inl (hst.fp i hi ht))⟩
        have hIy : c.Iy ((c.ts.take c.ts.length).map .ok, .error c.e0) w1 := .inr ⟨ra, rc, by rw [List.take_length], hout1, h14⟩
        have hb := tokW_below w1 (.int .i64 0) (.int .i64 0) (.int .i64 0) (.int .i64 0) (.string ⟨#[]⟩)
        obtain ⟨fn, tmps, assign, body, g1, g2⟩ := hY _ _ _ (AC.Iy_below hc hIy hb) (hrec.keep (hch.others.trans (keepsOthers_below hb)))
        refine ⟨fn, tmps, assign, body, g1, g2.mono ?_⟩
        rintro e W' (⟨_, h2, _⟩ | ⟨h1, code, h2, h3⟩)
        · exfalso
          obtain ⟨k2, L2, F2, ra2, rc2, x1, _, _⟩ := h2
          have := congrArg List.getLast? x1
          simp only [List.getLast?_append, List.getLast?_singleton, Option.some_or, List.getLast?_map] at this
          cases hx : (c.ts.take k2).getLast? with
          | none => rw [hx] at this; cases this
          | some y => rw [hx] at this; cases this
        · exact ⟨h1, _, code, h2, h3⟩
      clear hnx hst hout hrec
      gi_wp2_with (refine ⟨trivial, hdd _, ?_⟩; gi_at_call 13; refine HN.out.mono ?_; rintro en w1 ⟨rfl, fn, tmps, assign, body, hy, hR1⟩)
      refine ⟨hdd _, hR1.mono ?_⟩
      rintro e W3 ⟨rfl, hI3⟩
      have H3 := hide2 hI3
      clear hI3
      gi_wp2
      refine bodyPost_ret (results_none rfl _ _ _) rfl ?_
      exact ⟨⟨_, rfl⟩, H3.out⟩
end Go.Proofs.YtlhokghgicgppaaDoor
