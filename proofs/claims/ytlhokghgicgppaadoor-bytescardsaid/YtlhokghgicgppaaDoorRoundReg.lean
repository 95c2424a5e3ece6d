/- append of bytes to bytes. -/
/- Rows of a call's own; append to them. -/
/- A region that draws its order, within a round of a range over a function. -/
import Derived.Test.YtlhokghgicgppaaDoorFull
import Derived.Test.YtlhokghgicgppaaDoorWalk
import Derived.Test.YtlhokghgicgppaaDoorSrcRead4
import Derived.Deep.Upon
import Derived.OwnWalk
import Derived.OwnWalkIn
import Derived.Deep.RegionHeldLaw
import Derived.OrdersIn
set_option linter.unusedSimpArgs false
set_option linter.unusedVariables false
namespace Go.Proofs.YtlhokghgicgppaaDoor
open Go.RowKit Go.Extern

/-- A slice of bytes of the scanner's own. -/
def RestAt (w : World) (ra : Option Addr) (rc : Nat) (l : Sg.Bs) : Prop :=
  (ra = none ∧ rc = 0 ∧ l = []) ∨ ∃ rb ro, ra = some ⟨rb, ro, none⟩ ∧ l.length ≤ rc ∧ (∀ j, j < l.length → w.cell? ⟨rb, ro + j, none⟩ = some (.int .u8 (l.getD j 0).toNat)) ∧ (∀ j, j < rc → (w.cell? ⟨rb, ro + j, none⟩).isSome = true) ∧ rb < w.heap.size ∧ ∀ j, w.frozen? ⟨rb, j, none⟩ = false

theorem bytesV_get (l : Sg.Bs) (j : Nat) (u : Value) (h : (bytesV l)[j]? = some u) : j < l.length ∧ u = .int .u8 (l.getD j 0).toNat := by
  unfold bytesV at h
  rw [List.getElem?_map, Option.map_eq_some_iff] at h
  obtain ⟨x, hx, rfl⟩ := h
  obtain ⟨hl, he⟩ := List.getElem?_eq_some_iff.1 hx
  refine ⟨hl, ?_⟩
  rw [List.getD_eq_getElem?_getD, hx]; rfl
theorem bytesV_len (l : Sg.Bs) : (bytesV l).length = l.length := by unfold bytesV; simp
theorem bytesV_one (l : Sg.Bs) : ∀ u ∈ bytesV l, u.oneCell' = true := by
  intro u hu
  unfold bytesV at hu
  obtain ⟨_, _, rfl⟩ := List.mem_map.1 hu
  rfl
theorem bytesV_app (l g : Sg.Bs) : bytesV l ++ bytesV g = bytesV (l ++ g) := by unfold bytesV; simp
theorem bytesV_some (l : Sg.Bs) (j : Nat) (h : j < l.length) : (bytesV l)[j]? = some (.int .u8 (l.getD j 0).toNat) := by
  unfold bytesV
  rw [List.getElem?_map, List.getElem?_eq_getElem h, List.getD_eq_getElem?_getD, List.getElem?_eq_getElem h]; rfl

theorem restAt_own {w : World} {base : Nat} {v : Value} {l : Sg.Bs} (h : w.ownsRow base 5 1 v l.length (bytesV l)) (h0 : l ≠ []) :
    ∃ rb rc, v = .slice (some ⟨rb, 0, none⟩) l.length rc ∧ base ≤ rb ∧ RestAt w (some ⟨rb, 0, none⟩) rc l := by
  obtain ⟨_, h | ⟨g, cap, cur, rfl, hb, hg, hn, _, hs, ht⟩⟩ := h
  · have := h.2; exact absurd (List.eq_nil_of_length_eq_zero this) h0
  have hcell : ∀ j, w.cell? ⟨g, 0 + j, none⟩ = cur[j]? := fun j => by
    unfold World.cell?; simp [hg]
  refine ⟨g, cap, rfl, hb, .inr ⟨g, 0, rfl, hn, fun j hj => ?_, fun j hj => ?_, (Array.getElem?_eq_some_iff.1 hg).1, fun j => ?_⟩⟩
  · rw [hcell, ← bytesV_some l j hj, ← ht, Nat.mul_one, List.getElem?_take_of_lt hj, Array.getElem?_toList]
  · rw [hcell, Array.getElem?_eq_getElem (by omega)]; rfl
  · unfold World.frozen?; simp [hg]

theorem below_grown {w w' : World} (h : w.grownBy w' none) : Below w.heap.size w w' := ⟨h.os, h.tape, h.output, h.size, fun k hk => h.block k hk (by simp)⟩

theorem append_bytes (w : World) (ra : Option Addr) (rc : Nat) (l : Sg.Bs) (hR : RestAt w ra rc l) (ga : Option Addr) (gl : Sg.Bs) (gc : Nat) (hG : SlAt w ga gl) (hN : l.length + gl.length < 1000000000) (ty : TypeId) :
    ∃ ra' rc' w', (Builtin.append_ #[84, 84] ty #[.slice ra l.length rc, .slice ga gl.length gc]).run Tryd.prog w = .ok (.slice ra' (l.length + gl.length) rc') w' ∧
      RestAt w' ra' rc' (l ++ gl) ∧ Chg (fun i _ => ∃ o, ra = some ⟨i, o, none⟩) w w' ∧ (ra' = ra ∨ ∃ rb, ra' = some ⟨rb, 0, none⟩ ∧ w.heap.size ≤ rb) := by
  obtain ⟨i, hi, hzz⟩ := Option.map_eq_some_iff.1 (show (Tryd.prog.info? 5).map (fun i => (i.zero, i.size, i.bytes)) = some (some (.int .u8 0), 1, 1) by kernel_rfl)
  simp only [Prod.mk.injEq] at hzz
  obtain ⟨hz, hs, hb⟩ := hzz
  have hu := Tryd.underlying84
  have hle : l.length ≤ rc := by
    rcases hR with ⟨_, _, rfl⟩ | ⟨_, _, _, h, _⟩
    · simp
    · exact h
  by_cases hg0 : gl = []
  · subst hg0
    refine ⟨ra, rc, w, run_append_nothing w _ _ ty _ i hu hi ra l.length rc hle _ ?_, by rw [List.append_nil]; exact hR, Chg.refl _ _, .inl rfl⟩
    cases ga with
    | none => exact Src.ofNil w hu gc
    | some a => exact Src.ofSlice w hu a 0 gc [] (by simp) (fun j u h => by simp at h) (fun u h => by simp at h)
  · rcases hG with ⟨_, h⟩ | ⟨gb, go, rfl, hG⟩
    · exact absurd h hg0
    have hnews : ∀ j u, (bytesV gl)[j]? = some u → w.cell? ((⟨gb, go, none⟩ : Addr).add j) = some u := fun j u h => by
      obtain ⟨h1, rfl⟩ := bytesV_get gl j u h
      rw [Addr.add_lit]; exact hG j h1
    have hne : l ++ gl ≠ [] := fun e => hg0 (List.append_eq_nil_iff.1 e).2
    rcases hR with ⟨rfl, rfl, rfl⟩ | ⟨rb, ro, rfl, h1, h2, h3, h4, h5⟩
    · obtain ⟨v', w', hrun, hown, hgr, _⟩ := run_append_own (P := Tryd.prog) w w.heap.size _ ty _ i (.int .u8 0) 1 1 hu hi hz hs hb rfl (by omega) (.slice none 0 0) 0 [] (World.ownsRow_nil w _ _ 1) ⟨gb, go, none⟩ gl.length gc (bytesV gl) (by rw [bytesV_len, Nat.mul_one]) hnews (bytesV_one gl) (by unfold maxLen; simp at hN; omega) (by simp at hN; omega) (Nat.le_refl _)
      rw [List.nil_append, Nat.zero_add] at hown
      obtain ⟨rb, rc', rfl, hbase, hrest⟩ := restAt_own hown hg0
      exact ⟨some ⟨rb, 0, none⟩, rc', w', by simp only [List.length_nil, Nat.zero_add]; exact hrun, by rw [List.nil_append]; exact hrest, Chg.of_below (below_grown hgr), .inr ⟨rb, rfl, hbase⟩⟩
    · by_cases hroom : l.length + gl.length ≤ rc
      · refine ⟨some ⟨rb, ro, none⟩, rc, w.setCells rb (ro + l.length) (bytesV gl), ?_, ?_, ?_, .inl rfl⟩
        · have := run_append_room_src (P := Tryd.prog) w _ _ ty _ i hu hi rb ro l.length rc (.slice (some ⟨gb, go, none⟩) gl.length gc) gl.length (bytesV gl) (Src.ofSlice w hu ⟨gb, go, none⟩ gl.length gc (bytesV gl) (by rw [bytesV_len, hs, Nat.mul_one]) hnews (bytesV_one gl)) hroom
            (fun j hj => by rw [bytesV_len] at hj; rw [hs, Nat.mul_one, Nat.add_assoc]; exact h3 _ (by omega)) (fun j hj => h5 _)
          rw [hs, Nat.mul_one] at this; exact this
        · refine .inr ⟨rb, ro, rfl, by rw [List.length_append]; exact hroom, fun j hj => ?_, fun j hj => ?_, ?_, fun j => by rw [World.frozen?_setCells]; exact h5 j⟩
          · rw [List.length_append] at hj
            by_cases hjl : j < l.length
            · rw [World.cell?_setCells_out _ _ _ _ _ (fun _ _ => .inl (by show ro + j < _; omega)), h2 j hjl]
              simp only [List.getD_eq_getElem?_getD, List.getElem?_append_left hjl]
            · have := World.cell?_setCells_in rb (bytesV gl) (ro + l.length) w (fun j' hj' => by rw [bytesV_len] at hj'; rw [Nat.add_assoc]; exact h3 _ (by omega)) (j - l.length) (by rw [bytesV_len]; omega)
              rw [show ro + l.length + (j - l.length) = ro + j by omega] at this
              rw [this]
              have h8 := bytesV_some gl (j - l.length) (by omega)
              rw [List.getElem?_eq_getElem (by rw [bytesV_len]; omega)] at h8
              rw [h8]
              simp only [List.getD_eq_getElem?_getD, List.getElem?_append_right (Nat.le_of_not_lt hjl)]
          · have := (Chg.setCells rb (bytesV gl) (ro + l.length) (Chg.refl (fun i _ => i = rb) w) (fun _ _ => rfl)).live rb (ro + j) h4
            rw [this]; exact h3 j hj
          · have := (Chg.setCells rb (bytesV gl) (ro + l.length) (Chg.refl (fun i _ => i = rb) w) (fun _ _ => rfl)).size
            omega
        · exact Chg.setCells rb (bytesV gl) (ro + l.length) (Chg.refl _ w) (fun _ _ => ⟨ro, rfl⟩)
      · obtain ⟨v', w', hrun, hown, hgr⟩ := run_append_arg_grows (P := Tryd.prog) w _ ty _ i (.int .u8 0) 1 1 hu hi hz hs hb rfl (by omega) ⟨rb, ro, none⟩ l.length rc (bytesV l) (by rw [bytesV_len, Nat.mul_one]) (fun j u h => by
            obtain ⟨h6, rfl⟩ := bytesV_get l j u h
            rw [Addr.add_lit]; exact h2 j h6) ⟨gb, go, none⟩ gl.length gc (bytesV gl) (by rw [bytesV_len, Nat.mul_one]) hnews (by omega) (by unfold maxLen; omega) (by omega)
        rw [bytesV_app, ← List.length_append] at hown
        obtain ⟨rb', rc', rfl, hbase, hrest⟩ := restAt_own hown hne
        exact ⟨_, _, w', by rw [hrun, List.length_append], hrest, Chg.of_below (below_grown hgr), .inr ⟨rb', rfl, hbase⟩⟩

/-- append in a walk, its run being known. -/
theorem wpList_append_run {P : Program} {w w' : World} {ops : Array Oper} {rest : List Oper} {o : Oper} {a : Act} {Q : Exit → Act → World → Prop} (hgd : o.guard = none) (s x : Operand) (t tx : TypeId)
    (ho : o.op = .call { callee := .builtin .append, args := #[s, x], argTypes := #[t, tx] }) (v1 v2 v : Value) (h1 : a.eval s = v1) (h2 : a.eval x = v2) (hrun : (Builtin.append_ #[t, tx] o.type #[v1, v2]).run P w = .ok v w')
    (h : wpList P ops Q rest (a.put o.dst v) w') : wpList P ops Q (o :: rest) a w := by
  refine wpList_plain hgd fun K hK => ?_
  unfold Oper.wp
  simp [execOp, ho, resolve, invoke, builtin, h1, h2, hrun, Result.andThen]
  exact hK _ _ h
end Go.Proofs.YtlhokghgicgppaaDoor

namespace Go.Proofs.YtlhokghgicgppaaDoor
open Go.RowKit Go.Extern

/-- A slice of n elements (sz cells each: l), with room for rc, of a call's own. -/
structure RowAt (sz : Nat) (w : World) (ra : Option Addr) (rc n : Nat) (l : List Value) : Prop where
  len : l.length = n * sz
  row : (ra = none ∧ rc = 0 ∧ n = 0) ∨ ∃ rb ro, ra = some ⟨rb, ro, none⟩ ∧ n ≤ rc ∧ (∀ j v, l[j]? = some v → w.cell? ⟨rb, ro + j, none⟩ = some v) ∧ (∀ j, j < rc * sz → (w.cell? ⟨rb, ro + j, none⟩).isSome = true) ∧ rb < w.heap.size ∧ ∀ j, w.frozen? ⟨rb, j, none⟩ = false
theorem RowAt.nil (sz : Nat) (w : World) : RowAt sz w none 0 0 [] := ⟨by simp, .inl ⟨rfl, rfl, rfl⟩⟩
theorem RowAt.of {sz : Nat} {w w' : World} {ra : Option Addr} {rc n : Nat} {l : List Value} (h : RowAt sz w ra rc n l) {T : Nat → Nat → Prop} (hc : Chg T w w') (hT : ∀ rb ro j, ra = some ⟨rb, ro, none⟩ → ¬ T rb j) : RowAt sz w' ra rc n l := by
  refine ⟨h.len, ?_⟩
  rcases h.row with h | ⟨rb, ro, rfl, h1, h2, h3, h4, h5⟩
  · exact .inl h
  · exact .inr ⟨rb, ro, rfl, h1, fun j v hj => (hc.cell _ _ h4 (hT rb ro _ rfl)).trans (h2 j v hj), fun j hj => by rw [hc.live _ _ h4]; exact h3 j hj, Nat.lt_of_lt_of_le h4 hc.size, fun j => (hc.frz _ _ h4).trans (h5 j)⟩
theorem RowAt.below {sz : Nat} {w w' : World} {ra : Option Addr} {rc n : Nat} {l : List Value} (h : RowAt sz w ra rc n l) (hb : Below w.heap.size w w') : RowAt sz w' ra rc n l := h.of (Chg.of_below (T := fun _ _ => False) hb) (fun _ _ _ _ t => t)
theorem RowAt.lt {sz : Nat} {w : World} {ra : Option Addr} {rc n : Nat} {l : List Value} (h : RowAt sz w ra rc n l) {b o : Nat} (e : ra = some ⟨b, o, none⟩) : b < w.heap.size := by
  rcases h.row with ⟨h, _⟩ | ⟨rb, ro, rfl, _, _, _, h4, _⟩
  · rw [h] at e; cases e
  · cases e; exact h4
theorem RowAt.le {sz : Nat} {w : World} {ra : Option Addr} {rc n : Nat} {l : List Value} (h : RowAt sz w ra rc n l) : n ≤ rc := by
  rcases h.row with ⟨_, h1, h2⟩ | ⟨rb, ro, _, h1, _⟩
  · omega
  · exact h1
theorem rowAt_own {w : World} {base e sz : Nat} {v : Value} {n : Nat} {l : List Value} (h : w.ownsRow base e sz v n l) (hl : l.length = n * sz) (h0 : n ≠ 0) :
    ∃ rb rc, v = .slice (some ⟨rb, 0, none⟩) n rc ∧ base ≤ rb ∧ RowAt sz w (some ⟨rb, 0, none⟩) rc n l := by
  obtain ⟨_, h | ⟨g, cap, cur, rfl, hb, hg, hn, _, hs, ht⟩⟩ := h
  · exact absurd h.2 h0
  have hcell : ∀ j, w.cell? ⟨g, 0 + j, none⟩ = cur[j]? := fun j => by
    unfold World.cell?; simp [hg]
  have hmul : n * sz ≤ cap * sz := Nat.mul_le_mul_right _ hn
  refine ⟨g, cap, rfl, hb, hl, .inr ⟨g, 0, rfl, hn, fun j v hj => ?_, fun j hj => ?_, (Array.getElem?_eq_some_iff.1 hg).1, fun j => ?_⟩⟩
  · have hjl : j < l.length := (List.getElem?_eq_some_iff.1 hj).1
    rw [hcell, ← hj, ← ht, List.getElem?_take_of_lt (by omega), Array.getElem?_toList]
  · rw [hcell, Array.getElem?_eq_getElem (by omega)]; rfl
  · unfold World.frozen?; simp [hg]

/-- append of m elements, laid elsewhere. -/
theorem append_row {P : Program} (w : World) (t ty e : TypeId) (i : TypeInfo) (z : Value) (sz bytes : Nat) (hu : P.underlying t = some (.slice e)) (hi : P.info? e = some i) (hz : i.zero = some z) (hs : i.size = sz) (hb : i.bytes = bytes) (hzs : z.cells.size = sz) (hsz : 0 < sz)
    (ra : Option Addr) (rc n : Nat) (l : List Value) (hR : RowAt sz w ra rc n l) (gb go m c : Nat) (hm : 0 < m) (news : List Value) (hnl : news.length = m * sz) (hnews : ∀ j u, news[j]? = some u → w.cell? ⟨gb, go + j, none⟩ = some u) (hone : ∀ u ∈ news, u.oneCell' = true)
    (h63 : n + m ≤ maxLen) (hbytes : (n + m) * bytes ≤ 140737488355328) :
    ∃ ra' rc' w', (Builtin.append_ #[t, t] ty #[.slice ra n rc, .slice (some ⟨gb, go, none⟩) m c]).run P w = .ok (.slice ra' (n + m) rc') w' ∧ RowAt sz w' ra' rc' (n + m) (l ++ news) ∧
      Chg (fun i _ => ∃ o, ra = some ⟨i, o, none⟩) w w' ∧ (ra' = ra ∨ ∃ rb, ra' = some ⟨rb, 0, none⟩ ∧ w.heap.size ≤ rb) := by
  have hnews' : ∀ j u, news[j]? = some u → w.cell? ((⟨gb, go, none⟩ : Addr).add j) = some u := fun j u h => by rw [Addr.add_lit]; exact hnews j u h
  have hll : (l ++ news).length = (n + m) * sz := by rw [List.length_append, hR.len, hnl, Nat.add_mul]
  rcases hR.row with ⟨rfl, rfl, rfl⟩ | ⟨rb, ro, rfl, h1, h2, h3, h4, h5⟩
  · have hl0 : l = [] := List.eq_nil_of_length_eq_zero (by have := hR.len; omega)
    subst hl0
    obtain ⟨v', w', hrun, hown, hgr, _⟩ := run_append_own (P := P) w w.heap.size t ty e i z sz bytes hu hi hz hs hb hzs hsz (.slice none 0 0) 0 [] (World.ownsRow_nil w _ _ sz) ⟨gb, go, none⟩ m c news hnl hnews' hone h63 hbytes (Nat.le_refl _)
    obtain ⟨rb, rc', rfl, hbase, hrow⟩ := rowAt_own hown (by simpa using hll) (by omega)
    exact ⟨_, _, w', hrun, hrow, Chg.of_below (below_grown hgr), .inr ⟨rb, rfl, hbase⟩⟩
  · by_cases hroom : n + m ≤ rc
    · have hbd : (n + m) * sz ≤ rc * sz := Nat.mul_le_mul_right _ hroom
      rw [Nat.add_mul] at hbd
      have hin : ∀ j, j < news.length → (w.cell? ⟨rb, ro + n * sz + j, none⟩).isSome = true := fun j hj => by rw [Nat.add_assoc]; exact h3 _ (by omega)
      refine ⟨some ⟨rb, ro, none⟩, rc, w.setCells rb (ro + n * sz) news, ?_, ?_, ?_, .inl rfl⟩
      · have := run_append_room_src (P := P) w t t ty e i hu hi rb ro n rc (.slice (some ⟨gb, go, none⟩) m c) m news (Src.ofSlice w hu ⟨gb, go, none⟩ m c news (by rw [hnl, hs]) hnews' hone) hroom
          (fun j hj => by rw [hs]; exact hin j hj) (fun j hj => h5 _)
        rw [hs] at this; exact this
      · have hch := Chg.setCells rb news (ro + n * sz) (Chg.refl (fun i _ => i = rb) w) (fun _ _ => rfl)
        refine ⟨hll, .inr ⟨rb, ro, rfl, hroom, fun j v hj => ?_, fun j hj => ?_, ?_, fun j => by rw [World.frozen?_setCells]; exact h5 j⟩⟩
        · by_cases hjl : j < l.length
          · rw [List.getElem?_append_left hjl] at hj
            rw [World.cell?_setCells_out _ _ _ _ _ (fun _ _ => .inl (by show ro + j < _; have := hR.len; omega))]
            exact h2 j v hj
          · rw [List.getElem?_append_right (Nat.le_of_not_lt hjl)] at hj
            have hlt : j - l.length < news.length := (List.getElem?_eq_some_iff.1 hj).1
            have := World.cell?_setCells_in rb news (ro + n * sz) w hin (j - l.length) hlt
            rw [show ro + n * sz + (j - l.length) = ro + j by have := hR.len; omega] at this
            rw [this, ← List.getElem?_eq_getElem hlt]; exact hj
        · rw [hch.live rb (ro + j) h4]; exact h3 j hj
        · have := hch.size; omega
      · exact Chg.setCells rb news (ro + n * sz) (Chg.refl _ w) (fun _ _ => ⟨ro, rfl⟩)
    · obtain ⟨v', w', hrun, hown, hgr⟩ := run_append_arg_grows (P := P) w t ty e i z sz bytes hu hi hz hs hb hzs hsz ⟨rb, ro, none⟩ n rc l hR.len (fun j u h => by rw [Addr.add_lit]; exact h2 j u h) ⟨gb, go, none⟩ m c news hnl hnews' (by omega) h63 hbytes
      obtain ⟨rb', rc', rfl, hbase, hrow⟩ := rowAt_own hown hll (by omega)
      exact ⟨_, _, w', hrun, hrow, Chg.of_below (below_grown hgr), .inr ⟨rb', rfl, hbase⟩⟩

/-- append in a fenced walk, its run being known. -/
theorem wpListIn_append_run {F : Fence} {k : Nat} {P : Program} {w w' : World} {ops : Array Oper} {rest : List Oper} {o : Oper} {a : Act} {Q : Exit → Act → World → Prop} (hgd : o.guard = none) (s x : Operand) (t tx : TypeId)
    (ho : o.op = .call { callee := .builtin .append, args := #[s, x], argTypes := #[t, tx] }) (v1 v2 v : Value) (h1 : a.eval s = v1) (h2 : a.eval x = v2) (hrun : (Builtin.append_ #[t, tx] o.type #[v1, v2]).run P w = .ok v w')
    (h : wpListIn F k P ops Q rest (a.put o.dst v) w') : wpListIn F k P ops Q (o :: rest) a w := by
  refine wpListIn_plain hgd fun K hK => ?_
  unfold Oper.wpIn
  refine ⟨?_, ?_⟩
  · simp [Oper.about, ho, resolve, Target.leads, Sem.run_pure]
  · rw [Oper.semAt_plain F _ _ (by rw [ho]; intro c hc'; cases hc')]
    simp [execOp, ho, resolve, invoke, builtin, h1, h2, hrun, Result.andThen]
    exact hK _ _ h
end Go.Proofs.YtlhokghgicgppaaDoor

namespace Go.Proofs.YtlhokghgicgppaaDoor
open Go.RowKit Go.Extern
variable {P : Program} {ops : Array Oper} {Q : Exit → Act → World → Prop}

theorem opIn_of_op {l n : Nat} {o : Oper} {a : Act} {w : World} {K : Act → World → Prop} (hd : ∀ c, o.op ≠ .defer c) (h : o.wp P a w K Q) : o.wpIn (Fence.wide.inRound l) n P a w K Q := by
  refine ⟨fun _ _ => trivial, ?_⟩
  rw [Oper.semAt_plain _ _ _ hd]
  unfold Oper.wp at h
  generalize (execOp a.eval o).run P w = r at *
  cases r with
  | ok x w' =>
    cases x <;> simp only [Oper.upon] at h <;> simp only [Oper.uponIn] <;>
      first
        | exact h
        | exact ⟨(fun t => by cases t), callsIn_wide.2 h⟩
        | exact ⟨(fun t => by cases t), fun c cs _ => let ⟨v, w', r, s⟩ := h c cs; ⟨v, w', r, stepsIn_wide.2 s⟩⟩
  | halt x w' => cases x <;> simp only [Oper.upon] at h <;> simp only [Oper.uponIn] <;> exact h
theorem anyIn_of_any {l n : Nat} {md : Region.Mode} (hd : ∀ (i : Nat) (o : Oper), ops[i]? = some o → ∀ c, o.op ≠ .defer c) (hL : ¬ LetsOut Q) : ∀ (fuel : Nat) (listed : Array Bool) (a : Act) (w : World), wpAny P md ops Q fuel listed a w → wpAnyIn (Fence.wide.inRound l) n P md ops Q fuel listed a w
  | 0, _, _, _, h => h
  | fuel + 1, listed, a, w, h => by
    refine ⟨h.1, fun i hi => ?_⟩
    have := wpOp_mono (fun a w hh => anyIn_of_any (l := l) (n := n) hd hL fuel (listed.setIfInBounds i true) a w hh) (h.2 i hi)
    unfold wpOp at this
    unfold wpOpIn
    split
    · simpa [*] using this
    · rename_i o ho
      simp only [ho] at this
      split
      · rename_i hw
        simp only [hw, if_true] at this
        rcases this with this | this
        · exact opIn_of_op (hd i o ho) this
        · exact absurd this.2 hL
      · rename_i hw
        simp only [hw] at this
        exact ⟨fun _ _ => trivial, this⟩
theorem wpIn_round_held {l n id : Nat} {a : Act} {w : World} (S : World → Prop) (hm : P.follows .mixedOrders = true) (hd : ops.toList.all (fun o => match o.op with | .defer _ => false | _ => true) = true) (hL : ¬ LetsOut Q) (hS : S w.drew)
    (h : S w.drew → wpAnyH P .any ops Q S ops.size (Array.replicate ops.size false) a w.drew) : (Code.region id ops true).wpIn (Fence.wide.inRound l) n P Q a w := by
  refine wpIn_region_any hm (anyIn_of_any (fun i o ho c hc => ?_) hL _ _ _ _ (wpAny_of_held _ _ _ _ (h hS)))
  have hmem : o ∈ ops.toList := by
    have : ops.toList[i]? = some o := by rw [Array.getElem?_toList]; exact ho
    exact List.mem_of_getElem? this
  have := List.all_eq_true.1 hd o hmem
  rw [hc] at this
  cases this
/-- append, its run being known, as one step of a region that draws. -/
theorem step_append_run {o : Oper} {a : Act} {w w' : World} {K : Act → World → Prop} {E : Prop}
    (hg : o.guard = none) (s x : Operand) (t tx : TypeId) (hop : o.op = Op.call { callee := Callee.builtin Builtin.append, args := #[s, x], argTypes := #[t, tx] })
    (v1 v2 v : Value) (h1 : a.eval s = v1) (h2 : a.eval x = v2) (hrun : (Builtin.append_ #[t, tx] o.type #[v1, v2]).run P w = .ok v w') (hK : K (a.put o.dst v) w') :
    if Region.wanted o (yielded ops a.tmps) = true then Oper.wp P o a w K Q else E := by
  have hw : Region.wanted o (yielded ops a.tmps) = true := by simp [Region.wanted, hg]
  rw [if_pos hw]
  unfold Oper.wp
  simp [execOp, hop, resolve, invoke, builtin, h1, h2, hrun, Result.andThen]
  exact hK
end Go.Proofs.YtlhokghgicgppaaDoor
