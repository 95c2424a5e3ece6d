/- addRange, joined. -/
/- The order of ranges; slices.SortFunc over them. -/
/- scalars.Of, Turned; single. -/
import Derived.Test.YtlhokghgicgppaaGreatDoorLtMem
import Derived.Test.YtlhokghgicgppaaGreatDoorMatching
import Derived.Test.YtlhokghgicgppaaGreatDoorRd1
import Derived.Test.YtlhokghgicgppaaGreatDoorWrite
import Derived.Test.YtlhokghgicgppaaGreatDoorSets
import Derived.Shelf.SlSortCmp.SmallK
import Derived.Shelf.Small.Bits
import Derived.Ground.SlsfProg
import Derived.Ground.NamesProg
set_option linter.unusedSimpArgs false
set_option linter.unusedVariables false
set_option maxRecDepth 100000
set_option maxHeartbeats 4000000
namespace Go.Proofs.YtlhokghgicgppaaGreatDoor
open Go.RowKit Go.Extern
theorem info_rg : (Tryz.prog.info? 294).map (fun i => (i.zero, i.size, i.bytes)) = some (some (.agg #[.int .i32 0, .int .i32 0]), 2, 8) := by kernel_rfl
theorem rg_len (l : List (Int × Int)) : (l.flatMap rgCells).length = l.length * 2 := by
  induction l with
  | nil => rfl
  | cons x l ih => rw [List.flatMap_cons, List.length_append, ih, List.length_cons, Nat.add_mul]; simp [rgCells]; omega
theorem append_two {w : World} (t e : TypeId) (zv : Value) (by_ : Nat) (hinfo : (Tryz.prog.info? e).map (fun i => (i.zero, i.size, i.bytes)) = some (some zv, 2, by_)) (hzc : zv.cells.size = 2) (hu : Tryz.prog.underlying t = some (.slice e)) (hby : by_ ≤ 64)
    {ra : Option Addr} {rc n : Nat} {l : List Value} (hR : RowAt 2 w ra rc n l) (v u : Value) (hv : v.oneCell' = true) (hv2 : u.oneCell' = true) (hn : n < 2000000000) (ty : TypeId) (vt : TypeId) :
    ∃ ra' rc' w', (Builtin.append_ #[t, t] ty #[.slice ra n rc, .slice (some ⟨w.heap.size, 0, none⟩) 1 1]).run Tryz.prog (w.alloc (.cells #[v, u] vt)) = .ok (.slice ra' (n + 1) rc') w' ∧ RowAt 2 w' ra' rc' (n + 1) (l ++ [v, u]) ∧ Chg (rowT ra) w w' ∧ Moved w ra ra' := by
  obtain ⟨i, hi, hz, hs, hb⟩ := info_parts hinfo
  have hbl : Below w.heap.size w (w.alloc (.cells #[v, u] vt)) := (Below.refl _ _).alloc (Nat.le_refl _) _
  obtain ⟨ra', rc', w', h1, h2, h3, h4⟩ := append_row (P := Tryz.prog) (w.alloc (.cells #[v, u] vt)) t ty e i zv 2 by_ hu hi hz hs hb hzc (by omega) ra rc n l (hR.below hbl) w.heap.size 0 1 1 (by omega) [v, u] rfl (fun j x hj => by
    match j, hj with
    | 0, hj =>
      simp only [List.getElem?_cons_zero, Option.some.injEq] at hj
      subst hj
      rw [World.cell?_alloc_at _ _ _ _ rfl]; rfl
    | 1, hj =>
      simp only [List.getElem?_cons_succ, List.getElem?_cons_zero, Option.some.injEq] at hj
      subst hj
      rw [World.cell?_alloc_at _ _ _ _ rfl]; rfl
    | j + 2, hj => simp at hj) (fun x hx => by
      simp only [List.mem_cons, List.not_mem_nil, or_false] at hx
      rcases hx with rfl | rfl
      · exact hv
      · exact hv2) (by unfold maxLen; omega) (by
      have : (n + 1) * by_ ≤ (n + 1) * 64 := Nat.mul_le_mul_left _ hby
      omega)
  refine ⟨ra', rc', w', h1, h2, (Chg.of_below hbl).trans h3, ?_⟩
  rcases h4 with h4 | ⟨rb, e1, e2⟩
  · exact .inl h4
  · exact .inr ⟨rb, e1, by have : (w.alloc (.cells #[v, u] vt)).heap.size = w.heap.size + 1 := by simp
                           omega⟩
theorem rg_snoc (l : List (Int × Int)) (a b : Int) : l.flatMap rgCells ++ [.int .i32 a, .int .i32 b] = (l ++ [(a, b)]).flatMap rgCells := by
  rw [List.flatMap_append]; rfl
theorem addRange_any (w : World) (ra : Option Addr) (rc : Nat) (l : List (Int × Int)) (hR : RowAt 2 w ra rc l.length (l.flatMap rgCells)) (hl : l.length < 1000000) (lo hi : Int) :
    Calls Tryz.prog 220 #[.slice ra l.length rc, .int .i32 lo, .int .i32 hi] w fun e w' => ∃ ra' rc', e = .returned (.slice ra' (Sg.addRange l lo hi).length rc') ∧ RowAt 2 w' ra' rc' (Sg.addRange l lo hi).length ((Sg.addRange l lo hi).flatMap rgCells) ∧ Chg (rowT ra) w w' ∧ Moved w ra ra' := by
  have HR := hide2 hR
  unfold Sg.addRange
  by_cases h1 : hi < lo
  · rw [if_pos h1]
    clear hR
    go_enter Tryz.func220, Tryz.ntmps220
    go_wp2
    go_ret
    exact ⟨ra, rc, rfl, HR.out, Chg.refl _ _, .inl rfl⟩
  · rw [if_neg h1]
    have HA := hide2 (append_two (w := w) 222 294 _ 8 info_rg rfl Tryz.underlying222 (by omega) hR (.int .i32 lo) (.int .i32 hi) rfl rfl (by omega) 222 294)
    clear hR
    generalize hres : l ++ [(lo, hi)] = res
    have HS := hide2 hres
    clear hres
    go_enter Tryz.func220, Tryz.ntmps220
    go_wp2_with (at_builtin; obtain ⟨ra2, rc2, w2, hrun, hrow, hch, hmv⟩ := HA.out; refine wpList_append_run rfl _ _ _ _ rfl _ _ _ rfl rfl hrun ?_; have H2 := hide2 (And.intro hrow (And.intro hch hmv)); clear hrun hrow hch hmv HA)
    go_ret
    obtain ⟨k1, k2, k3⟩ := H2.out
    rw [rg_snoc] at k1
    have hs := HS.out
    subst hs
    exact ⟨ra2, rc2, by rw [List.length_append]; rfl, by rw [List.length_append]; exact k1, k2, k3⟩
theorem joinGo_le {a r : Sg.Rg} {l : List Sg.Rg} (h : r.1 ≤ a.2 + 1) : Sg.joinGo (some a) (r :: l) = Sg.joinGo (some (a.1, max a.2 r.2)) l := by
  show (if r.1 ≤ a.2 + 1 then _ else _) = _; rw [if_pos h]
theorem joinGo_gt {a r : Sg.Rg} {l : List Sg.Rg} (h : ¬ r.1 ≤ a.2 + 1) : Sg.joinGo (some a) (r :: l) = a :: Sg.joinGo (some r) l := by
  show (if r.1 ≤ a.2 + 1 then _ else _) = _; rw [if_neg h]
theorem RowAt.put {sz : Nat} {w : World} {rb ro rc n : Nat} {l : List Value} (h : RowAt sz w (some ⟨rb, ro, none⟩) rc n l) (j : Nat) (hj : j < l.length) (v : Value) : RowAt sz (w.setCell ⟨rb, ro + j, none⟩ v) (some ⟨rb, ro, none⟩) rc n (l.set j v) := by
  have hlen := h.len
  refine ⟨by rw [List.length_set]; exact hlen, ?_⟩
  rcases h.row with ⟨h, _⟩ | ⟨rb', ro', e, h1, h2, h3, h4, h5⟩
  · cases h
  cases e
  refine .inr ⟨rb, ro, rfl, h1, fun i u hi => ?_, fun i hi => ?_, ?_, fun i => by rw [World.frozen?_setCell]; exact h5 i⟩
  · by_cases e : j = i
    · subst e
      rw [List.getElem?_set_self hj] at hi
      cases hi
      exact World.cell?_setCell_same _ _ _ (h2 j l[j] (List.getElem?_eq_getElem hj))
    · rw [List.getElem?_set_ne e] at hi
      exact (World.cell?_setCell_other _ _ _ _ (by simp [e])).trans (h2 i u hi)
  · rw [live_setCell]; exact h3 i hi
  · simpa [World.setCell] using h4
theorem rg_put (d : List (Int × Int)) (a : Int × Int) (m : Int) : ((d ++ [a]).flatMap rgCells).set (d.length * 2 + 1) (.int .i32 m) = (d ++ [(a.1, m)]).flatMap rgCells := by
  rw [List.flatMap_append, List.flatMap_append, List.set_append_right _ _ (by rw [rg_len]; omega), rg_len, show d.length * 2 + 1 - d.length * 2 = 1 by omega]
  rfl
theorem blwN2 {n : Nat} {a b : World} (h : Below n a b) (k : Nat) : Below n a (b.drewN k) := ⟨h.os, h.tape, h.output, h.size, h.block⟩
theorem below_drew' (w : World) : Below w.heap.size w w.drew := (Below.refl _ _).drew
theorem blwN (w : World) (k : Nat) : Below w.heap.size w (w.drewN k) := blwN2 (Below.refl _ _) k
theorem cell_of' {w : World} {k : Nat} {cs : Array Value} {t : TypeId} (h : w.heap[k]? = some (.cells cs t)) (o : Nat) : w.cell? ⟨k, o, none⟩ = cs[o]? := by
  unfold World.cell?; simp [h]
theorem blw1' (w : World) (o : Obj) : Below w.heap.size w (w.alloc o) := (Below.refl _ _).alloc (Nat.le_refl _) o
theorem getD_of {α : Type} (l : List α) (j : Nat) (h : j < l.length) (x : α) : l.getD j x = l[j] := by
  rw [List.getD_eq_getElem?_getD, List.getElem?_eq_getElem h]; rfl
def joinRow : Option (Int × Int) → List (Int × Int) → List (Int × Int)
  | none, d => d
  | some a, d => d ++ [a]
theorem joined_any (w : World) (ra : Option Addr) (rc : Nat) (l : List (Int × Int)) (hR : RowAt 2 w ra rc l.length (l.flatMap rgCells)) (hl : l.length < 1000000) (hb : ∀ x ∈ l, -2147483648 ≤ x.2 ∧ x.2 < 2147483647) :
    Calls Tryz.prog 224 #[.slice ra l.length rc] w fun e w' => ∃ ra' rc', e = .returned (.slice ra' (Sg.joinGo none l).length rc') ∧ RowAt 2 w' ra' rc' (Sg.joinGo none l).length ((Sg.joinGo none l).flatMap rgCells) ∧ Below w.heap.size w w' ∧ InD (fun b => w.heap.size ≤ b) ra' := by
  have HR := hide2 hR
  have HB := hide2 hb
  clear hR hb
  generalize hfin : Sg.joinGo none l = fin
  have H0 := hide2 hfin
  clear hfin
  go_enter Tryz.func224, Tryz.ntmps224
  go_wp2
  go_loopw [3, 9] (fun sv iv wr => ∃ (j n : Nat) (sa : Option Addr) (sc : Nat) (o : Option (Int × Int)) (d : List (Int × Int)), sv = .slice sa n sc ∧ iv = .int .i64 j ∧ j ≤ l.length ∧ n ≤ j ∧ Hid (n = (joinRow o d).length ∧ RowAt 2 wr sa sc n ((joinRow o d).flatMap rgCells) ∧ InD (fun b => w.heap.size ≤ b) sa ∧ Below w.heap.size w wr ∧ (o = none → d = []) ∧ d ++ Sg.joinGo o (l.drop j) = fin ∧ ∀ x, o = some x → -2147483648 ≤ x.2 ∧ x.2 < 2147483647)) (fun _ iv _ => l.length - (intOf iv).toNat)
  case atStart => exact ⟨0, 0, none, 0, none, [], rfl, rfl, Nat.zero_le _, Nat.le_refl _, hide2 ⟨rfl, RowAt.nil 2 w, (fun _ _ e => by cases e), Below.refl _ _, fun _ => rfl, H0.out, fun _ e => by cases e⟩⟩
  case round =>
    obtain ⟨j, n, sa, sc, o, d, rfl, rfl, hj, hjl, H⟩ := hrel
    by_cases hlt : j < l.length
    · obtain ⟨rb, ro, rfl, hrl, k0, k1⟩ := rg_cells (HR.out.below H.out.2.2.2.1) j hlt
      have hd : l.drop j = l[j] :: l.drop (j + 1) := List.drop_eq_getElem_cons hlt
      have hxb := HB.out l[j] (List.getElem_mem _)
      obtain ⟨g0, g1, g2, g3, g4, g5, g6⟩ := H.out
      rw [hd] at g5
      rw [getD_of l j hlt] at k0 k1
      generalize l[j] = x at *
      obtain ⟨x1, x2⟩ := x
      dsimp only at k0 k1 hxb
      have hwr := g3.size
      clear hd
      -- what an append gives
      have HApp : Hid (∀ (W : World), RowAt 2 W sa sc n ((joinRow o d).flatMap rgCells) → Below w.heap.size w W → ∃ ra' rc' w', (Builtin.append_ #[223, 223] 223 #[.slice sa n sc, .slice (some ⟨W.heap.size, 0, none⟩) 1 1]).run Tryz.prog (W.alloc (.cells #[.int .i32 x1, .int .i32 x2] 294)) = .ok (.slice ra' (n + 1) rc') w' ∧ RowAt 2 w' ra' rc' (n + 1) ((joinRow (some (x1, x2)) (joinRow o d)).flatMap rgCells) ∧ InD (fun b => w.heap.size ≤ b) ra' ∧ Below w.heap.size w w') := by
        refine hide2 (fun W hW hbW => ?_)
        obtain ⟨ra', rc', w', e1, e2, e3, e4⟩ := append_two (w := W) 223 294 _ 8 info_rg rfl Tryz.underlying223 (by omega) hW (.int .i32 x1) (.int .i32 x2) rfl rfl (by omega) 223 294
        refine ⟨ra', rc', w', e1, by rw [rg_snoc] at e2; exact e2, ?_, ?_⟩
        · rcases e4 with e4 | ⟨b, e4, e5⟩
          · rw [e4]; exact g2
          · rw [e4]; intro b' o' e6; cases e6; have := hbW.size; omega
        · exact hbW.trans (e3.below hbW.size (fun i o t => by
            rintro ⟨o', e⟩
            have := g2 i o' e
            omega))
      cases o with
      | none =>
        obtain rfl := g4 rfl
        obtain rfl : n = 0 := g0
        have b1 := g1.below (blw1' wr (.cells #[.int .i32 x1, .int .i32 x2] 294))
        have b3 := g3.alloc g3.size (.cells #[.int .i32 x1, .int .i32 x2] 294)
        have HX := hide2 (And.intro b1 (And.intro b3 g5))
        have e0 := k0
        have e1 := k1
        clear g1 g2 g3 g4 g5 g6 H b1 b3
        go_wp2
        go_quiet (fail)
        have hW1 := HX.out.1.below (blwN (wr.alloc (.cells #[.int .i32 x1, .int .i32 x2] 294)) nq)
        have hW2 := blwN2 HX.out.2.1 nq
        have hn : ((wr.alloc (.cells #[.int .i32 x1, .int .i32 x2] 294)).drewN nq).heap[wr.heap.size]? = some (.cells #[.int .i32 x1, .int .i32 x2] 294) := heap_alloc_new wr _
        have hg := HX.out.2.2
        clear HX e0 e1 k0 k1
        generalize (wr.alloc (.cells #[.int .i32 x1, .int .i32 x2] 294)).drewN nq = W at *
        have c0 : W.cell? ⟨wr.heap.size, 0, none⟩ = some (.int .i32 x1) := cell_of' hn 0
        have c1 : W.cell? ⟨wr.heap.size, 1, none⟩ = some (.int .i32 x2) := cell_of' hn 1
        have HW := hide2 (And.intro hW1 (And.intro hW2 hg))
        clear hn hW1 hW2 hg
        go_wp2_with (at_builtin; obtain ⟨ra2, rc2, w2, hrun, hrow, hin, hbl⟩ := HApp.out W HW.out.1 HW.out.2.1; refine wpList_append_run rfl _ _ _ _ rfl _ _ _ rfl rfl hrun ?_; have H2 := hide2 (And.intro hrow (And.intro hin hbl)); clear hrun hrow hin hbl HApp)
        exact ⟨⟨j + 1, 1, ra2, rc2, some (x1, x2), [], rfl, rfl, by omega, by omega, hide2 ⟨rfl, H2.out.1, H2.out.2.1, H2.out.2.2, (fun e => by cases e), by have := HW.out.2.2; simpa [Sg.joinGo] using this, fun x e => by cases e; exact hxb⟩⟩, by simp [intOf]; omega⟩
      | some a =>
        obtain ⟨a1, a2⟩ := a
        have hab := g6 _ rfl
        have hjr : joinRow (some (a1, a2)) d = d ++ [(a1, a2)] := rfl
        obtain rfl : n = d.length + 1 := by rw [g0, hjr, List.length_append]; rfl
        clear g0 g4 g6
        generalize hdl : d.length = dl at *
        rw [hjr] at g1
        obtain ⟨sb, so, rfl, hsl, s0, s1⟩ := rg_cells (l := d ++ [(a1, a2)]) (by rw [List.length_append, hdl]; exact g1) dl (by rw [List.length_append, hdl]; simp)
        have egd : (d ++ [(a1, a2)]).getD dl (0, 0) = (a1, a2) := by
          rw [List.getD_eq_getElem?_getD, List.getElem?_append_right (by omega), hdl, Nat.sub_self]; rfl
        rw [egd] at s0 s1
        dsimp only at s0 s1 hab
        have z1 : wr.frozen? ⟨sb, so + dl * 2 + 1, none⟩ = false := by
          rcases g1.row with ⟨h, _⟩ | ⟨_, _, e, _, _, _, _, h5⟩
          · cases h
          · cases e; exact h5 _
        have b1 := g1.below (blw1' wr (.cells #[.int .i32 x1, .int .i32 x2] 294))
        have b3 := g3.alloc g3.size (.cells #[.int .i32 x1, .int .i32 x2] 294)
        have hsb := g2 sb so rfl
        have t1 := below_keep (blw1' wr (.cells #[.int .i32 x1, .int .i32 x2] 294)) s1
        have tz := below_frz (blw1' wr (.cells #[.int .i32 x1, .int .i32 x2] 294)) hsl z1
        have HX := hide2 (And.intro b1 (And.intro b3 (And.intro g5 (And.intro t1 tz))))
        have HJ := hide2 (And.intro hjr hdl)
        clear g1 g2 g3 g5 H b1 b3 egd hjr hdl s0 z1 tz s1
        by_cases hle : x1 ≤ a2 + 1
        · have hdle : decide (x1 ≤ a2 + 1) = true := decide_eq_true hle
          go_wp2
          go_quiet (fail)
          obtain ⟨f1, f2, f3, f4, f5⟩ := HX.out
          have hW1 := f1.below (blwN (wr.alloc (.cells #[.int .i32 x1, .int .i32 x2] 294)) nq)
          have hW2 := blwN2 f2 nq
          have hW4 := below_keep (blwN (wr.alloc (.cells #[.int .i32 x1, .int .i32 x2] 294)) nq) f4
          have hW5 := below_frz (blwN (wr.alloc (.cells #[.int .i32 x1, .int .i32 x2] 294)) nq) (cell_lt f4) f5
          have hn : ((wr.alloc (.cells #[.int .i32 x1, .int .i32 x2] 294)).drewN nq).heap[wr.heap.size]? = some (.cells #[.int .i32 x1, .int .i32 x2] 294) := heap_alloc_new wr _
          clear HX k0 k1 f1 f2 f4 f5 t1
          generalize (wr.alloc (.cells #[.int .i32 x1, .int .i32 x2] 294)).drewN nq = W at *
          have c0 : W.cell? ⟨wr.heap.size, 0, none⟩ = some (.int .i32 x1) := cell_of' hn 0
          have c1 : W.cell? ⟨wr.heap.size, 1, none⟩ = some (.int .i32 x2) := cell_of' hn 1
          have HW := hide2 (And.intro hW1 (And.intro hW2 f3))
          clear hn hW1 hW2 f3
          go_wp2
          go_region
          go_wp2
          obtain ⟨y1, y2, y3⟩ := HW.out
          obtain ⟨j1, j2⟩ := HJ.out
          have hput := y1.put (dl * 2 + 1) (by rw [rg_len, List.length_append, j2]; simp; omega) (.int .i32 (max a2 x2))
          have erp := rg_put d (a1, a2) (max a2 x2)
          rw [j2] at erp
          rw [erp] at hput
          refine ⟨⟨j + 1, dl + 1, some ⟨sb, so, none⟩, sc, some (a1, max a2 x2), d, rfl, rfl, by omega, by omega, hide2 ⟨?_, hput.below (below_drew' _), fun b o e => by cases e; exact hsb, (y2.setCell hsb _).drew, (fun e => by cases e), ?_, fun x e => by cases e; dsimp only; omega⟩⟩, by simp [intOf]; omega⟩
          · show dl + 1 = (d ++ [(a1, max a2 x2)]).length
            rw [List.length_append, j2]; rfl
          · rw [← y3, joinGo_le (by show x1 ≤ a2 + 1; omega)]
        · have hdle : decide (x1 ≤ a2 + 1) = false := decide_eq_false hle
          go_wp2
          go_quiet (fail)
          obtain ⟨f1, f2, f3, f4, f5⟩ := HX.out
          have hW1 := f1.below (blwN (wr.alloc (.cells #[.int .i32 x1, .int .i32 x2] 294)) nq)
          have hW2 := blwN2 f2 nq
          have hW4 := below_keep (blwN (wr.alloc (.cells #[.int .i32 x1, .int .i32 x2] 294)) nq) f4
          have hW5 := below_frz (blwN (wr.alloc (.cells #[.int .i32 x1, .int .i32 x2] 294)) nq) (cell_lt f4) f5
          have hn : ((wr.alloc (.cells #[.int .i32 x1, .int .i32 x2] 294)).drewN nq).heap[wr.heap.size]? = some (.cells #[.int .i32 x1, .int .i32 x2] 294) := heap_alloc_new wr _
          clear HX k0 k1 f1 f2 f4 f5 t1
          generalize (wr.alloc (.cells #[.int .i32 x1, .int .i32 x2] 294)).drewN nq = W at *
          have c0 : W.cell? ⟨wr.heap.size, 0, none⟩ = some (.int .i32 x1) := cell_of' hn 0
          have c1 : W.cell? ⟨wr.heap.size, 1, none⟩ = some (.int .i32 x2) := cell_of' hn 1
          have HW := hide2 (And.intro hW1 (And.intro hW2 f3))
          clear hn hW1 hW2 f3
          have HW' := hide2 (HApp.out W (by rw [HJ.out.1]; exact HW.out.1) HW.out.2.1)
          go_wp2_with (at_builtin; obtain ⟨ra2, rc2, w2, hrun, hrow, hin, hbl⟩ := HW'.out; refine wpList_append_run rfl _ _ _ _ rfl _ _ _ rfl rfl hrun ?_; have H2 := hide2 (And.intro hrow (And.intro hin hbl)); clear hrun hrow hin hbl HApp)
          obtain ⟨y1, y2, y3⟩ := HW.out
          obtain ⟨j1, j2⟩ := HJ.out
          refine ⟨⟨j + 1, dl + 1 + 1, ra2, rc2, some (x1, x2), d ++ [(a1, a2)], rfl, rfl, by omega, by omega, hide2 ⟨?_, H2.out.1, H2.out.2.1, H2.out.2.2, (fun e => by cases e), ?_, fun x e => by cases e; exact hxb⟩⟩, by simp [intOf]; omega⟩
          · show dl + 1 + 1 = (d ++ [(a1, a2)] ++ [(x1, x2)]).length
            rw [List.length_append, List.length_append, j2]; rfl
          · rw [← y3, joinGo_gt (by show ¬ x1 ≤ a2 + 1; omega), List.append_assoc]; rfl
    · obtain ⟨g0, g1, g2, g3, g4, g5, g6⟩ := H.out
      rw [List.drop_of_length_le (by omega)] at g5
      have he : joinRow o d = fin := by
        rw [← g5]
        cases o with
        | none => unfold joinRow Sg.joinGo; simp
        | some a => rfl
      rw [he] at g0 g1
      subst g0
      have HX := hide2 (And.intro g1 (And.intro g2 g3))
      clear g1 g2 g3 g4 g5 g6 H he H0
      go_wp2
      go_ret
      exact ⟨sa, sc, rfl, HX.out.1, HX.out.2.2, HX.out.2.1⟩
end Go.Proofs.YtlhokghgicgppaaGreatDoor
namespace Go.Proofs
open Go.Shelf
def Tryz.sortRg_ren : Go.Shelf.Ren := ⟨fun | 6 => 221 | 15 => 176 | 14 => 231 | 28 => 195 | 29 => 196 | 20 => 236 | 21 => 237 | 22 => 238 | 23 => 239 | 24 => 240 | 25 => 241 | 26 => 242 | 27 => 243 | 46 => 245 | 47 => 210 | 48 => 211 | 49 => 246 | 50 => 247 | 57 => 248 | n => n, fun | 22 => 222 | 24 => 294 | 25 => 352 | 3 => 3 | 39 => 140 | 0 => 0 | 53 => 225 | 55 => 333 | 4 => 4 | 46 => 325 | 45 => 324 | 50 => 239 | 5 => 5 | 9 => 9 | 66 => 340 | 70 => 344 | 76 => 357 | 77 => 269 | n => n, fun | n => n⟩
theorem Tryz.sortRg : Go.Proofs.SlLaysF0.n6 Tryz.prog Tryz.sortRg_ren := {
  mixed := by kernel_rfl
  f6 := ⟨Tryz.f221.name, by decide, Tryz.func221.trans (congrArg some (by kernel_rfl))⟩
  f14 := ⟨Tryz.f231.name, by decide, Tryz.func231.trans (congrArg some (by kernel_rfl))⟩
  f15 := Tryz.func176.trans (congrArg some (by kernel_rfl))
  f20 := ⟨Tryz.f236.name, by decide, Tryz.func236.trans (congrArg some (by kernel_rfl))⟩
  f21 := ⟨Tryz.f237.name, by decide, Tryz.func237.trans (congrArg some (by kernel_rfl))⟩
  f22 := ⟨Tryz.f238.name, by decide, Tryz.func238.trans (congrArg some (by kernel_rfl))⟩
  f23 := ⟨Tryz.f239.name, by decide, Tryz.func239.trans (congrArg some (by kernel_rfl))⟩
  f24 := ⟨Tryz.f240.name, by decide, Tryz.func240.trans (congrArg some (by kernel_rfl))⟩
  f25 := ⟨Tryz.f241.name, by decide, Tryz.func241.trans (congrArg some (by kernel_rfl))⟩
  f26 := ⟨Tryz.f242.name, by decide, Tryz.func242.trans (congrArg some (by kernel_rfl))⟩
  f27 := ⟨Tryz.f243.name, by decide, Tryz.func243.trans (congrArg some (by kernel_rfl))⟩
  f28 := Tryz.func195.trans (congrArg some (by kernel_rfl))
  f29 := Tryz.func196.trans (congrArg some (by kernel_rfl))
  f46 := ⟨Tryz.f245.name, by decide, Tryz.func245.trans (congrArg some (by kernel_rfl))⟩
  f47 := Tryz.func210.trans (congrArg some (by kernel_rfl))
  f48 := Tryz.func211.trans (congrArg some (by kernel_rfl))
  f49 := ⟨Tryz.f246.name, by decide, Tryz.func246.trans (congrArg some (by kernel_rfl))⟩
  f50 := ⟨Tryz.f247.name, by decide, Tryz.func247.trans (congrArg some (by kernel_rfl))⟩
  f57 := ⟨Tryz.f248.name, by decide, Tryz.func248.trans (congrArg some (by kernel_rfl))⟩
  t0 := Tryz.underlying0
  a0 := Tryz.isAgg0
  z0 := Tryz.sizeOf0
  v0 := Tryz.zeroValue0
  t3 := Tryz.underlying3
  a3 := Tryz.isAgg3
  z3 := Tryz.sizeOf3
  v3 := Tryz.zeroValue3
  t4 := Tryz.underlying4
  a4 := Tryz.isAgg4
  z4 := Tryz.sizeOf4
  v4 := Tryz.zeroValue4
  t5 := Tryz.underlying5
  a5 := Tryz.isAgg5
  z5 := Tryz.sizeOf5
  v5 := Tryz.zeroValue5
  t9 := Tryz.underlying9
  a9 := Tryz.isAgg9
  z9 := Tryz.sizeOf9
  v9 := Tryz.zeroValue9
  t22 := Tryz.underlying222
  a22 := Tryz.isAgg222
  z22 := Tryz.sizeOf222
  v22 := Tryz.zeroValue222
  t25 := Tryz.underlying352
  a25 := Tryz.isAgg352
  z25 := Tryz.sizeOf352
  v25 := Tryz.zeroValue352
  t39 := Tryz.underlying140
  a39 := Tryz.isAgg140
  z39 := Tryz.sizeOf140
  v39 := Tryz.zeroValue140
  t45 := Tryz.underlying324
  a45 := Tryz.isAgg324
  z45 := Tryz.sizeOf324
  v45 := Tryz.zeroValue324
  t46 := Tryz.underlying325
  a46 := Tryz.isAgg325
  z46 := Tryz.sizeOf325
  v46 := Tryz.zeroValue325
  t50 := Tryz.underlying239
  a50 := Tryz.isAgg239
  z50 := Tryz.sizeOf239
  v50 := Tryz.zeroValue239
  t53 := Tryz.underlying225
  a53 := Tryz.isAgg225
  z53 := Tryz.sizeOf225
  v53 := Tryz.zeroValue225
  t55 := Tryz.underlying333
  a55 := Tryz.isAgg333
  z55 := Tryz.sizeOf333
  v55 := Tryz.zeroValue333
  t66 := Tryz.underlying340
  a66 := Tryz.isAgg340
  z66 := Tryz.sizeOf340
  v66 := Tryz.zeroValue340
  t70 := Tryz.underlying344
  a70 := Tryz.isAgg344
  z70 := Tryz.sizeOf344
  v70 := Tryz.zeroValue344
  t76 := Tryz.underlying357
  a76 := Tryz.isAgg357
  z76 := Tryz.sizeOf357
  v76 := Tryz.zeroValue357
  t77 := Tryz.underlying269
  a77 := Tryz.isAgg269
  z77 := Tryz.sizeOf269
  v77 := Tryz.zeroValue269 }
def Tryz.bitsLen_ren : Go.Shelf.Ren := ⟨fun | 125 => 176 | 128 => 195 | 129 => 196 | n => n, fun | 46 => 140 | 3 => 3 | 51 => 225 | 53 => 333 | 4 => 4 | 5 => 5 | 9 => 9 | n => n, fun | n => n⟩
theorem Tryz.bitsLen : Go.Proofs.Lays.n125 Tryz.prog Tryz.bitsLen_ren := {
  mixed := by kernel_rfl
  f125 := Tryz.func176.trans (congrArg some (by kernel_rfl))
  f128 := Tryz.func195.trans (congrArg some (by kernel_rfl))
  f129 := Tryz.func196.trans (congrArg some (by kernel_rfl))
  t3 := Tryz.underlying3
  a3 := Tryz.isAgg3
  z3 := Tryz.sizeOf3
  v3 := Tryz.zeroValue3
  t4 := Tryz.underlying4
  a4 := Tryz.isAgg4
  z4 := Tryz.sizeOf4
  v4 := Tryz.zeroValue4
  t5 := Tryz.underlying5
  a5 := Tryz.isAgg5
  z5 := Tryz.sizeOf5
  v5 := Tryz.zeroValue5
  t9 := Tryz.underlying9
  a9 := Tryz.isAgg9
  z9 := Tryz.sizeOf9
  v9 := Tryz.zeroValue9
  t46 := Tryz.underlying140
  a46 := Tryz.isAgg140
  z46 := Tryz.sizeOf140
  v46 := Tryz.zeroValue140
  t51 := Tryz.underlying225
  a51 := Tryz.isAgg225
  z51 := Tryz.sizeOf225
  v51 := Tryz.zeroValue225
  t53 := Tryz.underlying333
  a53 := Tryz.isAgg333
  z53 := Tryz.sizeOf333
  v53 := Tryz.zeroValue333 }
end Go.Proofs
namespace Go.Proofs.YtlhokghgicgppaaGreatDoor
open Go.RowKit Go.Extern Go.Shelf Go.Lib Go.Sort
theorem compareRune_any (x y : Int) (w : World) :
    Calls Tryz.prog 223 #[.int .i32 x, .int .i32 y] w fun e w' => e = .returned (.int .i64 (Lib.compareInt x y)) ∧ w' = w := by
  have HN : ∀ (v : Int) (wx : World), Calls Tryz.prog 214 #[.int .i32 v] wx fun e w' => e = .returned (.bool false) ∧ w' = wx := by
    intro v wx
    go_enter Tryz.func214, Tryz.ntmps214
    go_wp2
    go_ret
    exact ⟨by simp, rfl⟩
  have H := hide2 HN
  clear HN
  unfold Lib.compareInt
  by_cases h1 : x < y
  · rw [if_pos h1]
    go_enter Tryz.func223, Tryz.ntmps223
    go_wp2_with (go_at_call 214; refine (H.out _ _).mono ?_; rintro e w2 ⟨rfl, rfl⟩)
    go_ret
    exact ⟨rfl, rfl⟩
  · rw [if_neg h1]
    by_cases h2 : y < x
    · rw [if_pos h2]
      go_enter Tryz.func223, Tryz.ntmps223
      go_wp2_with (go_at_call 214; refine (H.out _ _).mono ?_; rintro e w2 ⟨rfl, rfl⟩)
      go_ret
      exact ⟨rfl, rfl⟩
    · rw [if_neg h2]
      go_enter Tryz.func223, Tryz.ntmps223
      go_wp2_with (go_at_call 214; refine (H.out _ _).mono ?_; rintro e w2 ⟨rfl, rfl⟩)
      go_ret
      exact ⟨rfl, rfl⟩
def cmpRg (x y : Int × Int) : Int := Lib.compareInt x.1 y.1
theorem closure_any (x y : Int × Int) (W : World) : Calls Tryz.prog 222 #[.agg #[.int .i32 x.1, .int .i32 x.2], .agg #[.int .i32 y.1, .int .i32 y.2]] W fun e w' => e = .returned (.int .i64 (cmpRg x y)) ∧ ∃ q os', w' = grow (W.drewN q) os' := by
  have HC := hide2 (fun W' => compareRune_any x.1 y.1 W')
  unfold cmpRg
  generalize Lib.compareInt x.1 y.1 = r at *
  go_enter Tryz.func222, Tryz.ntmps222
  go_wp2_with (go_at_call 223; refine (HC.out _).mono ?_; rintro e w' ⟨rfl, rfl⟩)
  go_ret
  exact ⟨rfl, 0, _, by rw [alloc_eq_grow, alloc_eq_grow, grow_grow]; rfl⟩
theorem cmp_lays (blk off size : Nat) (w : World) : CmpLays Tryz.prog 222 #[] rgCells 2 cmpRg blk off size w :=
  fun _ _ _ _ x y => closure_any x y _
theorem bits_len (n : Nat) (W : World) (h : n ≤ 12) : Calls Tryz.prog 176 #[.int .u64 n] W fun e w' => (∃ l : Int, e = .returned (.int .i64 l)) ∧ w' = W :=
  (Any.bits_Len Tryz.bitsLen n W (by omega) (by omega)).mono fun _ _ ⟨he, hw⟩ => ⟨⟨_, he⟩, hw⟩
theorem flat_rg (l : List (Int × Int)) (j : Nat) (hj : j < l.length * 2) : (l.flatMap rgCells)[j]? = some ((flatK rgCells 2 l.toArray)[j]!) := by
  rw [get_flatK _ _ _ _ (by simpa using hj)]
  have h2 : j / 2 < l.length := by omega
  have e := flat_at rgCells 2 (fun _ => rfl) l (j / 2) (j % 2) h2 (by omega)
  rw [show j / 2 * 2 + j % 2 = j by omega] at e
  rw [e, getElem!_pos l.toArray (j / 2) (by simpa using h2)]
  have : j % 2 = 0 ∨ j % 2 = 1 := by omega
  rcases this with h | h <;> rw [h] <;> rfl
theorem RowAt.holds {w : World} {rb ro rc : Nat} {l : List (Int × Int)} (h : RowAt 2 w (some ⟨rb, ro, none⟩) rc l.length (l.flatMap rgCells)) : HoldsK rgCells 2 w rb ro l.toArray := by
  intro j hj
  have hj' : j < l.length * 2 := by simpa using hj
  rcases h.row with ⟨h, _⟩ | ⟨_, _, e, _, h2, _, _, h5⟩
  · cases h
  cases e
  exact ⟨h2 j _ (flat_rg l j hj'), h5 _⟩
theorem chg_sort {w : World} {rb ro n : Nat} {l l' : List (Int × Int)} {os : Array Obj} (hH : HoldsK rgCells 2 w rb ro l.toArray) (hl : l'.length = l.length) (hb : rb < w.heap.size) : Chg (fun i _ => i = rb) w (sortWorldK rgCells 2 w rb ro n l'.toArray os) := by
  have hput : ∀ a : Addr, a.block < w.heap.size → (sortWorldK rgCells 2 w rb ro n l'.toArray os).cell? a = (putRowK rgCells 2 (Sort.ahead w n) rb ro l'.toArray).cell? a := fun a ha => cell?_grow _ _ _ (by simpa [putRowK, putRow, mapBlock, Sort.ahead] using ha)
  have hold : ∀ k, k < w.heap.size → (sortWorldK rgCells 2 w rb ro n l'.toArray os).heap[k]? = (putRowK rgCells 2 (Sort.ahead w n) rb ro l'.toArray).heap[k]? := fun k hk => heap_grow_old _ _ (by simpa [putRowK, putRow, mapBlock, Sort.ahead] using hk)
  have hfrz : ∀ k o, k < w.heap.size → (sortWorldK rgCells 2 w rb ro n l'.toArray os).frozen? ⟨k, o, none⟩ = w.frozen? ⟨k, o, none⟩ := fun k o hk => by
    unfold sortWorldK
    rw [frozen?_grow _ _ _ (by simpa [putRowK, putRow, mapBlock, Sort.ahead] using hk)]
    unfold putRowK
    rw [frozen?_putRow]; rfl
  have hother : ∀ k, k < w.heap.size → k ≠ rb → (sortWorldK rgCells 2 w rb ro n l'.toArray os).heap[k]? = w.heap[k]? := fun k hk hne => by
    rw [hold k hk]
    simp [putRowK, putRow, mapBlock, Sort.ahead, Array.getElem?_modify, Ne.symm hne]
  refine ⟨rfl, rfl, rfl, ?_, fun k hk ht => hother k hk (fun e => ht 0 e), fun k o hk ht => cell_block (hother k hk ht), fun k o hk _ => hfrz k o hk, ⟨?_, fun k ob hk hc => ?_⟩, hfrz, fun k o hk => ?_⟩
  · simp [sortWorldK, putRowK, putRow, mapBlock, Sort.ahead]
  · simp [sortWorldK, putRowK, putRow, mapBlock, Sort.ahead]
  · have hk' := (Array.getElem?_eq_some_iff.1 hk).1
    by_cases e : k = rb
    · rw [hold k hk']
      subst e
      simp only [putRowK, putRow, mapBlock, Sort.ahead, Array.getElem?_modify, hk]
      cases ob <;> simp_all [onCells, Obj.isCells]
    · rw [hother k hk' e]; exact hk
  · rw [hput _ hk]
    by_cases e : k = rb
    · subst e
      by_cases hin : ro ≤ o ∧ o < ro + l.length * 2
      · obtain ⟨j, rfl⟩ : ∃ j, o = ro + j := ⟨o - ro, by omega⟩
        have hj : j < l.length * 2 := by omega
        have hA : HoldsK rgCells 2 (Sort.ahead w n) k ro l.toArray := hH
        rw [(hH j (by simpa using hj)).1, ((holdsK_putRowK rgCells 2 (Sort.ahead w n) k ro l.toArray l'.toArray hA (by simpa using hl)) j (by simp [hl]; omega)).1]; rfl
      · unfold putRowK
        rw [cell?_putRow_other _ _ _ _ _ _ (.inr (by simp [hl]; omega))]; rfl
    · rw [cell?_putRowK_other rgCells 2 _ _ _ _ _ e]; rfl
theorem lt_eq : ltOf cmpRg = Sg.ltR := by
  funext x y
  unfold ltOf cmpRg Sg.ltR Lib.compareInt
  by_cases h : x.1 < y.1
  · simp [h]
  · by_cases h2 : x.1 > y.1
    · simp [h, h2]
    · simp [h, h2]
theorem byLow_len (l : List (Int × Int)) : (Sg.byLow l).length = l.length := by
  have h : ∀ (l a : List (Int × Int)), (l.foldl (fun a r => Sg.insLow r a) a).length = a.length + l.length := fun l => by
    induction l with
    | nil => intro a; rfl
    | cons x l ih => intro a; rw [List.foldl_cons, ih, Sg.insLow_len, List.length_cons]; omega
  unfold Sg.byLow
  rw [h]; simp
theorem sort_any (w : World) (rb ro rc : Nat) (l : List (Int × Int)) (hR : RowAt 2 w (some ⟨rb, ro, none⟩) rc l.length (l.flatMap rgCells)) (h12 : l.length ≤ 12) :
    Calls Tryz.prog 221 #[.slice (some ⟨rb, ro, none⟩) l.length rc, .func (.func 222) #[] #[]] w fun e w' => e = .returned (.tuple #[]) ∧ RowAt 2 w' (some ⟨rb, ro, none⟩) rc l.length ((Sg.byLow l).flatMap rgCells) ∧ Chg (fun i _ => i = rb) w w' := by
  have eg : ∀ args w, (callFunc 222 args).run Tryz.prog w = .ok (.enter 222 args) w := enters_of Tryz.func222 (by kernel_rfl) rfl
  have hb := hR.lt rfl
  have hH := hR.holds
  have hcon := AnyQ.slices_SortFunc_small Tryz.sortRg 2 Tryz.isAgg294 Tryz.sizeOf294 rgCells (fun _ => rfl) (fun x v hv => by simp [rgCells] at hv; rcases hv with rfl | rfl <;> rfl) cmpRg 222 #[] rb ro rc l.toArray w eg (cmp_lays rb ro l.toArray.size w) hH hb (by simpa using h12) bits_len
  change Calls Tryz.prog 221 _ _ _ at hcon
  rw [List.size_toArray] at hcon
  refine hcon.mono ?_
  rintro e w' ⟨rfl, n, os, rfl⟩
  have hs := Sg.insertionSort_byLow l.toArray
  rw [List.size_toArray] at hs
  have hs' : Sort.insertionSort (ltOf cmpRg) l.toArray 0 l.length = (Sg.byLow l).toArray := by
    rw [lt_eq]
    apply Array.toList_inj.1
    rw [hs]
  rw [hs']
  have hc := chg_sort (n := n) (l' := Sg.byLow l) (os := os) hH (byLow_len l) hb
  refine ⟨rfl, ⟨by rw [rg_len, byLow_len], ?_⟩, hc⟩
  rcases hR.row with ⟨h, _⟩ | ⟨_, _, e, h1, h2, h3, h4, h5⟩
  · cases h
  cases e
  refine .inr ⟨rb, ro, rfl, h1, fun j v hj => ?_, fun j hj => by rw [hc.live _ _ hb]; exact h3 j hj, Nat.lt_of_lt_of_le hb hc.size, fun j => (hc.frz _ _ hb).trans (h5 j)⟩
  have hjl : j < (Sg.byLow l).length * 2 := by
    have := (List.getElem?_eq_some_iff.1 hj).1
    rwa [rg_len] at this
  rw [flat_rg _ j hjl] at hj
  have hA : HoldsK rgCells 2 (Sort.ahead w n) rb ro l.toArray := hH
  have hp := ((holdsK_putRowK rgCells 2 (Sort.ahead w n) rb ro l.toArray (Sg.byLow l).toArray hA (by simpa using byLow_len l)) j (by simpa using hjl)).1
  unfold sortWorldK
  rw [cell?_grow _ _ _ (by simpa [putRowK, putRow, mapBlock, Sort.ahead] using hb), hp]
  exact hj
end Go.Proofs.YtlhokghgicgppaaGreatDoor
namespace Go.Proofs.YtlhokghgicgppaaGreatDoor
open Go.RowKit Go.Extern
def Bnd (l : List (Int × Int)) : Prop := ∀ x ∈ l, (-1 ≤ x.1 ∧ x.1 ≤ 1114112) ∧ (-1 ≤ x.2 ∧ x.2 ≤ 1114112)
theorem mem_insLow (r y : Int × Int) : ∀ l : List (Int × Int), y ∈ Sg.insLow r l → y = r ∨ y ∈ l
  | [], h => by simp [Sg.insLow] at h; exact .inl h
  | z :: l, h => by
    simp only [Sg.insLow] at h
    split at h
    · rcases List.mem_cons.1 h with rfl | h
      · exact .inl rfl
      · exact .inr h
    · rcases List.mem_cons.1 h with rfl | h
      · exact .inr (List.mem_cons_self ..)
      · rcases mem_insLow r y l h with h | h
        · exact .inl h
        · exact .inr (List.mem_cons_of_mem _ h)
theorem mem_byLow (l : List (Int × Int)) (y : Int × Int) (h : y ∈ Sg.byLow l) : y ∈ l := by
  have g : ∀ (l a : List (Int × Int)), y ∈ l.foldl (fun a r => Sg.insLow r a) a → y ∈ a ∨ y ∈ l := fun l => by
    induction l with
    | nil => intro a h; exact .inl h
    | cons x l ih =>
      intro a h
      rcases ih _ h with h | h
      · rcases mem_insLow x y a h with h | h
        · exact .inr (h ▸ List.mem_cons_self ..)
        · exact .inl h
      · exact .inr (List.mem_cons_of_mem _ h)
  rcases g l [] h with h | h
  · cases h
  · exact h
theorem Bnd.add {l : List (Int × Int)} (h : Bnd l) {a b : Int} (ha : -1 ≤ a ∧ a ≤ 1114112) (hb : -1 ≤ b ∧ b ≤ 1114112) : Bnd (Sg.addRange l a b) := by
  unfold Sg.addRange
  split
  · exact h
  · intro x hx
    rcases List.mem_append.1 hx with hx | hx
    · exact h x hx
    · simp at hx; subst hx; exact ⟨ha, hb⟩
theorem addRange_len (l : List (Int × Int)) (a b : Int) : (Sg.addRange l a b).length ≤ l.length + 1 := by
  unfold Sg.addRange
  split <;> simp
def stepOf (l : List (Int × Int)) (r : Int × Int) : List (Int × Int) := Sg.addRange (Sg.addRange l r.1 (min r.2 55295)) (max r.1 57344) r.2
theorem partsOf_take (rs : List (Int × Int)) (j : Nat) (h : j < rs.length) : Sg.partsOf (rs.take (j + 1)) = stepOf (Sg.partsOf (rs.take j)) rs[j] := by
  unfold Sg.partsOf
  rw [List.take_succ_eq_append_getElem h, List.foldl_append]; rfl
theorem InD.moved {B : Nat} {W : World} {ra ra' : Option Addr} (h : InD (fun b => B ≤ b) ra) (hB : B ≤ W.heap.size) (m : Moved W ra ra') : InD (fun b => B ≤ b) ra' := by
  rcases m with m | ⟨rb, e, g⟩
  · rw [m]; exact h
  · rw [e]; intro b o e2; cases e2; exact Nat.le_trans hB g
theorem below_row {a b c : World} {ra : Option Addr} (h : Below a.heap.size a b) (hc : Chg (rowT ra) b c) (hi : InD (fun i => a.heap.size ≤ i) ra) : Below a.heap.size a c :=
  h.trans (hc.below h.size (fun i o hlt => by
    rintro ⟨o', e⟩
    have := hi i o' e
    omega))
theorem of_any (w : World) (ra : Option Addr) (rc : Nat) (rs : List (Int × Int)) (hR : RowAt 2 w ra rc rs.length (rs.flatMap rgCells)) (h6 : rs.length ≤ 6) (hB : Bnd rs) (hne : Sg.partsOf rs ≠ []) :
    Calls Tryz.prog 203 #[.slice ra rs.length rc] w fun e w' => ∃ ra' rc', e = .returned (.slice ra' (Sg.ofR rs).length rc') ∧ RowAt 2 w' ra' rc' (Sg.ofR rs).length ((Sg.ofR rs).flatMap rgCells) ∧ Below w.heap.size w w' ∧ InD (fun b => w.heap.size ≤ b) ra' := by
  have HR := hide2 hR
  have HB := hide2 hB
  have HN := hide2 hne
  clear hR hB hne
  generalize hfin : Sg.ofR rs = fin
  have HF := hide2 hfin
  clear hfin
  go_enter Tryz.func203, Tryz.ntmps203
  go_wp2
  go_loopw [3, 8] (fun sv iv wr => ∃ (j n : Nat) (pa : Option Addr) (pc : Nat) (ps : List (Int × Int)), sv = .slice pa n pc ∧ iv = .int .i64 j ∧ j ≤ rs.length ∧ n ≤ 2 * j ∧ Hid (n = ps.length ∧ RowAt 2 wr pa pc n (ps.flatMap rgCells) ∧ InD (fun b => w.heap.size ≤ b) pa ∧ Below w.heap.size w wr ∧ ps = Sg.partsOf (rs.take j) ∧ Bnd ps)) (fun _ iv _ => rs.length - (intOf iv).toNat)
  case atStart => exact ⟨0, 0, none, 0, [], rfl, rfl, Nat.zero_le _, Nat.le_refl _, hide2 ⟨rfl, RowAt.nil 2 w, (fun _ _ e => by cases e), Below.refl _ _, rfl, fun x hx => by cases hx⟩⟩
  case round =>
    obtain ⟨j, n, pa, pc, ps, rfl, rfl, hj, hn, H⟩ := hrel
    by_cases hlt : j < rs.length
    · obtain ⟨g0, g1, g2, g3, g4, g5⟩ := H.out
      subst g0
      obtain ⟨rb, ro, rfl, hrl, k0, k1⟩ := rg_cells (HR.out.below g3) j hlt
      rw [getD_of rs j hlt] at k0 k1
      have hst := partsOf_take rs j hlt
      rw [← g4] at hst
      have hxb := HB.out rs[j] (List.getElem_mem _)
      generalize rs[j] = x at *
      obtain ⟨x1, x2⟩ := x
      dsimp only at k0 k1 hxb
      have hbl := blw1' wr (.cells #[.int .i32 x1, .int .i32 x2] 294)
      have A1 := addRange_any _ pa pc ps (g1.below hbl) (by omega) x1 (min x2 55295)
      have hw1 := below_go g3 hbl
      have hnb := heap_alloc_new wr (.cells #[.int .i32 x1, .int .i32 x2] 294)
      have hpl : ∀ b o, pa = some ⟨b, o, none⟩ → b < wr.heap.size := fun b o e => g1.lt e
      have hb1 := g5.add hxb.1 (a := x1) (b := min x2 55295) (by omega)
      have hl1 := addRange_len ps x1 (min x2 55295)
      have hb2 := hb1.add (a := max x1 57344) (b := x2) (by omega) hxb.2
      have hl2 := addRange_len (Sg.addRange ps x1 (min x2 55295)) (max x1 57344) x2
      have hst2 : stepOf ps (x1, x2) = Sg.addRange (Sg.addRange ps x1 (min x2 55295)) (max x1 57344) x2 := rfl
      rw [hst2] at hst
      have A2 : ∀ (W : World) (qa : Option Addr) (qc : Nat), RowAt 2 W qa qc (Sg.addRange ps x1 (min x2 55295)).length ((Sg.addRange ps x1 (min x2 55295)).flatMap rgCells) → _ := fun W qa qc h => addRange_any W qa qc _ h (by omega) (max x1 57344) x2
      generalize Sg.addRange (Sg.addRange ps x1 (min x2 55295)) (max x1 57344) x2 = p2 at *
      generalize Sg.addRange ps x1 (min x2 55295) = p1 at *
      generalize hm1 : p1.length = n1 at *
      generalize hm2 : p2.length = n2 at *
      have HA1 := hide2 A1
      have HA2 := hide2 A2
      have HX := hide2 (And.intro g2 (And.intro hw1 (And.intro hnb (And.intro hst (And.intro hb2 (And.intro hpl hm2))))))
      clear A1 A2 g1 g2 g3 g4 g5 hbl hw1 hnb hpl hb1 hb2 hst hst2 H hm1 hm2
      generalize ps.length = n at *
      go_wp2_with (first
        | (go_at_call 220; refine HA1.out.mono ?_; clear HA1; rintro e w1 ⟨qa, qc, rfl, hrow1, hch1, hmv1⟩; have hcb : w1.heap[wr.heap.size]? = some (.cells #[.int .i32 x1, .int .i32 x2] 294) := (hch1.block _ (by simp) (fun o t => by obtain ⟨o', e⟩ := t; have := HX.out.2.2.2.2.2.1 _ _ e; omega)).trans HX.out.2.2.1; have c0 : w1.cell? ⟨wr.heap.size, 0, none⟩ = some (.int .i32 x1) := cell_of' hcb 0; have c1 : w1.cell? ⟨wr.heap.size, 1, none⟩ = some (.int .i32 x2) := cell_of' hcb 1; have H1 := hide2 (And.intro hrow1 (And.intro hch1 hmv1)); clear hrow1 hch1 hmv1 hcb)
        | (go_at_call 220; refine (HA2.out _ _ _ H1.out.1).mono ?_; clear HA2; rintro e w2 ⟨ua, uc, rfl, hrow2, hch2, hmv2⟩; have H2 := hide2 (And.intro hrow2 (And.intro hch2 hmv2)); clear hrow2 hch2 hmv2))
      obtain ⟨f1, f2, f3, f4, f5, f6, f7⟩ := HX.out
      obtain ⟨r1, r2, r3⟩ := H1.out
      obtain ⟨t1, t2, t3⟩ := H2.out
      have i1 := f1.moved f2.size r3
      have d1 := below_row f2 r2 f1
      exact ⟨⟨j + 1, n2, ua, uc, p2, rfl, by go_num, by omega, by omega, hide2 ⟨f7.symm, t1, i1.moved d1.size t3, below_row d1 t2 i1, f4.symm, f5⟩⟩, by simp [intOf]; omega⟩
    · obtain ⟨g0, g1, g2, g3, g4, g5⟩ := H.out
      subst g0
      rw [List.take_of_length_le (by omega)] at g4
      have hne := HN.out
      rw [← g4] at hne
      obtain ⟨rb, ro, rfl⟩ : ∃ rb ro, pa = some ⟨rb, ro, none⟩ := by
        rcases g1.row with ⟨_, _, h⟩ | ⟨rb, ro, e, _⟩
        · exact absurd (List.eq_nil_of_length_eq_zero h) hne
        · exact ⟨rb, ro, e⟩
      have A1 := sort_any wr rb ro pc ps g1 (by omega)
      have hfr := g2 rb ro rfl
      have hof : Sg.joinGo none (Sg.byLow ps) = fin := by rw [← HF.out]; unfold Sg.ofR; rw [← g4]
      have hbb : ∀ x ∈ Sg.byLow ps, -2147483648 ≤ x.2 ∧ x.2 < 2147483647 := fun x hx => by
        have := g5 x (mem_byLow ps x hx); omega
      have A2 : ∀ (W : World), RowAt 2 W (some ⟨rb, ro, none⟩) pc (Sg.byLow ps).length ((Sg.byLow ps).flatMap rgCells) → _ := fun W h => joined_any W _ pc _ h (by rw [byLow_len]; omega) hbb
      rw [byLow_len, hof] at A2
      generalize Sg.byLow ps = bs at *
      have HA1 := hide2 A1
      have HA2 := hide2 A2
      have HX := hide2 (And.intro g3 hfr)
      clear A1 A2 g1 g2 g3 g4 g5 hbb hof H hne hfr
      generalize ps.length = n at *
      go_wp2_with (first
        | (go_at_call 221; refine HA1.out.mono ?_; clear HA1; rintro e w1 ⟨rfl, hrow1, hch1⟩; have H1 := hide2 (And.intro hrow1 hch1); clear hrow1 hch1)
        | (go_at_call 224; refine (HA2.out _ H1.out.1).mono ?_; clear HA2; rintro e w2 ⟨ua, uc, rfl, hrow2, hb2, hi2⟩; have H2 := hide2 (And.intro hrow2 (And.intro hb2 hi2)); clear hrow2 hb2 hi2))
      go_ret
      obtain ⟨f1, f2⟩ := HX.out
      obtain ⟨r1, r2⟩ := H1.out
      obtain ⟨t1, t2, t3⟩ := H2.out
      have d1 : Below w.heap.size w w1 := f1.trans (r2.below f1.size (fun i o hlt t => by omega))
      exact ⟨ua, uc, rfl, t1, below_go d1 t2, t3.of (fun b h => Nat.le_trans d1.size h)⟩
end Go.Proofs.YtlhokghgicgppaaGreatDoor
