/- (*layout).connect. -/
/- (scalars.Set).Has; (*layout).matching. -/
/- (*layout).matching. -/
import Derived.Test.YtlhokghgicgppaaGreatDoorRd1
set_option linter.unusedSimpArgs false
set_option linter.unusedVariables false
set_option maxRecDepth 100000
set_option maxHeartbeats 4000000
namespace Go.Proofs.YtlhokghgicgppaaGreatDoor
open Go.RowKit Go.Extern
structure FunAt (w : World) (p n : Nat) (F : Nat → Nat) : Prop where
  c0 : w.cell? ⟨p, 0, none⟩ = some (.int .i64 n)
  f0 : ∀ i, i < 64 → w.cell? ⟨p, 65 + i * 2, none⟩ = some (.int .u32 ((F i % 4294967296 : Nat) : Int))
  f1 : ∀ i, i < 64 → w.cell? ⟨p, 65 + i * 2 + 1, none⟩ = some (.int .u32 ((F i / 4294967296 : Nat) : Int))
  fz : ∀ o, w.frozen? ⟨p, o, none⟩ = false
theorem FunAt.below {w w' : World} {p n : Nat} {F : Nat → Nat} (h : FunAt w p n F) (hb : Below w.heap.size w w') : FunAt w' p n F :=
  ⟨below_keep hb h.c0, fun i hi => below_keep hb (h.f0 i hi), fun i hi => below_keep hb (h.f1 i hi), fun o => below_frz hb (cell_lt h.c0) (h.fz o)⟩
theorem FunAt.set {w : World} {p n : Nat} {F G : Nat → Nat} (h : FunAt w p n F) (j : Nat) (v : Nat) (hG : ∀ i, i < 64 → G i = if i = j then v else F i) :
    FunAt ((w.setCell ⟨p, 65 + j * 2, none⟩ (.int .u32 ((v % 4294967296 : Nat) : Int))).setCell ⟨p, 65 + j * 2 + 1, none⟩ (.int .u32 ((v / 4294967296 : Nat) : Int))) p n G := by
  refine ⟨?_, fun i hi => ?_, fun i hi => ?_, fun o => ?_⟩
  · exact (World.cell?_setCell_other _ _ _ _ (by simp)).trans ((World.cell?_setCell_other _ _ _ _ (by simp)).trans h.c0)
  · rw [hG i hi]
    by_cases e : i = j
    · subst e
      rw [if_pos rfl]
      exact (World.cell?_setCell_other _ _ _ _ (by simp)).trans (World.cell?_setCell_same _ _ _ (h.f0 i hi))
    · rw [if_neg e]
      exact (World.cell?_setCell_other _ _ _ _ (by simp <;> omega)).trans ((World.cell?_setCell_other _ _ _ _ (by simp <;> omega)).trans (h.f0 i hi))
  · rw [hG i hi]
    by_cases e : i = j
    · subst e
      rw [if_pos rfl]
      exact World.cell?_setCell_same _ _ _ ((World.cell?_setCell_other _ _ _ _ (by simp)).trans (h.f1 i hi))
    · rw [if_neg e]
      exact (World.cell?_setCell_other _ _ _ _ (by simp <;> omega)).trans ((World.cell?_setCell_other _ _ _ _ (by simp <;> omega)).trans (h.f1 i hi))
  · rw [World.frozen?_setCell, World.frozen?_setCell]; exact h.fz o
def conF (L : Nat → Nat) (a b j i : Nat) : Nat := if i < j ∧ a.testBit i = true then L i ||| b else L i
theorem conF_zero (L : Nat → Nat) (a b : Nat) : conF L a b 0 = L := by funext i; unfold conF; rw [if_neg (by omega)]
theorem conF_no {L : Nat → Nat} {a b j : Nat} (h : a.testBit j = false) : conF L a b (j + 1) = conF L a b j := by
  funext i
  unfold conF
  by_cases hi : i = j
  · subst hi; rw [if_neg (by rw [h]; simp), if_neg (by omega)]
  · by_cases h1 : i < j ∧ a.testBit i = true
    · rw [if_pos h1, if_pos ⟨by omega, h1.2⟩]
    · rw [if_neg h1, if_neg (fun t => h1 ⟨by omega, t.2⟩)]
theorem conF_yes {L : Nat → Nat} {a b j : Nat} (h : a.testBit j = true) (i : Nat) : conF L a b (j + 1) i = if i = j then L j ||| b else conF L a b j i := by
  by_cases hi : i = j
  · subst hi; rw [if_pos rfl]; unfold conF; rw [if_pos ⟨by omega, h⟩]
  · rw [if_neg hi]; unfold conF
    by_cases h1 : i < j ∧ a.testBit i = true
    · rw [if_pos h1, if_pos ⟨by omega, h1.2⟩]
    · rw [if_neg h1, if_neg (fun t => h1 ⟨by omega, t.2⟩)]
theorem conF_at (L : Nat → Nat) (a b j : Nat) : conF L a b j j = L j := by unfold conF; rw [if_neg (by omega)]
abbrev folT (p : Nat) : Nat → Nat → Prop := fun i o => i = p ∧ 65 ≤ o ∧ o < 193
theorem connect_any (w : World) (p n : Nat) (L : Nat → Nat) (a b : Nat) (ha : a < 18446744073709551616) (hb : b < 18446744073709551616) (hL : ∀ i, L i < 18446744073709551616) (hn : n ≤ 64) (h : FunAt w p n L) :
    Calls Tryz.prog 174 #[.pointer (some ⟨p, 0, none⟩), psV a, psV b] w fun e w' => e = .returned (.tuple #[]) ∧ FunAt w' p n (conF L a b n) ∧ Chg (folT p) w w' := by
  have HF := hide2 h
  have hc := h.c0
  have hp := cell_lt hc
  clear h
  have hc2 : ∀ o1 o2, ((w.alloc o1).alloc o2).cell? ⟨p, 0, none⟩ = some (.int .i64 n) := fun o1 o2 => below_keep (below2 w o1 o2) hc
  have HHas := hide2 (fun (i : Nat) (hi : i < 64) (wx : World) => has_any a ha i hi wx)
  have HOr := hide2 (fun (x : Nat) (hx : x < 18446744073709551616) (wx : World) => or_any x b hx hb wx)
  have hpa : psV a = .agg #[.int .u32 ((a % 4294967296 : Nat) : Int), .int .u32 ((a / 4294967296 : Nat) : Int)] := rfl
  have hpb : psV b = .agg #[.int .u32 ((b % 4294967296 : Nat) : Int), .int .u32 ((b / 4294967296 : Nat) : Int)] := rfl
  rw [hpa, hpb]
  rw [hpa] at HHas
  rw [hpb] at HOr
  clear hpa hpb hc ha hb
  generalize ((a % 4294967296 : Nat) : Int) = a0 at *
  generalize ((a / 4294967296 : Nat) : Int) = a1 at *
  generalize ((b % 4294967296 : Nat) : Int) = b0 at *
  generalize ((b / 4294967296 : Nat) : Int) = b1 at *
  go_enter Tryz.func174, Tryz.ntmps174
  go_wp2
  go_loopw [11] (fun iv wr => ∃ j : Nat, iv = .int .i64 j ∧ j ≤ n ∧ wr.cell? ⟨w.heap.size, 0, none⟩ = some (.int .u32 a0) ∧ wr.cell? ⟨w.heap.size, 1, none⟩ = some (.int .u32 a1) ∧
      wr.cell? ⟨w.heap.size + 1, 0, none⟩ = some (.int .u32 b0) ∧ wr.cell? ⟨w.heap.size + 1, 1, none⟩ = some (.int .u32 b1) ∧
      Hid (FunAt wr p n (conF L a b j) ∧ Chg (folT p) w wr)) (fun iv _ => n - (intOf iv).toNat)
  case atStart => exact ⟨0, rfl, Nat.zero_le _, by go_simp, by go_simp, by go_simp, by go_simp, hide2 ⟨by rw [conF_zero]; exact HF.out.below (below2 _ _ _), Chg.of_below (below2 _ _ _)⟩⟩
  case round =>
    obtain ⟨j, rfl, hj, i0, i1, j0, j1, H⟩ := hrel
    by_cases hlt : j < n
    · have hH := fun wx => HHas.out j (by omega) wx
      cases hbit : a.testBit j with
      | false =>
        rw [hbit] at hH
        have HH := hide2 hH
        have HC := hide2 (conF_no (L := L) (b := b) hbit)
        clear hH HOr HHas hc2
        go_wp2_with (go_at_call 151; refine (HH.out _).mono ?_; rintro e w2 ⟨rfl, hb2⟩)
        exact ⟨⟨j + 1, rfl, by omega, below_keep hb2 i0, below_keep hb2 i1, below_keep hb2 j0, below_keep hb2 j1, hide2 ⟨by rw [HC.out]; exact H.out.1.below hb2, H.out.2.trans (Chg.of_below hb2)⟩⟩, by simp [intOf]; omega⟩
      | true =>
        rw [hbit] at hH
        have HH := hide2 hH
        have HC := hide2 (fun i => conF_yes (L := L) (b := b) hbit i)
        have hO := fun wx => HOr.out (L j) (hL j) wx
        have hpx : psV (L j) = .agg #[.int .u32 ((L j % 4294967296 : Nat) : Int), .int .u32 ((L j / 4294967296 : Nat) : Int)] := rfl
        have hpr : psV (L j ||| b) = .agg #[.int .u32 (((L j ||| b) % 4294967296 : Nat) : Int), .int .u32 (((L j ||| b) / 4294967296 : Nat) : Int)] := rfl
        rw [hpx, hpr] at hO
        have HO := hide2 hO
        have k0 := H.out.1.f0 j (by omega)
        have k1 := H.out.1.f1 j (by omega)
        rw [conF_at] at k0 k1
        have z := H.out.1.fz
        clear hH hO hpx hpr HHas HOr hc2
        go_wp2_with (go_at_call 151; refine (HH.out _).mono ?_; rintro e w2 ⟨rfl, hb2⟩)
        have m0 := below_keep hb2 k0
        have m1 := below_keep hb2 k1
        have y0 := below_frz hb2 (cell_lt k0) (z (65 + j * 2))
        have y1 := below_frz hb2 (cell_lt k0) (z (65 + j * 2 + 1))
        have e0 := below_keep hb2 i0
        have e1 := below_keep hb2 i1
        have d0 := below_keep hb2 j0
        have d1 := below_keep hb2 j1
        have HB := hide2 (And.intro (H.out.1.below hb2) (H.out.2.trans (Chg.of_below hb2)))
        clear k0 k1 z i0 i1 j0 j1 hb2 HH H
        generalize hv : L j ||| b = v at *
        generalize hv0 : ((v % 4294967296 : Nat) : Int) = v0 at *
        generalize hv1 : ((v / 4294967296 : Nat) : Int) = v1 at *
        have HV := hide2 (And.intro hv0 hv1)
        clear hv0 hv1 hv
        generalize ((L j % 4294967296 : Nat) : Int) = x0 at *
        generalize ((L j / 4294967296 : Nat) : Int) = x1 at *
        go_region_with (go_at_call 105; refine (HO.out _).mono ?_; rintro e w3 ⟨rfl, hb3⟩; have g0 := below_keep hb3 m0; have g1 := below_keep hb3 m1; have h0 := below_frz hb3 (cell_lt m0) y0; have h1 := below_frz hb3 (cell_lt m0) y1)
        all_goals
          have n0 := below_keep hb3 e0
          have n1 := below_keep hb3 e1
          have n2 := below_keep hb3 d0
          have n3 := below_keep hb3 d1
          have hF3 : FunAt w3 p n (conF L a b j) := FunAt.below (w := w2.drew) ⟨HB.out.1.c0, HB.out.1.f0, HB.out.1.f1, HB.out.1.fz⟩ hb3
          have hC3 : Chg (folT p) w w3 := (HB.out.2.drew).trans (Chg.of_below hb3)
          have HN := hide2 (And.intro hF3 hC3)
          clear m0 m1 y0 y1 e0 e1 d0 d1 HO HB hb3 hF3 hC3
          go_wp2
          refine ⟨⟨j + 1, rfl, by omega, ?_, ?_, ?_, ?_, hide2 ⟨?_, ?_⟩⟩, by simp [intOf]; omega⟩
          · exact (World.cell?_setCell_other _ _ _ _ (by simp <;> omega)).trans ((World.cell?_setCell_other _ _ _ _ (by simp <;> omega)).trans n0)
          · exact (World.cell?_setCell_other _ _ _ _ (by simp <;> omega)).trans ((World.cell?_setCell_other _ _ _ _ (by simp <;> omega)).trans n1)
          · exact (World.cell?_setCell_other _ _ _ _ (by simp <;> omega)).trans ((World.cell?_setCell_other _ _ _ _ (by simp <;> omega)).trans n2)
          · exact (World.cell?_setCell_other _ _ _ _ (by simp <;> omega)).trans ((World.cell?_setCell_other _ _ _ _ (by simp <;> omega)).trans n3)
          · rw [← HV.out.1, ← HV.out.2]
            exact HN.out.1.set j v (fun i _ => HC.out i)
          · exact (HN.out.2.setCell ⟨rfl, by omega, by omega⟩ _).setCell ⟨rfl, by omega, by omega⟩ _
    · have hj' : j = n := by omega
      subst hj'
      go_wp2
      go_end0
      exact ⟨rfl, H.out.1, H.out.2⟩
end Go.Proofs.YtlhokghgicgppaaGreatDoor
namespace Go.Proofs.YtlhokghgicgppaaGreatDoor
open Go.RowKit Go.Extern
theorem rg_cells {w : World} {ra : Option Addr} {rc : Nat} {l : List (Int × Int)} (h : RowAt 2 w ra rc l.length (l.flatMap rgCells)) (j : Nat) (hj : j < l.length) :
    ∃ rb ro, ra = some ⟨rb, ro, none⟩ ∧ rb < w.heap.size ∧ w.cell? ⟨rb, ro + j * 2, none⟩ = some (.int .i32 (l.getD j (0, 0)).1) ∧ w.cell? ⟨rb, ro + j * 2 + 1, none⟩ = some (.int .i32 (l.getD j (0, 0)).2) := by
  have e : l.getD j (0, 0) = l[j] := by rw [List.getD_eq_getElem?_getD, List.getElem?_eq_getElem hj]; rfl
  rw [e]
  rcases h.row with ⟨_, _, h0⟩ | ⟨rb, ro, rfl, _, hc, _, hlt, _⟩
  · omega
  · refine ⟨rb, ro, rfl, hlt, ?_, ?_⟩
    · have := hc (j * 2 + 0) (.int .i32 l[j].1) (by rw [flat_at rgCells 2 (fun _ => rfl) l j 0 hj (by omega)]; rfl)
      simpa using this
    · have := hc (j * 2 + 1) (.int .i32 l[j].2) (by rw [flat_at rgCells 2 (fun _ => rfl) l j 1 hj (by omega)]; rfl)
      rw [← Nat.add_assoc] at this; exact this
theorem hasR_any (w : World) (ra : Option Addr) (rc : Nat) (l : List (Int × Int)) (c : Int) (hrow : RowAt 2 w ra rc l.length (l.flatMap rgCells)) (hN : l.length < 1000000) :
    Calls Tryz.prog 149 #[.slice ra l.length rc, .int .i32 c] w fun e w' => e = .returned (.bool (Sg.hasR l c)) ∧ Below w.heap.size w w' := by
  have HR := hide2 hrow
  have H0 := hide2 (show Sg.hasR l c = Sg.hasR (l.drop 0) c from rfl)
  clear hrow
  generalize Sg.hasR l c = r at *
  go_enter Tryz.func149, Tryz.ntmps149
  go_wp2
  go_loopw [9] (fun iv wr => ∃ j : Nat, iv = .int .i64 j ∧ j ≤ l.length ∧ Hid (Below w.heap.size w wr ∧ r = Sg.hasR (l.drop j) c)) (fun iv _ => l.length - (intOf iv).toNat)
  case atStart => exact ⟨0, rfl, Nat.zero_le _, hide2 ⟨Below.refl _ _, H0.out⟩⟩
  case round =>
    obtain ⟨j, rfl, hj, H⟩ := hrel
    by_cases hlt : j < l.length
    · obtain ⟨rb, ro, rfl, _, k0, k1⟩ := rg_cells (HR.out.below H.out.1) j hlt
      have hd : l.drop j = l.getD j (0, 0) :: l.drop (j + 1) := by
        rw [List.drop_eq_getElem_cons hlt, List.getD_eq_getElem?_getD, List.getElem?_eq_getElem hlt]; rfl
      have hr := H.out.2
      rw [hd] at hr
      have hr' : r = ((decide ((l.getD j (0, 0)).1 ≤ c) && decide (c ≤ (l.getD j (0, 0)).2)) || Sg.hasR (l.drop (j + 1)) c) := hr
      generalize l.getD j (0, 0) = x at *
      obtain ⟨lo, hi⟩ := x
      dsimp only at k0 k1 hr'
      have HX := hide2 hr'
      have hbw := H.out.1
      have HB := hide2 (fun o => hbw.alloc hbw.size o)
      clear hr hr' hd hbw HR H0
      by_cases h1 : lo ≤ c
      · by_cases h2 : c ≤ hi
        · go_wp2
          go_ret
          exact ⟨by rw [HX.out]; simp [h1, h2], HB.out _⟩
        · go_wp2
          exact ⟨⟨j + 1, rfl, by omega, hide2 ⟨HB.out _, by rw [HX.out]; simp [h2]⟩⟩, by simp [intOf]; omega⟩
      · go_wp2
        exact ⟨⟨j + 1, rfl, by omega, hide2 ⟨HB.out _, by rw [HX.out]; simp [h1]⟩⟩, by simp [intOf]; omega⟩
    · have hr := H.out.2
      rw [List.drop_of_length_le (by omega)] at hr
      have HX := hide2 hr
      clear hr
      go_wp2
      go_ret
      rw [HX.out]
      exact ⟨rfl, H.out.1⟩
end Go.Proofs.YtlhokghgicgppaaGreatDoor
namespace Go.Proofs.YtlhokghgicgppaaGreatDoor
open Go.RowKit Go.Extern
structure ClsAt (w : World) (p n : Nat) (C : Nat → List (Int × Int)) : Prop where
  c0 : w.cell? ⟨p, 0, none⟩ = some (.int .i64 n)
  cls : ∀ i, i < n → ∃ ra rc, w.cell? ⟨p, 1 + i, none⟩ = some (.slice ra (C i).length rc) ∧ RowAt 2 w ra rc (C i).length ((C i).flatMap rgCells)
  lt : ∀ i, (C i).length < 1000000
theorem ClsAt.below {w w' : World} {p n : Nat} {C : Nat → List (Int × Int)} (h : ClsAt w p n C) (hb : Below w.heap.size w w') : ClsAt w' p n C :=
  ⟨below_keep hb h.c0, fun i hi => by
    obtain ⟨ra, rc, h1, h2⟩ := h.cls i hi
    exact ⟨ra, rc, below_keep hb h1, h2.below hb⟩, h.lt⟩
def matF (C : Nat → List (Int × Int)) (c : Int) (j : Nat) : Nat := (List.range j).foldl (fun a i => if Sg.hasR (C i) c then a ||| 2 ^ i else a) 0
theorem matF_succ (C : Nat → List (Int × Int)) (c : Int) (j : Nat) : matF C c (j + 1) = if Sg.hasR (C j) c then matF C c j ||| 2 ^ j else matF C c j := by
  unfold matF; rw [List.range_succ, List.foldl_append]; rfl
theorem matF_lt (C : Nat → List (Int × Int)) (c : Int) : ∀ j, j ≤ 64 → matF C c j < 18446744073709551616
  | 0, _ => by simp [matF]
  | j + 1, hj => by
    rw [matF_succ]
    have := matF_lt C c j (by omega)
    split
    · exact Nat.or_lt_two_pow (n := 64) this (Nat.pow_lt_pow_right (a := 2) (by decide) (by omega))
    · exact this
theorem sliceCls (p n : Nat) (hn : n ≤ 64) (w : World) : (Instr.sliceAt 224 (.pointer (some ⟨p, 1, none⟩)) none (some (.int .i64 n)) none).run Tryz.prog w = .ok (.slice (some ⟨p, 1, none⟩) n 64) w := by
  have e1 : Tryz.prog.arrayLen 224 = 64 := by simp [Program.arrayLen, Tryz.underlying224]
  rw [run_sliceAt_array_h w 224 ⟨p, 1, none⟩ (by simp [Program.arrayLen, Program.elem, Tryz.underlying224]) .i64 n (by omega) (by rw [e1]; omega)]
  simp [e1, Program.elem, Tryz.underlying224]
  simp [slicedAt, Addr.add]
theorem matching_any (w : World) (p n : Nat) (C : Nat → List (Int × Int)) (c : Int) (hn : n ≤ 64) (h : ClsAt w p n C) :
    Calls Tryz.prog 107 #[.pointer (some ⟨p, 0, none⟩), .int .i32 c] w fun e w' => e = .returned (psV (matF C c n)) ∧ Below w.heap.size w w' := by
  have HF := hide2 h
  have hc := h.c0
  have hp := cell_lt hc
  clear h
  have hc2 : ∀ o1 o2, ((w.alloc o1).alloc o2).cell? ⟨p, 0, none⟩ = some (.int .i64 n) := fun o1 o2 => below_keep (below2 w o1 o2) hc
  clear hc
  have hsl := sliceCls p n hn
  go_enter Tryz.func107, Tryz.ntmps107
  go_wp2
  go_quiet (fail)
  go_wp2
  have HF2 : Hid (ClsAt (((w.alloc (.cells #[.int .u32 0, .int .u32 0] 227)).alloc (.cells #[.int .u32 0, .int .u32 0] 227)).drewN nq) p n C ∧ Below w.heap.size w (((w.alloc (.cells #[.int .u32 0, .int .u32 0] 227)).alloc (.cells #[.int .u32 0, .int .u32 0] 227)).drewN nq)) := by
    have hb : Below w.heap.size w (((w.alloc (.cells #[.int .u32 0, .int .u32 0] 227)).alloc (.cells #[.int .u32 0, .int .u32 0] 227)).drewN nq) := by
      have h := below2 w (.cells #[.int .u32 0, .int .u32 0] 227) (.cells #[.int .u32 0, .int .u32 0] 227)
      exact ⟨h.os, h.tape, h.output, h.size, h.block⟩
    exact hide2 ⟨HF.out.below hb, hb⟩
  have i0 : (((w.alloc (.cells #[.int .u32 0, .int .u32 0] 227)).alloc (.cells #[.int .u32 0, .int .u32 0] 227)).drewN nq).heap[w.heap.size]? = some (.cells #[.int .u32 0, .int .u32 0] 227) := alloc2_low w _ _
  have i1 : (((w.alloc (.cells #[.int .u32 0, .int .u32 0] 227)).alloc (.cells #[.int .u32 0, .int .u32 0] 227)).drewN nq).heap[w.heap.size + 1]? = some (.cells #[.int .u32 0, .int .u32 0] 227) := by
    have h := heap_alloc_new (w.alloc (.cells #[.int .u32 0, .int .u32 0] 227)) (.cells #[.int .u32 0, .int .u32 0] 227)
    have e : (w.alloc (.cells #[.int .u32 0, .int .u32 0] 227)).heap.size = w.heap.size + 1 := by simp
    rw [e] at h; exact h
  generalize (((w.alloc (.cells #[.int .u32 0, .int .u32 0] 227)).alloc (.cells #[.int .u32 0, .int .u32 0] 227)).drewN nq) = w1 at *
  clear hc2 hsl
  go_loopw [17] (fun iv wr => ∃ (j a : Nat), iv = .int .i64 j ∧ j ≤ n ∧ wr.heap[w.heap.size]? = some (.cells #[.int .u32 0, .int .u32 0] 227) ∧ wr.heap[w.heap.size + 1]? = some (.cells #[.int .u32 ((a % 4294967296 : Nat) : Int), .int .u32 ((a / 4294967296 : Nat) : Int)] 227) ∧
      Hid (ClsAt wr p n C ∧ Below w.heap.size w wr ∧ a = matF C c j)) (fun iv _ => n - (intOf iv).toNat)
  case atStart => exact ⟨0, 0, rfl, Nat.zero_le _, i0, i1, hide2 ⟨HF2.out.1, HF2.out.2, rfl⟩⟩
  case round =>
    clear i0 i1 HF2
    obtain ⟨j, a, rfl, hj, q0, q1, H⟩ := hrel
    by_cases hlt : j < n
    · obtain ⟨ra, rc, k0, hrow⟩ := H.out.1.cls j hlt
      have hH := hasR_any wr ra rc (C j) c hrow (H.out.1.lt j)
      have ha : a < 18446744073709551616 := by rw [H.out.2.2]; exact matF_lt C c j (by omega)
      have hsucc := matF_succ C c j
      rw [← H.out.2.2] at hsucc
      generalize hlen : (C j).length = ln at *
      cases hbit : Sg.hasR (C j) c with
      | false =>
        rw [hbit] at hsucc hH
        have HH := hide2 hH
        have HX := hide2 hsucc
        clear hH hsucc hrow hlen
        go_wp2_with (go_at_call 149; refine HH.out.mono ?_; rintro e w2 ⟨rfl, hb2⟩)
        exact ⟨⟨j + 1, a, rfl, by omega, below_blk hb2 q0, below_blk hb2 q1, hide2 ⟨H.out.1.below hb2, below_go H.out.2.1 hb2, by have := HX.out; simpa using this.symm⟩⟩, by simp [intOf]; omega⟩
      | true =>
        rw [hbit] at hsucc hH
        have HH := hide2 hH
        have HX := hide2 (show matF C c (j + 1) = a ||| 2 ^ j by simpa using hsucc)
        have hO := fun wx => or_any a (2 ^ j) ha (Nat.pow_lt_pow_right (a := 2) (n := 64) (m := j) (by decide) (by omega)) wx
        have hE := fun wx => one_any j (by omega) wx
        have hpa : psV a = .agg #[.int .u32 ((a % 4294967296 : Nat) : Int), .int .u32 ((a / 4294967296 : Nat) : Int)] := rfl
        have hpr : psV (a ||| 2 ^ j) = .agg #[.int .u32 (((a ||| 2 ^ j) % 4294967296 : Nat) : Int), .int .u32 (((a ||| 2 ^ j) / 4294967296 : Nat) : Int)] := rfl
        rw [hpa, hpr] at hO
        generalize hv : a ||| 2 ^ j = v at *
        generalize psV (2 ^ j) = pj at *
        have HO := hide2 hO
        have HE := hide2 hE
        clear hH hsucc hO hE hpa hpr hrow hlen hv
        go_wp2_with (go_at_call 149; refine HH.out.mono ?_; rintro e w2 ⟨rfl, hb2⟩)
        have HB := hide2 (And.intro (H.out.1.below hb2) (below_go H.out.2.1 hb2))
        have u0 := below_blk hb2 q0
        have u1 := below_blk hb2 q1
        clear q0 q1 hb2 HH H k0
        generalize hv0 : ((v % 4294967296 : Nat) : Int) = v0 at *
        generalize hv1 : ((v / 4294967296 : Nat) : Int) = v1 at *
        have HV := hide2 (And.intro hv0 hv1)
        clear hv0 hv1
        generalize ((a % 4294967296 : Nat) : Int) = a0 at *
        generalize ((a / 4294967296 : Nat) : Int) = a1 at *
        have c0 : w2.cell? ⟨w.heap.size + 1, 0, none⟩ = some (.int .u32 a0) := by unfold World.cell?; simp only [u1]; rfl
        have c1 : w2.cell? ⟨w.heap.size + 1, 1, none⟩ = some (.int .u32 a1) := by unfold World.cell?; simp only [u1]; rfl
        have y0 : w2.frozen? ⟨w.heap.size + 1, 0, none⟩ = false := by unfold World.frozen?; simp only [u1]; rfl
        have y1 : w2.frozen? ⟨w.heap.size + 1, 1, none⟩ = false := by unfold World.frozen?; simp only [u1]; rfl
        have U0 := hide2 u0
        have U1 := hide2 u1
        clear u0 u1
        go_region_with (first
          | (go_at_call 150; refine (HE.out _).mono ?_; rintro e w3 ⟨rfl, hb3⟩; have g0 := below_keep hb3 c0; have g1 := below_keep hb3 c1; have h0 := below_frz hb3 (cell_lt c0) y0; have h1 := below_frz hb3 (cell_lt c0) y1; have B3 := hide2 hb3; clear hb3)
          | (go_at_call 105; refine (HO.out _).mono ?_; rintro e w4 ⟨rfl, hb4⟩; have l0 := below_keep hb4 g0; have l1 := below_keep hb4 g1; have p0 := below_frz hb4 (cell_lt g0) h0; have p1 := below_frz hb4 (cell_lt g0) h1; have B4 := hide2 hb4; clear hb4))
        all_goals
          have nb : Below w.heap.size w w4 := below_go (below_go HB.out.2.drew B3.out) B4.out
          have n0 := below_blk B4.out (below_blk B3.out U0.out)
          have n1 := below_blk B4.out (below_blk B3.out U1.out)
          have NB := hide2 nb
          have N0 := hide2 n0
          have N1 := hide2 n1
          clear c0 c1 y0 y1 g0 g1 h0 h1 nb n0 n1 HB HO HE U0 U1
          go_wp2
          have nb2 : Below w.heap.size w ((w4.setCell ⟨w.heap.size + 1, 0, none⟩ (.int .u32 v0)).setCell ⟨w.heap.size + 1, 1, none⟩ (.int .u32 v1)) := (NB.out.setCell (by show w.heap.size ≤ w.heap.size + 1; omega) _).setCell (by show w.heap.size ≤ w.heap.size + 1; omega) _
          refine ⟨⟨j + 1, v, rfl, by omega, ?_, ?_, hide2 ⟨HF.out.below nb2, nb2, HX.out.symm⟩⟩, by simp [intOf]; omega⟩
          · rw [Below.heap_setCell _ _ _ _ (by simp), Below.heap_setCell _ _ _ _ (by simp)]; exact N0.out
          · rw [HV.out.1, HV.out.2]; exact set2_row N1.out _ _
    · have z0 : wr.cell? ⟨w.heap.size, 0, none⟩ = some (.int .u32 0) := by unfold World.cell?; simp only [q0]; rfl
      have z1 : wr.cell? ⟨w.heap.size, 1, none⟩ = some (.int .u32 0) := by unfold World.cell?; simp only [q0]; rfl
      have t0 : wr.frozen? ⟨w.heap.size, 0, none⟩ = false := by unfold World.frozen?; simp only [q0]; rfl
      have t1 : wr.frozen? ⟨w.heap.size, 1, none⟩ = false := by unfold World.frozen?; simp only [q0]; rfl
      have y0 : wr.cell? ⟨w.heap.size + 1, 0, none⟩ = some (.int .u32 ((a % 4294967296 : Nat) : Int)) := by unfold World.cell?; simp only [q1]; rfl
      have y1 : wr.cell? ⟨w.heap.size + 1, 1, none⟩ = some (.int .u32 ((a / 4294967296 : Nat) : Int)) := by unfold World.cell?; simp only [q1]; rfl
      have HQ := hide2 q0
      clear q0 q1
      go_wp2
      have hst := set2_row HQ.out (.int .u32 ((a : Int) % 4294967296)) (.int .u32 ((a : Int) / 4294967296))
      refine bodyPost_ret (results_cell_row rfl _ _ w.heap.size 227 #[.int .u32 ((a : Int) % 4294967296), .int .u32 ((a : Int) / 4294967296)] (0, 0) _ rfl hst Tryz.underlying227 rfl (by kernel_rfl)) rfl ?_
      have hj' : j = n := by omega
      have ha := H.out.2.2
      rw [hj'] at ha
      rw [← ha]
      exact ⟨rfl, (H.out.2.1.setCell (by show w.heap.size ≤ w.heap.size; omega) _).setCell (by show w.heap.size ≤ w.heap.size; omega) _⟩
end Go.Proofs.YtlhokghgicgppaaGreatDoor
