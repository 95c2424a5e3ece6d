/- (*source.Source).ask. -/
/- (*source.Source).Read. -/
/- (*source.Source).Read, where new space is made. -/
import Derived.Test.YtlhokghgicgppaaGreatDoorSortA
import Derived.Test.YtlhokghgicgppaaGreatDoorFull
import Derived.Deep.OwnRows
set_option linter.unusedSimpArgs false
set_option linter.unusedVariables false
set_option maxRecDepth 100000
set_option maxHeartbeats 4000000
namespace Go.Proofs.YtlhokghgicgppaaGreatDoor
open Go.RowKit Go.Extern
theorem ask_idle (p p2 : Addr) (w : World) :
    CallsD Tryz.prog 132 #[.pointer (some p), .pointer (some p2)] .returning w fun e u' w' => e = .returned (.tuple #[]) ∧ u' = .returning ∧ w' = w := by
  refine callsD_of_wpS Tryz.func132 rfl fun c₀ cs hu => ?_
  apply wpS_seq
  apply wpS_region
  simp [wpOpsS, go_sem, recoverD, hu, Tryz.ntmps132, Exit.thenS]
  refine wpS_cond (t := false) (by simp [Act.eval, Array.replicate]) ?_
  simp only [Bool.false_eq_true, if_false]
  refine wpS_of_wp (wp_skip ?_)
  cases c₀
  simp_all [bodyPostS, results, Tryz.results132]
theorem ask_catch (p p2 : Nat) (x y : Value) (u : TypeId) (pv : Value) (older : List PanicEntry) (w : World) (hne : p ≠ p2) (hc : w.cell? ⟨p, 0, none⟩ = some x) (hz : w.frozen? ⟨p, 0, none⟩ = false) (hc2 : w.cell? ⟨p2, 0, none⟩ = some y) (hz2 : w.frozen? ⟨p2, 0, none⟩ = false) :
    CallsD Tryz.prog 132 #[.pointer (some ⟨p, 0, none⟩), .pointer (some ⟨p2, 0, none⟩)] (.panicking ({ v := .iface u pv, recovered := false } :: older)) w fun e u' w' =>
      e = .returned (.tuple #[]) ∧ u' = .panicking ({ v := .iface u pv, recovered := true } :: older) ∧ w' = (w.setCell ⟨p, 0, none⟩ (.int .i64 0)).setCell ⟨p2, 0, none⟩ (errV (some 11)) := by
  refine callsD_of_wpS Tryz.func132 rfl fun c₀ cs hu => ?_
  apply wpS_seq
  apply wpS_region
  simp [wpOpsS, go_sem, recoverD, hu, Tryz.ntmps132, Exit.thenS]
  refine wpS_cond (t := true) (by simp [Act.eval, Array.replicate]) ?_
  simp only [if_true]
  apply wpS_region
  have hc2' : (w.setCell ⟨p, 0, none⟩ (.int .i64 0)).cell? ⟨p2, 0, none⟩ = some y := (World.cell?_setCell_other _ _ _ _ (by simp [hne])).trans hc2
  simp [wpOpsS, go_sem, hc, hz, hc2', hz2, bodyPostS, results, Tryz.results132, errV]
theorem methodRead (v : Value) (w : World) : (Go.method 500 41 v "Read").run Tryz.prog w = .ok (266, v) w := by kernel_rfl
theorem srcRead_len_aux (most : Nat) : ∀ (l : List Sg.Pc) (a e : Nat) (b : Sg.Bs) (er : Option Int), (Sg.srcRead most ⟨l, a, e⟩).1 = .inl (b, er) → b.length ≤ most
  | [], a, e, b, er, h => by rw [Sg.srcRead_nil] at h; cases h; simp
  | c :: l, a, e, b, er, h => by
    rw [Sg.srcRead_cons] at h
    split at h
    · cases h; simp; omega
    · split at h
      · cases h; simp
      · split at h
        · cases h; simp
        · split at h
          · cases h
          · split at h
            · cases h
            · split at h
              · cases h
              · exact srcRead_len_aux most l 0 0 b er h
theorem srcRead_len (most : Nat) (s : Sg.Src) : ∀ (b : Sg.Bs) (er : Option Int), (Sg.srcRead most s).1 = .inl (b, er) → b.length ≤ most := srcRead_len_aux most s.l s.at_ s.empty
theorem cell_drew {w : World} {a : Addr} {x : Option Value} (h : w.cell? a = x) : w.drew.cell? a = x := h
theorem four {w1 : World} {n : Nat} {x y : Value} (j0 : w1.cell? ⟨n, 0, none⟩ = some x) (j1 : w1.cell? ⟨n + 1, 0, none⟩ = some y) (v1 v2 v3 v4 : Value) :
    ((((w1.setCell ⟨n, 0, none⟩ v1).setCell ⟨n + 1, 0, none⟩ v2).setCell ⟨n, 0, none⟩ v3).setCell ⟨n + 1, 0, none⟩ v4).drew.cell? ⟨n, 0, none⟩ = some v3 ∧
    ((((w1.setCell ⟨n, 0, none⟩ v1).setCell ⟨n + 1, 0, none⟩ v2).setCell ⟨n, 0, none⟩ v3).setCell ⟨n + 1, 0, none⟩ v4).drew.cell? ⟨n + 1, 0, none⟩ = some v4 ∧
    Chg (fun i _ => n ≤ i) w1 ((((w1.setCell ⟨n, 0, none⟩ v1).setCell ⟨n + 1, 0, none⟩ v2).setCell ⟨n, 0, none⟩ v3).setCell ⟨n + 1, 0, none⟩ v4).drew := by
  have a0 := World.cell?_setCell_same w1 ⟨n, 0, none⟩ v1 j0
  have a1 := (World.cell?_setCell_other w1 ⟨n, 0, none⟩ ⟨n + 1, 0, none⟩ v1 (by simp)).trans j1
  have h1 := (Chg.refl (fun i _ => n ≤ i) w1).setCell (k := n) (o := 0) (Nat.le_refl _) v1
  generalize w1.setCell ⟨n, 0, none⟩ v1 = X1 at *
  have b0 := (World.cell?_setCell_other X1 ⟨n + 1, 0, none⟩ ⟨n, 0, none⟩ v2 (by simp)).trans a0
  have b1 := World.cell?_setCell_same X1 ⟨n + 1, 0, none⟩ v2 a1
  have h2 := h1.setCell (k := n + 1) (o := 0) (Nat.le_succ _) v2
  generalize X1.setCell ⟨n + 1, 0, none⟩ v2 = X2 at *
  have c0 := World.cell?_setCell_same X2 ⟨n, 0, none⟩ v3 b0
  have c1 := (World.cell?_setCell_other X2 ⟨n, 0, none⟩ ⟨n + 1, 0, none⟩ v3 (by simp)).trans b1
  have h3 := h2.setCell (k := n) (o := 0) (Nat.le_refl _) v3
  generalize X2.setCell ⟨n, 0, none⟩ v3 = X3 at *
  have d0 := (World.cell?_setCell_other X3 ⟨n + 1, 0, none⟩ ⟨n, 0, none⟩ v4 (by simp)).trans c0
  have d1 := World.cell?_setCell_same X3 ⟨n + 1, 0, none⟩ v4 c1
  have h4 := h3.setCell (k := n + 1) (o := 0) (Nat.le_succ _) v4
  generalize X3.setCell ⟨n + 1, 0, none⟩ v4 = X4 at *
  exact ⟨cell_drew d0, cell_drew d1, h4.drew⟩
theorem four' {w1 : World} {n : Nat} {x y : Value} (j0 : w1.cell? ⟨n, 0, none⟩ = some x) (j1 : w1.cell? ⟨n + 1, 0, none⟩ = some y) (v1 v2 v3 v4 : Value) :
    ((((w1.setCell ⟨n, 0, none⟩ v1).setCell ⟨n + 1, 0, none⟩ v2).setCell ⟨n, 0, none⟩ v3).setCell ⟨n + 1, 0, none⟩ v4).cell? ⟨n, 0, none⟩ = some v3 ∧
    ((((w1.setCell ⟨n, 0, none⟩ v1).setCell ⟨n + 1, 0, none⟩ v2).setCell ⟨n, 0, none⟩ v3).setCell ⟨n + 1, 0, none⟩ v4).cell? ⟨n + 1, 0, none⟩ = some v4 ∧
    Chg (fun i _ => n ≤ i) w1 ((((w1.setCell ⟨n, 0, none⟩ v1).setCell ⟨n + 1, 0, none⟩ v2).setCell ⟨n, 0, none⟩ v3).setCell ⟨n + 1, 0, none⟩ v4) := by
  have a0 := World.cell?_setCell_same w1 ⟨n, 0, none⟩ v1 j0
  have a1 := (World.cell?_setCell_other w1 ⟨n, 0, none⟩ ⟨n + 1, 0, none⟩ v1 (by simp)).trans j1
  have h1 := (Chg.refl (fun i _ => n ≤ i) w1).setCell (k := n) (o := 0) (Nat.le_refl _) v1
  generalize w1.setCell ⟨n, 0, none⟩ v1 = X1 at *
  have b0 := (World.cell?_setCell_other X1 ⟨n + 1, 0, none⟩ ⟨n, 0, none⟩ v2 (by simp)).trans a0
  have b1 := World.cell?_setCell_same X1 ⟨n + 1, 0, none⟩ v2 a1
  have h2 := h1.setCell (k := n + 1) (o := 0) (Nat.le_succ _) v2
  generalize X1.setCell ⟨n + 1, 0, none⟩ v2 = X2 at *
  have c0 := World.cell?_setCell_same X2 ⟨n, 0, none⟩ v3 b0
  have c1 := (World.cell?_setCell_other X2 ⟨n, 0, none⟩ ⟨n + 1, 0, none⟩ v3 (by simp)).trans b1
  have h3 := h2.setCell (k := n) (o := 0) (Nat.le_refl _) v3
  generalize X2.setCell ⟨n, 0, none⟩ v3 = X3 at *
  have d0 := (World.cell?_setCell_other X3 ⟨n + 1, 0, none⟩ ⟨n, 0, none⟩ v4 (by simp)).trans c0
  have d1 := World.cell?_setCell_same X3 ⟨n + 1, 0, none⟩ v4 c1
  have h4 := h3.setCell (k := n + 1) (o := 0) (Nat.le_succ _) v4
  generalize X3.setCell ⟨n + 1, 0, none⟩ v4 = X4 at *
  exact ⟨d0, d1, h4⟩
theorem two {w1 : World} {n : Nat} {x y : Value} (j0 : w1.cell? ⟨n, 0, none⟩ = some x) (j1 : w1.cell? ⟨n + 1, 0, none⟩ = some y) (v1 v2 : Value) :
    ((w1.setCell ⟨n, 0, none⟩ v1).setCell ⟨n + 1, 0, none⟩ v2).cell? ⟨n, 0, none⟩ = some v1 ∧
    ((w1.setCell ⟨n, 0, none⟩ v1).setCell ⟨n + 1, 0, none⟩ v2).cell? ⟨n + 1, 0, none⟩ = some v2 ∧
    Chg (fun i _ => n ≤ i) w1 ((w1.setCell ⟨n, 0, none⟩ v1).setCell ⟨n + 1, 0, none⟩ v2) := by
  have a0 := World.cell?_setCell_same w1 ⟨n, 0, none⟩ v1 j0
  have a1 := (World.cell?_setCell_other w1 ⟨n, 0, none⟩ ⟨n + 1, 0, none⟩ v1 (by simp)).trans j1
  have h1 := (Chg.refl (fun i _ => n ≤ i) w1).setCell (k := n) (o := 0) (Nat.le_refl _) v1
  generalize w1.setCell ⟨n, 0, none⟩ v1 = X1 at *
  have b0 := (World.cell?_setCell_other X1 ⟨n + 1, 0, none⟩ ⟨n, 0, none⟩ v2 (by simp)).trans a0
  have b1 := World.cell?_setCell_same X1 ⟨n + 1, 0, none⟩ v2 a1
  exact ⟨b0, b1, h1.setCell (k := n + 1) (o := 0) (Nat.le_succ _) v2⟩
theorem ask_fin {w w1 : World} {q pb nn po most : Nat} {s' : Sg.Src} (b : Sg.Bs) (hch : Chg (rdT q pb po most) w w1) (hsrc : SrcOk w1 q pb nn s') (hq : q < w.heap.size) (hpl : pb < w.heap.size) (hnn : nn ≤ w.heap.size)
    (hby : ∀ j, j < b.length → w1.cell? ⟨pb, po + j, none⟩ = some (.int .u8 (b.getD j 0).toNat)) :
    ∀ W, Chg (fun i _ => w.heap.size ≤ i) w1 W → (∀ j, j < b.length → W.cell? ⟨pb, po + j, none⟩ = some (.int .u8 (b.getD j 0).toNat)) ∧ SrcOk W q pb nn s' ∧ Chg (rdT q pb po most) w W := by
  intro W hW
  refine ⟨fun j hj => (hW.cell _ _ (by have := hch.size; omega) (fun t => by omega)).trans (hby j hj), ?_, hch.trans_new hW (fun i _ hi t => by omega)⟩
  obtain ⟨la, lc, r, h, hs⟩ := hsrc
  refine ⟨la, lc, r, h.of (fun x j v hx hc => ?_) (fun j => hW.frozen _ _ (by have := hch.size; omega) (fun t => by omega)), hs⟩
  have hx' : x < w.heap.size := by
    rcases hx with rfl | ⟨o, rfl⟩
    · exact hq
    · have := (hs x o rfl).2.2; omega
  exact (hW.cell _ _ (by have := hch.size; omega) (fun t => by omega)).trans hc
theorem ask_any (q pb nn po most cap sq so : Nat) (hpq : pb ≠ q) (hm : 1 ≤ most) (hM : most < 1000000000) (s : Sg.Src) (w : World) (hnn : nn ≤ w.heap.size) (hS : SrcOk w q pb nn s) (hSm : Small s)
    (hpc : ∀ j, j < most → (w.cell? ⟨pb, po + j, none⟩).isSome = true) (hpf : ∀ j, w.frozen? ⟨pb, j, none⟩ = false)
    (hr : w.cell? ⟨sq, so, none⟩ = some (.iface 41 (.pointer (some ⟨q, 0, none⟩)))) :
    Calls Tryz.prog 93 #[.pointer (some ⟨sq, so, none⟩), .slice (some ⟨pb, po, none⟩) most cap] w fun en w' =>
      en = .returned (.tuple #[.int .i64 (Sg.ask1 most s).1.1.length, errV (Sg.ask1 most s).1.2]) ∧ (∀ j, j < (Sg.ask1 most s).1.1.length → w'.cell? ⟨pb, po + j, none⟩ = some (.int .u8 ((Sg.ask1 most s).1.1.getD j 0).toNat)) ∧
      SrcOk w' q pb nn (Sg.ask1 most s).2 ∧ Chg (rdT q pb po most) w w' := by
  have hmf : ∀ (fn : Fn) (first cap : Array Value) (w : World), (Instr.makeFunc fn first cap).run Tryz.prog w = .ok (.func fn first cap) w := fun _ _ _ _ => rfl
  have mR := methodRead
  have hsl := cell_lt hr
  have hpl : pb < w.heap.size := by
    obtain ⟨v, hv⟩ := Option.isSome_iff_exists.1 (hpc 0 (by omega)); exact cell_lt hv
  obtain ⟨W0, hW0⟩ : ∃ W0, (w.alloc (.cells #[.int .i64 0] 3)).alloc (.cells #[.nilIface] 45) = W0 := ⟨_, rfl⟩
  have hb0 : Below w.heap.size w W0 := by rw [← hW0]; exact ((Below.refl _ _).alloc (Nat.le_refl _) _).alloc (by simp) _
  have hz0 : W0.heap.size = w.heap.size + 2 := by rw [← hW0]; simp
  have hS0 : SrcOk W0 q pb nn s := by
    obtain ⟨la, lc, r, h, hs⟩ := hS; exact ⟨la, lc, r, h.below hb0, hs⟩
  have hRd := srcRead_any q pb nn po most cap hpq hm hM s.l W0 s.at_ s.empty hS0 hSm
    (fun j hj => by
      obtain ⟨v, hv⟩ := Option.isSome_iff_exists.1 (hpc j hj)
      rw [hb0.cell (p := ⟨pb, po + j, none⟩) hpl]; exact hpc j hj)
    (fun j => by rw [hb0.frozen (p := ⟨pb, j, none⟩) hpl]; exact hpf j)
  have HRd : Hid (Calls Tryz.prog 266 #[.pointer (some ⟨q, 0, none⟩), .slice (some ⟨pb, po, none⟩) most cap] W0 (ReadPost W0 q pb nn po most (Sg.srcRead most s))) := hRd
  clear hRd
  have hr0 : W0.cell? ⟨sq, so, none⟩ = some (.iface 41 (.pointer (some ⟨q, 0, none⟩))) := (hb0.cell (p := ⟨sq, so, none⟩) hsl).trans hr
  have hq : q < w.heap.size := by
    obtain ⟨la, lc, r, h, hs⟩ := hS; exact cell_lt h.c0
  have hlen := srcRead_len most s
  have hA : Hid (Sg.ask1 most s = match Sg.srcRead most s with
    | (.inl (b, e), s') => ((b, e), s')
    | (_, s') => (([], some 11), s')) := rfl
  have k0 : W0.cell? ⟨w.heap.size, 0, none⟩ = some (.int .i64 0) := by rw [← hW0]; simp
  have k1 : W0.cell? ⟨w.heap.size + 1, 0, none⟩ = some .nilIface := by rw [← hW0]; simp
  have f0 : W0.frozen? ⟨w.heap.size, 0, none⟩ = false := by rw [← hW0]; simp
  have f1 : W0.frozen? ⟨w.heap.size + 1, 0, none⟩ = false := by rw [← hW0]; simp
  generalize Sg.ask1 most s = av at *
  generalize Sg.srcRead most s = x at *
  clear hS hS0 hSm hpc hpf hr
  go_enter_defers Tryz.func93, Tryz.ntmps93
  go_wp2_with fail
  refine HRd.out.mono ?_
  rintro en w1 ⟨hend, hsrc, hchg⟩
  clear HRd hr0 hW0
  have nT : ∀ i, w.heap.size ≤ i → ∀ j, ¬ rdT q pb po most i j := fun i hi j t => by omega
  have j0 : w1.cell? ⟨w.heap.size, 0, none⟩ = some (.int .i64 0) := (hchg.cell _ _ (by omega) (nT _ (by omega) _)).trans k0
  have j1 : w1.cell? ⟨w.heap.size + 1, 0, none⟩ = some .nilIface := (hchg.cell _ _ (by omega) (nT _ (by omega) _)).trans k1
  have e0 : w1.frozen? ⟨w.heap.size, 0, none⟩ = false := (hchg.frozen _ _ (by omega) (nT _ (by omega) _)).trans f0
  have e1 : w1.frozen? ⟨w.heap.size + 1, 0, none⟩ = false := (hchg.frozen _ _ (by omega) (nT _ (by omega) _)).trans f1
  have hch : Chg (rdT q pb po most) w w1 := (Chg.of_below hb0).trans hchg
  clear k0 k1 f0 f1 hchg
  obtain ⟨g, s'⟩ := x
  rcases g with ⟨b, er⟩ | _ | _ | _
  · skip
    obtain ⟨rfl, hby⟩ := hend
    have hl : b.length ≤ most := hlen b er rfl
    have hl' : ((b.length : Nat) : Int) ≤ most := by omega
    have hav : Hid (av = ((b, er), s')) := hA.out
    clear hlen hA
    have fin := ask_fin b hch hsrc hq hpl hnn hby
    simp only [List.getD_eq_getElem?_getD] at fin
    have Hfin := hide2 fin
    clear fin
    rcases er with _ | n
    · simp only [errV]
      go_wp2
      go_region
      go_wp2
      refine leaves_cons (f := 132) (args := #[.pointer (some ⟨w.heap.size, 0, none⟩), .pointer (some ⟨w.heap.size + 1, 0, none⟩)]) (by simp) (by simp [go_sem]) ?_
      refine (ask_idle ⟨w.heap.size, 0, none⟩ ⟨w.heap.size + 1, 0, none⟩ _).mono ?_
      rintro e u' w'' ⟨rfl, rfl, rfl⟩
      rw [hav.out]
      have hx := four j0 j1 (.int .i64 b.length) .nilIface (.int .i64 b.length) .nilIface
      generalize World.drew _ = W2 at hx ⊢
      obtain ⟨d0, d1, dc⟩ := hx
      have := Hfin.out W2 dc
      simp [Leaves, settle, results, Tryz.results93, go_sem, d0, d1, errV]
      exact this
    · simp only [errV]
      go_wp2
      go_region
      go_wp2
      refine leaves_cons (f := 132) (args := #[.pointer (some ⟨w.heap.size, 0, none⟩), .pointer (some ⟨w.heap.size + 1, 0, none⟩)]) (by simp) (by simp [go_sem]) ?_
      refine (ask_idle ⟨w.heap.size, 0, none⟩ ⟨w.heap.size + 1, 0, none⟩ _).mono ?_
      rintro e u' w'' ⟨rfl, rfl, rfl⟩
      rw [hav.out]
      have hx := four j0 j1 (.int .i64 b.length) (.iface 50 (.int .i64 n)) (.int .i64 b.length) (.iface 50 (.int .i64 n))
      generalize World.drew _ = W2 at hx ⊢
      obtain ⟨d0, d1, dc⟩ := hx
      have := Hfin.out W2 dc
      simp [Leaves, settle, results, Tryz.results93, go_sem, d0, d1, errV]
      exact this
  · skip
    cases hend
    have hav : Hid (av = (([], some 11), s')) := hA.out
    clear hlen hA
    have fin := ask_fin (po := po) [] hch hsrc hq hpl hnn (fun j hj => by simp at hj)
    have Hfin := hide2 fin
    clear fin
    simp only [errV]
    go_wp2
    refine leaves_cons (f := 132) (args := #[.pointer (some ⟨w.heap.size, 0, none⟩), .pointer (some ⟨w.heap.size + 1, 0, none⟩)]) (by simp) (by simp [go_sem]) ?_
    refine (ask_idle ⟨w.heap.size, 0, none⟩ ⟨w.heap.size + 1, 0, none⟩ _).mono ?_
    rintro e u' w'' ⟨rfl, rfl, rfl⟩
    rw [hav.out]
    have hx := four' j0 j1 (.int .i64 (-1)) .nilIface (.int .i64 0) (.iface 50 (.int .i64 11))
    generalize World.setCell _ _ _ = W2 at hx ⊢
    obtain ⟨d0, d1, dc⟩ := hx
    have := Hfin.out W2 dc
    simp [Leaves, settle, results, Tryz.results93, go_sem, d0, d1, errV]
    exact this.2
  · skip
    cases hend
    have hav : Hid (av = (([], some 11), s')) := hA.out
    clear hlen hA
    have fin := ask_fin (po := po) [] hch hsrc hq hpl hnn (fun j hj => by simp at hj)
    have Hfin := hide2 fin
    clear fin
    simp only [errV]
    go_wp2
    refine leaves_cons (f := 132) (args := #[.pointer (some ⟨w.heap.size, 0, none⟩), .pointer (some ⟨w.heap.size + 1, 0, none⟩)]) (by simp) (by simp [go_sem]) ?_
    refine (ask_idle ⟨w.heap.size, 0, none⟩ ⟨w.heap.size + 1, 0, none⟩ _).mono ?_
    rintro e u' w'' ⟨rfl, rfl, rfl⟩
    rw [hav.out]
    have hx := four' j0 j1 (.int .i64 ((most : Int) + 1)) .nilIface (.int .i64 0) (.iface 50 (.int .i64 11))
    generalize World.setCell _ _ _ = W2 at hx ⊢
    obtain ⟨d0, d1, dc⟩ := hx
    have := Hfin.out W2 dc
    simp [Leaves, settle, results, Tryz.results93, go_sem, d0, d1, errV]
    exact this.2
  · skip
    obtain ⟨v, rfl⟩ := hend
    have hav : Hid (av = (([], some 11), s')) := hA.out
    clear hlen hA
    have fin := ask_fin (po := po) [] hch hsrc hq hpl hnn (fun j hj => by simp at hj)
    have Hfin := hide2 fin
    clear fin
    go_wp2
    refine leaves_cons (f := 132) (args := #[.pointer (some ⟨w.heap.size, 0, none⟩), .pointer (some ⟨w.heap.size + 1, 0, none⟩)]) (by simp) (by simp [go_sem]) ?_
    refine (ask_catch w.heap.size (w.heap.size + 1) _ _ 9 v [] _ (by omega) j0 e0 j1 e1).mono ?_
    rintro e u' w'' ⟨rfl, rfl, rfl⟩
    rw [hav.out]
    have hx := two j0 j1 (.int .i64 0) (errV (some 11))
    generalize World.setCell _ _ _ = W2 at hx ⊢
    obtain ⟨d0, d1, dc⟩ := hx
    have := Hfin.out W2 dc
    simp [Leaves, settle, results, Tryz.results93, go_sem, d0, d1, errV]
    exact this.2
end Go.Proofs.YtlhokghgicgppaaGreatDoor
namespace Go.Proofs.YtlhokghgicgppaaGreatDoor
open Go.RowKit Go.Extern
theorem srcRead_small_aux (most : Nat) : ∀ (l : List Sg.Pc) (a e : Nat), Small ⟨l, a, e⟩ → Small (Sg.srcRead most ⟨l, a, e⟩).2
  | [], a, e, h => by rw [Sg.srcRead_nil]; exact h
  | c :: l, a, e, h => by
    obtain ⟨h1, h2, h3⟩ := h
    have hc := h3 c (by simp)
    rw [Sg.srcRead_cons]
    split
    · exact ⟨by show a + min most (c.text.length - a) < _; omega, h2, h3⟩
    · split
      · exact ⟨h1, by show e + 1 < _; omega, h3⟩
      · split
        · exact ⟨h1, h2, h3⟩
        · split
          · exact ⟨h1, h2, h3⟩
          · split
            · exact ⟨h1, h2, h3⟩
            · split
              · exact ⟨h1, h2, h3⟩
              · exact srcRead_small_aux most l 0 0 ⟨by show 0 < 1000000000; omega, by show 0 < 1000000000; omega, fun c' hc' => h3 c' (List.mem_cons_of_mem _ hc')⟩
theorem ask1_small (most : Nat) (s : Sg.Src) (h : Small s) : Small (Sg.ask1 most s).2 := by
  have := srcRead_small_aux most s.l s.at_ s.empty h
  have e : Sg.srcRead most ⟨s.l, s.at_, s.empty⟩ = Sg.srcRead most s := rfl
  rw [e] at this
  unfold Sg.ask1
  generalize Sg.srcRead most s = x at *
  obtain ⟨g, s'⟩ := x
  rcases g with ⟨b, er⟩ | _ <;> exact this
theorem ask1_len (most : Nat) (s : Sg.Src) : (Sg.ask1 most s).1.1.length ≤ most := by
  have := srcRead_len most s
  unfold Sg.ask1
  generalize Sg.srcRead most s = x at *
  obtain ⟨g, s'⟩ := x
  rcases g with ⟨b, er⟩ | _
  · exact this b er rfl
  · simp
structure SpAt (w : World) (sq so q nn pb n c : Nat) (s : Sg.Src) : Prop where
  rd : w.cell? ⟨sq, so, none⟩ = some (.iface 41 (.pointer (some ⟨q, 0, none⟩)))
  sp : (n = 0 ∧ w.cell? ⟨sq, so + 1, none⟩ = some (.slice none 0 0)) ∨
    (1 ≤ n ∧ w.cell? ⟨sq, so + 1, none⟩ = some (.slice (some ⟨pb, 0, none⟩) n c) ∧ n ≤ c ∧ nn ≤ pb ∧ pb ≠ sq ∧ (∀ j, j < n → (w.cell? ⟨pb, j, none⟩).isSome = true) ∧ ∀ j, w.frozen? ⟨pb, j, none⟩ = false)
  src : ∃ la lc r, SrcAt w q la lc r s ∧ ∀ b o, la = some ⟨b, o, none⟩ → b ≠ q ∧ b < nn
  hq : q < nn
  nn1 : nn ≤ sq
  nn2 : nn ≤ w.heap.size
  fr : ∀ j, w.frozen? ⟨sq, j, none⟩ = false
  small : Small s
  cN : c < 1000000000
theorem run_make_bytes (n : Nat) (h : n < 1000000000) (w : World) :
    (Instr.makeSlice 60 (.int .i64 (n : Int)) (.int .i64 (n : Int))).run Tryz.prog w = .ok (.slice (some ⟨w.heap.size, 0, none⟩) n n) (w.alloc (.cells (madeCells #[.int .u8 0] n) 5)) :=
  run_make_row' 60 5 (.int .u8 0) 1 Tryz.underlying60 (by kernel_rfl) rfl .i64 .i64 n (by omega) (by omega) w
abbrev spT (sq so q pb n : Nat) : Nat → Nat → Prop := fun i j => i = q ∨ (1 ≤ n ∧ i = pb) ∨ (i = sq ∧ j = so + 1)
theorem askN_step (most k : Nat) (hk : k < 8) (s : Sg.Src) : Sg.askN most (8 - k) s = if (Sg.ask1 most s).1.1 ≠ [] ∨ (Sg.ask1 most s).1.2 ≠ none then Sg.ask1 most s else Sg.askN most (8 - (k + 1)) (Sg.ask1 most s).2 := by
  obtain ⟨f, hf⟩ : ∃ f, 8 - k = f + 1 := ⟨7 - k, by omega⟩
  rw [hf, show 8 - (k + 1) = f by omega]
  conv => lhs; unfold Sg.askN
theorem SpAt.read {w w1 : World} {sq so q nn pb n c most : Nat} {s s' : Sg.Src} (h : SpAt w sq so q nn pb n c s) (hch : Chg (rdT q pb 0 most) w w1) (hsrc : SrcOk w1 q pb nn s') (hsm : Small s') (hn : 1 ≤ n) (hpc : ∀ j, j < n → (w.cell? ⟨pb, j, none⟩).isSome = true) (hpf : ∀ j, w.frozen? ⟨pb, j, none⟩ = false)
    (hsp : w.cell? ⟨sq, so + 1, none⟩ = some (.slice (some ⟨pb, 0, none⟩) n c)) (hqs : q ≠ sq) (hps : pb ≠ sq) (hpn : nn ≤ pb) (hnc : n ≤ c) : SpAt w1 sq so q nn pb n c s' := by
  have hs := cell_lt h.rd
  have hp : pb < w.heap.size := by
    obtain ⟨v, hv⟩ := Option.isSome_iff_exists.1 (hpc 0 (by omega)); exact cell_lt hv
  have hnt : ∀ j, ¬ rdT q pb 0 most sq j := fun j t => by omega
  refine ⟨(hch.cell _ _ hs (hnt _)).trans h.rd, .inr ⟨hn, (hch.cell _ _ hs (hnt _)).trans hsp, hnc, hpn, hps, ?_, ?_⟩, ?_, h.hq, h.nn1, Nat.le_trans h.nn2 hch.size, fun j => (hch.frozen _ _ hs (hnt _)).trans (h.fr j), hsm, h.cN⟩
  · intro j hj; rw [hch.live _ _ hp]; exact hpc j hj
  · intro j; rw [hch.frz _ _ hp]; exact hpf j
  · obtain ⟨la, lc, r, hx, hy⟩ := hsrc
    exact ⟨la, lc, r, hx, fun b o e => ⟨(hy b o e).1, (hy b o e).2.2⟩⟩
theorem SpAt.below {w w1 : World} {sq so q nn pb n c : Nat} {s : Sg.Src} (h : SpAt w sq so q nn pb n c s) (hb : Below w.heap.size w w1) : SpAt w1 sq so q nn pb n c s := by
  have hs := cell_lt h.rd
  refine ⟨(hb.cell (p := ⟨sq, so, none⟩) hs).trans h.rd, ?_, ?_, h.hq, h.nn1, Nat.le_trans h.nn2 hb.size, fun j => (hb.frozen (p := ⟨sq, j, none⟩) hs).trans (h.fr j), h.small, h.cN⟩
  · rcases h.sp with ⟨h0, h1⟩ | ⟨h1, h2, h3, h4, h5, h6, h7⟩
    · exact .inl ⟨h0, (hb.cell (p := ⟨sq, so + 1, none⟩) hs).trans h1⟩
    · have hp : pb < w.heap.size := by
        obtain ⟨v, hv⟩ := Option.isSome_iff_exists.1 (h6 0 (by omega)); exact cell_lt hv
      exact .inr ⟨h1, (hb.cell (p := ⟨sq, so + 1, none⟩) hs).trans h2, h3, h4, h5, fun j hj => by rw [hb.cell (p := ⟨pb, j, none⟩) hp]; exact h6 j hj, fun j => (hb.frozen (p := ⟨pb, j, none⟩) hp).trans (h7 j)⟩
  · obtain ⟨la, lc, r, hx, hy⟩ := h.src
    exact ⟨la, lc, r, hx.below hb, hy⟩
theorem SlAt.below {w w' : World} {a : Option Addr} {l : Sg.Bs} (h : SlAt w a l) (hb : Below w.heap.size w w') : SlAt w' a l := by
  rcases h with h | ⟨b, o, rfl, h⟩
  · exact .inl h
  · exact .inr ⟨b, o, rfl, fun j hj => (hb.cell (p := ⟨b, o + j, none⟩) (cell_lt (h j hj))).trans (h j hj)⟩
theorem sourceRead_old (sq so q nn pb n c most : Nat) (s : Sg.Src) (w : World) (h : SpAt w sq so q nn pb n c s) (hm : 1 ≤ most) (hmn : most ≤ n) :
    Calls Tryz.prog 64 #[.pointer (some ⟨sq, so, none⟩), .int .i64 most] w fun en w' =>
      ∃ a' c', en = .returned (.tuple #[.slice a' (Sg.askN most 8 s).1.1.length c', errV (Sg.askN most 8 s).1.2]) ∧ SlAt w' a' (Sg.askN most 8 s).1.1 ∧ (∀ b o, a' = some ⟨b, o, none⟩ → b = pb) ∧
        SpAt w' sq so q nn pb n c (Sg.askN most 8 s).2 ∧ Chg (spT sq so q pb n) w w' := by
  have hsp := h.sp
  rcases hsp with ⟨h0, _⟩ | ⟨h1, hsp, hnc, hpn, hps, hpc, hpf⟩
  · omega
  have hcN := h.cN
  have g1 : decide ((n : Int) < most) = false := by simp; omega
  have g2 : ¬ ((n : Int) < most) := by omega
  go_enter Tryz.func64, Tryz.ntmps64
  go_wp2
  go_loopw [28] (fun i wr => ∃ (k : Nat) (sk : Sg.Src), i = .int .i64 k ∧ k ≤ 8 ∧ SpAt wr sq so q nn pb n c sk ∧ Chg (spT sq so q pb n) w wr ∧ Sg.askN most (8 - k) sk = Sg.askN most 8 s) (fun i _ => 8 - (intOf i).toNat)
  case atStart => exact ⟨0, s, rfl, by omega, h, Chg.refl _ _, rfl⟩
  case round =>
    obtain ⟨k, sk, rfl, hk, hS, hch, heq⟩ := hrel
    have Heq := hide2 heq
    clear heq
    by_cases hlt : k < 8
    · have hps' := hS.sp
      rcases hps' with ⟨hz, _⟩ | ⟨_, hsp1, _, _, _, hpc1, hpf1⟩
      · omega
      have hqn := hS.hq
      have hn1 := hS.nn1
      have hA := ask_any q pb nn 0 most most sq so (by omega) hm (by omega) sk wr hS.nn2 (by
          obtain ⟨la, lc, r, hx, hy⟩ := hS.src
          exact ⟨la, lc, r, hx, fun b o e => ⟨(hy b o e).1, by have := (hy b o e).2; omega, (hy b o e).2⟩⟩) hS.small
        (fun j hj => by rw [Nat.zero_add]; exact hpc1 j (by omega)) hpf1 hS.rd
      have hstep := askN_step most k hlt sk
      rw [Heq.out] at hstep
      have hsm := ask1_small most sk hS.small
      have hbl := ask1_len most sk
      obtain ⟨⟨⟨bs, er⟩, s'⟩, hx⟩ : ∃ x, Sg.ask1 most sk = x := ⟨_, rfl⟩
      rw [hx] at hA hstep hsm hbl
      clear hx
      dsimp only at hA hstep hsm hbl
      have HA := hide2 hA
      have Hstep := hide2 hstep
      have Hsm := hide2 hsm
      clear hA hstep hsm
      go_wp2_with fail
      refine HA.out.mono ?_
      rintro en w1 ⟨rfl, hby, hsrc, hch1⟩
      have hS1 : SpAt w1 sq so q nn pb n c s' := hS.read hch1 hsrc Hsm.out (by omega) hpc1 hpf1 hsp1 (by omega) (by omega) (by omega) (by omega)
      have hchA : Chg (spT sq so q pb n) w w1 := hch.trans (hch1.mono (fun i j _ t => by rcases t with t | t; exact .inl t; exact .inr (.inl ⟨by omega, t.1⟩)))
      have hsl : SlAt w1 (some ⟨pb, 0, none⟩) bs := .inr ⟨pb, 0, rfl, hby⟩
      have HE := hide2 (isEnd_any er)
      clear HA hby hsrc hch1
      rcases er with _ | x
      · simp only [errV] at HE ⊢
        by_cases hb0 : bs = []
        · subst hb0
          rw [if_neg (by simp)] at Hstep
          go_wp2_with fail
          refine (HE.out _).mono ?_
          rintro en w2 ⟨rfl, hb⟩
          go_wp2
          go_roundw
          case rel => exact ⟨k + 1, s', by go_num, by omega, hS1.below hb, hchA.trans (Chg.of_below hb), Hstep.out.symm⟩
          case measure => simp [intOf]; omega
        · rw [if_pos (.inl hb0)] at Hstep
          have hpos : (0 : Int) < bs.length := by
            rcases bs with _ | _
            · exact absurd rfl hb0
            · simp only [List.length_cons]; omega
          have hpos' : decide ((0 : Int) < bs.length) = true := by simpa using hpos
          go_wp2_with fail
          refine (HE.out _).mono ?_
          rintro en w2 ⟨rfl, hb⟩
          go_wp2
          go_ret2
          refine ⟨some ⟨pb, 0, none⟩, most, ?_, ?_, ?_, ?_, hchA.trans (Chg.of_below hb)⟩
          · rw [Hstep.out]; rfl
          · rw [Hstep.out]; exact hsl.below hb
          · intro b o e; cases e; rfl
          · rw [Hstep.out]; exact hS1.below hb
      · rw [if_pos (.inr (by simp))] at Hstep
        simp only [errV] at HE ⊢
        by_cases hx13 : x = 13
        · subst hx13
          by_cases hb0 : bs = []
          · subst hb0
            go_wp2_with fail
            refine (HE.out _).mono ?_
            rintro en w2 ⟨rfl, hb⟩
            go_wp2
            go_ret2
            refine ⟨some ⟨pb, 0, none⟩, most, ?_, ?_, ?_, ?_, hchA.trans (Chg.of_below hb)⟩
            · rw [Hstep.out]; rfl
            · rw [Hstep.out]; exact hsl.below hb
            · intro b o e; cases e; rfl
            · rw [Hstep.out]; exact hS1.below hb
          · have hpos : (0 : Int) < bs.length := by
              rcases bs with _ | _
              · exact absurd rfl hb0
              · simp only [List.length_cons]; omega
            have hpos' : decide ((0 : Int) < bs.length) = true := by simpa using hpos
            go_wp2_with fail
            refine (HE.out _).mono ?_
            rintro en w2 ⟨rfl, hb⟩
            go_wp2
            go_ret2
            refine ⟨some ⟨pb, 0, none⟩, most, ?_, ?_, ?_, ?_, hchA.trans (Chg.of_below hb)⟩
            · rw [Hstep.out]; rfl
            · rw [Hstep.out]; exact hsl.below hb
            · intro b o e; cases e; rfl
            · rw [Hstep.out]; exact hS1.below hb
        · have hxe : ((some x : Option Int) == some 13) = false := by
            show (x == 13) = false
            exact beq_eq_false_iff_ne.2 hx13
          rw [hxe] at HE
          clear hxe
          by_cases hb0 : bs = []
          · subst hb0
            go_wp2_with fail
            refine (HE.out _).mono ?_
            rintro en w2 ⟨rfl, hb⟩
            go_wp2
            go_ret2
            refine ⟨some ⟨pb, 0, none⟩, most, ?_, ?_, ?_, ?_, hchA.trans (Chg.of_below hb)⟩
            · rw [Hstep.out]; rfl
            · rw [Hstep.out]; exact hsl.below hb
            · intro b o e; cases e; rfl
            · rw [Hstep.out]; exact hS1.below hb
          · have hpos : (0 : Int) < bs.length := by
              rcases bs with _ | _
              · exact absurd rfl hb0
              · simp only [List.length_cons]; omega
            have hpos' : decide ((0 : Int) < bs.length) = true := by simpa using hpos
            go_wp2_with fail
            refine (HE.out _).mono ?_
            rintro en w2 ⟨rfl, hb⟩
            go_wp2
            go_ret2
            refine ⟨some ⟨pb, 0, none⟩, most, ?_, ?_, ?_, ?_, hchA.trans (Chg.of_below hb)⟩
            · rw [Hstep.out]; rfl
            · rw [Hstep.out]; exact hsl.below hb
            · intro b o e; cases e; rfl
            · rw [Hstep.out]; exact hS1.below hb
    · go_wp2
      go_ret2
      obtain rfl : k = 8 := by omega
      have hz : Sg.askN most 8 s = (([], some 12), sk) := Heq.out.symm
      refine ⟨none, 0, ?_, ?_, ?_, ?_, hch⟩
      · rw [hz]; rfl
      · rw [hz]; exact .inl ⟨rfl, rfl⟩
      · intro b o e; cases e
      · rw [hz]; exact hS
end Go.Proofs.YtlhokghgicgppaaGreatDoor
namespace Go.Proofs.YtlhokghgicgppaaGreatDoor
open Go.RowKit Go.Extern
theorem madeCells_get (n j : Nat) (h : j < n) : (madeCells #[Value.int .u8 0] n)[j]? = some (.int .u8 0) := by
  unfold madeCells
  simp [h, Nat.mod_one]
theorem SpAt.made {w : World} {sq so q nn pb n c most : Nat} {s : Sg.Src} (h : SpAt w sq so q nn pb n c s) {A : Option Addr} {c0 : Nat} (hsp : w.cell? ⟨sq, so + 1, none⟩ = some (.slice A n c0)) (hM : most < 1000000000) (hm : 1 ≤ most) :
    SpAt ((w.setCell ⟨sq, so + 1, none⟩ (.slice (some ⟨w.heap.size, 0, none⟩) most most)).alloc (.cells (madeCells #[.int .u8 0] most) 5)) sq so q nn w.heap.size most most s := by
  have hsq := cell_lt h.rd
  have hnn := h.nn2
  have hn1 := h.nn1
  have hq := h.hq
  have hz : (w.setCell ⟨sq, so + 1, none⟩ (.slice (some ⟨w.heap.size, 0, none⟩) most most)).heap.size = w.heap.size := by simp
  refine ⟨?_, .inr ⟨hm, ?_, Nat.le_refl _, hnn, by omega, fun j hj => ?_, fun j => ?_⟩, ?_, hq, hn1, by simp; omega, fun j => ?_, h.small, hM⟩
  · rw [World.cell?_alloc_lt _ _ ⟨sq, so, none⟩ (by rw [hz]; exact hsq), World.cell?_setCell_other _ _ _ _ (by simp)]; exact h.rd
  · rw [World.cell?_alloc_lt _ _ ⟨sq, so + 1, none⟩ (by rw [hz]; exact hsq)]; exact World.cell?_setCell_same _ _ _ hsp
  · rw [World.cell?_alloc_at _ _ _ _ (by rw [hz]), madeCells_get _ _ hj]; rfl
  · rw [World.frozen?_alloc_at _ _ _ _ (by rw [hz])]
  · obtain ⟨la, lc, r, hx, hy⟩ := h.src
    refine ⟨la, lc, r, SrcAt.alloc (hx.of (fun b j v hb hc => ?_) (fun j => World.frozen?_setCell _ _ _ _)) _, hy⟩
    refine (World.cell?_setCell_other _ _ _ _ (fun e => ?_)).trans hc
    have e' : sq = b := congrArg Addr.block e
    rcases hb with hb | ⟨o, hb⟩
    · omega
    · have := (hy b o hb).2; omega
  · rw [World.frozen?_alloc_old _ _ ⟨sq, j, none⟩ (by rw [hz]; show sq ≠ w.heap.size; omega), World.frozen?_setCell]; exact h.fr j
theorem sourceRead_new (sq so q nn pb n c most : Nat) (s : Sg.Src) (w : World) (h : SpAt w sq so q nn pb n c s) (hm : 1 ≤ most) (hmn : n < most) (hM : most < 1000000000) :
    Calls Tryz.prog 64 #[.pointer (some ⟨sq, so, none⟩), .int .i64 most] w fun en w' =>
      ∃ a' c', en = .returned (.tuple #[.slice a' (Sg.askN most 8 s).1.1.length c', errV (Sg.askN most 8 s).1.2]) ∧ SlAt w' a' (Sg.askN most 8 s).1.1 ∧ (∀ b o, a' = some ⟨b, o, none⟩ → b = w.heap.size) ∧
        SpAt w' sq so q nn w.heap.size most most (Sg.askN most 8 s).2 ∧ Chg (spT sq so q pb n) w w' := by
  obtain ⟨A, c0, hsp⟩ : ∃ A c0, w.cell? ⟨sq, so + 1, none⟩ = some (.slice A n c0) := by
    rcases h.sp with ⟨h0, h1⟩ | ⟨_, h1, _⟩
    · subst h0; exact ⟨_, _, h1⟩
    · exact ⟨_, _, h1⟩
  have hsq := cell_lt h.rd
  have hfr := h.fr
  have hmk := run_make_bytes most hM
  have g2 : (n : Int) < most := by omega
  have hnn2 := h.nn2
  have hSP := hide2 (h.made hsp hM hm)
  have hCH : Hid (Chg (spT sq so q pb n) w ((w.setCell ⟨sq, so + 1, none⟩ (.slice (some ⟨w.heap.size, 0, none⟩) most most)).alloc (.cells (madeCells #[.int .u8 0] most) 5))) := ((Chg.refl _ _).setCell (.inr (.inr ⟨rfl, rfl⟩)) _).alloc _
  go_enter Tryz.func64, Tryz.ntmps64
  go_wp2
  go_loopw [28] (fun i wr => ∃ (k : Nat) (sk : Sg.Src), i = .int .i64 k ∧ k ≤ 8 ∧ SpAt wr sq so q nn w.heap.size most most sk ∧ Chg (spT sq so q pb n) w wr ∧ Sg.askN most (8 - k) sk = Sg.askN most 8 s) (fun i _ => 8 - (intOf i).toNat)
  case atStart => exact ⟨0, s, rfl, by omega, hSP.out, hCH.out, rfl⟩
  case round =>
    obtain ⟨k, sk, rfl, hk, hS, hch, heq⟩ := hrel
    have Heq := hide2 heq
    clear heq
    by_cases hlt : k < 8
    · have hps' := hS.sp
      rcases hps' with ⟨hz, _⟩ | ⟨_, hsp1, _, _, _, hpc1, hpf1⟩
      · omega
      have hqn := hS.hq
      have hn1 := hS.nn1
      have hA := ask_any q w.heap.size nn 0 most most sq so (by omega) hm (by omega) sk wr hS.nn2 (by
          obtain ⟨la, lc, r, hx, hy⟩ := hS.src
          exact ⟨la, lc, r, hx, fun b o e => ⟨(hy b o e).1, by have := (hy b o e).2; omega, (hy b o e).2⟩⟩) hS.small
        (fun j hj => by rw [Nat.zero_add]; exact hpc1 j (by omega)) hpf1 hS.rd
      have hstep := askN_step most k hlt sk
      rw [Heq.out] at hstep
      have hsm := ask1_small most sk hS.small
      have hbl := ask1_len most sk
      obtain ⟨⟨⟨bs, er⟩, s'⟩, hx⟩ : ∃ x, Sg.ask1 most sk = x := ⟨_, rfl⟩
      rw [hx] at hA hstep hsm hbl
      clear hx
      dsimp only at hA hstep hsm hbl
      have HA := hide2 hA
      have Hstep := hide2 hstep
      have Hsm := hide2 hsm
      clear hA hstep hsm
      go_wp2_with fail
      refine HA.out.mono ?_
      rintro en w1 ⟨rfl, hby, hsrc, hch1⟩
      have hS1 : SpAt w1 sq so q nn w.heap.size most most s' := hS.read hch1 hsrc Hsm.out (by omega) hpc1 hpf1 hsp1 (by omega) (by omega) (by omega) (by omega)
      have hchA : Chg (spT sq so q pb n) w w1 := hch.trans_new hch1 (fun i j hi t => by rcases t with t | t; exact .inl t; omega)
      have hsl : SlAt w1 (some ⟨w.heap.size, 0, none⟩) bs := .inr ⟨w.heap.size, 0, rfl, hby⟩
      have HE := hide2 (isEnd_any er)
      clear HA hby hsrc hch1
      rcases er with _ | x
      · simp only [errV] at HE ⊢
        by_cases hb0 : bs = []
        · subst hb0
          rw [if_neg (by simp)] at Hstep
          go_wp2_with fail
          refine (HE.out _).mono ?_
          rintro en w2 ⟨rfl, hb⟩
          go_wp2
          go_roundw
          case rel => exact ⟨k + 1, s', by go_num, by omega, hS1.below hb, hchA.trans (Chg.of_below hb), Hstep.out.symm⟩
          case measure => simp [intOf]; omega
        · rw [if_pos (.inl hb0)] at Hstep
          have hpos : (0 : Int) < bs.length := by
            rcases bs with _ | _
            · exact absurd rfl hb0
            · simp only [List.length_cons]; omega
          have hpos' : decide ((0 : Int) < bs.length) = true := by simpa using hpos
          go_wp2_with fail
          refine (HE.out _).mono ?_
          rintro en w2 ⟨rfl, hb⟩
          go_wp2
          go_ret2
          refine ⟨some ⟨w.heap.size, 0, none⟩, most, ?_, ?_, ?_, ?_, hchA.trans (Chg.of_below hb)⟩
          · rw [Hstep.out]; rfl
          · rw [Hstep.out]; exact hsl.below hb
          · intro b o e; cases e; rfl
          · rw [Hstep.out]; exact hS1.below hb
      · rw [if_pos (.inr (by simp))] at Hstep
        simp only [errV] at HE ⊢
        by_cases hx13 : x = 13
        · subst hx13
          by_cases hb0 : bs = []
          · subst hb0
            go_wp2_with fail
            refine (HE.out _).mono ?_
            rintro en w2 ⟨rfl, hb⟩
            go_wp2
            go_ret2
            refine ⟨some ⟨w.heap.size, 0, none⟩, most, ?_, ?_, ?_, ?_, hchA.trans (Chg.of_below hb)⟩
            · rw [Hstep.out]; rfl
            · rw [Hstep.out]; exact hsl.below hb
            · intro b o e; cases e; rfl
            · rw [Hstep.out]; exact hS1.below hb
          · have hpos : (0 : Int) < bs.length := by
              rcases bs with _ | _
              · exact absurd rfl hb0
              · simp only [List.length_cons]; omega
            have hpos' : decide ((0 : Int) < bs.length) = true := by simpa using hpos
            go_wp2_with fail
            refine (HE.out _).mono ?_
            rintro en w2 ⟨rfl, hb⟩
            go_wp2
            go_ret2
            refine ⟨some ⟨w.heap.size, 0, none⟩, most, ?_, ?_, ?_, ?_, hchA.trans (Chg.of_below hb)⟩
            · rw [Hstep.out]; rfl
            · rw [Hstep.out]; exact hsl.below hb
            · intro b o e; cases e; rfl
            · rw [Hstep.out]; exact hS1.below hb
        · have hxe : ((some x : Option Int) == some 13) = false := by
            show (x == 13) = false
            exact beq_eq_false_iff_ne.2 hx13
          rw [hxe] at HE
          clear hxe
          by_cases hb0 : bs = []
          · subst hb0
            go_wp2_with fail
            refine (HE.out _).mono ?_
            rintro en w2 ⟨rfl, hb⟩
            go_wp2
            go_ret2
            refine ⟨some ⟨w.heap.size, 0, none⟩, most, ?_, ?_, ?_, ?_, hchA.trans (Chg.of_below hb)⟩
            · rw [Hstep.out]; rfl
            · rw [Hstep.out]; exact hsl.below hb
            · intro b o e; cases e; rfl
            · rw [Hstep.out]; exact hS1.below hb
          · have hpos : (0 : Int) < bs.length := by
              rcases bs with _ | _
              · exact absurd rfl hb0
              · simp only [List.length_cons]; omega
            have hpos' : decide ((0 : Int) < bs.length) = true := by simpa using hpos
            go_wp2_with fail
            refine (HE.out _).mono ?_
            rintro en w2 ⟨rfl, hb⟩
            go_wp2
            go_ret2
            refine ⟨some ⟨w.heap.size, 0, none⟩, most, ?_, ?_, ?_, ?_, hchA.trans (Chg.of_below hb)⟩
            · rw [Hstep.out]; rfl
            · rw [Hstep.out]; exact hsl.below hb
            · intro b o e; cases e; rfl
            · rw [Hstep.out]; exact hS1.below hb
    · go_wp2
      go_ret2
      obtain rfl : k = 8 := by omega
      have hz : Sg.askN most 8 s = (([], some 12), sk) := Heq.out.symm
      refine ⟨none, 0, ?_, ?_, ?_, ?_, hch⟩
      · rw [hz]; rfl
      · rw [hz]; exact .inl ⟨rfl, rfl⟩
      · intro b o e; cases e
      · rw [hz]; exact hS
end Go.Proofs.YtlhokghgicgppaaGreatDoor
