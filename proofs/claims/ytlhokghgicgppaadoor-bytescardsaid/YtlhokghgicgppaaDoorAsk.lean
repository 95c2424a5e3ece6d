/- (*source.Source).ask. -/
import Derived.Test.YtlhokghgicgppaaDoorSrcRead4
set_option linter.unusedSimpArgs false
set_option linter.unusedVariables false
namespace Go.Proofs.YtlhokghgicgppaaDoor
open Go.RowKit Go.Extern

theorem ask_idle (p p2 : Addr) (w : World) :
    CallsD Tryd.prog 58 #[.pointer (some p), .pointer (some p2)] .returning w fun e u' w' => e = .returned (.tuple #[]) ∧ u' = .returning ∧ w' = w := by
  refine callsD_of_wpS Tryd.func58 rfl fun c₀ cs hu => ?_
  apply wpS_seq
  apply wpS_region
  simp [wpOpsS, go_sem, recoverD, hu, Tryd.ntmps58, Exit.thenS]
  refine wpS_cond (t := false) (by simp [Act.eval, Array.replicate]) ?_
  simp only [Bool.false_eq_true, if_false]
  refine wpS_of_wp (wp_skip ?_)
  cases c₀
  simp_all [bodyPostS, results, Tryd.results58]

theorem ask_catch (p p2 : Nat) (x y : Value) (u : TypeId) (pv : Value) (older : List PanicEntry) (w : World) (hne : p ≠ p2) (hc : w.cell? ⟨p, 0, none⟩ = some x) (hz : w.frozen? ⟨p, 0, none⟩ = false) (hc2 : w.cell? ⟨p2, 0, none⟩ = some y) (hz2 : w.frozen? ⟨p2, 0, none⟩ = false) :
    CallsD Tryd.prog 58 #[.pointer (some ⟨p, 0, none⟩), .pointer (some ⟨p2, 0, none⟩)] (.panicking ({ v := .iface u pv, recovered := false } :: older)) w fun e u' w' =>
      e = .returned (.tuple #[]) ∧ u' = .panicking ({ v := .iface u pv, recovered := true } :: older) ∧ w' = (w.setCell ⟨p, 0, none⟩ (.int .i64 0)).setCell ⟨p2, 0, none⟩ (errV (some 11)) := by
  refine callsD_of_wpS Tryd.func58 rfl fun c₀ cs hu => ?_
  apply wpS_seq
  apply wpS_region
  simp [wpOpsS, go_sem, recoverD, hu, Tryd.ntmps58, Exit.thenS]
  refine wpS_cond (t := true) (by simp [Act.eval, Array.replicate]) ?_
  simp only [if_true]
  apply wpS_region
  have hc2' : (w.setCell ⟨p, 0, none⟩ (.int .i64 0)).cell? ⟨p2, 0, none⟩ = some y := (World.cell?_setCell_other _ _ _ _ (by simp [hne])).trans hc2
  simp [wpOpsS, go_sem, hc, hz, hc2', hz2, bodyPostS, results, Tryd.results58, errV]

theorem methodRead (v : Value) (w : World) : (Go.method 294 48 v "Read").run Tryd.prog w = .ok (94, v) w := by kernel_rfl

theorem srcRead_len_aux (most : Nat) : ∀ (l : List Sg.Pc) (a e : Nat) (b : Sg.Bs) (er : Option Int), (Sg.srcRead most ⟨l, a, e⟩).1 = .inl (b, er) → b.length ≤ most
  | [], a, e, b, er, h => by rw [Sg.srcRead_nil] at h; cases h; simp
  | c :: l, a, e, b, er, h => by
    rw [Sg.srcRead_cons] at h
    split at h
    · cases h; simp; omega
    · split at h
      · cases h; simp
      · split at h
        · cases h; simp
        · split at h
          · cases h
          · split at h
            · cases h
            · split at h
              · cases h
              · exact srcRead_len_aux most l 0 0 b er h
theorem srcRead_len (most : Nat) (s : Sg.Src) : ∀ (b : Sg.Bs) (er : Option Int), (Sg.srcRead most s).1 = .inl (b, er) → b.length ≤ most := srcRead_len_aux most s.l s.at_ s.empty

theorem cell_drew {w : World} {a : Addr} {x : Option Value} (h : w.cell? a = x) : w.drew.cell? a = x := h
theorem four {w1 : World} {n : Nat} {x y : Value} (j0 : w1.cell? ⟨n, 0, none⟩ = some x) (j1 : w1.cell? ⟨n + 1, 0, none⟩ = some y) (v1 v2 v3 v4 : Value) :
    ((((w1.setCell ⟨n, 0, none⟩ v1).setCell ⟨n + 1, 0, none⟩ v2).setCell ⟨n, 0, none⟩ v3).setCell ⟨n + 1, 0, none⟩ v4).drew.cell? ⟨n, 0, none⟩ = some v3 ∧
    ((((w1.setCell ⟨n, 0, none⟩ v1).setCell ⟨n + 1, 0, none⟩ v2).setCell ⟨n, 0, none⟩ v3).setCell ⟨n + 1, 0, none⟩ v4).drew.cell? ⟨n + 1, 0, none⟩ = some v4 ∧
    Chg (fun i _ => n ≤ i) w1 ((((w1.setCell ⟨n, 0, none⟩ v1).setCell ⟨n + 1, 0, none⟩ v2).setCell ⟨n, 0, none⟩ v3).setCell ⟨n + 1, 0, none⟩ v4).drew := by
  have a0 := World.cell?_setCell_same w1 ⟨n, 0, none⟩ v1 j0
  have a1 := (World.cell?_setCell_other w1 ⟨n, 0, none⟩ ⟨n + 1, 0, none⟩ v1 (by simp)).trans j1
  have h1 := (Chg.refl (fun i _ => n ≤ i) w1).setCell (k := n) (o := 0) (Nat.le_refl _) v1
  generalize w1.setCell ⟨n, 0, none⟩ v1 = X1 at *
  have b0 := (World.cell?_setCell_other X1 ⟨n + 1, 0, none⟩ ⟨n, 0, none⟩ v2 (by simp)).trans a0
  have b1 := World.cell?_setCell_same X1 ⟨n + 1, 0, none⟩ v2 a1
  have h2 := h1.setCell (k := n + 1) (o := 0) (Nat.le_succ _) v2
  generalize X1.setCell ⟨n + 1, 0, none⟩ v2 = X2 at *
  have c0 := World.cell?_setCell_same X2 ⟨n, 0, none⟩ v3 b0
  have c1 := (World.cell?_setCell_other X2 ⟨n, 0, none⟩ ⟨n + 1, 0, none⟩ v3 (by simp)).trans b1
  have h3 := h2.setCell (k := n) (o := 0) (Nat.le_refl _) v3
  generalize X2.setCell ⟨n, 0, none⟩ v3 = X3 at *
  have d0 := (World.cell?_setCell_other X3 ⟨n + 1, 0, none⟩ ⟨n, 0, none⟩ v4 (by simp)).trans c0
  have d1 := World.cell?_setCell_same X3 ⟨n + 1, 0, none⟩ v4 c1
  have h4 := h3.setCell (k := n + 1) (o := 0) (Nat.le_succ _) v4
  generalize X3.setCell ⟨n + 1, 0, none⟩ v4 = X4 at *
  exact ⟨cell_drew d0, cell_drew d1, h4.drew⟩
theorem four' {w1 : World} {n : Nat} {x y : Value} (j0 : w1.cell? ⟨n, 0, none⟩ = some x) (j1 : w1.cell? ⟨n + 1, 0, none⟩ = some y) (v1 v2 v3 v4 : Value) :
    ((((w1.setCell ⟨n, 0, none⟩ v1).setCell ⟨n + 1, 0, none⟩ v2).setCell ⟨n, 0, none⟩ v3).setCell ⟨n + 1, 0, none⟩ v4).cell? ⟨n, 0, none⟩ = some v3 ∧
    ((((w1.setCell ⟨n, 0, none⟩ v1).setCell ⟨n + 1, 0, none⟩ v2).setCell ⟨n, 0, none⟩ v3).setCell ⟨n + 1, 0, none⟩ v4).cell? ⟨n + 1, 0, none⟩ = some v4 ∧
    Chg (fun i _ => n ≤ i) w1 ((((w1.setCell ⟨n, 0, none⟩ v1).setCell ⟨n + 1, 0, none⟩ v2).setCell ⟨n, 0, none⟩ v3).setCell ⟨n + 1, 0, none⟩ v4) := by
  have a0 := World.cell?_setCell_same w1 ⟨n, 0, none⟩ v1 j0
  have a1 := (World.cell?_setCell_other w1 ⟨n, 0, none⟩ ⟨n + 1, 0, none⟩ v1 (by simp)).trans j1
  have h1 := (Chg.refl (fun i _ => n ≤ i) w1).setCell (k := n) (o := 0) (Nat.le_refl _) v1
  generalize w1.setCell ⟨n, 0, none⟩ v1 = X1 at *
  have b0 := (World.cell?_setCell_other X1 ⟨n + 1, 0, none⟩ ⟨n, 0, none⟩ v2 (by simp)).trans a0
  have b1 := World.cell?_setCell_same X1 ⟨n + 1, 0, none⟩ v2 a1
  have h2 := h1.setCell (k := n + 1) (o := 0) (Nat.le_succ _) v2
  generalize X1.setCell ⟨n + 1, 0, none⟩ v2 = X2 at *
  have c0 := World.cell?_setCell_same X2 ⟨n, 0, none⟩ v3 b0
  have c1 := (World.cell?_setCell_other X2 ⟨n, 0, none⟩ ⟨n + 1, 0, none⟩ v3 (by simp)).trans b1
  have h3 := h2.setCell (k := n) (o := 0) (Nat.le_refl _) v3
  generalize X2.setCell ⟨n, 0, none⟩ v3 = X3 at *
  have d0 := (World.cell?_setCell_other X3 ⟨n + 1, 0, none⟩ ⟨n, 0, none⟩ v4 (by simp)).trans c0
  have d1 := World.cell?_setCell_same X3 ⟨n + 1, 0, none⟩ v4 c1
  have h4 := h3.setCell (k := n + 1) (o := 0) (Nat.le_succ _) v4
  generalize X3.setCell ⟨n + 1, 0, none⟩ v4 = X4 at *
  exact ⟨d0, d1, h4⟩
theorem two {w1 : World} {n : Nat} {x y : Value} (j0 : w1.cell? ⟨n, 0, none⟩ = some x) (j1 : w1.cell? ⟨n + 1, 0, none⟩ = some y) (v1 v2 : Value) :
    ((w1.setCell ⟨n, 0, none⟩ v1).setCell ⟨n + 1, 0, none⟩ v2).cell? ⟨n, 0, none⟩ = some v1 ∧
    ((w1.setCell ⟨n, 0, none⟩ v1).setCell ⟨n + 1, 0, none⟩ v2).cell? ⟨n + 1, 0, none⟩ = some v2 ∧
    Chg (fun i _ => n ≤ i) w1 ((w1.setCell ⟨n, 0, none⟩ v1).setCell ⟨n + 1, 0, none⟩ v2) := by
  have a0 := World.cell?_setCell_same w1 ⟨n, 0, none⟩ v1 j0
  have a1 := (World.cell?_setCell_other w1 ⟨n, 0, none⟩ ⟨n + 1, 0, none⟩ v1 (by simp)).trans j1
  have h1 := (Chg.refl (fun i _ => n ≤ i) w1).setCell (k := n) (o := 0) (Nat.le_refl _) v1
  generalize w1.setCell ⟨n, 0, none⟩ v1 = X1 at *
  have b0 := (World.cell?_setCell_other X1 ⟨n + 1, 0, none⟩ ⟨n, 0, none⟩ v2 (by simp)).trans a0
  have b1 := World.cell?_setCell_same X1 ⟨n + 1, 0, none⟩ v2 a1
  exact ⟨b0, b1, h1.setCell (k := n + 1) (o := 0) (Nat.le_succ _) v2⟩
/-- Stores into the two new blocks turn nothing of the source's. -/
theorem ask_fin {w w1 : World} {q pb nn po most : Nat} {s' : Sg.Src} (b : Sg.Bs) (hch : Chg (rdT q pb po most) w w1) (hsrc : SrcOk w1 q pb nn s') (hq : q < w.heap.size) (hpl : pb < w.heap.size) (hnn : nn ≤ w.heap.size)
    (hby : ∀ j, j < b.length → w1.cell? ⟨pb, po + j, none⟩ = some (.int .u8 (b.getD j 0).toNat)) :
    ∀ W, Chg (fun i _ => w.heap.size ≤ i) w1 W → (∀ j, j < b.length → W.cell? ⟨pb, po + j, none⟩ = some (.int .u8 (b.getD j 0).toNat)) ∧ SrcOk W q pb nn s' ∧ Chg (rdT q pb po most) w W := by
  intro W hW
  refine ⟨fun j hj => (hW.cell _ _ (by have := hch.size; omega) (fun t => by omega)).trans (hby j hj), ?_, hch.trans_new hW (fun i _ hi t => by omega)⟩
  obtain ⟨la, lc, r, h, hs⟩ := hsrc
  refine ⟨la, lc, r, h.of (fun x j v hx hc => ?_) (fun j => hW.frozen _ _ (by have := hch.size; omega) (fun t => by omega)), hs⟩
  have hx' : x < w.heap.size := by
    rcases hx with rfl | ⟨o, rfl⟩
    · exact hq
    · have := (hs x o rfl).2.2; omega
  exact (hW.cell _ _ (by have := hch.size; omega) (fun t => by omega)).trans hc

set_option maxRecDepth 100000 in
set_option maxHeartbeats 800000 in
theorem ask_any (q pb nn po most cap sq so : Nat) (hpq : pb ≠ q) (hm : 1 ≤ most) (hM : most < 1000000000) (s : Sg.Src) (w : World) (hnn : nn ≤ w.heap.size) (hS : SrcOk w q pb nn s) (hSm : Small s)
    (hpc : ∀ j, j < most → (w.cell? ⟨pb, po + j, none⟩).isSome = true) (hpf : ∀ j, w.frozen? ⟨pb, j, none⟩ = false)
    (hr : w.cell? ⟨sq, so, none⟩ = some (.iface 48 (.pointer (some ⟨q, 0, none⟩)))) :
    Calls Tryd.prog 52 #[.pointer (some ⟨sq, so, none⟩), .slice (some ⟨pb, po, none⟩) most cap] w fun en w' =>
      en = .returned (.tuple #[.int .i64 (Sg.ask1 most s).1.1.length, errV (Sg.ask1 most s).1.2]) ∧ (∀ j, j < (Sg.ask1 most s).1.1.length → w'.cell? ⟨pb, po + j, none⟩ = some (.int .u8 ((Sg.ask1 most s).1.1.getD j 0).toNat)) ∧
      SrcOk w' q pb nn (Sg.ask1 most s).2 ∧ Chg (rdT q pb po most) w w' := by
  have hmf : ∀ (fn : Fn) (first cap : Array Value) (w : World), (Instr.makeFunc fn first cap).run Tryd.prog w = .ok (.func fn first cap) w := fun _ _ _ _ => rfl
  have mR := methodRead
  have hsl := cell_lt hr
  have hpl : pb < w.heap.size := by
    obtain ⟨v, hv⟩ := Option.isSome_iff_exists.1 (hpc 0 (by omega)); exact cell_lt hv
  obtain ⟨W0, hW0⟩ : ∃ W0, (w.alloc (.cells #[.int .i64 0] 3)).alloc (.cells #[.nilIface] 24) = W0 := ⟨_, rfl⟩
  have hb0 : Below w.heap.size w W0 := by rw [← hW0]; exact ((Below.refl _ _).alloc (Nat.le_refl _) _).alloc (by simp) _
  have hz0 : W0.heap.size = w.heap.size + 2 := by rw [← hW0]; simp
  have hS0 : SrcOk W0 q pb nn s := by
    obtain ⟨la, lc, r, h, hs⟩ := hS; exact ⟨la, lc, r, h.below hb0, hs⟩
  have hRd := srcRead_any q pb nn po most cap hpq hm hM s.l W0 s.at_ s.empty hS0 hSm
    (fun j hj => by
      obtain ⟨v, hv⟩ := Option.isSome_iff_exists.1 (hpc j hj)
      rw [hb0.cell (p := ⟨pb, po + j, none⟩) hpl]; exact hpc j hj)
    (fun j => by rw [hb0.frozen (p := ⟨pb, j, none⟩) hpl]; exact hpf j)
  have HRd : Hid (Calls Tryd.prog 94 #[.pointer (some ⟨q, 0, none⟩), .slice (some ⟨pb, po, none⟩) most cap] W0 (ReadPost W0 q pb nn po most (Sg.srcRead most s))) := hRd
  clear hRd
  have hr0 : W0.cell? ⟨sq, so, none⟩ = some (.iface 48 (.pointer (some ⟨q, 0, none⟩))) := (hb0.cell (p := ⟨sq, so, none⟩) hsl).trans hr
  have hq : q < w.heap.size := by
    obtain ⟨la, lc, r, h, hs⟩ := hS; exact cell_lt h.c0
  have hlen := srcRead_len most s
  have hA : Hid (Sg.ask1 most s = match Sg.srcRead most s with
    | (.inl (b, e), s') => ((b, e), s')
    | (_, s') => (([], some 11), s')) := rfl
  have k0 : W0.cell? ⟨w.heap.size, 0, none⟩ = some (.int .i64 0) := by rw [← hW0]; simp
  have k1 : W0.cell? ⟨w.heap.size + 1, 0, none⟩ = some .nilIface := by rw [← hW0]; simp
  have f0 : W0.frozen? ⟨w.heap.size, 0, none⟩ = false := by rw [← hW0]; simp
  have f1 : W0.frozen? ⟨w.heap.size + 1, 0, none⟩ = false := by rw [← hW0]; simp
  generalize Sg.ask1 most s = av at *
  generalize Sg.srcRead most s = x at *
  clear hS hS0 hSm hpc hpf hr
  go_enter_defers Tryd.func52, Tryd.ntmps52
  go_wp2_with fail
  refine HRd.out.mono ?_
  rintro en w1 ⟨hend, hsrc, hchg⟩
  clear HRd hr0 hW0
  have nT : ∀ i, w.heap.size ≤ i → ∀ j, ¬ rdT q pb po most i j := fun i hi j t => by omega
  have j0 : w1.cell? ⟨w.heap.size, 0, none⟩ = some (.int .i64 0) := (hchg.cell _ _ (by omega) (nT _ (by omega) _)).trans k0
  have j1 : w1.cell? ⟨w.heap.size + 1, 0, none⟩ = some .nilIface := (hchg.cell _ _ (by omega) (nT _ (by omega) _)).trans k1
  have e0 : w1.frozen? ⟨w.heap.size, 0, none⟩ = false := (hchg.frozen _ _ (by omega) (nT _ (by omega) _)).trans f0
  have e1 : w1.frozen? ⟨w.heap.size + 1, 0, none⟩ = false := (hchg.frozen _ _ (by omega) (nT _ (by omega) _)).trans f1
  have hch : Chg (rdT q pb po most) w w1 := (Chg.of_below hb0).trans hchg
  clear k0 k1 f0 f1 hchg
  obtain ⟨g, s'⟩ := x
  rcases g with ⟨b, er⟩ | _ | _ | _
  · skip
    obtain ⟨rfl, hby⟩ := hend
    have hl : b.length ≤ most := hlen b er rfl
    have hl' : ((b.length : Nat) : Int) ≤ most := by omega
    have hav : Hid (av = ((b, er), s')) := hA.out
    clear hlen hA
    have fin := ask_fin b hch hsrc hq hpl hnn hby
    simp only [List.getD_eq_getElem?_getD] at fin
    have Hfin := hide2 fin
    clear fin
    rcases er with _ | n
    · simp only [errV]
      go_wp2
      go_region
      go_wp2
      refine leaves_cons (f := 58) (args := #[.pointer (some ⟨w.heap.size, 0, none⟩), .pointer (some ⟨w.heap.size + 1, 0, none⟩)]) (by simp) (by simp [go_sem]) ?_
      refine (ask_idle ⟨w.heap.size, 0, none⟩ ⟨w.heap.size + 1, 0, none⟩ _).mono ?_
      rintro e u' w'' ⟨rfl, rfl, rfl⟩
      rw [hav.out]
      have hx := four j0 j1 (.int .i64 b.length) .nilIface (.int .i64 b.length) .nilIface
      generalize World.drew _ = W2 at hx ⊢
      obtain ⟨d0, d1, dc⟩ := hx
      have := Hfin.out W2 dc
      simp [Leaves, settle, results, Tryd.results52, go_sem, d0, d1, errV]
      exact this
    · simp only [errV]
      go_wp2
      go_region
      go_wp2
      refine leaves_cons (f := 58) (args := #[.pointer (some ⟨w.heap.size, 0, none⟩), .pointer (some ⟨w.heap.size + 1, 0, none⟩)]) (by simp) (by simp [go_sem]) ?_
      refine (ask_idle ⟨w.heap.size, 0, none⟩ ⟨w.heap.size + 1, 0, none⟩ _).mono ?_
      rintro e u' w'' ⟨rfl, rfl, rfl⟩
      rw [hav.out]
      have hx := four j0 j1 (.int .i64 b.length) (.iface 27 (.int .i64 n)) (.int .i64 b.length) (.iface 27 (.int .i64 n))
      generalize World.drew _ = W2 at hx ⊢
      obtain ⟨d0, d1, dc⟩ := hx
      have := Hfin.out W2 dc
      simp [Leaves, settle, results, Tryd.results52, go_sem, d0, d1, errV]
      exact this
  · skip
    cases hend
    have hav : Hid (av = (([], some 11), s')) := hA.out
    clear hlen hA
    have fin := ask_fin (po := po) [] hch hsrc hq hpl hnn (fun j hj => by simp at hj)
    have Hfin := hide2 fin
    clear fin
    simp only [errV]
    go_wp2
    refine leaves_cons (f := 58) (args := #[.pointer (some ⟨w.heap.size, 0, none⟩), .pointer (some ⟨w.heap.size + 1, 0, none⟩)]) (by simp) (by simp [go_sem]) ?_
    refine (ask_idle ⟨w.heap.size, 0, none⟩ ⟨w.heap.size + 1, 0, none⟩ _).mono ?_
    rintro e u' w'' ⟨rfl, rfl, rfl⟩
    rw [hav.out]
    have hx := four' j0 j1 (.int .i64 (-1)) .nilIface (.int .i64 0) (.iface 27 (.int .i64 11))
    generalize World.setCell _ _ _ = W2 at hx ⊢
    obtain ⟨d0, d1, dc⟩ := hx
    have := Hfin.out W2 dc
    simp [Leaves, settle, results, Tryd.results52, go_sem, d0, d1, errV]
    exact this.2
  · skip
    cases hend
    have hav : Hid (av = (([], some 11), s')) := hA.out
    clear hlen hA
    have fin := ask_fin (po := po) [] hch hsrc hq hpl hnn (fun j hj => by simp at hj)
    have Hfin := hide2 fin
    clear fin
    simp only [errV]
    go_wp2
    refine leaves_cons (f := 58) (args := #[.pointer (some ⟨w.heap.size, 0, none⟩), .pointer (some ⟨w.heap.size + 1, 0, none⟩)]) (by simp) (by simp [go_sem]) ?_
    refine (ask_idle ⟨w.heap.size, 0, none⟩ ⟨w.heap.size + 1, 0, none⟩ _).mono ?_
    rintro e u' w'' ⟨rfl, rfl, rfl⟩
    rw [hav.out]
    have hx := four' j0 j1 (.int .i64 ((most : Int) + 1)) .nilIface (.int .i64 0) (.iface 27 (.int .i64 11))
    generalize World.setCell _ _ _ = W2 at hx ⊢
    obtain ⟨d0, d1, dc⟩ := hx
    have := Hfin.out W2 dc
    simp [Leaves, settle, results, Tryd.results52, go_sem, d0, d1, errV]
    exact this.2
  · skip
    obtain ⟨v, rfl⟩ := hend
    have hav : Hid (av = (([], some 11), s')) := hA.out
    clear hlen hA
    have fin := ask_fin (po := po) [] hch hsrc hq hpl hnn (fun j hj => by simp at hj)
    have Hfin := hide2 fin
    clear fin
    go_wp2
    refine leaves_cons (f := 58) (args := #[.pointer (some ⟨w.heap.size, 0, none⟩), .pointer (some ⟨w.heap.size + 1, 0, none⟩)]) (by simp) (by simp [go_sem]) ?_
    refine (ask_catch w.heap.size (w.heap.size + 1) _ _ 9 v [] _ (by omega) j0 e0 j1 e1).mono ?_
    rintro e u' w'' ⟨rfl, rfl, rfl⟩
    rw [hav.out]
    have hx := two j0 j1 (.int .i64 0) (errV (some 11))
    generalize World.setCell _ _ _ = W2 at hx ⊢
    obtain ⟨d0, d1, dc⟩ := hx
    have := Hfin.out W2 dc
    simp [Leaves, settle, results, Tryd.results52, go_sem, d0, d1, errV]
    exact this.2
end Go.Proofs.YtlhokghgicgppaaDoor
