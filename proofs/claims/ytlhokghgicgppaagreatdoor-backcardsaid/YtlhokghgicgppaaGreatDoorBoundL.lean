/- How far a scanner must look; readers that fail. -/
/- utf8.RuneLen; rows of numbers that are stored into; (*Machine).widths. -/
/- (*Machine).widths. -/
/- (*Machine).Bound's own closure. -/
/- slices.Max at ints; (*Machine).Bound; (*Tables).Bound. -/
/- The bounds of the eight machines. -/
import Derived.Test.YtlhokghgicgppaaGreatDoorKeepB
import Derived.Test.YtlhokghgicgppaaGreatDoorSameW
import Derived.BigQuiet
import Derived.Laws.EntriesVeiled
set_option linter.unusedSimpArgs false
set_option linter.unusedVariables false
set_option maxRecDepth 100000
set_option maxHeartbeats 4000000
namespace Go.Proofs.YtlhokghgicgppaaGreatDoor.Sg
open Go
def hiOf (m : Mach) (i : Nat) : Int := if i + 1 < m.cuts.length then lowAt m.cuts (i + 1) - 1 else 1114111
structure Bnd (m : Mach) (M : List Nat) (b : Nat) : Prop where
  le : ∀ s, s < m.states.length → M.getD s 0 + 1 ≤ b
  go : ∀ s, s < m.states.length → ∀ i, i < m.cuts.length → m.next s (m.kind i) ≠ -1 → m.rule (m.next s (m.kind i)).toNat = -1 → scLen (hiOf m i) + M.getD (m.next s (m.kind i)).toNat 0 ≤ M.getD s 0
  hit : ∀ s, s < m.states.length → ∀ i, i < m.cuts.length → m.next s (m.kind i) ≠ -1 → scLen (hiOf m i) ≤ M.getD s 0 + 1
end Go.Proofs.YtlhokghgicgppaaGreatDoor.Sg
namespace Go.Proofs.YtlhokghgicgppaaGreatDoor
open Go.RowKit Go.Extern
def rlT (r : Int) : Int := if r < 0 then -1 else if r ≤ 127 then 1 else if r ≤ 2047 then 2 else if 55296 ≤ r ∧ r ≤ 57343 then -1 else if r ≤ 65535 then 3 else if r ≤ 1114111 then 4 else -1
theorem runeLen_any (r : Int) (w : World) : Calls Tryz.prog 99 #[.int .i32 r] w fun e w' => e = .returned (.int .i64 (rlT r)) ∧ w' = w := by
  by_cases h0 : r < 0
  · rw [show rlT r = -1 by unfold rlT; rw [if_pos h0]]
    go_enter Tryz.func99, Tryz.ntmps99
    go_wp2
    go_ret
    exact ⟨rfl, rfl⟩
  by_cases h1 : r ≤ 127
  · rw [show rlT r = 1 by unfold rlT; rw [if_neg h0, if_pos h1]]
    go_enter Tryz.func99, Tryz.ntmps99
    go_wp2
    go_ret
    exact ⟨rfl, rfl⟩
  by_cases h2 : r ≤ 2047
  · rw [show rlT r = 2 by unfold rlT; rw [if_neg h0, if_neg h1, if_pos h2]]
    go_enter Tryz.func99, Tryz.ntmps99
    go_wp2
    go_ret
    exact ⟨rfl, rfl⟩
  by_cases h3 : 55296 ≤ r ∧ r ≤ 57343
  · rw [show rlT r = -1 by unfold rlT; rw [if_neg h0, if_neg h1, if_neg h2, if_pos h3]]
    obtain ⟨h3a, h3b⟩ := h3
    go_enter Tryz.func99, Tryz.ntmps99
    go_wp2
    go_ret
    exact ⟨rfl, rfl⟩
  have hway : ¬ 55296 ≤ r ∨ (55296 ≤ r ∧ ¬ r ≤ 57343) := by omega
  have e : rlT r = if r ≤ 65535 then 3 else if r ≤ 1114111 then 4 else -1 := by unfold rlT; rw [if_neg h0, if_neg h1, if_neg h2, if_neg h3]
  rw [e]
  clear h3 e
  by_cases h4 : r ≤ 65535
  · rw [if_pos h4]
    rcases hway with h3 | ⟨h3, h3'⟩
    all_goals go_enter Tryz.func99, Tryz.ntmps99
    all_goals go_wp2
    all_goals go_ret
    all_goals exact ⟨rfl, rfl⟩
  rw [if_neg h4]
  have h3 : 55296 ≤ r := by omega
  have h3' : ¬ r ≤ 57343 := by omega
  clear hway
  by_cases h5 : r ≤ 1114111
  · rw [if_pos h5]
    go_enter Tryz.func99, Tryz.ntmps99
    go_wp2
    go_ret
    exact ⟨rfl, rfl⟩
  · rw [if_neg h5]
    go_enter Tryz.func99, Tryz.ntmps99
    go_wp2
    go_ret
    exact ⟨rfl, rfl⟩
structure IA (w0 W : World) (b : Nat) (l : List Int) : Prop where
  cell : ∀ i, i < l.length → W.cell? ⟨b, i, none⟩ = some (.int .i64 (l.getD i 0))
  frz : ∀ j, W.frozen? ⟨b, j, none⟩ = false
  new : w0.heap.size ≤ b
  lt : b < W.heap.size
theorem IA.of {w0 W W' : World} {b : Nat} {l : List Int} (h : IA w0 W b l) (hb : W'.heap[b]? = W.heap[b]?) (hs : W.heap.size ≤ W'.heap.size) : IA w0 W' b l :=
  ⟨fun i hi => (cell_block hb).trans (h.cell i hi), fun j => (frozen_block hb).trans (h.frz j), h.new, Nat.lt_of_lt_of_le h.lt hs⟩
theorem IA.set {w0 W : World} {b : Nat} {l : List Int} (h : IA w0 W b l) (i : Nat) (v : Int) (hi : i < l.length) : IA w0 (W.setCell ⟨b, i, none⟩ (.int .i64 v)) b (l.set i v) := by
  refine ⟨fun j hj => ?_, fun j => by rw [World.frozen?_setCell]; exact h.frz j, h.new, by rw [World.size_setCell]; exact h.lt⟩
  rw [List.length_set] at hj
  by_cases e : j = i
  · subst e
    rw [World.cell?_setCell_same _ _ _ (h.cell j hj)]
    simp [List.getD_eq_getElem?_getD, hj]
  · rw [World.cell?_setCell_other _ _ _ _ (by simp [e]), h.cell j hj]
    rw [List.getD_eq_getElem?_getD, List.getD_eq_getElem?_getD, List.getElem?_set_ne (by omega)]
theorem made_at (z : Value) (n j : Nat) (h : j < n) : (madeCells #[z] n)[j]? = some z := by
  unfold madeCells
  simp [h, Nat.mod_one]
theorem IA.made (w0 W : World) (n : Nat) (hs : w0.heap.size ≤ W.heap.size) : IA w0 (W.alloc (.cells (madeCells #[.int .i64 0] n) 3)) W.heap.size (List.replicate n 0) := by
  refine ⟨fun i hi => ?_, fun j => World.frozen?_alloc_at _ _ _ _ rfl, hs, by simp⟩
  rw [List.length_replicate] at hi
  rw [World.cell?_alloc_at _ _ _ _ rfl, made_at _ _ _ hi]
  simp [List.getD_eq_getElem?_getD, hi]
end Go.Proofs.YtlhokghgicgppaaGreatDoor
namespace Go.Proofs.YtlhokghgicgppaaGreatDoor
open Go.RowKit Go.Extern
def hiT (m : Sg.Mach) (i : Nat) : Int := if i + 1 < m.cuts.length then Sg.lowAt m.cuts (i + 1) - 1 else 1114111
def wdS (m : Sg.Mach) (l : List Int) (i : Nat) : List Int := l.set (m.kind i) (rlT (hiT m i))
def widthsT (m : Sg.Mach) : List Int := (List.range m.cuts.length).foldl (wdS m) (List.replicate (m.width 0) 0)
theorem drop_range (n i : Nat) (h : i < n) : (List.range n).drop i = i :: (List.range n).drop (i + 1) := by
  have hl : i < (List.range n).length := by simpa using h
  rw [List.drop_eq_getElem_cons hl]; simp
theorem widths_any (m : Sg.Mach) (hm : m.Ok) (hlow : ∀ i, i < m.cuts.length → 0 ≤ Sg.lowAt m.cuts i ∧ Sg.lowAt m.cuts i ≤ 2000000) (w : World) (p cb co cc sb so sc : Nat) (nb no nc : Nat → Nat) (M : MachAt w p m cb co cc sb so sc nb no nc) :
    Calls Tryz.prog 68 #[.pointer (some ⟨p, 0, none⟩)] w fun e w' => e = .returned (.slice (some ⟨w.heap.size, 0, none⟩) (m.width 0) (m.width 0)) ∧ Hid (IA w w' w.heap.size (widthsT m) ∧ Below w.heap.size w w') := by
  have hN0 := hm.nextN 0 hm.states0
  have hNs := hm.statesN
  have hNc := hm.cutsN
  have hs0 := hm.states0
  have c0 := M.c0
  have c1 := M.c1
  have cn := M.next 0 hm.states0
  rw [Nat.zero_mul, Nat.add_zero] at cn
  have hmk := run_make_row' (P := Tryz.prog) 24 3 (.int .i64 0) 8 Tryz.underlying24 (by kernel_rfl) rfl .i64 .i64 (m.width 0) (by omega) (by omega) w
  have hb0 := blw1' w (.cells (madeCells #[.int .i64 0] (m.width 0)) 3)
  have hc0 := below_keep hb0 c0
  have HI0 : Hid (IA w (w.alloc (.cells (madeCells #[.int .i64 0] (m.width 0)) 3)) w.heap.size (List.replicate (m.width 0) 0)) := hide2 (IA.made w w (m.width 0) (Nat.le_refl _))
  have HB0 := hide2 hb0
  have HM := hide2 M
  clear M hb0
  go_enter Tryz.func68, Tryz.ntmps68
  go_wp2
  clear c0 c1 cn hmk hc0
  go_loopw [21] (fun iv wr => ∃ (i : Nat), iv = .int .i64 i ∧ i ≤ m.cuts.length ∧ Hid (∃ l, IA w wr w.heap.size l ∧ l.length = m.width 0 ∧ Below w.heap.size w wr ∧ ((List.range m.cuts.length).drop i).foldl (wdS m) l = widthsT m)) (fun iv _ => m.cuts.length - (intOf iv).toNat)
  case atStart => exact ⟨0, rfl, Nat.zero_le _, hide2 ⟨_, HI0.out, List.length_replicate, HB0.out, rfl⟩⟩
  case round =>
    clear HI0 HB0
    obtain ⟨i, rfl, hi, H⟩ := hrel
    by_cases hlt : i < m.cuts.length
    · obtain ⟨l, g1, g2, g3, g4⟩ := H.out
      clear H
      rw [drop_range _ _ hlt, List.foldl_cons] at g4
      have Mr := HM.out.below g3
      have c0 := Mr.c0
      have hl := Mr.low i hlt
      have hk := Mr.kind i hlt
      obtain ⟨kd, hkd⟩ : ∃ kd : Nat, Sg.kindAt m.cuts i = kd := ⟨(Sg.kindAt m.cuts i).toNat, by have := hm.kind0 i hlt; omega⟩
      have hkl : kd < m.width 0 := by have := hm.kinds i hlt 0 hm.states0; omega
      have hkk : m.kind i = kd := by unfold Sg.Mach.kind; rw [hkd]; rfl
      rw [hkd] at hk
      have hbx := blw1' wr (.cells #[.int .i32 (Sg.lowAt m.cuts i), .int .i64 (kd : Int)] 168)
      have k0 := below_keep hbx c0
      have kx : (wr.alloc (.cells #[.int .i32 (Sg.lowAt m.cuts i), .int .i64 (kd : Int)] 168)).cell? ⟨wr.heap.size, 1, none⟩ = some (.int .i64 (kd : Int)) := cell_of' (heap_alloc_new wr _) 1
      have hIx : IA w (wr.alloc (.cells #[.int .i32 (Sg.lowAt m.cuts i), .int .i64 (kd : Int)] 168)) w.heap.size l := g1.of (hbx.block _ g1.lt) hbx.size
      have hBx : Below w.heap.size w (wr.alloc (.cells #[.int .i32 (Sg.lowAt m.cuts i), .int .i64 (kd : Int)] 168)) := g3.trans (hbx.mono g3.size)
      have HX := hide2 (And.intro hIx (And.intro g2 (And.intro hBx g4)))
      have hst := hIx.cell kd (by omega)
      have hsf := hIx.frz kd
      have HRl := hide2 (fun W => runeLen_any (hiT m i) W)
      rw [show wdS m l i = l.set kd (rlT (hiT m i)) by unfold wdS; rw [hkk]] at HX
      by_cases hnx : i + 1 < m.cuts.length
      · have hl1 := below_keep hbx (Mr.low (i + 1) hnx)
        have hr1 := hlow (i + 1) hnx
        have hhi : hiT m i = Sg.lowAt m.cuts (i + 1) - 1 := by unfold hiT; rw [if_pos hnx]
        rw [hhi] at HRl HX
        clear hhi hIx hBx g1 g2 g3 g4 Mr hkd hkk hbx
        generalize Sg.lowAt m.cuts i = L0 at *
        generalize Sg.lowAt m.cuts (i + 1) = L1 at *
        go_upto_region 8 with fail
        clear hl hk c0 k0 hl1
        generalize hsx : wr.heap.size = sx at *
        generalize wr.alloc (.cells #[.int .i32 L0, .int .i64 (kd : Int)] 168) = wx at *
        go_region_with (go_at_call 99; refine (HRl.out _).mono ?_; rintro e w2 ⟨rfl, rfl⟩)
        all_goals go_wp2
        all_goals (
         go_roundw
         case rel =>
          obtain ⟨g1, g2, g3, g4⟩ := HX.out
          exact ⟨i + 1, by go_num, by omega, hide2 ⟨_, (g1.of (W' := wx.drew) rfl (Nat.le_refl _)).set kd _ (by omega), by rw [List.length_set]; exact g2, g3.drew.setCell (p := ⟨w.heap.size, kd, none⟩) (Nat.le_refl _) _, g4⟩⟩
         case measure => simp [intOf]; omega)
      · have hhi : hiT m i = 1114111 := by unfold hiT; rw [if_neg hnx]
        rw [hhi] at HRl HX
        clear hhi hIx hBx g1 g2 g3 g4 Mr hkd hkk hbx
        generalize Sg.lowAt m.cuts i = L0 at *
        go_upto_region 8 with fail
        clear hl hk c0 k0
        generalize hsx : wr.heap.size = sx at *
        generalize wr.alloc (.cells #[.int .i32 L0, .int .i64 (kd : Int)] 168) = wx at *
        go_region_with (go_at_call 99; refine (HRl.out _).mono ?_; rintro e w2 ⟨rfl, rfl⟩)
        all_goals go_wp2
        all_goals (
         go_roundw
         case rel =>
          obtain ⟨g1, g2, g3, g4⟩ := HX.out
          exact ⟨i + 1, by go_num, by omega, hide2 ⟨_, (g1.of (W' := wx.drew) rfl (Nat.le_refl _)).set kd _ (by omega), by rw [List.length_set]; exact g2, g3.drew.setCell (p := ⟨w.heap.size, kd, none⟩) (Nat.le_refl _) _, g4⟩⟩
         case measure => simp [intOf]; omega)
    · have hd : (List.range m.cuts.length).drop i = [] := List.drop_of_length_le (by simp; omega)
      obtain ⟨l, g1, g2, g3, g4⟩ := H.out
      rw [hd] at g4
      have g4 : l = widthsT m := g4
      rw [g4] at g1
      have HF := hide2 (And.intro g1 g3)
      clear H g1 g2 g3 g4
      go_wp2
      go_ret
      exact ⟨rfl, HF⟩
end Go.Proofs.YtlhokghgicgppaaGreatDoor
namespace Go.Proofs.YtlhokghgicgppaaGreatDoor
open Go.RowKit Go.Extern
abbrev KM := List Int × List Int
def endsGo (m : Sg.Mach) (wd : List Int) (s : Nat) (rec : Nat → KM → Option (Bool × KM)) : List Int → Nat → KM → Option (Bool × KM)
  | [], _, K => some (true, (K.1.set s 2, K.2))
  | n :: r, j, K =>
    if n = -1 then endsGo m wd s rec r (j + 1) K
    else if m.rule n.toNat = -1 then
      match rec n.toNat K with
      | none => none
      | some (false, K') => some (false, K')
      | some (true, K') => if wd.getD j 0 + K'.2.getD n.toNat 0 ≤ 1000000 then endsGo m wd s rec r (j + 1) (K'.1, K'.2.set s (max (K'.2.getD s 0) (wd.getD j 0 + K'.2.getD n.toNat 0))) else none
    else endsGo m wd s rec r (j + 1) (K.1, K.2.set s (max (K.2.getD s 0) (wd.getD j 0 - 1)))
def endsT (m : Sg.Mach) (wd : List Int) : Nat → Nat → KM → Option (Bool × KM)
  | 0, _, _ => none
  | f + 1, s, K =>
    if K.1.getD s 0 = 0 then endsGo m wd s (endsT m wd f) ((List.range (m.width s)).map (m.next s)) 0 (K.1.set s 1, K.2)
    else some (K.1.getD s 0 == 2, K)
structure EV where
  (kv mv wv ev ov kb wb ob p : Nat)
def EV.fn (v : EV) : Value := .func (.func 69) #[] #[.pointer (some ⟨v.kv, 0, none⟩), .pointer (some ⟨v.mv, 0, none⟩), .pointer (some ⟨v.wv, 0, none⟩), .pointer (some ⟨v.ev, 0, none⟩), .pointer (some ⟨v.ov, 0, none⟩)]
structure EnvAt (w0 : World) (m : Sg.Mach) (v : EV) (wd : List Int) (W : World) (K : KM) : Prop where
  k : IA w0 W v.kb K.1
  o : IA w0 W v.ob K.2
  wi : IA w0 W v.wb wd
  kl : K.1.length = m.states.length
  ol : K.2.length = m.states.length
  wl : wd.length = m.width 0
  ck : W.cell? ⟨v.kv, 0, none⟩ = some (.slice (some ⟨v.kb, 0, none⟩) m.states.length m.states.length)
  cm : W.cell? ⟨v.mv, 0, none⟩ = some (.pointer (some ⟨v.p, 0, none⟩))
  cw : W.cell? ⟨v.wv, 0, none⟩ = some (.slice (some ⟨v.wb, 0, none⟩) (m.width 0) (m.width 0))
  ce : W.cell? ⟨v.ev, 0, none⟩ = some v.fn
  co : W.cell? ⟨v.ov, 0, none⟩ = some (.slice (some ⟨v.ob, 0, none⟩) m.states.length m.states.length)
  ne : v.kb ≠ v.ob ∧ v.kb ≠ v.wb ∧ v.ob ≠ v.wb ∧ (∀ x, x = v.kv ∨ x = v.mv ∨ x = v.wv ∨ x = v.ev ∨ x = v.ov → x ≠ v.kb ∧ x ≠ v.ob)
  bel : Below w0.heap.size w0 W
  small : (∀ i, 0 ≤ K.2.getD i 0 ∧ K.2.getD i 0 ≤ 1000000) ∧ ∀ i, -1 ≤ wd.getD i 0 ∧ wd.getD i 0 ≤ 4
theorem EnvAt.drewN {w0 : World} {m : Sg.Mach} {v : EV} {wd : List Int} {W : World} {K : KM} (h : EnvAt w0 m v wd W K) (n : Nat) : EnvAt w0 m v wd (W.drewN n) K :=
  ⟨h.k.of rfl (Nat.le_refl _), h.o.of rfl (Nat.le_refl _), h.wi.of rfl (Nat.le_refl _), h.kl, h.ol, h.wl, h.ck, h.cm, h.cw, h.ce, h.co, h.ne, h.bel.trans ⟨rfl, rfl, rfl, Nat.le_refl _, fun _ _ => rfl⟩, h.small⟩
theorem cell_set_ne (W : World) (b i : Nat) (x : Value) (k o : Nat) (h : k ≠ b) : (W.setCell ⟨b, i, none⟩ x).cell? ⟨k, o, none⟩ = W.cell? ⟨k, o, none⟩ :=
  World.cell?_setCell_other _ _ _ _ (by simp [h])
theorem IA.other {w0 W : World} {b : Nat} {l : List Int} (h : IA w0 W b l) (c i : Nat) (x : Value) (hne : b ≠ c) : IA w0 (W.setCell ⟨c, i, none⟩ x) b l :=
  ⟨fun j hj => (cell_set_ne W c i x b j hne).trans (h.cell j hj), fun j => by rw [World.frozen?_setCell]; exact h.frz j, h.new, by rw [World.size_setCell]; exact h.lt⟩
theorem EnvAt.setK {w0 : World} {m : Sg.Mach} {v : EV} {wd : List Int} {W : World} {K : KM} (h : EnvAt w0 m v wd W K) (s : Nat) (x : Int) (hs : s < m.states.length) : EnvAt w0 m v wd (W.setCell ⟨v.kb, s, none⟩ (.int .i64 x)) (K.1.set s x, K.2) := by
  obtain ⟨n1, n2, n3, n4⟩ := h.ne
  have c : ∀ y, y = v.kv ∨ y = v.mv ∨ y = v.wv ∨ y = v.ev ∨ y = v.ov → (W.setCell ⟨v.kb, s, none⟩ (.int .i64 x)).cell? ⟨y, 0, none⟩ = W.cell? ⟨y, 0, none⟩ := fun y hy => cell_set_ne W _ _ _ _ _ (n4 y hy).1
  exact ⟨h.k.set s x (by rw [h.kl]; exact hs), h.o.other _ _ _ (fun e => n1 e.symm), h.wi.other _ _ _ (fun e => n2 e.symm), by rw [List.length_set]; exact h.kl, h.ol, h.wl, (c _ (.inl rfl)).trans h.ck, (c _ (.inr (.inl rfl))).trans h.cm, (c _ (.inr (.inr (.inl rfl)))).trans h.cw, (c _ (.inr (.inr (.inr (.inl rfl))))).trans h.ce, (c _ (.inr (.inr (.inr (.inr rfl))))).trans h.co, h.ne, h.bel.setCell (p := ⟨v.kb, s, none⟩) h.k.new _, h.small⟩
theorem EnvAt.setO {w0 : World} {m : Sg.Mach} {v : EV} {wd : List Int} {W : World} {K : KM} (h : EnvAt w0 m v wd W K) (s : Nat) (x : Int) (hs : s < m.states.length) (hx : 0 ≤ x ∧ x ≤ 1000000) : EnvAt w0 m v wd (W.setCell ⟨v.ob, s, none⟩ (.int .i64 x)) (K.1, K.2.set s x) := by
  obtain ⟨n1, n2, n3, n4⟩ := h.ne
  have c : ∀ y, y = v.kv ∨ y = v.mv ∨ y = v.wv ∨ y = v.ev ∨ y = v.ov → (W.setCell ⟨v.ob, s, none⟩ (.int .i64 x)).cell? ⟨y, 0, none⟩ = W.cell? ⟨y, 0, none⟩ := fun y hy => cell_set_ne W _ _ _ _ _ (n4 y hy).2
  refine ⟨h.k.other _ _ _ n1, h.o.set s x (by rw [h.ol]; exact hs), h.wi.other _ _ _ (fun e => n3 e.symm), h.kl, by rw [List.length_set]; exact h.ol, h.wl, (c _ (.inl rfl)).trans h.ck, (c _ (.inr (.inl rfl))).trans h.cm, (c _ (.inr (.inr (.inl rfl)))).trans h.cw, (c _ (.inr (.inr (.inr (.inl rfl))))).trans h.ce, (c _ (.inr (.inr (.inr (.inr rfl))))).trans h.co, h.ne, h.bel.setCell (p := ⟨v.ob, s, none⟩) h.o.new _, fun i => ?_, h.small.2⟩
  dsimp only
  rw [List.getD_eq_getElem?_getD, List.getElem?_set]
  split
  · split
    · exact hx
    · exact ⟨by show (0 : Int) ≤ 0; omega, by show (0 : Int) ≤ 1000000; omega⟩
  · rw [← List.getD_eq_getElem?_getD]; exact h.small.1 i
theorem ends_any (w0 : World) (m : Sg.Mach) (hm : m.Ok) (v : EV) (wd : List Int) (cb co cc sb so sc : Nat) (nb no nc : Nat → Nat) (M : MachAt w0 v.p m cb co cc sb so sc nb no nc) (hwd : ∀ s, s < m.states.length → m.width s = m.width 0) : ∀ (f s : Nat) (K : KM) (r : Bool × KM), endsT m wd f s K = some r → s < m.states.length → ∀ W, EnvAt w0 m v wd W K →
    Calls Tryz.prog 69 #[.int .i64 s, .pointer (some ⟨v.kv, 0, none⟩), .pointer (some ⟨v.mv, 0, none⟩), .pointer (some ⟨v.wv, 0, none⟩), .pointer (some ⟨v.ev, 0, none⟩), .pointer (some ⟨v.ov, 0, none⟩)] W fun e w' => e = .returned (.bool r.1) ∧ Hid (EnvAt w0 m v wd w' r.2)
  | 0, s, K, r, h, _, W, _ => by cases h
  | f + 1, s, K, r, h, hs, W, hE => by
    have hNs := hm.statesN
    unfold endsT at h
    have hck := hE.ck
    have hkc := hE.k.cell s (by rw [hE.kl]; exact hs)
    by_cases h0 : K.1.getD s 0 = 0
    · rw [if_pos h0] at h
      rw [h0] at hkc
      have hE1 := hE.setK s 1 hs
      have M1 := M.below hE1.bel
      have a1 := hE1.cm
      have a2 := M1.c1
      have a3 := M1.next s hs
      have hfr := hE.k.frz s
      have hws := hm.nextN s hs
      have HE1 := hide2 hE1
      have HG := hide2 h
      have HM := hide2 M
      have IH := hide2 (ends_any w0 m hm v wd cb co cc sb so sc nb no nc M hwd f)
      have HWd := hide2 (hwd s hs)
      clear hE1 M1 hE h M h0 hwd
      go_enter Tryz.func69, Tryz.ntmps69
      go_wp2
      clear a1 a2 a3 hfr hck hkc
      generalize W.setCell ⟨v.kb, s, none⟩ (.int .i64 1) = W1 at *
      go_loopw [33] (fun jv wr => ∃ (j : Nat), jv = .int .i64 j ∧ j ≤ m.width s ∧ Hid (∃ K', EnvAt w0 m v wd wr K' ∧ endsGo m wd s (endsT m wd f) (((List.range (m.width s)).map (m.next s)).drop j) j K' = some r)) (fun jv _ => m.width s - (intOf jv).toNat)
      case atStart => exact ⟨0, rfl, Nat.zero_le _, hide2 ⟨_, HE1.out, HG.out⟩⟩
      case round =>
        clear HE1 HG
        obtain ⟨j, rfl, hj, H⟩ := hrel
        obtain ⟨K', hE, hG⟩ := H.out
        clear H
        by_cases hlt : j < m.width s
        · rw [show ((List.range (m.width s)).map (m.next s)).drop j = m.next s j :: ((List.range (m.width s)).map (m.next s)).drop (j + 1) by
            rw [← List.map_drop, ← List.map_drop, drop_range _ _ hlt, List.map_cons]] at hG
          unfold endsGo at hG
          have Mr := HM.out.below hE.bel
          have b1 := Mr.to s j hs hlt
          by_cases hn1 : m.next s j = -1
          · rw [if_pos hn1] at hG
            rw [hn1] at b1
            have HN := hide2 (And.intro hE hG)
            clear hE hG Mr
            go_wp2
            go_roundw
            case rel => exact ⟨j + 1, by go_num, by omega, hide2 ⟨_, HN.out.1, HN.out.2⟩⟩
            case measure => simp [intOf]; omega
          · rw [if_neg hn1] at hG
            obtain ⟨nn, hnn⟩ : ∃ nn : Nat, m.next s j = nn := ⟨(m.next s j).toNat, by rcases hm.nexts s hs j hlt with e | e <;> omega⟩
            have hnl : nn < m.states.length := by rcases hm.nexts s hs j hlt with e | e <;> omega
            have hjw : j < wd.length := by rw [hE.wl, ← HWd.out]; exact hlt
            rw [hnn] at b1 hG hn1
            rw [Int.toNat_natCast] at hG
            have hnz : (((nn : Nat) : Int) == -1) = false := beq_eq_false_iff_ne.2 (by omega)
            have b2 := hE.cw
            have b3 := hE.wi.cell j hjw
            have b4 := hE.cm
            have b5 := Mr.c1
            have b6 := Mr.rule nn hnl
            have hsm := hE.small.2 j
            have hjw0 : j < m.width 0 := by rw [← HWd.out]; exact hlt
            by_cases hrl : m.rule nn = -1
            · rw [if_pos hrl] at hG
              rw [hrl] at b6
              have b7 := hE.ce
              unfold EV.fn at b7
              rcases hrec : endsT m wd f nn K' with _ | ⟨bb, K2⟩
              · rw [hrec] at hG; cases hG
              · rw [hrec] at hG
                have HC := hide2 (IH.out nn K' (bb, K2) hrec hnl wr hE)
                clear hE hrec Mr hn1 hrl
                obtain ⟨wj, hwj⟩ : ∃ x, wd.getD j 0 = x := ⟨_, rfl⟩
                rw [hwj] at b3 hsm
                have HWJ := hide2 hwj
                clear hwj
                cases bb
                · have hG : some (false, K2) = some r := hG
                  cases hG
                  go_wp2_with (go_at_call 69; refine HC.out.mono ?_; rintro e w2 ⟨rfl, H2⟩)
                  go_ret
                  exact ⟨rfl, H2⟩
                · dsimp only at hG
                  by_cases hbig : wd.getD j 0 + K2.2.getD nn 0 ≤ 1000000
                  · rw [if_pos hbig] at hG
                    have HG2 := hide2 hG
                    obtain ⟨on, hon⟩ : ∃ x, K2.2.getD nn 0 = x := ⟨_, rfl⟩
                    obtain ⟨os, hos⟩ : ∃ x, K2.2.getD s 0 = x := ⟨_, rfl⟩
                    rw [HWJ.out, hon] at hbig
                    have HON := hide2 hon
                    have HOS := hide2 hos
                    clear hG hon hos
                    go_upto_region 12 with (go_at_call 69; refine HC.out.mono ?_; rintro e w2 ⟨rfl, H2⟩; have d1 := H2.out.cw; have d2 := H2.out.wi.cell j hjw; have d3 := H2.out.co; have d4 := H2.out.o.cell nn (by rw [H2.out.ol]; exact hnl); have hs3 := H2.out.small.1 nn; rw [HON.out] at d4 hs3; rw [HWJ.out] at d2; clear HC b1 b2 b3 b4 b5 b6 b7)
                    go_quiet (fail)
                    have HE3 := hide2 (H2.out.drewN nq)
                    clear d1 d2 d3 d4 H2
                    generalize w2.drewN nq = w3 at *
                    have d5 := HE3.out.co
                    have d6 := HE3.out.o.cell s (by rw [HE3.out.ol]; exact hs)
                    have d7 := HE3.out.o.frz s
                    have hs4 := HE3.out.small.1 s
                    rw [HOS.out] at d6 hs4
                    go_upto_region 13 with fail
                    go_region
                    all_goals go_wp2
                    all_goals (
                     go_roundw
                     case rel =>
                       refine ⟨j + 1, by go_num, by omega, hide2 ⟨_, (HE3.out.setO s _ hs ⟨by omega, by omega⟩).drewN 1, ?_⟩⟩
                       have e := HG2.out
                       rw [HON.out, HOS.out, HWJ.out] at e
                       exact e
                     case measure => simp [intOf]; omega)
                  · rw [if_neg hbig] at hG; cases hG
            · rw [if_neg hrl] at hG
              have hrz : (m.rule nn == -1) = false := beq_eq_false_iff_ne.2 hrl
              have b7 := hE.co
              have b8 := hE.o.cell s (by rw [hE.ol]; exact hs)
              have b9 := hE.o.frz s
              have hsm2 := hE.small.1 s
              have HN := hide2 (And.intro hE hG)
              clear hE hG Mr hn1 hrl
              generalize wd.getD j 0 = wj at *
              generalize K'.2.getD s 0 = os at *
              generalize m.rule nn = rn at *
              go_upto_region 13 with fail
              go_region
              all_goals go_wp2
              all_goals (
               go_roundw
               case rel => exact ⟨j + 1, by go_num, by omega, hide2 ⟨_, (HN.out.1.setO s _ hs ⟨by omega, by omega⟩).drewN 1, HN.out.2⟩⟩
               case measure => simp [intOf]; omega)
        · have hd : ((List.range (m.width s)).map (m.next s)).drop j = [] := List.drop_of_length_le (by simp; omega)
          rw [hd] at hG
          unfold endsGo at hG
          cases hG
          have b1 := hE.ck
          have b2 := hE.k.cell s (by rw [hE.kl]; exact hs)
          have b3 := hE.k.frz s
          have HN := hide2 (hE.setK s 2 hs)
          clear hE
          go_wp2
          go_ret
          exact ⟨rfl, HN⟩
    · rw [if_neg h0] at h
      cases h
      have hz : (K.1.getD s 0 == 0) = false := beq_eq_false_iff_ne.2 h0
      have HE := hide2 hE
      clear hE
      generalize K.1.getD s 0 = x at *
      go_enter Tryz.func69, Tryz.ntmps69
      go_wp2
      go_ret
      exact ⟨rfl, HE⟩
end Go.Proofs.YtlhokghgicgppaaGreatDoor
namespace Go.Proofs.YtlhokghgicgppaaGreatDoor
open Go.RowKit Go.Extern
def maxT (l : List Int) : Int := (l.drop 1).foldl max (l.getD 0 0)
theorem maxI_any (w0 W : World) (b : Nat) (l : List Int) (h : IA w0 W b l) (h1 : 1 ≤ l.length) (hN : l.length < 1000000000) :
    Calls Tryz.prog 70 #[.slice (some ⟨b, 0, none⟩) l.length l.length] W fun e w' => e = .returned (.int .i64 (maxT l)) ∧ w' = W := by
  have c0 := h.cell 0 h1
  have H := hide2 h
  have HM := hide2 (show maxT l = (l.drop 1).foldl max (l.getD 0 0) from rfl)
  clear h
  generalize maxT l = mx at *
  generalize l.getD 0 0 = x0 at *
  go_enter Tryz.func70, Tryz.ntmps70
  go_wp2
  go_loopw [3, 4] (fun mv iv wr => wr = W ∧ ∃ (i : Nat) (y : Int), iv = .int .i64 i ∧ mv = .int .i64 y ∧ i ≤ l.length ∧ 1 ≤ i ∧ Hid (mx = (l.drop i).foldl max y)) (fun _ iv _ => l.length - (intOf iv).toNat)
  case atStart => exact ⟨rfl, 1, x0, rfl, rfl, h1, Nat.le_refl _, HM⟩
  case round =>
    clear HM c0
    obtain ⟨rfl, i, y, rfl, rfl, hi, hi1, HY⟩ := hrel
    by_cases hlt : i < l.length
    · have c := H.out.cell i hlt
      have hd : l.drop i = l.getD i 0 :: l.drop (i + 1) := by
        rw [List.drop_eq_getElem_cons hlt, List.getD_eq_getElem?_getD, List.getElem?_eq_getElem hlt]; rfl
      have hy := HY.out
      rw [hd, List.foldl_cons] at hy
      have HY2 := hide2 hy
      clear hy hd HY
      generalize l.getD i 0 = z at *
      go_wp2
      go_roundw
      case rel => exact ⟨trivial, i + 1, _, by go_num, rfl, by omega, by omega, HY2⟩
      case measure => simp [intOf]; omega
    · have hd : l.drop i = [] := List.drop_of_length_le (by omega)
      have hy := HY.out
      rw [hd] at hy
      have hy : mx = y := hy
      subst hy
      go_wp2
      go_ret
      exact ⟨rfl, rfl⟩
theorem foldl_max_le (B : Int) : ∀ (l : List Int) (x : Int), 0 ≤ x → x ≤ B → (∀ y ∈ l, 0 ≤ y ∧ y ≤ B) → 0 ≤ l.foldl max x ∧ l.foldl max x ≤ B
  | [], x, h1, h2, _ => ⟨h1, h2⟩
  | y :: l, x, h1, h2, h => foldl_max_le B l (max x y) (by have := h y List.mem_cons_self; omega) (by have := h y List.mem_cons_self; omega) (fun z hz => h z (List.mem_cons_of_mem _ hz))
theorem maxT_le (l : List Int) (B : Int) (_hB : 0 ≤ B) (h : ∀ i, 0 ≤ l.getD i 0 ∧ l.getD i 0 ≤ B) : 0 ≤ maxT l ∧ maxT l ≤ B := by
  refine foldl_max_le B _ _ (h 0).1 (h 0).2 (fun y hy => ?_)
  obtain ⟨i, hi⟩ := List.getElem?_of_mem (List.mem_of_mem_drop hy)
  have := h i
  rw [List.getD_eq_getElem?_getD, hi] at this
  exact this
def boundGo (m : Sg.Mach) (wd : List Int) (f : Nat) : List Nat → KM → Option Int
  | [], K => some (1 + maxT K.2)
  | s :: r, K =>
    match endsT m wd f s K with
    | none => none
    | some (false, _) => some (-1)
    | some (true, K') => boundGo m wd f r K'
def boundT (m : Sg.Mach) : Option Int := boundGo m (widthsT m) (m.states.length + 1) (List.range m.states.length) (List.replicate m.states.length 0, List.replicate m.states.length 0)
theorem IA.base {w0 w1 W : World} {b : Nat} {l : List Int} (h : IA w1 W b l) (hs : w0.heap.size ≤ w1.heap.size) : IA w0 W b l := ⟨h.cell, h.frz, Nat.le_trans hs h.new, h.lt⟩
theorem blw3 (w : World) (o1 o2 o3 : Obj) : Below w.heap.size w (((w.alloc o1).alloc o2).alloc o3) :=
  (((Below.refl _ _).alloc (Nat.le_refl _) o1).alloc (by simp) o2).alloc (by simp; omega) o3
theorem IA.below {w0 W W' : World} {b : Nat} {l : List Int} (h : IA w0 W b l) (hb : Below W.heap.size W W') : IA w0 W' b l := h.of (hb.block _ h.lt) hb.size
theorem env_start (w w1 : World) (m : Sg.Mach) (p : Nat) (hb : Below w.heap.size w w1) (hI : IA w w1 (w.heap.size + 1) (widthsT m)) (hc : w1.cell? ⟨w.heap.size, 0, none⟩ = some (.pointer (some ⟨p, 0, none⟩))) (hwl : (widthsT m).length = m.width 0 ∧ ∀ i, -1 ≤ (widthsT m).getD i 0 ∧ (widthsT m).getD i 0 ≤ 4) (v : EV) (hv : v = ⟨w1.heap.size + 1 + 1, w.heap.size, w1.heap.size, w1.heap.size + 1 + 1 + 1 + 1 + 1, w1.heap.size + 1 + 1 + 1 + 1, w1.heap.size + 1, w.heap.size + 1, w1.heap.size + 1 + 1 + 1, p⟩) :
    EnvAt w m v (widthsT m) ((((((w1.alloc (.cells #[.slice (some ⟨w.heap.size + 1, 0, none⟩) (m.width 0) (m.width 0)] 24)).alloc (.cells (madeCells #[.int .i64 0] m.states.length) 3)).alloc (.cells #[.slice (some ⟨w1.heap.size + 1, 0, none⟩) m.states.length m.states.length] 24)).alloc (.cells (madeCells #[.int .i64 0] m.states.length) 3)).alloc (.cells #[.slice (some ⟨w1.heap.size + 1 + 1 + 1, 0, none⟩) m.states.length m.states.length] 24)).alloc (.cells #[v.fn] 115)) (List.replicate m.states.length 0, List.replicate m.states.length 0) := by
  have hlt := hI.lt
  have hs0 := hb.size
  generalize hx1 : w1.alloc (.cells #[.slice (some ⟨w.heap.size + 1, 0, none⟩) (m.width 0) (m.width 0)] 24) = X1
  have b1 : Below w1.heap.size w1 X1 := by rw [← hx1]; exact blw1' w1 _
  have s1 : X1.heap.size = w1.heap.size + 1 := by rw [← hx1]; simp
  have a1 : X1.cell? ⟨w1.heap.size, 0, none⟩ = some (.slice (some ⟨w.heap.size + 1, 0, none⟩) (m.width 0) (m.width 0)) := by rw [← hx1]; exact cell_of' (heap_alloc_new w1 _) 0
  generalize hx2 : X1.alloc (.cells (madeCells #[.int .i64 0] m.states.length) 3) = X2
  have b2 : Below X1.heap.size X1 X2 := by rw [← hx2]; exact blw1' X1 _
  have s2 : X2.heap.size = X1.heap.size + 1 := by rw [← hx2]; simp
  have a2 : IA w X2 X1.heap.size (List.replicate m.states.length 0) := by rw [← hx2]; exact IA.made w X1 _ (by omega)
  generalize hx3 : X2.alloc (.cells #[.slice (some ⟨w1.heap.size + 1, 0, none⟩) m.states.length m.states.length] 24) = X3
  have b3 : Below X2.heap.size X2 X3 := by rw [← hx3]; exact blw1' X2 _
  have s3 : X3.heap.size = X2.heap.size + 1 := by rw [← hx3]; simp
  have a3 : X3.cell? ⟨X2.heap.size, 0, none⟩ = some (.slice (some ⟨w1.heap.size + 1, 0, none⟩) m.states.length m.states.length) := by rw [← hx3]; exact cell_of' (heap_alloc_new X2 _) 0
  generalize hx4 : X3.alloc (.cells (madeCells #[.int .i64 0] m.states.length) 3) = X4
  have b4 : Below X3.heap.size X3 X4 := by rw [← hx4]; exact blw1' X3 _
  have s4 : X4.heap.size = X3.heap.size + 1 := by rw [← hx4]; simp
  have a4 : IA w X4 X3.heap.size (List.replicate m.states.length 0) := by rw [← hx4]; exact IA.made w X3 _ (by omega)
  generalize hx5 : X4.alloc (.cells #[.slice (some ⟨w1.heap.size + 1 + 1 + 1, 0, none⟩) m.states.length m.states.length] 24) = X5
  have b5 : Below X4.heap.size X4 X5 := by rw [← hx5]; exact blw1' X4 _
  have s5 : X5.heap.size = X4.heap.size + 1 := by rw [← hx5]; simp
  have a5 : X5.cell? ⟨X4.heap.size, 0, none⟩ = some (.slice (some ⟨w1.heap.size + 1 + 1 + 1, 0, none⟩) m.states.length m.states.length) := by rw [← hx5]; exact cell_of' (heap_alloc_new X4 _) 0
  generalize hx6 : X5.alloc (.cells #[v.fn] 115) = X6
  have b6 : Below X5.heap.size X5 X6 := by rw [← hx6]; exact blw1' X5 _
  have a6 : X6.cell? ⟨X5.heap.size, 0, none⟩ = some v.fn := by rw [← hx6]; exact cell_of' (heap_alloc_new X5 _) 0
  have b56 := b5.trans (b6.mono b5.size)
  have b46 := b4.trans (b56.mono b4.size)
  have b36 := b3.trans (b46.mono b3.size)
  have b26 := b2.trans (b36.mono b2.size)
  have b16 := b1.trans (b26.mono b1.size)
  have hrep : ∀ i, (List.replicate m.states.length (0 : Int)).getD i 0 = 0 := fun i => by rw [List.getD_eq_getElem?_getD, List.getElem?_replicate]; split <;> rfl
  rw [hv]
  rw [s1] at a2 s2
  rw [s2] at a3 s3
  rw [s3] at a4 s4
  rw [s4] at a5 s5
  rw [s5] at a6
  rw [hv] at a6
  refine ⟨a2.below b36, a4.below b56, hI.below b16, List.length_replicate, List.length_replicate, hwl.1, below_keep b46 a3, below_keep b16 hc, below_keep b26 a1, a6, below_keep b6 a5, ⟨?_, ?_, ?_, ?_⟩, hb.trans (b16.mono hb.size), fun i => ?_, hwl.2⟩
  · show w1.heap.size + 1 ≠ w1.heap.size + 1 + 1 + 1; omega
  · show w1.heap.size + 1 ≠ w.heap.size + 1; omega
  · show w1.heap.size + 1 + 1 + 1 ≠ w.heap.size + 1; omega
  · intro x hx
    show x ≠ w1.heap.size + 1 ∧ x ≠ w1.heap.size + 1 + 1 + 1
    dsimp only at hx
    omega
  · dsimp only; rw [hrep]; omega
theorem machBound_any (m : Sg.Mach) (hm : m.Ok) (hlow : ∀ i, i < m.cuts.length → 0 ≤ Sg.lowAt m.cuts i ∧ Sg.lowAt m.cuts i ≤ 2000000) (hwd : ∀ s, s < m.states.length → m.width s = m.width 0) (bv : Int) (hbv : boundT m = some bv) (hwl : (widthsT m).length = m.width 0 ∧ ∀ i, -1 ≤ (widthsT m).getD i 0 ∧ (widthsT m).getD i 0 ≤ 4) (w : World) (p cb co cc sb so sc : Nat) (nb no nc : Nat → Nat) (M : MachAt w p m cb co cc sb so sc nb no nc) :
    Calls Tryz.prog 41 #[.pointer (some ⟨p, 0, none⟩)] w fun e w' => e = .returned (.int .i64 bv) ∧ Hid (Below w.heap.size w w') := by
  have hNs := hm.statesN
  have hs0 := hm.states0
  have hmf : ∀ (fn : Fn) (first cap : Array Value) (w : World), (Instr.makeFunc fn first cap).run Tryz.prog w = .ok (.func fn first cap) w := fun _ _ _ _ => rfl
  have hmk := fun W => run_make_row' (P := Tryz.prog) 24 3 (.int .i64 0) 8 Tryz.underlying24 (by kernel_rfl) rfl .i64 .i64 m.states.length (by omega) (by omega) W
  have hbA := blw1' w (.cells #[.pointer (some ⟨p, 0, none⟩)] 85)
  have HW := hide2 (widths_any m hm hlow (w.alloc (.cells #[.pointer (some ⟨p, 0, none⟩)] 85)) p cb co cc sb so sc nb no nc (M.below hbA))
  have hM0 : ∀ W', Below w.heap.size w W' → W'.cell? ⟨p, 1, none⟩ = some (.slice (some ⟨sb, so, none⟩) m.states.length sc) := fun W' hb => (M.below hb).c1
  have HM := hide2 M
  clear M
  go_enter Tryz.func41, Tryz.ntmps41
  go_upto_region 6 with (go_at_call 68; refine HW.out.mono ?_; clear HW; rintro e w1 ⟨rfl, H1⟩; have hbw := hbA.trans (H1.out.2.mono hbA.size); have hcA := below_keep H1.out.2 (cell_of' (heap_alloc_new w (.cells #[.pointer (some ⟨p, 0, none⟩)] 85)) 0); have f1 := fun o => below_keep (blw1' w1 o) hcA; have f2 := fun o1 o2 o3 => below_keep (blw3 w1 o1 o2 o3) hcA; have g1 := fun o => hM0 (w1.alloc o) (hbw.trans ((blw1' w1 o).mono hbw.size)); have g2 := fun o1 o2 o3 => hM0 (((w1.alloc o1).alloc o2).alloc o3) (hbw.trans ((blw3 w1 o1 o2 o3).mono hbw.size)))
  have hI0 : IA w w1 (w.heap.size + 1) (widthsT m) := by
    have e := H1.out.1.base hbA.size
    simpa using e
  obtain ⟨v, hv⟩ : ∃ v : EV, v = ⟨w1.heap.size + 1 + 1, w.heap.size, w1.heap.size, w1.heap.size + 1 + 1 + 1 + 1 + 1, w1.heap.size + 1 + 1 + 1 + 1, w1.heap.size + 1, w.heap.size + 1, w1.heap.size + 1 + 1 + 1, p⟩ := ⟨_, rfl⟩
  have HEnv := hide2 (env_start w w1 m p hbw hI0 hcA hwl v hv)
  have HEnd : Hid (∀ s K r, endsT m (widthsT m) (m.states.length + 1) s K = some r → s < m.states.length → ∀ W, EnvAt w m v (widthsT m) W K → Calls Tryz.prog 69 #[.int .i64 s, .pointer (some ⟨v.kv, 0, none⟩), .pointer (some ⟨v.mv, 0, none⟩), .pointer (some ⟨v.wv, 0, none⟩), .pointer (some ⟨v.ev, 0, none⟩), .pointer (some ⟨v.ov, 0, none⟩)] W fun e w' => e = .returned (.bool r.1) ∧ Hid (EnvAt w m v (widthsT m) w' r.2)) := hide2 (ends_any w m hm v (widthsT m) cb co cc sb so sc nb no nc (by rw [hv]; exact HM.out) hwd _)
  subst hv
  dsimp only [EV.fn] at HEnv HEnd
  have HBv := hide2 hbv
  clear hmk hmf f1 f2 g1 g2 hcA hI0 hM0 hwd hbv hwl hlow H1
  generalize (((((w1.alloc (.cells #[.slice (some ⟨w.heap.size + 1, 0, none⟩) (m.width 0) (m.width 0)] 24)).alloc (.cells (madeCells #[.int .i64 0] m.states.length) 3)).alloc (.cells #[.slice (some ⟨w1.heap.size + 1, 0, none⟩) m.states.length m.states.length] 24)).alloc (.cells (madeCells #[.int .i64 0] m.states.length) 3)).alloc (.cells #[.slice (some ⟨w1.heap.size + 1 + 1 + 1, 0, none⟩) m.states.length m.states.length] 24)).alloc (.cells #[.func (.func 69) #[] #[.pointer (some ⟨w1.heap.size + 1 + 1, 0, none⟩), .pointer (some ⟨w.heap.size, 0, none⟩), .pointer (some ⟨w1.heap.size, 0, none⟩), .pointer (some ⟨w1.heap.size + 1 + 1 + 1 + 1 + 1, 0, none⟩), .pointer (some ⟨w1.heap.size + 1 + 1 + 1 + 1, 0, none⟩)]] 115) = wE at *
  have k1 := HEnv.out.cm
  have k2 := (HM.out.below HEnv.out.bel).c1
  dsimp only at k1
  go_wp2
  clear k1 k2
  go_loopw [28] (fun iv wr => ∃ (i : Nat), iv = .int .i64 i ∧ i ≤ m.states.length ∧ Hid (∃ K, EnvAt w m ⟨w1.heap.size + 1 + 1, w.heap.size, w1.heap.size, w1.heap.size + 1 + 1 + 1 + 1 + 1, w1.heap.size + 1 + 1 + 1 + 1, w1.heap.size + 1, w.heap.size + 1, w1.heap.size + 1 + 1 + 1, p⟩ (widthsT m) wr K ∧ boundGo m (widthsT m) (m.states.length + 1) ((List.range m.states.length).drop i) K = some bv)) (fun iv _ => m.states.length - (intOf iv).toNat)
  case atStart => exact ⟨0, rfl, Nat.zero_le _, hide2 ⟨_, HEnv.out, HBv.out⟩⟩
  case round =>
    clear HEnv HBv
    obtain ⟨i, rfl, hi, H⟩ := hrel
    obtain ⟨K, hE, hG⟩ := H.out
    clear H
    by_cases hlt : i < m.states.length
    · rw [drop_range _ _ hlt] at hG
      unfold boundGo at hG
      have k1 := hE.ce
      dsimp only [EV.fn] at k1
      rcases hrec : endsT m (widthsT m) (m.states.length + 1) i K with _ | ⟨bb, K2⟩
      · rw [hrec] at hG; cases hG
      · rw [hrec] at hG
        have HC := hide2 (HEnd.out i K (bb, K2) hrec hlt wr hE)
        clear hE hrec
        cases bb
        · have hG : some (-1) = some bv := hG
          cases hG
          go_wp2_with (go_at_call 69; refine HC.out.mono ?_; rintro e w2 ⟨rfl, H2⟩)
          go_ret
          exact ⟨rfl, hide2 H2.out.bel⟩
        · have HG := hide2 (show boundGo m (widthsT m) (m.states.length + 1) ((List.range m.states.length).drop (i + 1)) K2 = some bv from hG)
          clear hG
          go_wp2_with (go_at_call 69; refine HC.out.mono ?_; rintro e w2 ⟨rfl, H2⟩)
          go_roundw
          case rel => exact ⟨i + 1, by go_num, by omega, hide2 ⟨_, H2.out, HG.out⟩⟩
          case measure => simp [intOf]; omega
    · have hd : (List.range m.states.length).drop i = [] := List.drop_of_length_le (by simp; omega)
      rw [hd] at hG
      have hG : some (1 + maxT K.2) = some bv := hG
      cases hG
      have k1 := hE.co
      dsimp only at k1
      have hol := hE.ol
      have HX := hide2 (maxI_any w wr _ K.2 hE.o (by omega) (by omega))
      rw [hol] at HX
      dsimp only at HX
      have hmx := maxT_le K.2 1000000 (by omega) hE.small.1
      have HB := hide2 hE.bel
      clear hE hol
      obtain ⟨mx, hmxe⟩ : ∃ x, maxT K.2 = x := ⟨_, rfl⟩
      rw [hmxe] at HX hmx
      have HMX := hide2 hmxe
      clear hmxe
      go_wp2_with (go_at_call 70; refine HX.out.mono ?_; rintro e w2 ⟨rfl, rfl⟩)
      go_ret
      exact ⟨by rw [HMX.out]; rfl, HB⟩
theorem bound_any (m : Sg.Mach) (hm : m.Ok) (hlow : ∀ i, i < m.cuts.length → 0 ≤ Sg.lowAt m.cuts i ∧ Sg.lowAt m.cuts i ≤ 2000000) (hwd : ∀ s, s < m.states.length → m.width s = m.width 0) (bv : Int) (hbv : boundT m = some bv) (hwl : (widthsT m).length = m.width 0 ∧ ∀ i, -1 ≤ (widthsT m).getD i 0 ∧ (widthsT m).getD i 0 ≤ 4) (w : World) (tp p bm : Nat) (h : TabAt w tp p bm m) :
    Calls Tryz.prog 27 #[.pointer (some ⟨tp, 0, none⟩)] w fun e w' => e = .returned (.int .i64 bv) ∧ Hid (Below w.heap.size w w') := by
  obtain ⟨cb, co, cc, sb, so, sc, nb, no, nc, M, _⟩ := h.ma
  have HB := hide2 (machBound_any m hm hlow hwd bv hbv hwl w p cb co cc sb so sc nb no nc M)
  have c := h.t
  clear h M
  go_enter Tryz.func27, Tryz.ntmps27
  go_wp2_with (go_at_call 41; refine HB.out.mono ?_; rintro e w1 ⟨rfl, H1⟩)
  go_ret
  exact ⟨rfl, H1⟩
end Go.Proofs.YtlhokghgicgppaaGreatDoor
namespace Go.Proofs.YtlhokghgicgppaaGreatDoor
open Go.RowKit Go.Extern
def bndV : Nat → Int
  | 0 => 1
  | 1 => -1
  | 2 => 4
  | 3 => -1
  | 4 => 4
  | 5 => 6
  | 6 => 8
  | _ => 2
theorem bound_l : ∀ c, c < 8 → boundT (machL c) = some (bndV c)
  | 0, _ => by kernel_rfl
  | 1, _ => by kernel_rfl
  | 2, _ => by kernel_rfl
  | 3, _ => by kernel_rfl
  | 4, _ => by kernel_rfl
  | 5, _ => by kernel_rfl
  | 6, _ => by kernel_rfl
  | 7, _ => by kernel_rfl
  | _ + 8, h => by omega
def lowB (m : Sg.Mach) : Bool := (List.range m.cuts.length).all fun i => decide (0 ≤ Sg.lowAt m.cuts i) && decide (Sg.lowAt m.cuts i ≤ 2000000)
def widB (m : Sg.Mach) : Bool := (List.range m.states.length).all fun s => m.width s == m.width 0
def wdtB (m : Sg.Mach) : Bool := (widthsT m).length == m.width 0 && (widthsT m).all fun x => decide (-1 ≤ x) && decide (x ≤ 4)
theorem low_l : ∀ c, c < 8 → lowB (machL c) = true
  | 0, _ => by kernel_rfl
  | 1, _ => by kernel_rfl
  | 2, _ => by kernel_rfl
  | 3, _ => by kernel_rfl
  | 4, _ => by kernel_rfl
  | 5, _ => by kernel_rfl
  | 6, _ => by kernel_rfl
  | 7, _ => by kernel_rfl
  | _ + 8, h => by omega
theorem wid_l : ∀ c, c < 8 → widB (machL c) = true
  | 0, _ => by kernel_rfl
  | 1, _ => by kernel_rfl
  | 2, _ => by kernel_rfl
  | 3, _ => by kernel_rfl
  | 4, _ => by kernel_rfl
  | 5, _ => by kernel_rfl
  | 6, _ => by kernel_rfl
  | 7, _ => by kernel_rfl
  | _ + 8, h => by omega
theorem wdt_l : ∀ c, c < 8 → wdtB (machL c) = true
  | 0, _ => by kernel_rfl
  | 1, _ => by kernel_rfl
  | 2, _ => by kernel_rfl
  | 3, _ => by kernel_rfl
  | 4, _ => by kernel_rfl
  | 5, _ => by kernel_rfl
  | 6, _ => by kernel_rfl
  | 7, _ => by kernel_rfl
  | _ + 8, h => by omega
theorem boundL_any (k : Nat) (hk : k < 8) (w : World) (tp p bm : Nat) (h : TabAt w tp p bm (machL k)) :
    Calls Tryz.prog 27 #[.pointer (some ⟨tp, 0, none⟩)] w fun e w' => e = .returned (.int .i64 (bndV k)) ∧ Hid (Below w.heap.size w w') := by
  refine bound_any (machL k) (comp_of (comp_l k hk)).ok (fun i hi => ?_) (fun s hs => ?_) (bndV k) (bound_l k hk) ⟨?_, fun i => ?_⟩ w tp p bm h
  · have := List.all_eq_true.1 (low_l k hk) i (List.mem_range.2 hi)
    simpa using this
  · have := List.all_eq_true.1 (wid_l k hk) s (List.mem_range.2 hs)
    simpa using this
  · have := wdt_l k hk
    unfold wdtB at this
    rw [Bool.and_eq_true] at this
    simpa using this.1
  · have := wdt_l k hk
    unfold wdtB at this
    rw [Bool.and_eq_true, List.all_eq_true] at this
    rw [List.getD_eq_getElem?_getD]
    rcases hx : (widthsT (machL k))[i]? with _ | x
    · show (-1 : Int) ≤ 0 ∧ (0 : Int) ≤ 4; omega
    · have := this.2 x (List.mem_of_getElem? hx)
      simpa using this
end Go.Proofs.YtlhokghgicgppaaGreatDoor
