/- Tables as bytes, plainly. -/
/- stored.appendNumber. -/
import Derived.Test.YtlhokghgicgppaaDoorSpec2
import Derived.Test.YtlhokghgicgppaaDoorRoundReg
set_option linter.unusedSimpArgs false
set_option linter.unusedVariables false
namespace Go.Proofs.YtlhokghgicgppaaDoor.Sg
open Go

def encGo : Nat → Nat → Bs
  | 0, _ => []
  | k + 1, n => if n < 128 then [n.toUInt8] else (n % 128 + 128).toUInt8 :: encGo k (n / 128)
def encN (n : Nat) : Bs := encGo (n + 1) n
theorem encGo_any : ∀ (k j n : Nat), n < k → n < j → encGo k n = encGo j n
  | 0, _, _, h, _ => absurd h (Nat.not_lt_zero _)
  | _, 0, _, _, h => absurd h (Nat.not_lt_zero _)
  | k + 1, j + 1, n, h1, h2 => by
    unfold encGo
    split
    · rfl
    · rw [encGo_any k j (n / 128) (by omega) (by omega)]
theorem encN_eq (n : Nat) : encN n = if n < 128 then [n.toUInt8] else (n % 128 + 128).toUInt8 :: encN (n / 128) := by
  show encGo (n + 1) n = _
  rw [encGo]
  split
  · rfl
  · rw [encN, encGo_any n (n / 128 + 1) (n / 128) (by omega) (by omega)]
theorem encN_small {n : Nat} (h : n < 128) : encN n = [n.toUInt8] := by rw [encN_eq, if_pos h]
theorem encN_big {n : Nat} (h : ¬ n < 128) : encN n = (n % 128 + 128).toUInt8 :: encN (n / 128) := by rw [encN_eq, if_neg h]
def encCut (c : Int × Int) : Bs := encN c.1.toNat ++ encN c.2.toNat
def encNexts (l : List Int) : Bs := l.flatMap fun x => encN (x + 1).toNat
def encState (s : Int × List Int) : Bs := encN (s.1 + 1).toNat ++ encNexts s.2
def encM (m : Mach) : Bs := encN m.cuts.length ++ m.cuts.flatMap encCut ++ m.states.flatMap encState

/-- The numbers with which bytes begin. -/
def numGo : Bs → Nat → Nat → List Int
  | [], _, _ => []
  | b :: r, n, sh => if sh = 21 then [] else if b.toNat < 128 then ((n + b.toNat % 128 * 2 ^ sh : Nat) : Int) :: numGo r 0 0 else numGo r (n + b.toNat % 128 * 2 ^ sh) (sh + 7)
def numbersT (s : Bs) : List Int := numGo s 0 0
theorem numGo_len : ∀ (s : Bs) (n sh : Nat), (numGo s n sh).length ≤ s.length
  | [], _, _ => by simp [numGo]
  | b :: r, n, sh => by
    unfold numGo
    split
    · simp
    · split
      · have := numGo_len r 0 0
        simp only [List.length_cons]; omega
      · have := numGo_len r (n + b.toNat % 128 * 2 ^ sh) (sh + 7)
        simp only [List.length_cons]; omega
theorem two_pow_7 (k : Nat) : 2 ^ (7 * k + 7) = 128 * 2 ^ (7 * k) := by rw [Nat.pow_add]; omega
/-- Each is below 2 to the 21st. -/
theorem numGo_lt : ∀ (s : Bs) (n k : Nat), k ≤ 3 → n < 2 ^ (7 * k) → ∀ x ∈ numGo s n (7 * k), 0 ≤ x ∧ x < 2097152
  | [], _, _, _, _ => by simp [numGo]
  | b :: r, n, k, hk, hn => by
    unfold numGo
    split
    · simp
    · rename_i h21
      have hb : n + b.toNat % 128 * 2 ^ (7 * k) < 2 ^ (7 * k + 7) := by
        have h1 : b.toNat % 128 < 128 := Nat.mod_lt _ (by decide)
        have h2 : b.toNat % 128 * 2 ^ (7 * k) ≤ 127 * 2 ^ (7 * k) := Nat.mul_le_mul_right _ (by omega)
        rw [two_pow_7]; omega
      have hle : 2 ^ (7 * k + 7) ≤ 2097152 := by
        have : 7 * k + 7 ≤ 21 := by omega
        exact Nat.le_trans (Nat.pow_le_pow_right (by decide) this) (by decide)
      split
      · intro x hx
        rcases List.mem_cons.1 hx with rfl | hx
        · omega
        · exact numGo_lt r 0 0 (by omega) (by decide) x hx
      · exact numGo_lt r _ (k + 1) (by omega) (by rw [show 7 * (k + 1) = 7 * k + 7 by omega]; exact hb)

/-- In rows of k. -/
def chunkGo (k : Nat) : Nat → List Int → List (List Int)
  | 0, _ => []
  | _ + 1, [] => []
  | n + 1, a :: r => (a :: r).take k :: chunkGo k n ((a :: r).drop k)
def chunks (k : Nat) (l : List Int) : List (List Int) := if k = 0 then [] else chunkGo k l.length l
theorem chunkGo_any {k : Nat} (hk : k ≠ 0) : ∀ (n m : Nat) (l : List Int), l.length ≤ n → l.length ≤ m → chunkGo k n l = chunkGo k m l
  | 0, 0, _, _, _ => rfl
  | 0, m + 1, [], _, _ => rfl
  | n + 1, 0, [], _, _ => rfl
  | n + 1, m + 1, [], _, _ => rfl
  | 0, _, _ :: _, h, _ => by simp at h
  | _, 0, _ :: _, _, h => by simp at h
  | n + 1, m + 1, a :: r, h1, h2 => by
    rw [List.length_cons] at h1 h2
    rw [chunkGo, chunkGo, chunkGo_any hk n m ((a :: r).drop k) (by rw [List.length_drop, List.length_cons]; omega) (by rw [List.length_drop, List.length_cons]; omega)]
theorem chunks_nil (k : Nat) : chunks k [] = [] := by
  unfold chunks
  split <;> rfl
theorem chunks_cons {k : Nat} {l : List Int} (h : l ≠ []) (hk : k ≠ 0) : chunks k l = l.take k :: chunks k (l.drop k) := by
  unfold chunks
  rw [if_neg hk, if_neg hk]
  cases l with
  | nil => exact absurd rfl h
  | cons a r =>
    rw [List.length_cons, chunkGo, chunkGo_any hk r.length ((a :: r).drop k).length ((a :: r).drop k) (by rw [List.length_drop, List.length_cons]; omega) (Nat.le_refl _)]
def cutOf (c : List Int) : Int × Int := (c.getD 0 0, c.getD 1 0)
def kindsOf (cuts : List (Int × Int)) : Int := cuts.foldl (fun a c => max a (1 + c.2)) 0
def stateOf (r : List Int) : Int × List Int := (r.getD 0 0 - 1, (r.drop 1).map (· - 1))
def machT (cuts states : List Int) : Mach := ⟨(chunks 2 cuts).map cutOf, (chunks (1 + (kindsOf ((chunks 2 cuts).map cutOf)).toNat) states).map stateOf⟩

/-- countKinds. -/
def cntGo : List (Int × Int) → Bool → Int → Int → Int × Bool
  | [], _, kinds, _ => (kinds, decide (0 < kinds))
  | c :: r, first, kinds, least =>
    if (first = true ∧ c.1 ≠ 0) ∨ c.1 < least ∨ 1114112 < c.1 ∨ c.2 < 0 ∨ kinds < c.2 then (0, false)
    else cntGo r false (max kinds (c.2 + 1)) (c.1 + 1)
def cntT (cuts : List (Int × Int)) : Int × Bool := cntGo cuts true 0 0
theorem cntGo_true : ∀ (l : List (Int × Int)) (f : Bool) (k least : Int), 0 ≤ k → 0 ≤ least → (cntGo l f k least).2 = true → k ≤ (cntGo l f k least).1 ∧ 0 < (cntGo l f k least).1 ∧ ∀ c ∈ l, 0 ≤ c.1 ∧ c.1 ≤ 1114112 ∧ 0 ≤ c.2 ∧ c.2 < (cntGo l f k least).1
  | [], f, k, least, hk, _, h => by
    simp only [cntGo, decide_eq_true_eq] at h
    exact ⟨Int.le_refl _, h, fun c hc => absurd hc (by simp)⟩
  | c :: r, f, k, least, hk, hl, h => by
    unfold cntGo at h ⊢
    split at h
    · cases h
    · rename_i hn
      rw [if_neg hn]
      have h1 : ¬ c.1 < least := fun t => hn (.inr (.inl t))
      have h2 : ¬ 1114112 < c.1 := fun t => hn (.inr (.inr (.inl t)))
      have h3 : ¬ c.2 < 0 := fun t => hn (.inr (.inr (.inr (.inl t))))
      have ih := cntGo_true r false (max k (c.2 + 1)) (c.1 + 1) (by omega) (by omega) h
      refine ⟨by omega, ih.2.1, fun d hd => ?_⟩
      rcases List.mem_cons.1 hd with rfl | hd
      · exact ⟨by omega, by omega, by omega, by omega⟩
      · exact ih.2.2 d hd

/-- inOrder: a row of nexts; then the states. -/
def nextsGo : List Int → Int → Option Int
  | [], met => some met
  | x :: r, met => if x < -1 ∨ x = 0 ∨ met < x then none else nextsGo r (if x = met then met + 1 else met)
def ordGo (kinds : Int) : List (Int × List Int) → Int → Int → Option Int
  | [], _, met => some met
  | s :: r, at_, met =>
    if met ≤ at_ ∨ s.1 < -1 ∨ 8 ≤ s.1 ∨ (s.2.length : Int) ≠ kinds then none
    else match nextsGo s.2 met with
      | none => none
      | some met' => ordGo kinds r (at_ + 1) met'
def ordT (m : Mach) (kinds : Int) : Bool :=
  if m.states.length = 0 ∨ 201 < m.states.length ∨ m.rule 0 ≠ -1 then false
  else match ordGo kinds m.states 0 1 with
    | none => false
    | some met => decide (met = (m.states.length : Int))
theorem nextsGo_le : ∀ (l : List Int) (met met' : Int), nextsGo l met = some met' → met ≤ met' ∧ ∀ x ∈ l, -1 ≤ x ∧ x < met'
  | [], met, met', h => by
    simp only [nextsGo, Option.some.injEq] at h
    subst h
    exact ⟨Int.le_refl _, fun x hx => absurd hx (by simp)⟩
  | x :: r, met, met', h => by
    unfold nextsGo at h
    split at h
    · cases h
    · rename_i hn
      have h1 : ¬ x < -1 := fun t => hn (.inl t)
      have h2 : ¬ met < x := fun t => hn (.inr (.inr t))
      have ih := nextsGo_le r _ met' h
      have ih1 := ih.1
      split at ih1
      · refine ⟨by omega, fun y hy => ?_⟩
        rcases List.mem_cons.1 hy with rfl | hy
        · omega
        · exact ih.2 y hy
      · refine ⟨by omega, fun y hy => ?_⟩
        rcases List.mem_cons.1 hy with rfl | hy
        · omega
        · exact ih.2 y hy
theorem ordGo_le (kinds : Int) : ∀ (l : List (Int × List Int)) (at_ met met' : Int), ordGo kinds l at_ met = some met' → met ≤ met' ∧ ∀ s ∈ l, -1 ≤ s.1 ∧ s.1 < 8 ∧ (s.2.length : Int) = kinds ∧ ∀ x ∈ s.2, -1 ≤ x ∧ x < met'
  | [], at_, met, met', h => by
    simp only [ordGo, Option.some.injEq] at h
    subst h
    exact ⟨Int.le_refl _, fun x hx => absurd hx (by simp)⟩
  | s :: r, at_, met, met', h => by
    unfold ordGo at h
    split at h
    · cases h
    · rename_i hn
      have h1 : ¬ s.1 < -1 := fun t => hn (.inr (.inl t))
      have h2 : ¬ 8 ≤ s.1 := fun t => hn (.inr (.inr (.inl t)))
      have h3 : (s.2.length : Int) = kinds := Decidable.byContradiction fun t => hn (.inr (.inr (.inr t)))
      cases hx : nextsGo s.2 met with
      | none => rw [hx] at h; cases h
      | some m1 =>
        rw [hx] at h
        have a1 := nextsGo_le _ _ _ hx
        have a2 := ordGo_le kinds r _ m1 met' h
        refine ⟨by omega, fun y hy => ?_⟩
        rcases List.mem_cons.1 hy with rfl | hy
        · exact ⟨by omega, by omega, h3, fun x hx2 => by have := a1.2 x hx2; omega⟩
        · exact a2.2 y hy
/-- Tables that the program calls sound can be walked through. -/
theorem ok_of (m : Mach) (hc : m.cuts.length < 1000000000) (h1 : (cntT m.cuts).2 = true) (h2 : ordT m (cntT m.cuts).1 = true) (hN : (cntT m.cuts).1 < 1000000000) : m.Ok := by
  obtain ⟨_, k0, hk⟩ := cntGo_true m.cuts true 0 0 (by omega) (by omega) h1
  unfold ordT at h2
  split at h2
  · cases h2
  rename_i hs
  have hs0 : ¬ m.states.length = 0 := fun t => hs (.inl t)
  have hs1 : ¬ 201 < m.states.length := fun t => hs (.inr (.inl t))
  cases hx : ordGo (cntT m.cuts).1 m.states 0 1 with
  | none => rw [hx] at h2; cases h2
  | some met =>
    rw [hx] at h2
    have hmet : met = (m.states.length : Int) := of_decide_eq_true h2
    subst hmet
    have ho := (ordGo_le _ _ _ _ _ hx).2
    have hw : ∀ s, s < m.states.length → (m.width s : Int) = (cntT m.cuts).1 := fun s hs => by
      unfold Mach.width
      rw [List.getD_eq_getElem?_getD, List.getElem?_eq_getElem hs, Option.getD_some]
      exact (ho _ (List.getElem_mem hs)).2.2.1
    have hkk : ∀ i, i < m.cuts.length → 0 ≤ kindAt m.cuts i ∧ kindAt m.cuts i < (cntT m.cuts).1 := fun i hi => by
      unfold kindAt
      rw [List.getD_eq_getElem?_getD, List.getElem?_eq_getElem hi, Option.getD_some]
      exact (hk _ (List.getElem_mem hi)).2.2
    refine ⟨?_, hc, fun i hi => (hkk i hi).1, fun i hi s hs => by rw [hw s hs]; exact (hkk i hi).2, fun s hs k hkw => ?_, by omega, by omega, fun s hs => by have := hw s hs; omega⟩
    · rcases hx2 : m.cuts with _ | ⟨c, r⟩
      · rw [hx2] at h1; simp [cntT, cntGo] at h1
      · simp
    · have hmem : m.next s k ∈ (m.states.getD s (0, [])).2 := by
        unfold Mach.next
        have hkl : k < (m.states.getD s (0, [])).2.length := hkw
        generalize (m.states.getD s (0, [])).2 = l at *
        rw [List.getD_eq_getElem?_getD, List.getElem?_eq_getElem hkl, Option.getD_some]
        exact List.getElem_mem hkl
      have hsm : m.states.getD s (0, []) ∈ m.states := by
        rw [List.getD_eq_getElem?_getD, List.getElem?_eq_getElem hs, Option.getD_some]
        exact List.getElem_mem hs
      have := (ho _ hsm).2.2.2 _ hmem
      omega
end Go.Proofs.YtlhokghgicgppaaDoor.Sg

namespace Go.Proofs.YtlhokghgicgppaaDoor
open Go.RowKit Go.Extern

theorem info_u8 : (Tryd.prog.info? 5).map (fun i => (i.zero, i.size, i.bytes)) = some (some (.int .u8 0), 1, 1) := by kernel_rfl
theorem info_int : (Tryd.prog.info? 3).map (fun i => (i.zero, i.size, i.bytes)) = some (some (.int .i64 0), 1, 8) := by kernel_rfl

/-- Where a row may lie behind an append. -/
def Moved (w : World) (ra ra' : Option Addr) : Prop := ra' = ra ∨ ∃ rb, ra' = some ⟨rb, 0, none⟩ ∧ w.heap.size ≤ rb
abbrev rowT (ra : Option Addr) : Nat → Nat → Prop := fun i _ => ∃ o, ra = some ⟨i, o, none⟩
theorem Moved.trans {a b : World} {x y z : Option Addr} (h : Moved a x y) (hk : a.heap.size ≤ b.heap.size) (k : Moved b y z) : Moved a x z := by
  rcases k with k | ⟨rb, k1, k2⟩
  · rw [k]; exact h
  · exact .inr ⟨rb, k1, by omega⟩
theorem chg_moved {a b c : World} {x y : Option Addr} (h : Chg (rowT x) a b) (hm : Moved a x y) (k : Chg (rowT y) b c) : Chg (rowT x) a c := h.trans_new k (fun i j hi ⟨o, e⟩ => by
  rcases hm with hm | ⟨rb, e2, g⟩
  · exact ⟨o, by rw [← hm]; exact e⟩
  · rw [e2] at e; cases e; omega)

/-- append of one element of one cell, laid in a new block. -/
theorem append_one {w : World} (t e : TypeId) (zv : Value) (by_ : Nat) (hinfo : (Tryd.prog.info? e).map (fun i => (i.zero, i.size, i.bytes)) = some (some zv, 1, by_)) (hzc : zv.cells.size = 1) (hu : Tryd.prog.underlying t = some (.slice e)) (hby : by_ ≤ 64)
    {ra : Option Addr} {rc n : Nat} {l : List Value} (hR : RowAt 1 w ra rc n l) (v : Value) (hv : v.oneCell' = true) (hn : n < 2000000000) (ty : TypeId) (vt : TypeId) :
    ∃ ra' rc' w', (Builtin.append_ #[t, t] ty #[.slice ra n rc, .slice (some ⟨w.heap.size, 0, none⟩) 1 1]).run Tryd.prog (w.alloc (.cells #[v] vt)) = .ok (.slice ra' (n + 1) rc') w' ∧ RowAt 1 w' ra' rc' (n + 1) (l ++ [v]) ∧ Chg (rowT ra) w w' ∧ Moved w ra ra' := by
  obtain ⟨i, hi, hz, hs, hb⟩ := info_parts hinfo
  have hbl : Below w.heap.size w (w.alloc (.cells #[v] vt)) := (Below.refl _ _).alloc (Nat.le_refl _) _
  obtain ⟨ra', rc', w', h1, h2, h3, h4⟩ := append_row (P := Tryd.prog) (w.alloc (.cells #[v] vt)) t ty e i zv 1 by_ hu hi hz hs hb hzc (by omega) ra rc n l (hR.below hbl) w.heap.size 0 1 1 (by omega) [v] rfl (fun j u hj => by
    match j, hj with
    | 0, hj =>
      simp only [List.getElem?_cons_zero, Option.some.injEq] at hj
      subst hj
      rw [World.cell?_alloc_at _ _ _ _ rfl]; rfl) (fun u hu => by simp only [List.mem_singleton] at hu; subst hu; exact hv) (by unfold maxLen; omega) (by
      have : (n + 1) * by_ ≤ (n + 1) * 64 := Nat.mul_le_mul_left _ hby
      omega)
  refine ⟨ra', rc', w', h1, h2, (Chg.of_below hbl).trans h3, ?_⟩
  rcases h4 with h4 | ⟨rb, e1, e2⟩
  · exact .inl h4
  · exact .inr ⟨rb, e1, by have : (w.alloc (.cells #[v] vt)).heap.size = w.heap.size + 1 := by simp
                           omega⟩

theorem bytesV_snoc (l : Sg.Bs) (k : Nat) (hk : k < 256) : bytesV l ++ [.int .u8 (k : Int)] = bytesV (l ++ [k.toUInt8]) := by
  rw [← bytesV_app]
  have : (k.toUInt8).toNat = k := by simp; omega
  unfold bytesV
  simp [this]

set_option maxRecDepth 100000 in
set_option maxHeartbeats 1000000 in
theorem appendNumber_any (ra : Option Addr) (rc : Nat) (l : Sg.Bs) (n : Nat) (w : World) (hR : RowAt 1 w ra rc l.length (bytesV l)) (hn : n < 100000000) (hl : l.length < 100000000) :
    Calls Tryd.prog 29 #[.slice ra l.length rc, .int .i64 n] w fun e w' => ∃ ra' rc', e = .returned (.slice ra' (l ++ Sg.encN n).length rc') ∧ RowAt 1 w' ra' rc' (l ++ Sg.encN n).length (bytesV (l ++ Sg.encN n)) ∧ Chg (rowT ra) w w' ∧ Moved w ra ra' := by
  have HR := hide2 hR
  clear hR
  go_enter Tryd.func29, Tryd.ntmps29
  go_wp2
  go_loopw [0, 1] (fun o nn wr => ∃ (ra1 : Option Addr) (rc1 : Nat) (l1 : Sg.Bs) (n1 : Nat), o = .slice ra1 l1.length rc1 ∧ nn = .int .i64 n1 ∧ Hid (RowAt 1 wr ra1 rc1 l1.length (bytesV l1) ∧ l1 ++ Sg.encN n1 = l ++ Sg.encN n ∧ l1.length + n1 ≤ l.length + n ∧ Chg (rowT ra) w wr ∧ Moved w ra ra1)) (fun _ nn _ => (intOf nn).toNat)
  case atStart => exact ⟨ra, rc, l, n, rfl, rfl, hide2 ⟨HR.out, rfl, Nat.le_refl _, Chg.refl _ _, .inl rfl⟩⟩
  case round =>
    obtain ⟨ra1, rc1, l1, n1, rfl, rfl, H⟩ := hrel
    have hsz : l1.length + n1 ≤ l.length + n := H.out.2.2.1
    have Hap := fun v hv => append_one (w := wr) 84 5 (.int .u8 0) 1 info_u8 rfl Tryd.underlying84 (by omega) H.out.1 v hv (by omega) 84 5
    have HA := hide2 Hap
    clear Hap
    by_cases h1 : n1 < 128
    · have h1' : ¬ (128 : Int) ≤ (n1 : Int) := by omega
      go_wp2_with (at_builtin; obtain ⟨ra2, rc2, w2, hrun, hrow, hch, hmv⟩ := HA.out (.int .u8 n1) rfl; refine wpList_append_run rfl _ _ _ _ rfl _ _ _ rfl rfl hrun ?_; have H2 := hide2 (And.intro hrow (And.intro hch hmv)); clear hrun hrow hch hmv HA)
      go_ret
      obtain ⟨g1, g2, g3, g4, g5⟩ := H.out
      obtain ⟨k1, k2, k3⟩ := H2.out
      rw [bytesV_snoc _ _ (by omega)] at k1
      have hle : (l ++ Sg.encN n).length = l1.length + 1 := by rw [← g2, Sg.encN_small h1]; simp
      have hle2 : l.length + (Sg.encN n).length = l1.length + 1 := by rw [← List.length_append]; exact hle
      try simp only [List.length_append]
      rw [hle2]
      refine ⟨ra2, rc2, rfl, ?_, chg_moved g4 g5 k2, g5.trans g4.size k3⟩
      rw [← g2, Sg.encN_small h1]; exact k1
    · have h1' : (128 : Int) ≤ (n1 : Int) := by omega
      go_wp2_with (at_builtin; obtain ⟨ra2, rc2, w2, hrun, hrow, hch, hmv⟩ := HA.out (.int .u8 (n1 % 128 + 128)) rfl; refine wpList_append_run rfl _ _ _ _ rfl _ _ _ rfl rfl hrun ?_; have H2 := hide2 (And.intro hrow (And.intro hch hmv)); clear hrun hrow hch hmv HA)
      go_roundw
      case rel =>
        obtain ⟨g1, g2, g3, g4, g5⟩ := H.out
        obtain ⟨k1, k2, k3⟩ := H2.out
        have e0 : ((n1 : Int) % 128 + 128) = ((n1 % 128 + 128 : Nat) : Int) := by omega
        rw [e0, bytesV_snoc _ _ (by omega)] at k1
        refine ⟨ra2, rc2, l1 ++ [(n1 % 128 + 128).toUInt8], n1 / 128, by rw [List.length_append]; rfl, by go_num, hide2 ⟨by rw [List.length_append]; exact k1, ?_, ?_, chg_moved g4 g5 k2, g5.trans g4.size k3⟩⟩
        · rw [← g2, Sg.encN_big h1, List.append_assoc]; rfl
        · rw [List.length_append]; simp only [List.length_cons, List.length_nil]; omega
      case measure => simp [intOf]; omega
end Go.Proofs.YtlhokghgicgppaaDoor
