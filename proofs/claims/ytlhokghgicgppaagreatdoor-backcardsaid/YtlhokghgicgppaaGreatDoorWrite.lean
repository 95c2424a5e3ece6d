/- Tables as bytes, plainly. -/
/- stored.appendNumber. -/
/- stored.Write. -/
import Derived.Test.YtlhokghgicgppaaGreatDoorBytePure
import Derived.Test.YtlhokghgicgppaaGreatDoorSortA
set_option linter.unusedSimpArgs false
set_option linter.unusedVariables false
set_option maxRecDepth 100000
set_option maxHeartbeats 4000000
namespace Go.Proofs.YtlhokghgicgppaaGreatDoor.Sg
open Go
def encGo : Nat → Nat → Bs
  | 0, _ => []
  | k + 1, n => if n < 128 then [n.toUInt8] else (n % 128 + 128).toUInt8 :: encGo k (n / 128)
def encN (n : Nat) : Bs := encGo (n + 1) n
theorem encGo_any : ∀ (k j n : Nat), n < k → n < j → encGo k n = encGo j n
  | 0, _, _, h, _ => absurd h (Nat.not_lt_zero _)
  | _, 0, _, _, h => absurd h (Nat.not_lt_zero _)
  | k + 1, j + 1, n, h1, h2 => by
    unfold encGo
    split
    · rfl
    · rw [encGo_any k j (n / 128) (by omega) (by omega)]
theorem encN_eq (n : Nat) : encN n = if n < 128 then [n.toUInt8] else (n % 128 + 128).toUInt8 :: encN (n / 128) := by
  show encGo (n + 1) n = _
  rw [encGo]
  split
  · rfl
  · rw [encN, encGo_any n (n / 128 + 1) (n / 128) (by omega) (by omega)]
theorem encN_small {n : Nat} (h : n < 128) : encN n = [n.toUInt8] := by rw [encN_eq, if_pos h]
theorem encN_big {n : Nat} (h : ¬ n < 128) : encN n = (n % 128 + 128).toUInt8 :: encN (n / 128) := by rw [encN_eq, if_neg h]
def encCut (c : Int × Int) : Bs := encN c.1.toNat ++ encN c.2.toNat
def encNexts (l : List Int) : Bs := l.flatMap fun x => encN (x + 1).toNat
def encState (s : Int × List Int) : Bs := encN (s.1 + 1).toNat ++ encNexts s.2
def encM (m : Mach) : Bs := encN m.cuts.length ++ m.cuts.flatMap encCut ++ m.states.flatMap encState
def numGo : Bs → Nat → Nat → List Int
  | [], _, _ => []
  | b :: r, n, sh => if sh = 21 then [] else if b.toNat < 128 then ((n + b.toNat % 128 * 2 ^ sh : Nat) : Int) :: numGo r 0 0 else numGo r (n + b.toNat % 128 * 2 ^ sh) (sh + 7)
def numbersT (s : Bs) : List Int := numGo s 0 0
theorem numGo_len : ∀ (s : Bs) (n sh : Nat), (numGo s n sh).length ≤ s.length
  | [], _, _ => by simp [numGo]
  | b :: r, n, sh => by
    unfold numGo
    split
    · simp
    · split
      · have := numGo_len r 0 0
        simp only [List.length_cons]; omega
      · have := numGo_len r (n + b.toNat % 128 * 2 ^ sh) (sh + 7)
        simp only [List.length_cons]; omega
theorem two_pow_7 (k : Nat) : 2 ^ (7 * k + 7) = 128 * 2 ^ (7 * k) := by rw [Nat.pow_add]; omega
theorem numGo_lt : ∀ (s : Bs) (n k : Nat), k ≤ 3 → n < 2 ^ (7 * k) → ∀ x ∈ numGo s n (7 * k), 0 ≤ x ∧ x < 2097152
  | [], _, _, _, _ => by simp [numGo]
  | b :: r, n, k, hk, hn => by
    unfold numGo
    split
    · simp
    · rename_i h21
      have hb : n + b.toNat % 128 * 2 ^ (7 * k) < 2 ^ (7 * k + 7) := by
        have h1 : b.toNat % 128 < 128 := Nat.mod_lt _ (by decide)
        have h2 : b.toNat % 128 * 2 ^ (7 * k) ≤ 127 * 2 ^ (7 * k) := Nat.mul_le_mul_right _ (by omega)
        rw [two_pow_7]; omega
      have hle : 2 ^ (7 * k + 7) ≤ 2097152 := by
        have : 7 * k + 7 ≤ 21 := by omega
        exact Nat.le_trans (Nat.pow_le_pow_right (by decide) this) (by decide)
      split
      · intro x hx
        rcases List.mem_cons.1 hx with rfl | hx
        · omega
        · exact numGo_lt r 0 0 (by omega) (by decide) x hx
      · exact numGo_lt r _ (k + 1) (by omega) (by rw [show 7 * (k + 1) = 7 * k + 7 by omega]; exact hb)
def cntGo : List (Int × Int) → Bool → Int → Int → Int × Bool
  | [], _, kinds, _ => (kinds, decide (0 < kinds))
  | c :: r, first, kinds, least =>
    if (first = true ∧ c.1 ≠ 0) ∨ c.1 < least ∨ 1114112 < c.1 ∨ c.2 < 0 ∨ kinds < c.2 then (0, false)
    else cntGo r false (max kinds (c.2 + 1)) (c.1 + 1)
def cntT (cuts : List (Int × Int)) : Int × Bool := cntGo cuts true 0 0
theorem cntGo_true : ∀ (l : List (Int × Int)) (f : Bool) (k least : Int), 0 ≤ k → 0 ≤ least → (cntGo l f k least).2 = true → k ≤ (cntGo l f k least).1 ∧ 0 < (cntGo l f k least).1 ∧ ∀ c ∈ l, 0 ≤ c.1 ∧ c.1 ≤ 1114112 ∧ 0 ≤ c.2 ∧ c.2 < (cntGo l f k least).1
  | [], f, k, least, hk, _, h => by
    simp only [cntGo, decide_eq_true_eq] at h
    exact ⟨Int.le_refl _, h, fun c hc => absurd hc (by simp)⟩
  | c :: r, f, k, least, hk, hl, h => by
    unfold cntGo at h ⊢
    split at h
    · cases h
    · rename_i hn
      rw [if_neg hn]
      have h1 : ¬ c.1 < least := fun t => hn (.inr (.inl t))
      have h2 : ¬ 1114112 < c.1 := fun t => hn (.inr (.inr (.inl t)))
      have h3 : ¬ c.2 < 0 := fun t => hn (.inr (.inr (.inr (.inl t))))
      have ih := cntGo_true r false (max k (c.2 + 1)) (c.1 + 1) (by omega) (by omega) h
      refine ⟨by omega, ih.2.1, fun d hd => ?_⟩
      rcases List.mem_cons.1 hd with rfl | hd
      · exact ⟨by omega, by omega, by omega, by omega⟩
      · exact ih.2.2 d hd
def nextsGo : List Int → Int → Option Int
  | [], met => some met
  | x :: r, met => if x < -1 ∨ x = 0 ∨ met < x then none else nextsGo r (if x = met then met + 1 else met)
def ordGo (kinds : Int) : List (Int × List Int) → Int → Int → Option Int
  | [], _, met => some met
  | s :: r, at_, met =>
    if met ≤ at_ ∨ s.1 < -1 ∨ 8 ≤ s.1 ∨ (s.2.length : Int) ≠ kinds then none
    else match nextsGo s.2 met with
      | none => none
      | some met' => ordGo kinds r (at_ + 1) met'
def ordT (m : Mach) (kinds : Int) : Bool :=
  if m.states.length = 0 ∨ 201 < m.states.length ∨ m.rule 0 ≠ -1 then false
  else match ordGo kinds m.states 0 1 with
    | none => false
    | some met => decide (met = (m.states.length : Int))
theorem nextsGo_le : ∀ (l : List Int) (met met' : Int), nextsGo l met = some met' → met ≤ met' ∧ ∀ x ∈ l, -1 ≤ x ∧ x < met'
  | [], met, met', h => by
    simp only [nextsGo, Option.some.injEq] at h
    subst h
    exact ⟨Int.le_refl _, fun x hx => absurd hx (by simp)⟩
  | x :: r, met, met', h => by
    unfold nextsGo at h
    split at h
    · cases h
    · rename_i hn
      have h1 : ¬ x < -1 := fun t => hn (.inl t)
      have h2 : ¬ met < x := fun t => hn (.inr (.inr t))
      have ih := nextsGo_le r _ met' h
      have ih1 := ih.1
      split at ih1
      · refine ⟨by omega, fun y hy => ?_⟩
        rcases List.mem_cons.1 hy with rfl | hy
        · omega
        · exact ih.2 y hy
      · refine ⟨by omega, fun y hy => ?_⟩
        rcases List.mem_cons.1 hy with rfl | hy
        · omega
        · exact ih.2 y hy
theorem ordGo_le (kinds : Int) : ∀ (l : List (Int × List Int)) (at_ met met' : Int), ordGo kinds l at_ met = some met' → met ≤ met' ∧ ∀ s ∈ l, -1 ≤ s.1 ∧ s.1 < 8 ∧ (s.2.length : Int) = kinds ∧ ∀ x ∈ s.2, -1 ≤ x ∧ x < met'
  | [], at_, met, met', h => by
    simp only [ordGo, Option.some.injEq] at h
    subst h
    exact ⟨Int.le_refl _, fun x hx => absurd hx (by simp)⟩
  | s :: r, at_, met, met', h => by
    unfold ordGo at h
    split at h
    · cases h
    · rename_i hn
      have h1 : ¬ s.1 < -1 := fun t => hn (.inr (.inl t))
      have h2 : ¬ 8 ≤ s.1 := fun t => hn (.inr (.inr (.inl t)))
      have h3 : (s.2.length : Int) = kinds := Decidable.byContradiction fun t => hn (.inr (.inr (.inr t)))
      cases hx : nextsGo s.2 met with
      | none => rw [hx] at h; cases h
      | some m1 =>
        rw [hx] at h
        have a1 := nextsGo_le _ _ _ hx
        have a2 := ordGo_le kinds r _ m1 met' h
        refine ⟨by omega, fun y hy => ?_⟩
        rcases List.mem_cons.1 hy with rfl | hy
        · exact ⟨by omega, by omega, h3, fun x hx2 => by have := a1.2 x hx2; omega⟩
        · exact a2.2 y hy
theorem ok_of (m : Mach) (hc : m.cuts.length < 1000000000) (h1 : (cntT m.cuts).2 = true) (h2 : ordT m (cntT m.cuts).1 = true) (hN : (cntT m.cuts).1 < 1000000000) : m.Ok := by
  obtain ⟨_, k0, hk⟩ := cntGo_true m.cuts true 0 0 (by omega) (by omega) h1
  unfold ordT at h2
  split at h2
  · cases h2
  rename_i hs
  have hs0 : ¬ m.states.length = 0 := fun t => hs (.inl t)
  have hs1 : ¬ 201 < m.states.length := fun t => hs (.inr (.inl t))
  cases hx : ordGo (cntT m.cuts).1 m.states 0 1 with
  | none => rw [hx] at h2; cases h2
  | some met =>
    rw [hx] at h2
    have hmet : met = (m.states.length : Int) := of_decide_eq_true h2
    subst hmet
    have ho := (ordGo_le _ _ _ _ _ hx).2
    have hw : ∀ s, s < m.states.length → (m.width s : Int) = (cntT m.cuts).1 := fun s hs => by
      unfold Mach.width
      rw [List.getD_eq_getElem?_getD, List.getElem?_eq_getElem hs, Option.getD_some]
      exact (ho _ (List.getElem_mem hs)).2.2.1
    have hkk : ∀ i, i < m.cuts.length → 0 ≤ kindAt m.cuts i ∧ kindAt m.cuts i < (cntT m.cuts).1 := fun i hi => by
      unfold kindAt
      rw [List.getD_eq_getElem?_getD, List.getElem?_eq_getElem hi, Option.getD_some]
      exact (hk _ (List.getElem_mem hi)).2.2
    refine ⟨?_, hc, fun i hi => (hkk i hi).1, fun i hi s hs => by rw [hw s hs]; exact (hkk i hi).2, fun s hs k hkw => ?_, by omega, by omega, fun s hs => by have := hw s hs; omega⟩
    · rcases hx2 : m.cuts with _ | ⟨c, r⟩
      · rw [hx2] at h1; simp [cntT, cntGo] at h1
      · simp
    · have hmem : m.next s k ∈ (m.states.getD s (0, [])).2 := by
        unfold Mach.next
        have hkl : k < (m.states.getD s (0, [])).2.length := hkw
        generalize (m.states.getD s (0, [])).2 = l at *
        rw [List.getD_eq_getElem?_getD, List.getElem?_eq_getElem hkl, Option.getD_some]
        exact List.getElem_mem hkl
      have hsm : m.states.getD s (0, []) ∈ m.states := by
        rw [List.getD_eq_getElem?_getD, List.getElem?_eq_getElem hs, Option.getD_some]
        exact List.getElem_mem hs
      have := (ho _ hsm).2.2.2 _ hmem
      omega
end Go.Proofs.YtlhokghgicgppaaGreatDoor.Sg
namespace Go.Proofs.YtlhokghgicgppaaGreatDoor
open Go.RowKit Go.Extern
theorem info_u8 : (Tryz.prog.info? 5).map (fun i => (i.zero, i.size, i.bytes)) = some (some (.int .u8 0), 1, 1) := by kernel_rfl
theorem info_int : (Tryz.prog.info? 3).map (fun i => (i.zero, i.size, i.bytes)) = some (some (.int .i64 0), 1, 8) := by kernel_rfl
def Moved (w : World) (ra ra' : Option Addr) : Prop := ra' = ra ∨ ∃ rb, ra' = some ⟨rb, 0, none⟩ ∧ w.heap.size ≤ rb
abbrev rowT (ra : Option Addr) : Nat → Nat → Prop := fun i _ => ∃ o, ra = some ⟨i, o, none⟩
theorem Moved.trans {a b : World} {x y z : Option Addr} (h : Moved a x y) (hk : a.heap.size ≤ b.heap.size) (k : Moved b y z) : Moved a x z := by
  rcases k with k | ⟨rb, k1, k2⟩
  · rw [k]; exact h
  · exact .inr ⟨rb, k1, by omega⟩
theorem chg_moved {a b c : World} {x y : Option Addr} (h : Chg (rowT x) a b) (hm : Moved a x y) (k : Chg (rowT y) b c) : Chg (rowT x) a c := h.trans_new k (fun i j hi ⟨o, e⟩ => by
  rcases hm with hm | ⟨rb, e2, g⟩
  · exact ⟨o, by rw [← hm]; exact e⟩
  · rw [e2] at e; cases e; omega)
theorem append_one {w : World} (t e : TypeId) (zv : Value) (by_ : Nat) (hinfo : (Tryz.prog.info? e).map (fun i => (i.zero, i.size, i.bytes)) = some (some zv, 1, by_)) (hzc : zv.cells.size = 1) (hu : Tryz.prog.underlying t = some (.slice e)) (hby : by_ ≤ 64)
    {ra : Option Addr} {rc n : Nat} {l : List Value} (hR : RowAt 1 w ra rc n l) (v : Value) (hv : v.oneCell' = true) (hn : n < 2000000000) (ty : TypeId) (vt : TypeId) :
    ∃ ra' rc' w', (Builtin.append_ #[t, t] ty #[.slice ra n rc, .slice (some ⟨w.heap.size, 0, none⟩) 1 1]).run Tryz.prog (w.alloc (.cells #[v] vt)) = .ok (.slice ra' (n + 1) rc') w' ∧ RowAt 1 w' ra' rc' (n + 1) (l ++ [v]) ∧ Chg (rowT ra) w w' ∧ Moved w ra ra' := by
  obtain ⟨i, hi, hz, hs, hb⟩ := info_parts hinfo
  have hbl : Below w.heap.size w (w.alloc (.cells #[v] vt)) := (Below.refl _ _).alloc (Nat.le_refl _) _
  obtain ⟨ra', rc', w', h1, h2, h3, h4⟩ := append_row (P := Tryz.prog) (w.alloc (.cells #[v] vt)) t ty e i zv 1 by_ hu hi hz hs hb hzc (by omega) ra rc n l (hR.below hbl) w.heap.size 0 1 1 (by omega) [v] rfl (fun j u hj => by
    match j, hj with
    | 0, hj =>
      simp only [List.getElem?_cons_zero, Option.some.injEq] at hj
      subst hj
      rw [World.cell?_alloc_at _ _ _ _ rfl]; rfl) (fun u hu => by simp only [List.mem_singleton] at hu; subst hu; exact hv) (by unfold maxLen; omega) (by
      have : (n + 1) * by_ ≤ (n + 1) * 64 := Nat.mul_le_mul_left _ hby
      omega)
  refine ⟨ra', rc', w', h1, h2, (Chg.of_below hbl).trans h3, ?_⟩
  rcases h4 with h4 | ⟨rb, e1, e2⟩
  · exact .inl h4
  · exact .inr ⟨rb, e1, by have : (w.alloc (.cells #[v] vt)).heap.size = w.heap.size + 1 := by simp
                           omega⟩
theorem bytesV_snoc (l : Sg.Bs) (k : Nat) (hk : k < 256) : bytesV l ++ [.int .u8 (k : Int)] = bytesV (l ++ [k.toUInt8]) := by
  rw [← bytesV_app]
  have : (k.toUInt8).toNat = k := by simp; omega
  unfold bytesV
  simp [this]
theorem appendNumber_any (ra : Option Addr) (rc : Nat) (l : Sg.Bs) (n : Nat) (w : World) (hR : RowAt 1 w ra rc l.length (bytesV l)) (hn : n < 100000000) (hl : l.length < 100000000) :
    Calls Tryz.prog 75 #[.slice ra l.length rc, .int .i64 n] w fun e w' => ∃ ra' rc', e = .returned (.slice ra' (l ++ Sg.encN n).length rc') ∧ RowAt 1 w' ra' rc' (l ++ Sg.encN n).length (bytesV (l ++ Sg.encN n)) ∧ Chg (rowT ra) w w' ∧ Moved w ra ra' := by
  have HR := hide2 hR
  clear hR
  go_enter Tryz.func75, Tryz.ntmps75
  go_wp2
  go_loopw [0, 1] (fun o nn wr => ∃ (ra1 : Option Addr) (rc1 : Nat) (l1 : Sg.Bs) (n1 : Nat), o = .slice ra1 l1.length rc1 ∧ nn = .int .i64 n1 ∧ Hid (RowAt 1 wr ra1 rc1 l1.length (bytesV l1) ∧ l1 ++ Sg.encN n1 = l ++ Sg.encN n ∧ l1.length + n1 ≤ l.length + n ∧ Chg (rowT ra) w wr ∧ Moved w ra ra1)) (fun _ nn _ => (intOf nn).toNat)
  case atStart => exact ⟨ra, rc, l, n, rfl, rfl, hide2 ⟨HR.out, rfl, Nat.le_refl _, Chg.refl _ _, .inl rfl⟩⟩
  case round =>
    obtain ⟨ra1, rc1, l1, n1, rfl, rfl, H⟩ := hrel
    have hsz : l1.length + n1 ≤ l.length + n := H.out.2.2.1
    have Hap := fun v hv => append_one (w := wr) 60 5 (.int .u8 0) 1 info_u8 rfl Tryz.underlying60 (by omega) H.out.1 v hv (by omega) 60 5
    have HA := hide2 Hap
    clear Hap
    by_cases h1 : n1 < 128
    · have h1' : ¬ (128 : Int) ≤ (n1 : Int) := by omega
      go_wp2_with (at_builtin; obtain ⟨ra2, rc2, w2, hrun, hrow, hch, hmv⟩ := HA.out (.int .u8 n1) rfl; refine wpList_append_run rfl _ _ _ _ rfl _ _ _ rfl rfl hrun ?_; have H2 := hide2 (And.intro hrow (And.intro hch hmv)); clear hrun hrow hch hmv HA)
      go_ret
      obtain ⟨g1, g2, g3, g4, g5⟩ := H.out
      obtain ⟨k1, k2, k3⟩ := H2.out
      rw [bytesV_snoc _ _ (by omega)] at k1
      have hle : (l ++ Sg.encN n).length = l1.length + 1 := by rw [← g2, Sg.encN_small h1]; simp
      have hle2 : l.length + (Sg.encN n).length = l1.length + 1 := by rw [← List.length_append]; exact hle
      try simp only [List.length_append]
      rw [hle2]
      refine ⟨ra2, rc2, rfl, ?_, chg_moved g4 g5 k2, g5.trans g4.size k3⟩
      rw [← g2, Sg.encN_small h1]; exact k1
    · have h1' : (128 : Int) ≤ (n1 : Int) := by omega
      go_wp2_with (at_builtin; obtain ⟨ra2, rc2, w2, hrun, hrow, hch, hmv⟩ := HA.out (.int .u8 (n1 % 128 + 128)) rfl; refine wpList_append_run rfl _ _ _ _ rfl _ _ _ rfl rfl hrun ?_; have H2 := hide2 (And.intro hrow (And.intro hch hmv)); clear hrun hrow hch hmv HA)
      go_roundw
      case rel =>
        obtain ⟨g1, g2, g3, g4, g5⟩ := H.out
        obtain ⟨k1, k2, k3⟩ := H2.out
        have e0 : ((n1 : Int) % 128 + 128) = ((n1 % 128 + 128 : Nat) : Int) := by omega
        rw [e0, bytesV_snoc _ _ (by omega)] at k1
        refine ⟨ra2, rc2, l1 ++ [(n1 % 128 + 128).toUInt8], n1 / 128, by rw [List.length_append]; rfl, by go_num, hide2 ⟨by rw [List.length_append]; exact k1, ?_, ?_, chg_moved g4 g5 k2, g5.trans g4.size k3⟩⟩
        · rw [← g2, Sg.encN_big h1, List.append_assoc]; rfl
        · rw [List.length_append]; simp only [List.length_cons, List.length_nil]; omega
      case measure => simp [intOf]; omega
end Go.Proofs.YtlhokghgicgppaaGreatDoor
namespace Go.Proofs.YtlhokghgicgppaaGreatDoor
open Go.RowKit Go.Extern
theorem appendNumber_int (ra : Option Addr) (rc n : Nat) (l : Sg.Bs) (x : Int) (w : World) (hnl : l.length = n) (hR : RowAt 1 w ra rc n (bytesV l)) (h0 : 0 ≤ x) (hn : x < 100000000) (hl : n < 100000000) :
    Calls Tryz.prog 75 #[.slice ra n rc, .int .i64 x] w fun e w' => ∃ ra' rc', e = .returned (.slice ra' (n + (Sg.encN x.toNat).length) rc') ∧ RowAt 1 w' ra' rc' (n + (Sg.encN x.toNat).length) (bytesV (l ++ Sg.encN x.toNat)) ∧ Chg (rowT ra) w w' ∧ Moved w ra ra' := by
  obtain ⟨k, rfl⟩ := Int.eq_ofNat_of_zero_le h0
  subst hnl
  rw [Int.toNat_natCast, ← List.length_append]
  exact appendNumber_any ra rc l k w hR (by omega) hl
structure Sg.Mach.Enc (m : Sg.Mach) : Prop where
  low : ∀ i, i < m.cuts.length → 0 ≤ Sg.lowAt m.cuts i ∧ Sg.lowAt m.cuts i < 10000000
  kind : ∀ i, i < m.cuts.length → 0 ≤ Sg.kindAt m.cuts i ∧ Sg.kindAt m.cuts i < 10000000
  rule : ∀ i, i < m.states.length → -1 ≤ m.rule i ∧ m.rule i < 10000000
  next : ∀ i k, i < m.states.length → k < m.width i → -1 ≤ m.next i k ∧ m.next i k < 10000000
  size : (Sg.encM m).length < 10000000
def Sg.encTo (m : Sg.Mach) (i : Nat) : Sg.Bs := Sg.encN m.cuts.length ++ (m.cuts.take i).flatMap Sg.encCut
def Sg.encSt (m : Sg.Mach) (i : Nat) : Sg.Bs := Sg.encN m.cuts.length ++ m.cuts.flatMap Sg.encCut ++ (m.states.take i).flatMap Sg.encState
theorem Sg.encTo_succ (m : Sg.Mach) (i : Nat) (h : i < m.cuts.length) : Sg.encTo m (i + 1) = Sg.encTo m i ++ Sg.encN (Sg.lowAt m.cuts i).toNat ++ Sg.encN (Sg.kindAt m.cuts i).toNat := by
  unfold Sg.encTo Sg.lowAt Sg.kindAt
  rw [List.take_add_one, List.flatMap_append, List.getElem?_eq_getElem h]
  simp [Sg.encCut, List.getElem?_eq_getElem h]
theorem Sg.encSt_zero (m : Sg.Mach) : Sg.encSt m 0 = Sg.encTo m m.cuts.length := by
  unfold Sg.encSt Sg.encTo
  rw [List.take_length]; simp
theorem Sg.encSt_all (m : Sg.Mach) : Sg.encSt m m.states.length = Sg.encM m := by
  unfold Sg.encSt Sg.encM
  rw [List.take_length]
theorem Sg.flat_take_le {α : Type} (f : α → Sg.Bs) (l : List α) (i : Nat) : ((l.take i).flatMap f).length ≤ (l.flatMap f).length := by
  conv => rhs; rw [← List.take_append_drop i l, List.flatMap_append, List.length_append]
  omega
theorem Sg.encTo_le (m : Sg.Mach) (i : Nat) : (Sg.encTo m i).length ≤ (Sg.encM m).length := by
  unfold Sg.encTo Sg.encM
  have := Sg.flat_take_le Sg.encCut m.cuts i
  simp only [List.length_append]; omega
theorem Sg.encSt_le (m : Sg.Mach) (i : Nat) : (Sg.encSt m i).length ≤ (Sg.encM m).length := by
  unfold Sg.encSt Sg.encM
  have := Sg.flat_take_le Sg.encState m.states i
  simp only [List.length_append]; omega
theorem Sg.cuts_le (m : Sg.Mach) : m.cuts.length ≤ (Sg.encM m).length := by
  have : ∀ l : List (Int × Int), l.length ≤ (l.flatMap Sg.encCut).length := fun l => by
    induction l with
    | nil => simp
    | cons c r ih =>
      have h1 : 1 ≤ (Sg.encN c.1.toNat).length := by
        rw [Sg.encN_eq]; split <;> simp
      rw [List.flatMap_cons, List.length_append, List.length_cons]
      unfold Sg.encCut at *
      rw [List.length_append]; omega
  have := this m.cuts
  unfold Sg.encM
  simp only [List.length_append]; omega
def Sg.nextsOf (m : Sg.Mach) (j : Nat) : List Int := (m.states.getD j (0, [])).2
def Sg.encRow (m : Sg.Mach) (j k : Nat) : Sg.Bs := Sg.encSt m j ++ Sg.encN (m.rule j + 1).toNat ++ Sg.encNexts ((Sg.nextsOf m j).take k)
theorem Sg.encRow_zero (m : Sg.Mach) (j : Nat) : Sg.encRow m j 0 = Sg.encSt m j ++ Sg.encN (m.rule j + 1).toNat := by
  unfold Sg.encRow Sg.encNexts; simp
theorem Sg.encRow_succ (m : Sg.Mach) (j k : Nat) (h : k < m.width j) : Sg.encRow m j (k + 1) = Sg.encRow m j k ++ Sg.encN (m.next j k + 1).toNat := by
  unfold Sg.encRow Sg.encNexts Sg.nextsOf Sg.Mach.next
  have h' : k < (m.states.getD j (0, [])).2.length := h
  generalize (m.states.getD j (0, [])).2 = l at *
  rw [List.take_add_one, List.flatMap_append, List.getElem?_eq_getElem h']
  simp [List.getElem?_eq_getElem h']
theorem Sg.encRow_all (m : Sg.Mach) (j : Nat) (h : j < m.states.length) : Sg.encRow m j (m.width j) = Sg.encSt m (j + 1) := by
  unfold Sg.encRow Sg.encSt Sg.nextsOf Sg.Mach.width Sg.Mach.rule
  rw [List.take_length, List.take_add_one, List.flatMap_append, List.getElem?_eq_getElem h]
  simp [Sg.encState, List.getElem?_eq_getElem h]
theorem Sg.encRow_le (m : Sg.Mach) (j k : Nat) (h : j < m.states.length) : (Sg.encRow m j k).length ≤ (Sg.encM m).length := by
  refine Nat.le_trans ?_ (Sg.encSt_le m (j + 1))
  rw [← Sg.encRow_all m j h]
  have := Sg.flat_take_le (fun x : Int => Sg.encN (x + 1).toNat) (Sg.nextsOf m j) k
  have e : (Sg.nextsOf m j).take (m.width j) = Sg.nextsOf m j := List.take_of_length_le (Nat.le_refl _)
  unfold Sg.encRow Sg.encNexts
  rw [e]
  simp only [List.length_append]; omega
theorem Sg.encM_ne (m : Sg.Mach) : Sg.encM m ≠ [] := by
  unfold Sg.encM
  rw [Sg.encN_eq]
  split <;> simp
theorem conv_row (w : World) (ra : Option Addr) (rc : Nat) (l : Sg.Bs) (hne : l ≠ []) (h : RowAt 1 w ra rc l.length (bytesV l)) : (convert 60 9 (.slice ra l.length rc)).run Tryz.prog w = .ok (.string ⟨l.toArray⟩) w := by
  rcases h.row with ⟨rfl, rfl, hn⟩ | ⟨rb, ro, rfl, h1, h2, h3, h4, h5⟩
  · exact absurd (List.eq_nil_of_length_eq_zero hn) hne
  · exact run_convert_bytes_back (P := Tryz.prog) w 60 9 5 ⟨rb, ro, none⟩ rc l Tryz.underlying60 Tryz.underlying5 Tryz.underlying9 (fun j hj => by
      rw [Addr.add_lit, h2 j _ (bytesV_some l j hj), List.getD_eq_getElem?_getD, List.getElem?_eq_getElem hj]; rfl)
def NewRow (w : World) (ra : Option Addr) : Prop := ∀ b o, ra = some ⟨b, o, none⟩ → w.heap.size ≤ b
theorem NewRow.moved {w wr : World} {ra ra' : Option Addr} (h : NewRow w ra) (hs : w.heap.size ≤ wr.heap.size) (hm : Moved wr ra ra') : NewRow w ra' := fun b o e => by
  rcases hm with hm | ⟨rb, e2, g⟩
  · rw [hm] at e; exact h b o e
  · rw [e2] at e; cases e; omega
theorem below_rowT {w a b : World} {ra : Option Addr} (h : Chg (rowT ra) a b) (hn : NewRow w ra) (hs : w.heap.size ≤ a.heap.size) : Below w.heap.size a b := h.below hs (fun k o hk ⟨o2, e⟩ => by have := hn k o2 e; omega)
theorem appendNumber_var (ra : Option Addr) (rc n : Nat) (l : Sg.Bs) (x : Int) (wr : World) (cs : Array Value) (t : TypeId) (hnl : l.length = n) (hR : RowAt 1 wr ra rc n (bytesV l)) (h0 : 0 ≤ x) (hn : x < 100000000) (hl : n < 100000000) :
    Calls Tryz.prog 75 #[.slice ra n rc, .int .i64 x] (wr.alloc (.cells cs t)) fun e w' => ∃ ra' rc', e = .returned (.slice ra' (n + (Sg.encN x.toNat).length) rc') ∧ (∀ j v, cs[j]? = some v → w'.cell? ⟨wr.heap.size, j, none⟩ = some v) ∧ Hid (RowAt 1 w' ra' rc' (n + (Sg.encN x.toNat).length) (bytesV (l ++ Sg.encN x.toNat)) ∧ Chg (rowT ra) wr w' ∧ Moved wr ra ra') := by
  have hbl : Below wr.heap.size wr (wr.alloc (.cells cs t)) := (Below.refl _ _).alloc (Nat.le_refl _) _
  have hsz : (wr.alloc (.cells cs t)).heap.size = wr.heap.size + 1 := by simp
  refine (appendNumber_int ra rc n l x _ hnl (hR.below hbl) h0 hn hl).mono ?_
  rintro e w' ⟨ra', rc', rfl, h1, h2, h3⟩
  refine ⟨ra', rc', rfl, fun j v hj => ?_, hide2 ⟨h1, (Chg.of_below hbl).trans h2, ?_⟩⟩
  · rw [h2.cell _ _ (by omega) (fun ⟨o, e⟩ => by have := hR.lt e; omega), World.cell?_alloc_at _ _ _ _ rfl]; exact hj
  · rcases h3 with h3 | ⟨rb, e1, e2⟩
    · exact .inl h3
    · exact .inr ⟨rb, e1, by omega⟩
theorem write_any (m : Sg.Mach) (hm : m.Ok) (he : m.Enc) (w : World) (p cb co cc sb so sc : Nat) (nb no nc : Nat → Nat) (M : MachAt w p m cb co cc sb so sc nb no nc) :
    Calls Tryz.prog 45 #[.pointer (some ⟨p, 0, none⟩)] w fun e w' => e = .returned (.string ⟨(Sg.encM m).toArray⟩) ∧ Below w.heap.size w w' := by
  have hc0 := M.c0
  have hcN := hm.cutsN
  have hsN := hm.statesN
  have HA := hide2 appendNumber_int
  have HV := hide2 appendNumber_var
  have hW : Hid (∀ i, (Sg.encTo m i).length < 10000000) := hide2 (fun i => Nat.lt_of_le_of_lt (Sg.encTo_le m i) he.size)
  have hW2 : Hid (∀ i, (Sg.encSt m i).length < 10000000) := hide2 (fun i => Nat.lt_of_le_of_lt (Sg.encSt_le m i) he.size)
  have hcl : m.cuts.length < 10000000 := Nat.lt_of_le_of_lt (Sg.cuts_le m) he.size
  have HM := hide2 M
  have He := hide2 he
  have Hm := hide2 hm
  clear M he hm
  go_enter Tryz.func45, Tryz.ntmps45
  go_wp2_with (go_at_call 75; refine (HA.out none 0 0 [] m.cuts.length w rfl (RowAt.nil 1 w) (by omega) (by omega) (by simp)).mono ?_; rintro e w1 ⟨ra1, rc1, rfl, hrow1, hch1, hmv1⟩; have H1 := hide2 (And.intro hrow1 (And.intro hch1 hmv1)); have hc0' : w1.cell? ⟨p, 0, none⟩ = some (.slice (some ⟨cb, co, none⟩) m.cuts.length cc) := (hch1.cell _ _ (cell_lt hc0) (fun ⟨o, e⟩ => by cases e)).trans hc0; clear hrow1 hch1 hmv1)
  go_loopw [3, 21] (fun o i wr => ∃ (j : Nat) (ra : Option Addr) (rc : Nat), j ≤ m.cuts.length ∧ i = .int .i64 j ∧ o = .slice ra (Sg.encTo m j).length rc ∧ Hid (RowAt 1 wr ra rc (Sg.encTo m j).length (bytesV (Sg.encTo m j)) ∧ NewRow w ra ∧ Below w.heap.size w wr)) (fun _ i _ => m.cuts.length - (intOf i).toNat)
  case atStart =>
    obtain ⟨g1, g2, g3⟩ := H1.out
    have e0 : Sg.encTo m 0 = [] ++ Sg.encN (m.cuts.length : Int).toNat := by unfold Sg.encTo; simp
    have e1 : (Sg.encTo m 0).length = 0 + (Sg.encN (m.cuts.length : Int).toNat).length := by rw [e0]; simp
    have hnew : NewRow w none := fun b o e => by cases e
    refine ⟨0, ra1, rc1, Nat.zero_le _, rfl, by rw [e1]; simp, hide2 ⟨by rw [e1, e0]; exact g1, hnew.moved (Nat.le_refl _) g3, below_rowT g2 hnew (Nat.le_refl _)⟩⟩
  case round =>
    obtain ⟨j, ra, rc, hj, rfl, rfl, H⟩ := hrel
    by_cases hlt : j < m.cuts.length
    · have hb : Below w.heap.size w wr := H.out.2.2
      have Mr := HM.out.below hb
      have hl := Mr.low j hlt
      have hk := Mr.kind j hlt
      have hsz := hb.size
      have hx := (He.out.low j hlt)
      have hy := (He.out.kind j hlt)
      have HE := hide2 (Sg.encTo_succ m j hlt)
      have hT := hW.out j
      have hT1 := hW.out (j + 1)
      rw [HE.out, List.length_append, List.length_append] at hT1
      generalize Sg.lowAt m.cuts j = lo at *
      generalize Sg.kindAt m.cuts j = ki at *
      have HV1 := hide2 (HV.out ra rc _ (Sg.encTo m j) lo wr #[.int .i32 lo, .int .i64 ki] 168 rfl H.out.1 (by omega) (by omega) (by omega))
      clear Mr hb
      go_wp2_with (first
        | (go_at_call 75; refine HV1.out.mono ?_; clear HV1; rintro e w2 ⟨ra2, rc2, rfl, hcs, H2⟩; have hck := hcs 1 _ rfl; clear hcs)
        | (go_at_call 75; refine (HA.out ra2 rc2 _ (Sg.encTo m j ++ Sg.encN lo.toNat) ki w2 (List.length_append ..) H2.out.1 (by omega) (by omega) (by omega)).mono ?_; rintro e w3 ⟨ra3, rc3, rfl, hrow3, hch3, hmv3⟩; have H3 := hide2 (And.intro hrow3 (And.intro hch3 hmv3)); clear hrow3 hch3 hmv3))
      go_roundw
      case rel =>
        obtain ⟨g1, g2, g3⟩ := H.out
        obtain ⟨k1, k2, k3⟩ := H2.out
        obtain ⟨y1, y2, y3⟩ := H3.out
        have hn2 := g2.moved g3.size k3
        have hs2 := k2.size
        have hs3 := g3.size
        have hlen : (Sg.encTo m (j + 1)).length = (Sg.encTo m j).length + (Sg.encN lo.toNat).length + (Sg.encN ki.toNat).length := by rw [HE.out, List.length_append, List.length_append]
        refine ⟨j + 1, ra3, rc3, by omega, by go_num, by rw [hlen], hide2 ⟨by rw [hlen, HE.out]; exact y1, hn2.moved (by omega) y3, ?_⟩⟩
        · exact (g3.trans (below_rowT k2 g2 g3.size)).trans (below_rowT y2 hn2 (by omega))
      case measure => simp [intOf]; omega
    · obtain rfl : j = m.cuts.length := by omega
      have hc1 : wr.cell? ⟨p, 1, none⟩ = some (.slice (some ⟨sb, so, none⟩) m.states.length sc) := (HM.out.below H.out.2.2).c1
      have HS := hide2 (Sg.encSt_zero m)
      go_wp2
      go_loopw [3, 40] (fun o i wr => ∃ (j : Nat) (ra : Option Addr) (rc : Nat), j ≤ m.states.length ∧ i = .int .i64 j ∧ o = .slice ra (Sg.encSt m j).length rc ∧ Hid (RowAt 1 wr ra rc (Sg.encSt m j).length (bytesV (Sg.encSt m j)) ∧ NewRow w ra ∧ Below w.heap.size w wr)) (fun _ i _ => m.states.length - (intOf i).toNat)
      case atStart => exact ⟨0, ra, rc, Nat.zero_le _, rfl, by rw [HS.out], by rw [HS.out]; exact H⟩
      case round =>
        obtain ⟨j, ra2, rc2, hj, rfl, rfl, H⟩ := hrel
        by_cases hlt : j < m.states.length
        · have hb : Below w.heap.size w wr := H.out.2.2
          have Mr := HM.out.below hb
          have hl := Mr.rule j hlt
          have hk := Mr.next j hlt
          have hwj := Hm.out.nextN j hlt
          have hx := (He.out.rule j hlt)
          have HE := hide2 (Sg.encRow_zero m j)
          have HR : Hid (∀ k, (Sg.encRow m j k).length < 10000000) := hide2 (fun k => Nat.lt_of_le_of_lt (Sg.encRow_le m j k hlt) He.out.size)
          have hT := hW2.out j
          have HV1 := hide2 (HV.out ra2 rc2 _ (Sg.encSt m j) (m.rule j + 1) wr #[.int .i64 (m.rule j), .slice (some ⟨nb j, no j, none⟩) (m.width j) (nc j)] 153 rfl H.out.1 (by omega) (by omega) (by omega))
          clear Mr hb
          go_wp2_with (go_at_call 75; refine HV1.out.mono ?_; clear HV1; rintro e w2 ⟨ra3, rc3, rfl, hcs, H2⟩; have hck := hcs 1 _ rfl; clear hcs)
          go_loopw [3, 52] (fun o i wr => ∃ (k : Nat) (ra : Option Addr) (rc : Nat), k ≤ m.width j ∧ i = .int .i64 k ∧ o = .slice ra (Sg.encRow m j k).length rc ∧ Hid (RowAt 1 wr ra rc (Sg.encRow m j k).length (bytesV (Sg.encRow m j k)) ∧ NewRow w ra ∧ Below w.heap.size w wr)) (fun _ i _ => m.width j - (intOf i).toNat)
          case atStart =>
            obtain ⟨g1, g2, g3⟩ := H.out
            obtain ⟨k1, k2, k3⟩ := H2.out
            have e1 : (Sg.encRow m j 0).length = (Sg.encSt m j).length + (Sg.encN (m.rule j + 1).toNat).length := by rw [HE.out, List.length_append]
            exact ⟨0, ra3, rc3, Nat.zero_le _, rfl, by rw [e1], hide2 ⟨by rw [e1, HE.out]; exact k1, g2.moved g3.size k3, g3.trans (below_rowT k2 g2 g3.size)⟩⟩
          case round =>
            obtain ⟨k, ra4, rc4, hkw, rfl, rfl, H4⟩ := hrel
            by_cases hlk : k < m.width j
            · have hb : Below w.heap.size w wr := H4.out.2.2
              have Mr := HM.out.below hb
              have ht := Mr.to j k hlt hlk
              have hy := He.out.next j k hlt hlk
              have hT3 := HR.out k
              have HE2 := hide2 (Sg.encRow_succ m j k hlk)
              have HV2 := hide2 (HA.out ra4 rc4 _ (Sg.encRow m j k) (m.next j k + 1) wr rfl H4.out.1 (by omega) (by omega) (by omega))
              clear Mr hb
              go_wp2_with (go_at_call 75; refine HV2.out.mono ?_; clear HV2; rintro e w5 ⟨ra5, rc5, rfl, hrow5, hch5, hmv5⟩; have H5 := hide2 (And.intro hrow5 (And.intro hch5 hmv5)); clear hrow5 hch5 hmv5)
              go_roundw
              case rel =>
                obtain ⟨g1, g2, g3⟩ := H4.out
                obtain ⟨k1, k2, k3⟩ := H5.out
                have e1 : (Sg.encRow m j (k + 1)).length = (Sg.encRow m j k).length + (Sg.encN (m.next j k + 1).toNat).length := by rw [HE2.out, List.length_append]
                exact ⟨k + 1, ra5, rc5, by omega, by go_num, by rw [e1], hide2 ⟨by rw [e1, HE2.out]; exact k1, g2.moved g3.size k3, g3.trans (below_rowT k2 g2 g3.size)⟩⟩
              case measure => simp [intOf]; omega
            · obtain rfl : k = m.width j := by omega
              have HE3 := hide2 (Sg.encRow_all m j hlt)
              go_wp2
              go_roundw
              case rel => exact ⟨j + 1, ra4, rc4, by omega, by go_num, by rw [HE3.out], by rw [← HE3.out]; exact H4⟩
              case measure => simp [intOf]; omega
        · obtain rfl : j = m.states.length := by omega
          have HS2 := hide2 (Sg.encSt_all m)
          have hcv := conv_row wr ra2 rc2 _ (by rw [HS2.out]; exact Sg.encM_ne m) H.out.1
          rw [HS2.out] at hcv
          rw [HS2.out]
          go_wp2
          go_ret
          exact ⟨rfl, H.out.2.2⟩
end Go.Proofs.YtlhokghgicgppaaGreatDoor
