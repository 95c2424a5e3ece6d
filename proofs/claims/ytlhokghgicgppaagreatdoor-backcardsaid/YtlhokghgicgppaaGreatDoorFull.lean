/- utf8.FullRune. -/
import Derived.Test.YtlhokghgicgppaaGreatDoorIsEnd
import Derived.Shelf.Unicode.DecodeSlow
set_option linter.unusedSimpArgs false
set_option linter.unusedVariables false
set_option maxRecDepth 100000
set_option maxHeartbeats 4000000
namespace Go.Proofs.YtlhokghgicgppaaGreatDoor
open Go.RowKit Go.Extern
def SlAt (w : World) (a : Option Addr) (l : Sg.Bs) : Prop :=
  (a = none ∧ l = []) ∨ ∃ b o, a = some ⟨b, o, none⟩ ∧ ∀ j, j < l.length → w.cell? ⟨b, o + j, none⟩ = some (.int .u8 (l.getD j 0).toNat)
abbrev Tabs (w : World) : Prop := Lib.Utf8Tabs 1 2 w
def fullN (n k0 k1 k2 : Nat) : Bool :=
  if Lib.firstT k0 % 8 ≤ n then true else if 1 < n ∧ (k1 < Lib.accLo (Lib.firstT k0 / 16) ∨ Lib.accHi (Lib.firstT k0 / 16) < k1) then true
  else if 2 < n ∧ (k2 < 128 ∨ 191 < k2) then true else false
theorem full_big (n k0 b o cap X : Nat) (w : World) (hx : w.cell? ⟨1, k0, none⟩ = some (.int .u8 X)) (hX : X = 240 ∨ X = 241 ∨ X = 2 ∨ X = 19 ∨ X = 3 ∨ X = 35 ∨ X = 52 ∨ X = 4 ∨ X = 68) (hk : k0 < 256)
    (hn1 : 1 ≤ n) (hN : n < 1000000000) (h0 : w.cell? ⟨b, o, none⟩ = some (.int .u8 k0)) (hb : X % 8 ≤ n) :
    Calls Tryz.prog 37 #[.slice (some ⟨b, o, none⟩) n cap] w fun e w' => e = .returned (.bool true) ∧ w' = w := by
  rcases hX with rfl | rfl | rfl | rfl | rfl | rfl | rfl | rfl | rfl
  all_goals
    have hz : ((n : Int) == 0) = false := beq_eq_false_iff_ne.2 (by omega)
    simp only [Nat.reduceMod] at hb
    go_enter Tryz.func37, Tryz.ntmps37
    go_wp2
    go_ret
    exact ⟨rfl, rfl⟩
theorem full_one (k0 b o cap X lo hi : Nat) (w : World) (hx : w.cell? ⟨1, k0, none⟩ = some (.int .u8 X)) (hX : X = 2 ∨ X = 19 ∨ X = 3 ∨ X = 35 ∨ X = 52 ∨ X = 4 ∨ X = 68) (hk : k0 < 256)
    (h0 : w.cell? ⟨b, o, none⟩ = some (.int .u8 k0)) (hlo : w.cell? ⟨2, 2 * (X / 16), none⟩ = some (.int .u8 lo)) (hhi : w.cell? ⟨2, 2 * (X / 16) + 1, none⟩ = some (.int .u8 hi)) :
    Calls Tryz.prog 37 #[.slice (some ⟨b, o, none⟩) 1 cap] w fun e w' => e = .returned (.bool false) ∧ Below w.heap.size w w' := by
  rcases hX with rfl | rfl | rfl | rfl | rfl | rfl | rfl
  all_goals
    simp only [Nat.reduceDiv, Nat.reduceMul, Nat.reduceAdd] at hlo hhi
    go_enter Tryz.func37, Tryz.ntmps37
    go_wp2
    go_quiet (fail)
    go_wp2
    go_ret
    exact ⟨rfl, below_drewN ((Below.refl _ _).alloc (Nat.le_refl _) _) _⟩
theorem full_two (k0 k1 b o cap X lo hi : Nat) (w : World) (hx : w.cell? ⟨1, k0, none⟩ = some (.int .u8 X)) (hX : X = 19 ∨ X = 3 ∨ X = 35 ∨ X = 52 ∨ X = 4 ∨ X = 68) (hk : k0 < 256)
    (h0 : w.cell? ⟨b, o, none⟩ = some (.int .u8 k0)) (h1 : ∀ x, (w.alloc x).cell? ⟨b, o + 1, none⟩ = some (.int .u8 k1)) (hlo : w.cell? ⟨2, 2 * (X / 16), none⟩ = some (.int .u8 lo)) (hhi : w.cell? ⟨2, 2 * (X / 16) + 1, none⟩ = some (.int .u8 hi)) :
    Calls Tryz.prog 37 #[.slice (some ⟨b, o, none⟩) 2 cap] w fun e w' => e = .returned (.bool (decide (k1 < lo ∨ hi < k1))) ∧ Below w.heap.size w w' := by
  by_cases c1 : k1 < lo
  · have c1' : decide ((k1 : Int) < lo) = true := by simp; omega
    have H : Hid (decide (k1 < lo ∨ hi < k1) = true) := by show _ = _; simp; omega
    generalize decide (k1 < lo ∨ hi < k1) = r at *
    rcases hX with rfl | rfl | rfl | rfl | rfl | rfl
    all_goals
      simp only [Nat.reduceDiv, Nat.reduceMul, Nat.reduceAdd] at hlo hhi
      go_enter Tryz.func37, Tryz.ntmps37
      go_wp2
      go_quiet (fail)
      go_wp2
      go_ret
      exact ⟨ret_bool H.out, below_drewN ((Below.refl _ _).alloc (Nat.le_refl _) _) _⟩
  · have c1' : decide ((k1 : Int) < lo) = false := by simp; omega
    by_cases c2 : hi < k1
    · have c2' : decide ((hi : Int) < k1) = true := by simp; omega
      have H : Hid (decide (k1 < lo ∨ hi < k1) = true) := by show _ = _; simp; omega
      generalize decide (k1 < lo ∨ hi < k1) = r at *
      rcases hX with rfl | rfl | rfl | rfl | rfl | rfl
      all_goals
        simp only [Nat.reduceDiv, Nat.reduceMul, Nat.reduceAdd] at hlo hhi
        go_enter Tryz.func37, Tryz.ntmps37
        go_wp2
        go_quiet (fail)
        go_wp2
        go_ret
        exact ⟨ret_bool H.out, below_drewN ((Below.refl _ _).alloc (Nat.le_refl _) _) _⟩
    · have c2' : decide ((hi : Int) < k1) = false := by simp; omega
      have H : Hid (decide (k1 < lo ∨ hi < k1) = false) := by show _ = _; simp; omega
      generalize decide (k1 < lo ∨ hi < k1) = r at *
      rcases hX with rfl | rfl | rfl | rfl | rfl | rfl
      all_goals
        simp only [Nat.reduceDiv, Nat.reduceMul, Nat.reduceAdd] at hlo hhi
        go_enter Tryz.func37, Tryz.ntmps37
        go_wp2
        go_quiet (fail)
        go_wp2
        go_ret
        exact ⟨ret_bool H.out, below_drewN ((Below.refl _ _).alloc (Nat.le_refl _) _) _⟩
theorem full_three (k0 k1 k2 b o cap X lo hi : Nat) (w : World) (hx : w.cell? ⟨1, k0, none⟩ = some (.int .u8 X)) (hX : X = 52 ∨ X = 4 ∨ X = 68) (hk : k0 < 256)
    (h0 : w.cell? ⟨b, o, none⟩ = some (.int .u8 k0)) (h1 : ∀ x, (w.alloc x).cell? ⟨b, o + 1, none⟩ = some (.int .u8 k1)) (h2 : ∀ x, (w.alloc x).cell? ⟨b, o + 2, none⟩ = some (.int .u8 k2)) (hlo : w.cell? ⟨2, 2 * (X / 16), none⟩ = some (.int .u8 lo)) (hhi : w.cell? ⟨2, 2 * (X / 16) + 1, none⟩ = some (.int .u8 hi)) :
    Calls Tryz.prog 37 #[.slice (some ⟨b, o, none⟩) 3 cap] w fun e w' => e = .returned (.bool (decide ((k1 < lo ∨ hi < k1) ∨ (k2 < 128 ∨ 191 < k2)))) ∧ Below w.heap.size w w' := by
  by_cases c1 : k1 < lo
  · have c1' : decide ((k1 : Int) < lo) = true := by simp; omega
    have H : Hid (decide ((k1 < lo ∨ hi < k1) ∨ (k2 < 128 ∨ 191 < k2)) = true) := by show _ = _; simp; omega
    generalize decide ((k1 < lo ∨ hi < k1) ∨ (k2 < 128 ∨ 191 < k2)) = r at *
    rcases hX with rfl | rfl | rfl
    all_goals
      simp only [Nat.reduceDiv, Nat.reduceMul, Nat.reduceAdd] at hlo hhi
      go_enter Tryz.func37, Tryz.ntmps37
      go_wp2
      go_quiet (fail)
      go_wp2
      go_ret
      exact ⟨ret_bool H.out, below_drewN ((Below.refl _ _).alloc (Nat.le_refl _) _) _⟩
  · have c1' : decide ((k1 : Int) < lo) = false := by simp; omega
    by_cases c2 : hi < k1
    · have c2' : decide ((hi : Int) < k1) = true := by simp; omega
      have H : Hid (decide ((k1 < lo ∨ hi < k1) ∨ (k2 < 128 ∨ 191 < k2)) = true) := by show _ = _; simp; omega
      generalize decide ((k1 < lo ∨ hi < k1) ∨ (k2 < 128 ∨ 191 < k2)) = r at *
      rcases hX with rfl | rfl | rfl
      all_goals
        simp only [Nat.reduceDiv, Nat.reduceMul, Nat.reduceAdd] at hlo hhi
        go_enter Tryz.func37, Tryz.ntmps37
        go_wp2
        go_quiet (fail)
        go_wp2
        go_ret
        exact ⟨ret_bool H.out, below_drewN ((Below.refl _ _).alloc (Nat.le_refl _) _) _⟩
    · have c2' : decide ((hi : Int) < k1) = false := by simp; omega
      by_cases c3 : k2 < 128
      · have c3' : decide ((k2 : Int) < 128) = true := by simp; omega
        have H : Hid (decide ((k1 < lo ∨ hi < k1) ∨ (k2 < 128 ∨ 191 < k2)) = true) := by show _ = _; simp; omega
        generalize decide ((k1 < lo ∨ hi < k1) ∨ (k2 < 128 ∨ 191 < k2)) = r at *
        rcases hX with rfl | rfl | rfl
        all_goals
          simp only [Nat.reduceDiv, Nat.reduceMul, Nat.reduceAdd] at hlo hhi
          go_enter Tryz.func37, Tryz.ntmps37
          go_wp2
          go_quiet (fail)
          go_wp2
          go_ret
          exact ⟨ret_bool H.out, below_drewN ((Below.refl _ _).alloc (Nat.le_refl _) _) _⟩
      · have c3' : decide ((k2 : Int) < 128) = false := by simp; omega
        by_cases c4 : 191 < k2
        · have c4' : decide ((191 : Int) < k2) = true := by simp; omega
          have H : Hid (decide ((k1 < lo ∨ hi < k1) ∨ (k2 < 128 ∨ 191 < k2)) = true) := by show _ = _; simp; omega
          generalize decide ((k1 < lo ∨ hi < k1) ∨ (k2 < 128 ∨ 191 < k2)) = r at *
          rcases hX with rfl | rfl | rfl
          all_goals
            simp only [Nat.reduceDiv, Nat.reduceMul, Nat.reduceAdd] at hlo hhi
            go_enter Tryz.func37, Tryz.ntmps37
            go_wp2
            go_quiet (fail)
            go_wp2
            go_ret
            exact ⟨ret_bool H.out, below_drewN ((Below.refl _ _).alloc (Nat.le_refl _) _) _⟩
        · have c4' : decide ((191 : Int) < k2) = false := by simp; omega
          have H : Hid (decide ((k1 < lo ∨ hi < k1) ∨ (k2 < 128 ∨ 191 < k2)) = false) := by show _ = _; simp; omega
          generalize decide ((k1 < lo ∨ hi < k1) ∨ (k2 < 128 ∨ 191 < k2)) = r at *
          rcases hX with rfl | rfl | rfl
          all_goals
            simp only [Nat.reduceDiv, Nat.reduceMul, Nat.reduceAdd] at hlo hhi
            go_enter Tryz.func37, Tryz.ntmps37
            go_wp2
            go_quiet (fail)
            go_wp2
            go_ret
            exact ⟨ret_bool H.out, below_drewN ((Below.refl _ _).alloc (Nat.le_refl _) _) _⟩
theorem full_any (l : Sg.Bs) (a : Option Addr) (cap : Nat) (w : World) (hT : Tabs w) (h : SlAt w a l) (hl : l.length < 1000000000) :
    Calls Tryz.prog 37 #[.slice a l.length cap] w fun e w' => e = .returned (.bool (Sg.full l)) ∧ Below w.heap.size w w' := by
  by_cases hnil : l = []
  · subst hnil
    go_enter Tryz.func37, Tryz.ntmps37
    go_wp2
    go_ret
    exact ⟨rfl, Below.refl _ _⟩
  · rcases h with ⟨_, h⟩ | ⟨b, o, rfl, h⟩
    · exact absurd h hnil
    · have hn1 : 1 ≤ l.length := by rcases l with _ | _; exact absurd rfl hnil; simp
      have h0 := h 0 (by omega)
      have h1 := h 1
      have h2 := h 2
      have hk := UInt8.toNat_lt (l.getD 0 0)
      have hx := hT.1 _ hk
      have hX := Lib.firstT_cases (l.getD 0 0).toNat
      have hacc := hT.2 (Lib.firstT (l.getD 0 0).toNat / 16) (by rcases hX with e | e | e | e | e | e | e | e | e <;> rw [e] <;> decide)
      simp only [Nat.add_zero] at h0
      have hF : Sg.full l = fullN l.length (l.getD 0 0).toNat (l.getD 1 0).toNat (l.getD 2 0).toNat := by
        simp only [Sg.full, fullN, hnil, if_false]
      rw [hF]
      generalize (l.getD 0 0).toNat = k0 at *
      generalize (l.getD 1 0).toNat = k1 at *
      generalize (l.getD 2 0).toNat = k2 at *
      generalize l.length = n at *
      clear hnil hF
      unfold fullN
      generalize Lib.firstT k0 = X at *
      by_cases hb : X % 8 ≤ n
      · rw [if_pos hb]
        refine (full_big n k0 b o cap X w hx hX hk hn1 hl h0 hb).mono ?_
        rintro e w' ⟨rfl, rfl⟩
        exact ⟨rfl, Below.refl _ _⟩
      · rw [if_neg hb]
        have hb1 : ∀ j v, w.cell? ⟨b, o + j, none⟩ = some v → ∀ x, (w.alloc x).cell? ⟨b, o + j, none⟩ = some v := fun j v hj x => by
          rw [World.cell?_alloc_lt _ _ ⟨b, o + j, none⟩ (cell_lt hj)]; exact hj
        rcases (show n = 1 ∨ n = 2 ∨ n = 3 by rcases hX with e | e | e | e | e | e | e | e | e <;> subst e <;> simp at hb <;> omega) with rfl | rfl | rfl
        · refine (full_one k0 b o cap X _ _ w hx (by omega) hk h0 hacc.1 hacc.2).mono ?_
          rintro e w' ⟨rfl, hw⟩
          exact ⟨by simp, hw⟩
        · refine (full_two k0 k1 b o cap X _ _ w hx (by omega) hk h0 (hb1 1 _ (h1 (by omega))) hacc.1 hacc.2).mono ?_
          rintro e w' ⟨rfl, hw⟩
          refine ⟨ret_bool ?_, hw⟩
          by_cases q : k1 < Lib.accLo (X / 16) ∨ Lib.accHi (X / 16) < k1 <;> simp [q]
        · refine (full_three k0 k1 k2 b o cap X _ _ w hx (by omega) hk h0 (hb1 1 _ (h1 (by omega))) (hb1 2 _ (h2 (by omega))) hacc.1 hacc.2).mono ?_
          rintro e w' ⟨rfl, hw⟩
          refine ⟨ret_bool ?_, hw⟩
          by_cases q : k1 < Lib.accLo (X / 16) ∨ Lib.accHi (X / 16) < k1 <;> by_cases q2 : k2 < 128 ∨ 191 < k2 <;> simp [q, q2]
end Go.Proofs.YtlhokghgicgppaaGreatDoor
