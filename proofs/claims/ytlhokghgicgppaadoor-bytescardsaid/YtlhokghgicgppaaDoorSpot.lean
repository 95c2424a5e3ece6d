/- (spot).token, (*spot).pass, walk.Of. -/
import Derived.Test.YtlhokghgicgppaaDoorFail
import Derived.Test.YtlhokghgicgppaaDoorSpec2
import Derived.Test.YtlhokghgicgppaaDoorShelf
set_option linter.unusedSimpArgs false
set_option linter.unusedVariables false
namespace Go.Proofs.YtlhokghgicgppaaDoor
open Go.RowKit Go.Extern

set_option maxRecDepth 100000 in
set_option maxHeartbeats 800000 in
theorem of_any (p : Nat) (w : World) :
    Calls Tryd.prog 39 #[.pointer (some ⟨p, 0, none⟩)] w fun en w' => en = .returned (.agg #[.pointer (some ⟨p, 0, none⟩), .int .i64 0, .int .i64 0, .int .i64 (-1), .int .i64 0]) ∧ Below w.heap.size w w' := by
  go_enter Tryd.func39, Tryd.ntmps39
  go_wp2
  exact bodyPost_ret (v := .agg #[.pointer (some ⟨p, 0, none⟩), .int .i64 0, .int .i64 0, .int .i64 (-1), .int .i64 0]) (by simp [results, Tryd.results39, go_sem]) rfl ⟨rfl, (Below.refl _ _).alloc (Nat.le_refl _) _⟩

set_option maxRecDepth 100000 in
set_option maxHeartbeats 800000 in
theorem token_any (a l c r : Int) (t : Sg.Bs) (w : World) :
    Calls Tryd.prog 46 #[.agg #[.int .i64 a, .int .i64 l, .int .i64 c], .int .i64 r, strV t] w fun en w' => en = .returned (tokV ⟨r, a, l, c, t⟩) ∧ Below w.heap.size w w' := by
  unfold strV tokV
  go_enter Tryd.func46, Tryd.ntmps46
  go_wp2
  exact bodyPost_ret (v := .agg #[.int .i64 r, .int .i64 a, .int .i64 l, .int .i64 c, .string ⟨t.toArray⟩]) (by simp [results, Tryd.results46, go_sem]) rfl ⟨rfl, ((Below.refl _ _).alloc (Nat.le_refl _) _).alloc (by simp) _⟩

theorem iter_below (w : World) (s : ByteArray) (pos : Nat) : Below w.heap.size w (w.iter s pos) := (Below.refl _ _).alloc (Nat.le_refl _) _

theorem lastIdx_bd (t : Sg.Bs) : ∃ k : Nat, Lib.lastIndexByte ⟨t.toArray⟩ 10 = (k : Int) - 1 ∧ k ≤ t.length ∧ (Lib.lastIndexByte ⟨t.toArray⟩ 10 + 1).toNat = k := by
  have hsz : (ByteArray.mk t.toArray).size = t.length := by simp [ByteArray.size]
  rcases Lib.lastIdx_spec ⟨t.toArray⟩ 10 (ByteArray.mk t.toArray).size with ⟨h, _⟩ | ⟨i, hi, h, _⟩
  · refine ⟨0, ?_, Nat.zero_le _, ?_⟩ <;> unfold Lib.lastIndexByte <;> rw [h] <;> rfl
  · refine ⟨i + 1, ?_, by omega, ?_⟩ <;> unfold Lib.lastIndexByte <;> rw [h] <;> omega

structure SpotAt (w : World) (b o : Nat) (L : Sg.Live) : Prop where
  c0 : w.cell? ⟨b, o, none⟩ = some (.int .i64 L.at_)
  c1 : w.cell? ⟨b, o + 1, none⟩ = some (.int .i64 L.line)
  c2 : w.cell? ⟨b, o + 2, none⟩ = some (.int .i64 L.col)
  fr : ∀ j, w.frozen? ⟨b, j, none⟩ = false

theorem SpotAt.below {w w' : World} {b o : Nat} {L : Sg.Live} (h : SpotAt w b o L) (hb : Below w.heap.size w w') : SpotAt w' b o L :=
  have hq := cell_lt h.c0
  ⟨(hb.cell (p := ⟨b, o, none⟩) hq).trans h.c0, (hb.cell (p := ⟨b, o + 1, none⟩) hq).trans h.c1, (hb.cell (p := ⟨b, o + 2, none⟩) hq).trans h.c2, fun j => (hb.frozen (p := ⟨b, j, none⟩) hq).trans (h.fr j)⟩
theorem SpotAt.set2 {w : World} {b o : Nat} {L : Sg.Live} (h : SpotAt w b o L) (x : Int) : SpotAt (w.setCell ⟨b, o + 2, none⟩ (.int .i64 x)) b o { L with col := x } :=
  ⟨(World.cell?_setCell_other _ _ _ _ (by simp)).trans h.c0, (World.cell?_setCell_other _ _ _ _ (by simp)).trans h.c1, World.cell?_setCell_same _ _ _ h.c2, fun j => by rw [World.frozen?_setCell]; exact h.fr j⟩
theorem Chg.setC {b o : Nat} {a w : World} (h : Chg (fun i j => i = b ∧ o ≤ j ∧ j ≤ o + 2) a w) (j : Nat) (hj : o ≤ j ∧ j ≤ o + 2) (v : Value) : Chg (fun i j => i = b ∧ o ≤ j ∧ j ≤ o + 2) a (w.setCell ⟨b, j, none⟩ v) := Chg.setCell (T := fun i j => i = b ∧ o ≤ j ∧ j ≤ o + 2) h ⟨rfl, hj⟩ v

set_option maxRecDepth 100000 in
set_option maxHeartbeats 800000 in
theorem pass_any (b o : Nat) (L : Sg.Live) (t : Sg.Bs) (w : World) (ht : t.length < 1000000000) (ha : 0 ≤ L.at_ ∧ L.at_ < 1000000000000) (hl : 0 ≤ L.line ∧ L.line < 1000000000000) (hc : 0 ≤ L.col ∧ L.col < 1000000000000) (hS : SpotAt w b o L) :
    Calls Tryd.prog 47 #[.pointer (some ⟨b, o, none⟩), strV t] w fun en w' => (∃ v, en = .returned v) ∧ SpotAt w' b o (L.passT t) ∧ Chg (fun i j => i = b ∧ o ≤ j ∧ j ≤ o + 2) w w' := by
  have hsz : (ByteArray.mk t.toArray).size = t.length := by simp [ByteArray.size]
  have h0 := hS.c0
  have h1 := hS.c1
  have h2 := hS.c2
  have hf := hS.fr
  have hb := cell_lt h0
  obtain ⟨a, ha0⟩ : ∃ a, L.at_ = a := ⟨_, rfl⟩
  obtain ⟨l, hl0⟩ : ∃ l, L.line = l := ⟨_, rfl⟩
  obtain ⟨c, hc0⟩ : ∃ c, L.col = c := ⟨_, rfl⟩
  rw [ha0] at h0 ha
  rw [hl0] at h1 hl
  rw [hc0] at h2 hc
  have ha1 := ha.1
  have ha2 := ha.2
  have hl1 := hl.1
  have hl2 := hl.2
  have hc1 := hc.1
  have hc2 := hc.2
  clear ha hl hc
  have HC : Hid (∀ W, Calls Tryd.prog 55 #[.string ⟨t.toArray⟩, .string ⟨#[10]⟩] W fun e w' => e = .returned (.int .i64 (Lib.countByte t 10 : Nat)) ∧ w' = W) := fun W => Any.strings_Count_one Tryd.lays138 ⟨t.toArray⟩ 10 W
  have hcl : Lib.countByte t 10 ≤ t.length := List.count_le_length
  obtain ⟨k, hk1, hk2, hk3⟩ := lastIdx_bd t
  have HL : Hid (∀ W, Calls Tryd.prog 56 #[.string ⟨t.toArray⟩, .int .u8 10] W fun e w' => e = .returned (.int .i64 ((k : Int) - 1)) ∧ w' = W) := fun W => by
    have := Any.strings_LastIndexByte Tryd.lays149 ⟨t.toArray⟩ 10 (by rw [hsz]; omega) W
    rw [hk1] at this; exact this
  have hrl : ∀ x : Sg.Bs, Lib.runeCountL x ≤ x.length := fun x => by
    have := Lib.runeCount_le ⟨x.toArray⟩
    have e : (ByteArray.mk x.toArray).size = x.length := by simp [ByteArray.size]
    rw [e] at this; exact this
  have HN : Hid (∀ (x : Sg.Bs) W, x.length ≤ t.length → Calls Tryd.prog 57 #[.string ⟨x.toArray⟩] W fun e w' => e = .returned (.int .i64 (Lib.runeCountL x : Nat)) ∧ Below W.heap.size W w') := fun x W hx => by
    refine (Any.utf8_RuneCountInString Tryd.lays195 ⟨x.toArray⟩ W (by simp [ByteArray.size]; omega)).mono ?_
    rintro e w' ⟨rfl, pos, rfl⟩
    exact ⟨rfl, iter_below _ _ _⟩
  have hp : Hid (L.passT t = if 0 < Lib.countByte t 10 then { L with at_ := a + t.length, line := l + Lib.countByte t 10, col := 1 + Lib.runeCountL (t.drop k) } else { L with at_ := a + t.length, col := c + Lib.runeCountL t }) := by
    show _ = _
    unfold Sg.Live.passT
    rw [hk3, ha0, hl0, hc0]
  have Hl0 := hide2 hl0
  clear hk1 hk3 ha0 hl0 hc0
  by_cases hz : 0 < Lib.countByte t 10
  · rw [if_pos hz] at hp
    have hrd := hrl (t.drop k)
    rw [List.length_drop] at hrd
    have HX : Hid (Calls Tryd.prog 57 #[.string ((ByteArray.mk t.toArray).extract k t.length)] (((w.setCell ⟨b, o, none⟩ (.int .i64 (a + (t.length : Int)))).setCell ⟨b, o + 1, none⟩ (.int .i64 (l + (Lib.countByte t 10 : Nat)))).setCell ⟨b, o + 2, none⟩ (.int .i64 1)).drew fun e w' => e = .returned (.int .i64 (Lib.runeCountL (t.drop k) : Nat)) ∧
        SpotAt w' b o { L with at_ := a + t.length, line := l + (Lib.countByte t 10 : Nat), col := 1 } ∧ Chg (fun i j => i = b ∧ o ≤ j ∧ j ≤ o + 2) w w') := by
      rw [drop_extract]
      refine (HN.out (t.drop k) _ (by simp)).mono ?_
      rintro e w' ⟨rfl, hb'⟩
      have hb2 : Below (((w.setCell ⟨b, o, none⟩ (.int .i64 (a + (t.length : Int)))).setCell ⟨b, o + 1, none⟩ (.int .i64 (l + (Lib.countByte t 10 : Nat)))).setCell ⟨b, o + 2, none⟩ (.int .i64 1)).heap.size (((w.setCell ⟨b, o, none⟩ (.int .i64 (a + (t.length : Int)))).setCell ⟨b, o + 1, none⟩ (.int .i64 (l + (Lib.countByte t 10 : Nat)))).setCell ⟨b, o + 2, none⟩ (.int .i64 1)) w' := ⟨hb'.os, hb'.tape, hb'.output, hb'.size, hb'.block⟩
      have hS1 : SpotAt (((w.setCell ⟨b, o, none⟩ (.int .i64 (a + (t.length : Int)))).setCell ⟨b, o + 1, none⟩ (.int .i64 (l + (Lib.countByte t 10 : Nat)))).setCell ⟨b, o + 2, none⟩ (.int .i64 1)) b o { L with at_ := a + t.length, line := l + (Lib.countByte t 10 : Nat), col := 1 } := by
        have q0 := World.cell?_setCell_same w ⟨b, o, none⟩ (.int .i64 (a + (t.length : Int))) h0
        have q1 := (World.cell?_setCell_other w ⟨b, o, none⟩ ⟨b, o + 1, none⟩ (.int .i64 (a + (t.length : Int))) (by simp)).trans h1
        have q2 := (World.cell?_setCell_other w ⟨b, o, none⟩ ⟨b, o + 2, none⟩ (.int .i64 (a + (t.length : Int))) (by simp)).trans h2
        have q3 : ∀ j, (w.setCell ⟨b, o, none⟩ (.int .i64 (a + (t.length : Int)))).frozen? ⟨b, j, none⟩ = false := fun j => by rw [World.frozen?_setCell]; exact hf j
        generalize w.setCell ⟨b, o, none⟩ (.int .i64 (a + (t.length : Int))) = X1 at *
        exact ⟨(World.cell?_setCell_other _ _ _ _ (by simp)).trans ((World.cell?_setCell_other _ _ _ _ (by simp)).trans q0), (World.cell?_setCell_other _ _ _ _ (by simp)).trans (World.cell?_setCell_same _ _ _ q1), World.cell?_setCell_same _ _ _ ((World.cell?_setCell_other _ _ _ _ (by simp)).trans q2), fun j => by rw [World.frozen?_setCell, World.frozen?_setCell]; exact q3 j⟩
      refine ⟨rfl, hS1.below hb2, Chg.trans (Chg.setC (Chg.setC (Chg.setC (Chg.refl _ w) o (by omega) _) (o + 1) (by omega) _) (o + 2) (by omega) _) (Chg.of_below hb2)⟩
    unfold strV
    go_enter Tryd.func47, Tryd.ntmps47
    go_wp2_with fail
    refine (HC.out _).mono ?_
    rintro e w1 ⟨rfl, rfl⟩
    go_wp2_with fail
    refine (HL.out _).mono ?_
    rintro e w1 ⟨rfl, rfl⟩
    go_wp2
    go_region_with (go_at_call 57; refine HX.out.mono ?_; rintro e w1 ⟨rfl, hS2, hch2⟩; have f2 := hS2.fr; have d2 := hS2.c2; dsimp only at d2)
    all_goals
      go_wp2
      refine bodyPost_end (results_none rfl _ _ _) rfl ⟨⟨_, rfl⟩, ?_, Chg.setC hch2 (o + 2) (by omega) _⟩
      rw [hp.out, wrap_i64_small _ (by omega) (by omega)]
      exact hS2.set2 _
  · rw [if_neg hz] at hp
    have hrd := hrl t
    have hz' : ¬ (0 : Int) < (Lib.countByte t 10 : Nat) := by omega
    have HX : Hid (Calls Tryd.prog 57 #[.string ⟨t.toArray⟩] (w.setCell ⟨b, o, none⟩ (.int .i64 (a + (t.length : Int)))).drew fun e w' => e = .returned (.int .i64 (Lib.runeCountL t : Nat)) ∧
        SpotAt w' b o { L with at_ := a + t.length, col := c } ∧ Chg (fun i j => i = b ∧ o ≤ j ∧ j ≤ o + 2) w w') := by
      refine (HN.out t _ (Nat.le_refl _)).mono ?_
      rintro e w' ⟨rfl, hb'⟩
      have hb2 : Below (w.setCell ⟨b, o, none⟩ (.int .i64 (a + (t.length : Int)))).heap.size (w.setCell ⟨b, o, none⟩ (.int .i64 (a + (t.length : Int)))) w' := ⟨hb'.os, hb'.tape, hb'.output, hb'.size, hb'.block⟩
      have hS1 : SpotAt (w.setCell ⟨b, o, none⟩ (.int .i64 (a + (t.length : Int)))) b o { L with at_ := a + t.length, col := c } :=
        ⟨World.cell?_setCell_same _ _ _ h0, (World.cell?_setCell_other _ _ _ _ (by simp)).trans (by rw [h1, Hl0.out]), (World.cell?_setCell_other _ _ _ _ (by simp)).trans h2, fun j => by rw [World.frozen?_setCell]; exact hf j⟩
      refine ⟨rfl, hS1.below hb2, Chg.trans (Chg.setC (Chg.refl _ w) o (by omega) _) (Chg.of_below hb2)⟩
    unfold strV
    go_enter Tryd.func47, Tryd.ntmps47
    go_wp2_with fail
    refine (HC.out _).mono ?_
    rintro e w1 ⟨rfl, rfl⟩
    go_wp2
    go_region_with (go_at_call 57; refine HX.out.mono ?_; rintro e w1 ⟨rfl, hS2, hch2⟩; have f2 := hS2.fr; have d2 := hS2.c2; dsimp only at d2)
    all_goals
      go_wp2
      refine bodyPost_end (results_none rfl _ _ _) rfl ⟨⟨_, rfl⟩, ?_, Chg.setC hch2 (o + 2) (by omega) _⟩
      rw [hp.out, wrap_i64_small _ (by omega) (by omega)]
      exact hS2.set2 _
end Go.Proofs.YtlhokghgicgppaaDoor
