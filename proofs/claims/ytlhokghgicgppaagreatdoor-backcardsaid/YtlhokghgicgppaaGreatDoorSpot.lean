/- (*Scanner).fail; a scanner that has failed. -/
/- (spot).token, (*spot).pass, walk.Of. -/
import Derived.Test.YtlhokghgicgppaaGreatDoorScanner
import Derived.Test.YtlhokghgicgppaaGreatDoorBytePure
import Derived.Test.YtlhokghgicgppaaGreatDoorCompA
set_option linter.unusedSimpArgs false
set_option linter.unusedVariables false
set_option maxRecDepth 100000
set_option maxHeartbeats 4000000
namespace Go.Proofs.YtlhokghgicgppaaGreatDoor
open Go.RowKit Go.Extern
theorem Chg.setB {sq : Nat} {a w : World} (h : Chg (fun i _ => i = sq) a w) (o : Nat) (v : Value) : Chg (fun i _ => i = sq) a (w.setCell ⟨sq, o, none⟩ v) := Chg.setCell (T := fun i _ => i = sq) h rfl v
def tokV (t : Sg.Tok) : Value := .agg #[.int .i64 t.rule, .int .i64 t.at_, .int .i64 t.line, .int .i64 t.col, strV t.text]
def tok0 : Value := .agg #[.int .i64 0, .int .i64 0, .int .i64 0, .int .i64 0, .string ⟨#[]⟩]
theorem fail_any (sq : Nat) (e : Int) (w : World) (hc : ∀ j, j < 15 → ∃ v, w.cell? ⟨sq, j, none⟩ = some v) (hf : ∀ j, w.frozen? ⟨sq, j, none⟩ = false) :
    Calls Tryz.prog 38 #[.pointer (some ⟨sq, 0, none⟩), errV (some e)] w fun en w' => en = .returned (.tuple #[tok0, errV (some e)]) ∧ w'.cell? ⟨sq, 14, none⟩ = some (errV (some e)) ∧ Chg (fun i _ => i = sq) w w' := by
  obtain ⟨x0, h0⟩ := hc 0 (by omega)
  obtain ⟨x1, h1⟩ := hc 1 (by omega)
  obtain ⟨x2, h2⟩ := hc 2 (by omega)
  obtain ⟨x3, h3⟩ := hc 3 (by omega)
  obtain ⟨x4, h4⟩ := hc 4 (by omega)
  obtain ⟨x5, h5⟩ := hc 5 (by omega)
  obtain ⟨x6, h6⟩ := hc 6 (by omega)
  obtain ⟨x7, h7⟩ := hc 7 (by omega)
  obtain ⟨x8, h8⟩ := hc 8 (by omega)
  obtain ⟨x9, h9⟩ := hc 9 (by omega)
  obtain ⟨x10, h10⟩ := hc 10 (by omega)
  obtain ⟨x11, h11⟩ := hc 11 (by omega)
  obtain ⟨x12, h12⟩ := hc 12 (by omega)
  obtain ⟨x13, h13⟩ := hc 13 (by omega)
  obtain ⟨x14, h14⟩ := hc 14 (by omega)
  clear hc
  have hs := cell_lt h0
  have n1 : ¬ sq = w.heap.size := by omega
  have n2 : ¬ w.heap.size = sq := by omega
  unfold errV
  go_enter Tryz.func38, Tryz.ntmps38
  go_wp2
  refine bodyPost_ret (v := .tuple #[tok0, .iface 50 (.int .i64 e)]) (by simp [results, Tryz.results38, go_sem, tok0]) rfl ⟨rfl, ?_, ?_⟩
  · rw [World.cell?_alloc_lt _ _ ⟨sq, 14, none⟩ (by simp; omega)]
    refine World.cell?_setCell_same (u := x14) _ _ _ ?_
    iterate 14 rw [World.cell?_setCell_other _ _ _ _ (by simp)]
    exact h14
  · refine Chg.alloc ?_ _
    iterate 15 refine Chg.setB ?_ _ _
    exact Chg.refl _ _
end Go.Proofs.YtlhokghgicgppaaGreatDoor
namespace Go.Proofs.YtlhokghgicgppaaGreatDoor
open Go.RowKit Go.Extern
theorem ofW_any (p : Nat) (w : World) :
    Calls Tryz.prog 55 #[.pointer (some ⟨p, 0, none⟩)] w fun en w' => en = .returned (.agg #[.pointer (some ⟨p, 0, none⟩), .int .i64 0, .int .i64 0, .int .i64 (-1), .int .i64 0]) ∧ Below w.heap.size w w' := by
  go_enter Tryz.func55, Tryz.ntmps55
  go_wp2
  exact bodyPost_ret (v := .agg #[.pointer (some ⟨p, 0, none⟩), .int .i64 0, .int .i64 0, .int .i64 (-1), .int .i64 0]) (by simp [results, Tryz.results55, go_sem]) rfl ⟨rfl, (Below.refl _ _).alloc (Nat.le_refl _) _⟩
theorem token_any (a l c r : Int) (t : Sg.Bs) (w : World) :
    Calls Tryz.prog 66 #[.agg #[.int .i64 a, .int .i64 l, .int .i64 c], .int .i64 r, strV t] w fun en w' => en = .returned (tokV ⟨r, a, l, c, t⟩) ∧ Below w.heap.size w w' := by
  unfold strV tokV
  go_enter Tryz.func66, Tryz.ntmps66
  go_wp2
  exact bodyPost_ret (v := .agg #[.int .i64 r, .int .i64 a, .int .i64 l, .int .i64 c, .string ⟨t.toArray⟩]) (by simp [results, Tryz.results66, go_sem]) rfl ⟨rfl, ((Below.refl _ _).alloc (Nat.le_refl _) _).alloc (by simp) _⟩
theorem iter_below (w : World) (s : ByteArray) (pos : Nat) : Below w.heap.size w (w.iter s pos) := (Below.refl _ _).alloc (Nat.le_refl _) _
theorem lastIdx_bd (t : Sg.Bs) : ∃ k : Nat, Lib.lastIndexByte ⟨t.toArray⟩ 10 = (k : Int) - 1 ∧ k ≤ t.length ∧ (Lib.lastIndexByte ⟨t.toArray⟩ 10 + 1).toNat = k := by
  have hsz : (ByteArray.mk t.toArray).size = t.length := by simp [ByteArray.size]
  rcases Lib.lastIdx_spec ⟨t.toArray⟩ 10 (ByteArray.mk t.toArray).size with ⟨h, _⟩ | ⟨i, hi, h, _⟩
  · refine ⟨0, ?_, Nat.zero_le _, ?_⟩ <;> unfold Lib.lastIndexByte <;> rw [h] <;> rfl
  · refine ⟨i + 1, ?_, by omega, ?_⟩ <;> unfold Lib.lastIndexByte <;> rw [h] <;> omega
structure SpotAt (w : World) (b o : Nat) (L : Sg.Live) : Prop where
  c0 : w.cell? ⟨b, o, none⟩ = some (.int .i64 L.at_)
  c1 : w.cell? ⟨b, o + 1, none⟩ = some (.int .i64 L.line)
  c2 : w.cell? ⟨b, o + 2, none⟩ = some (.int .i64 L.col)
  fr : ∀ j, w.frozen? ⟨b, j, none⟩ = false
theorem SpotAt.below {w w' : World} {b o : Nat} {L : Sg.Live} (h : SpotAt w b o L) (hb : Below w.heap.size w w') : SpotAt w' b o L :=
  have hq := cell_lt h.c0
  ⟨(hb.cell (p := ⟨b, o, none⟩) hq).trans h.c0, (hb.cell (p := ⟨b, o + 1, none⟩) hq).trans h.c1, (hb.cell (p := ⟨b, o + 2, none⟩) hq).trans h.c2, fun j => (hb.frozen (p := ⟨b, j, none⟩) hq).trans (h.fr j)⟩
theorem SpotAt.set2 {w : World} {b o : Nat} {L : Sg.Live} (h : SpotAt w b o L) (x : Int) : SpotAt (w.setCell ⟨b, o + 2, none⟩ (.int .i64 x)) b o { L with col := x } :=
  ⟨(World.cell?_setCell_other _ _ _ _ (by simp)).trans h.c0, (World.cell?_setCell_other _ _ _ _ (by simp)).trans h.c1, World.cell?_setCell_same _ _ _ h.c2, fun j => by rw [World.frozen?_setCell]; exact h.fr j⟩
theorem Chg.setC {b o : Nat} {a w : World} (h : Chg (fun i j => i = b ∧ o ≤ j ∧ j ≤ o + 2) a w) (j : Nat) (hj : o ≤ j ∧ j ≤ o + 2) (v : Value) : Chg (fun i j => i = b ∧ o ≤ j ∧ j ≤ o + 2) a (w.setCell ⟨b, j, none⟩ v) := Chg.setCell (T := fun i j => i = b ∧ o ≤ j ∧ j ≤ o + 2) h ⟨rfl, hj⟩ v
theorem pass_any (b o : Nat) (L : Sg.Live) (t : Sg.Bs) (w : World) (ht : t.length < 1000000000) (ha : 0 ≤ L.at_ ∧ L.at_ < 1000000000000) (hl : 0 ≤ L.line ∧ L.line < 1000000000000) (hc : 0 ≤ L.col ∧ L.col < 1000000000000) (hS : SpotAt w b o L) :
    Calls Tryz.prog 67 #[.pointer (some ⟨b, o, none⟩), strV t] w fun en w' => (∃ v, en = .returned v) ∧ SpotAt w' b o (L.passT t) ∧ Chg (fun i j => i = b ∧ o ≤ j ∧ j ≤ o + 2) w w' := by
  have hsz : (ByteArray.mk t.toArray).size = t.length := by simp [ByteArray.size]
  have h0 := hS.c0
  have h1 := hS.c1
  have h2 := hS.c2
  have hf := hS.fr
  have hb := cell_lt h0
  obtain ⟨a, ha0⟩ : ∃ a, L.at_ = a := ⟨_, rfl⟩
  obtain ⟨l, hl0⟩ : ∃ l, L.line = l := ⟨_, rfl⟩
  obtain ⟨c, hc0⟩ : ∃ c, L.col = c := ⟨_, rfl⟩
  rw [ha0] at h0 ha
  rw [hl0] at h1 hl
  rw [hc0] at h2 hc
  have ha1 := ha.1
  have ha2 := ha.2
  have hl1 := hl.1
  have hl2 := hl.2
  have hc1 := hc.1
  have hc2 := hc.2
  clear ha hl hc
  have HC : Hid (∀ W, Calls Tryz.prog 96 #[.string ⟨t.toArray⟩, .string ⟨#[10]⟩] W fun e w' => e = .returned (.int .i64 (Lib.countByte t 10 : Nat)) ∧ w' = W) := fun W => Any.strings_Count_one Tryz.lays138 ⟨t.toArray⟩ 10 W
  have hcl : Lib.countByte t 10 ≤ t.length := List.count_le_length
  obtain ⟨k, hk1, hk2, hk3⟩ := lastIdx_bd t
  have HL : Hid (∀ W, Calls Tryz.prog 97 #[.string ⟨t.toArray⟩, .int .u8 10] W fun e w' => e = .returned (.int .i64 ((k : Int) - 1)) ∧ w' = W) := fun W => by
    have := Any.strings_LastIndexByte Tryz.lays149 ⟨t.toArray⟩ 10 (by rw [hsz]; omega) W
    rw [hk1] at this; exact this
  have hrl : ∀ x : Sg.Bs, Lib.runeCountL x ≤ x.length := fun x => by
    have := Lib.runeCount_le ⟨x.toArray⟩
    have e : (ByteArray.mk x.toArray).size = x.length := by simp [ByteArray.size]
    rw [e] at this; exact this
  have HN : Hid (∀ (x : Sg.Bs) W, x.length ≤ t.length → Calls Tryz.prog 98 #[.string ⟨x.toArray⟩] W fun e w' => e = .returned (.int .i64 (Lib.runeCountL x : Nat)) ∧ Below W.heap.size W w') := fun x W hx => by
    refine (Any.utf8_RuneCountInString Tryz.lays195 ⟨x.toArray⟩ W (by simp [ByteArray.size]; omega)).mono ?_
    rintro e w' ⟨rfl, pos, rfl⟩
    exact ⟨rfl, iter_below _ _ _⟩
  have hp : Hid (L.passT t = if 0 < Lib.countByte t 10 then { L with at_ := a + t.length, line := l + Lib.countByte t 10, col := 1 + Lib.runeCountL (t.drop k) } else { L with at_ := a + t.length, col := c + Lib.runeCountL t }) := by
    show _ = _
    unfold Sg.Live.passT
    rw [hk3, ha0, hl0, hc0]
  have Hl0 := hide2 hl0
  clear hk1 hk3 ha0 hl0 hc0
  by_cases hz : 0 < Lib.countByte t 10
  · rw [if_pos hz] at hp
    have hrd := hrl (t.drop k)
    rw [List.length_drop] at hrd
    have HX : Hid (Calls Tryz.prog 98 #[.string ((ByteArray.mk t.toArray).extract k t.length)] (((w.setCell ⟨b, o, none⟩ (.int .i64 (a + (t.length : Int)))).setCell ⟨b, o + 1, none⟩ (.int .i64 (l + (Lib.countByte t 10 : Nat)))).setCell ⟨b, o + 2, none⟩ (.int .i64 1)).drew fun e w' => e = .returned (.int .i64 (Lib.runeCountL (t.drop k) : Nat)) ∧
        SpotAt w' b o { L with at_ := a + t.length, line := l + (Lib.countByte t 10 : Nat), col := 1 } ∧ Chg (fun i j => i = b ∧ o ≤ j ∧ j ≤ o + 2) w w') := by
      rw [drop_extract]
      refine (HN.out (t.drop k) _ (by simp)).mono ?_
      rintro e w' ⟨rfl, hb'⟩
      have hb2 : Below (((w.setCell ⟨b, o, none⟩ (.int .i64 (a + (t.length : Int)))).setCell ⟨b, o + 1, none⟩ (.int .i64 (l + (Lib.countByte t 10 : Nat)))).setCell ⟨b, o + 2, none⟩ (.int .i64 1)).heap.size (((w.setCell ⟨b, o, none⟩ (.int .i64 (a + (t.length : Int)))).setCell ⟨b, o + 1, none⟩ (.int .i64 (l + (Lib.countByte t 10 : Nat)))).setCell ⟨b, o + 2, none⟩ (.int .i64 1)) w' := ⟨hb'.os, hb'.tape, hb'.output, hb'.size, hb'.block⟩
      have hS1 : SpotAt (((w.setCell ⟨b, o, none⟩ (.int .i64 (a + (t.length : Int)))).setCell ⟨b, o + 1, none⟩ (.int .i64 (l + (Lib.countByte t 10 : Nat)))).setCell ⟨b, o + 2, none⟩ (.int .i64 1)) b o { L with at_ := a + t.length, line := l + (Lib.countByte t 10 : Nat), col := 1 } := by
        have q0 := World.cell?_setCell_same w ⟨b, o, none⟩ (.int .i64 (a + (t.length : Int))) h0
        have q1 := (World.cell?_setCell_other w ⟨b, o, none⟩ ⟨b, o + 1, none⟩ (.int .i64 (a + (t.length : Int))) (by simp)).trans h1
        have q2 := (World.cell?_setCell_other w ⟨b, o, none⟩ ⟨b, o + 2, none⟩ (.int .i64 (a + (t.length : Int))) (by simp)).trans h2
        have q3 : ∀ j, (w.setCell ⟨b, o, none⟩ (.int .i64 (a + (t.length : Int)))).frozen? ⟨b, j, none⟩ = false := fun j => by rw [World.frozen?_setCell]; exact hf j
        generalize w.setCell ⟨b, o, none⟩ (.int .i64 (a + (t.length : Int))) = X1 at *
        exact ⟨(World.cell?_setCell_other _ _ _ _ (by simp)).trans ((World.cell?_setCell_other _ _ _ _ (by simp)).trans q0), (World.cell?_setCell_other _ _ _ _ (by simp)).trans (World.cell?_setCell_same _ _ _ q1), World.cell?_setCell_same _ _ _ ((World.cell?_setCell_other _ _ _ _ (by simp)).trans q2), fun j => by rw [World.frozen?_setCell, World.frozen?_setCell]; exact q3 j⟩
      refine ⟨rfl, hS1.below hb2, Chg.trans (Chg.setC (Chg.setC (Chg.setC (Chg.refl _ w) o (by omega) _) (o + 1) (by omega) _) (o + 2) (by omega) _) (Chg.of_below hb2)⟩
    unfold strV
    go_enter Tryz.func67, Tryz.ntmps67
    go_wp2_with fail
    refine (HC.out _).mono ?_
    rintro e w1 ⟨rfl, rfl⟩
    go_wp2_with fail
    refine (HL.out _).mono ?_
    rintro e w1 ⟨rfl, rfl⟩
    go_wp2
    go_region_with (go_at_call 98; refine HX.out.mono ?_; rintro e w1 ⟨rfl, hS2, hch2⟩; have f2 := hS2.fr; have d2 := hS2.c2; dsimp only at d2)
    all_goals
      go_wp2
      refine bodyPost_end (results_none rfl _ _ _) rfl ⟨⟨_, rfl⟩, ?_, Chg.setC hch2 (o + 2) (by omega) _⟩
      rw [hp.out, wrap_i64_small _ (by omega) (by omega)]
      exact hS2.set2 _
  · rw [if_neg hz] at hp
    have hrd := hrl t
    have hz' : ¬ (0 : Int) < (Lib.countByte t 10 : Nat) := by omega
    have HX : Hid (Calls Tryz.prog 98 #[.string ⟨t.toArray⟩] (w.setCell ⟨b, o, none⟩ (.int .i64 (a + (t.length : Int)))).drew fun e w' => e = .returned (.int .i64 (Lib.runeCountL t : Nat)) ∧
        SpotAt w' b o { L with at_ := a + t.length, col := c } ∧ Chg (fun i j => i = b ∧ o ≤ j ∧ j ≤ o + 2) w w') := by
      refine (HN.out t _ (Nat.le_refl _)).mono ?_
      rintro e w' ⟨rfl, hb'⟩
      have hb2 : Below (w.setCell ⟨b, o, none⟩ (.int .i64 (a + (t.length : Int)))).heap.size (w.setCell ⟨b, o, none⟩ (.int .i64 (a + (t.length : Int)))) w' := ⟨hb'.os, hb'.tape, hb'.output, hb'.size, hb'.block⟩
      have hS1 : SpotAt (w.setCell ⟨b, o, none⟩ (.int .i64 (a + (t.length : Int)))) b o { L with at_ := a + t.length, col := c } :=
        ⟨World.cell?_setCell_same _ _ _ h0, (World.cell?_setCell_other _ _ _ _ (by simp)).trans (by rw [h1, Hl0.out]), (World.cell?_setCell_other _ _ _ _ (by simp)).trans h2, fun j => by rw [World.frozen?_setCell]; exact hf j⟩
      refine ⟨rfl, hS1.below hb2, Chg.trans (Chg.setC (Chg.refl _ w) o (by omega) _) (Chg.of_below hb2)⟩
    unfold strV
    go_enter Tryz.func67, Tryz.ntmps67
    go_wp2_with fail
    refine (HC.out _).mono ?_
    rintro e w1 ⟨rfl, rfl⟩
    go_wp2
    go_region_with (go_at_call 98; refine HX.out.mono ?_; rintro e w1 ⟨rfl, hS2, hch2⟩; have f2 := hS2.fr; have d2 := hS2.c2; dsimp only at d2)
    all_goals
      go_wp2
      refine bodyPost_end (results_none rfl _ _ _) rfl ⟨⟨_, rfl⟩, ?_, Chg.setC hch2 (o + 2) (by omega) _⟩
      rw [hp.out, wrap_i64_small _ (by omega) (by omega)]
      exact hS2.set2 _
end Go.Proofs.YtlhokghgicgppaaGreatDoor
