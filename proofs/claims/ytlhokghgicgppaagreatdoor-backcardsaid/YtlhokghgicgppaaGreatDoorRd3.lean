/- accept, expect, rowEnds. -/
/- hexDigit, numbered. -/
/- ValidRune; numbered, where it is right. -/
/- What stands for itself; escape, edge, where they are right. -/
import Derived.Test.YtlhokghgicgppaaGreatDoorRd1
import Derived.Lib.Bytealg
import Derived.Lib.Walk
set_option linter.unusedSimpArgs false
set_option linter.unusedVariables false
set_option maxRecDepth 100000
set_option maxHeartbeats 4000000
namespace Go.Proofs.YtlhokghgicgppaaGreatDoor
open Go.RowKit Go.Extern
theorem fldS0 (a b : Value) (w : World) : (Instr.field 278 (.agg #[a, b]) 0).run Tryz.prog w = .ok a w := by kernel_rfl
theorem fldS1 (a b : Value) (w : World) : (Instr.field 278 (.agg #[a, b]) 1).run Tryz.prog w = .ok b w := by kernel_rfl
theorem peek_st {w wx : World} {q : Nat} {r : Sg.Rd} (h : RdSt w q wx r) :
    Calls Tryz.prog 142 #[.pointer (some ⟨q, 0, none⟩)] wx fun e w' => e = .returned (.agg #[.int .i32 r.peek.1, .int .i64 r.peek.2]) ∧ RdSt w q w' r :=
  (peek_any wx q r h.at_).mono fun _ _ ⟨he, hb⟩ => ⟨he, h.below hb⟩
theorem take_st {w wx : World} {q : Nat} {r : Sg.Rd} (h : RdSt w q wx r) :
    Calls Tryz.prog 172 #[.pointer (some ⟨q, 0, none⟩)] wx fun e w' => e = .returned (.agg #[.int .i32 r.peek.1, .int .i64 r.peek.2]) ∧ RdSt w q w' r.take.2 :=
  (take_any wx q r h.at_).mono fun _ _ ⟨he, hs⟩ => ⟨he, h.go hs⟩
theorem accept_any (w : World) (q : Nat) (r : Sg.Rd) (h : RdAt w q r) (v : Int) :
    Calls Tryz.prog 140 #[.pointer (some ⟨q, 0, none⟩), .int .i32 v] w fun e w' => e = .returned (.bool (r.accept v).1) ∧ RdSt w q w' (r.accept v).2 := by
  have S0 := RdSt.start h
  have q0 := fldS0
  have q1 := fldS1
  have HP := hide2 (fun wx (hx : RdSt w q wx r) => peek_st hx)
  have HT := hide2 (fun wx (hx : RdSt w q wx r) => take_st hx)
  unfold Sg.Rd.accept
  clear h
  generalize r.peek.1 = p1 at *
  generalize r.peek.2 = p2 at *
  generalize r.take.2 = r2 at *
  by_cases hv : p1 = v
  · subst hv
    rw [if_pos rfl]
    go_enter Tryz.func140, Tryz.ntmps140
    go_wp2_with (first
      | (go_at_call 142; refine (HP.out _ (by assumption)).mono ?_; rintro e w1 ⟨rfl, S1⟩)
      | (go_at_call 172; refine (HT.out _ (by assumption)).mono ?_; rintro e w2 ⟨rfl, S2⟩))
    go_ret
    exact ⟨rfl, S2⟩
  · rw [if_neg hv]
    go_enter Tryz.func140, Tryz.ntmps140
    go_wp2_with (go_at_call 142; refine (HP.out _ (by assumption)).mono ?_; rintro e w1 ⟨rfl, S1⟩)
    go_ret
    exact ⟨rfl, S1⟩
theorem accept_st {w wx : World} {q : Nat} {r : Sg.Rd} (h : RdSt w q wx r) (v : Int) :
    Calls Tryz.prog 140 #[.pointer (some ⟨q, 0, none⟩), .int .i32 v] wx fun e w' => e = .returned (.bool (r.accept v).1) ∧ RdSt w q w' (r.accept v).2 :=
  (accept_any wx q r h.at_ v).mono fun _ _ ⟨he, hs⟩ => ⟨he, h.go hs⟩
theorem accept_yes {r : Sg.Rd} {v : Int} (h : r.peek.1 = v) : r.accept v = (true, r.take.2) := by unfold Sg.Rd.accept; rw [if_pos h]
theorem accept_no {r : Sg.Rd} {v : Int} (h : r.peek.1 ≠ v) : r.accept v = (false, r) := by unfold Sg.Rd.accept; rw [if_neg h]
theorem expect_any (w : World) (q : Nat) (r : Sg.Rd) (h : RdAt w q r) (v : Int) (hv : r.peek.1 = v) :
    Calls Tryz.prog 103 #[.pointer (some ⟨q, 0, none⟩), .int .i32 v] w fun e w' => e = .returned (.tuple #[]) ∧ RdSt w q w' r.take.2 := by
  have hA := accept_any w q r h v
  rw [accept_yes hv] at hA
  have HA := hide2 hA
  clear hA h
  generalize r.take.2 = r2 at *
  go_enter Tryz.func103, Tryz.ntmps103
  go_wp2_with (go_at_call 140; refine HA.out.mono ?_; rintro e w1 ⟨rfl, S1⟩)
  go_end0
  exact ⟨rfl, S1⟩
theorem rowEnds_any (w : World) (q : Nat) (r : Sg.Rd) (h : RdAt w q r) :
    Calls Tryz.prog 170 #[.pointer (some ⟨q, 0, none⟩)] w fun e w' => e = .returned (.bool (decide (r.peek.1 = 124 ∨ r.peek.1 = 41 ∨ r.peek.1 = -1))) ∧ RdSt w q w' r := by
  have S0 := RdSt.start h
  have q0 := fldS0
  have q1 := fldS1
  have HP := hide2 (peek_st S0)
  clear h
  generalize r.peek.1 = p1 at *
  generalize r.peek.2 = p2 at *
  by_cases h1 : p1 = 124
  · subst h1
    rw [decide_eq_true (.inl rfl)]
    go_enter Tryz.func170, Tryz.ntmps170
    go_wp2_with (go_at_call 142; refine HP.out.mono ?_; rintro e w1 ⟨rfl, S1⟩)
    go_ret
    exact ⟨rfl, S1⟩
  · by_cases h2 : p1 = 41
    · subst h2
      rw [decide_eq_true (.inr (.inl rfl))]
      go_enter Tryz.func170, Tryz.ntmps170
      go_wp2_with (go_at_call 142; refine HP.out.mono ?_; rintro e w1 ⟨rfl, S1⟩)
      go_ret
      exact ⟨rfl, S1⟩
    · by_cases h3 : p1 = -1
      · subst h3
        rw [decide_eq_true (.inr (.inr rfl))]
        go_enter Tryz.func170, Tryz.ntmps170
        go_wp2_with (go_at_call 142; refine HP.out.mono ?_; rintro e w1 ⟨rfl, S1⟩)
        go_ret
        exact ⟨rfl, S1⟩
      · rw [decide_eq_false (by rintro (h | h | h) <;> contradiction)]
        go_enter Tryz.func170, Tryz.ntmps170
        go_wp2_with (go_at_call 142; refine HP.out.mono ?_; rintro e w1 ⟨rfl, S1⟩)
        go_ret
        exact ⟨rfl, S1⟩
end Go.Proofs.YtlhokghgicgppaaGreatDoor
namespace Go.Proofs.YtlhokghgicgppaaGreatDoor
open Go.RowKit Go.Extern
theorem hexDigit_some (w : World) (v x : Int) (h : Sg.hexDigit v = some x) :
    Calls Tryz.prog 232 #[.int .i32 v] w fun e w' => e = .returned (.tuple #[.int .i32 x, .bool true]) ∧ w' = w := by
  unfold Sg.hexDigit at h
  split at h
  · rename_i h1
    obtain ⟨h1, h2⟩ := h1
    simp only [Option.some.injEq] at h
    subst h
    go_enter Tryz.func232, Tryz.ntmps232
    go_wp2
    go_ret2
    exact ⟨rfl, rfl⟩
  · rename_i h0
    split at h
    · rename_i h1
      obtain ⟨h1, h2⟩ := h1
      simp only [Option.some.injEq] at h
      subst h
      have g : ¬ v ≤ 57 := by omega
      have g2 : 48 ≤ v := by omega
      have e1 : v - 97 + 10 = v - 87 := by omega
      go_enter Tryz.func232, Tryz.ntmps232
      go_wp2
      go_ret2
      exact ⟨rfl, rfl⟩
    · rename_i h3
      split at h
      · rename_i h1
        obtain ⟨h1, h2⟩ := h1
        simp only [Option.some.injEq] at h
        subst h
        have g : ¬ v ≤ 57 := by omega
        have g2 : 48 ≤ v := by omega
        have g3 : ¬ 97 ≤ v := by omega
        have e1 : v - 65 + 10 = v - 55 := by omega
        go_enter Tryz.func232, Tryz.ntmps232
        go_wp2
        go_ret2
        exact ⟨rfl, rfl⟩
      · cases h
theorem hexDigit_none (w : World) (v : Int) (h : Sg.hexDigit v = none) :
    Calls Tryz.prog 232 #[.int .i32 v] w fun e w' => e = .returned (.tuple #[.int .i32 0, .bool false]) ∧ w' = w := by
  unfold Sg.hexDigit at h
  split at h
  · cases h
  · rename_i h1
    split at h
    · cases h
    · rename_i h2
      split at h
      · cases h
      · rename_i h3
        by_cases a1 : 48 ≤ v <;> by_cases a2 : v ≤ 57 <;> by_cases a3 : 97 ≤ v <;> by_cases a4 : v ≤ 102 <;> by_cases a5 : 65 ≤ v <;> by_cases a6 : v ≤ 70
        all_goals first
          | (exfalso; omega)
          | (clear h1 h2 h3 h
             go_enter Tryz.func232, Tryz.ntmps232
             go_wp2
             go_ret2
             exact ⟨rfl, rfl⟩)
end Go.Proofs.YtlhokghgicgppaaGreatDoor
namespace Go.Proofs.YtlhokghgicgppaaGreatDoor
open Go.RowKit Go.Extern
theorem validRune_yes (w : World) (v : Int) (h : Sg.validRune v = true) :
    Calls Tryz.prog 233 #[.int .i32 v] w fun e w' => e = .returned (.bool true) ∧ w' = w := by
  have h' : (0 ≤ v ∧ v < 55296) ∨ (57343 < v ∧ v ≤ 1114111) := by
    unfold Sg.validRune at h; simpa using h
  rcases h' with ⟨h1, h2⟩ | ⟨h1, h2⟩
  · go_enter Tryz.func233, Tryz.ntmps233
    go_wp2
    go_ret
    exact ⟨rfl, rfl⟩
  · have g1 : 0 ≤ v := by omega
    have g2 : ¬ v < 55296 := by omega
    go_enter Tryz.func233, Tryz.ntmps233
    go_wp2
    go_ret
    exact ⟨rfl, rfl⟩
theorem numbered_some (w : World) (q : Nat) (r : Sg.Rd) (h : RdAt w q r) (x : Int) (r' : Sg.Rd) (hx : r.numbered = (some x, r')) :
    Calls Tryz.prog 225 #[.pointer (some ⟨q, 0, none⟩)] w fun e w' => e = .returned (.tuple #[.int .i32 x, .bool true]) ∧ RdSt w q w' r' := by
  have S0 := RdSt.start h
  have q0 := fldS0
  clear h
  unfold Sg.Rd.numbered at hx
  dsimp only at hx
  split at hx
  case isFalse => cases hx
  rename_i ha
  split at hx
  case isFalse => cases hx
  rename_i hd
  split at hx
  case isFalse => cases hx
  rename_i hb
  simp only [Prod.mk.injEq, Option.some.injEq] at hx
  rw [Bool.and_eq_true] at hb
  have HA := hide2 (accept_st S0 123)
  rw [ha] at HA
  generalize hr1 : (r.accept 123).2 = r1 at *
  generalize hfin : Sg.hexGo 6 0 0 r1 = fin at *
  have H0 := hide2 hfin
  have HX := hide2 (And.intro hd (And.intro hb hx))
  clear hfin hd hb hx ha hr1
  go_enter Tryz.func225, Tryz.ntmps225
  go_wp2_with (go_at_call 140; refine HA.out.mono ?_; rintro e w1 ⟨rfl, S1⟩)
  clear HA S0
  go_loopw [4, 5] (fun vv dv wr => ∃ (k d : Nat) (v : Int) (r2 : Sg.Rd), vv = .int .i32 v ∧ dv = .int .i64 d ∧ d + k = 6 ∧ 0 ≤ v ∧ v < ((16 ^ d : Nat) : Int) ∧ RdSt w q wr r2 ∧ Hid (Sg.hexGo k v d r2 = fin)) (fun _ dv _ => 6 - (intOf dv).toNat)
  case atStart => exact ⟨6, 0, 0, r1, rfl, rfl, rfl, by omega, by decide, S1, H0⟩
  case round =>
    obtain ⟨k, d, v, r2, rfl, rfl, hdk, hv0, hv1, S, H⟩ := hrel
    -- the loop's end
    have fin_way : ∀ (hf : fin = (v, d, r2)) , True := fun _ => trivial
    match k, hdk, H with
    | 0, hdk, H =>
      obtain rfl : d = 6 := by omega
      have hf := H.out
      unfold Sg.hexGo at hf
      have hX := HX.out
      rw [← hf] at hX
      obtain ⟨_, ⟨hb1, hb2⟩, hx1, hx2⟩ := hX
      have HAc := hide2 (accept_st S 125)
      rw [hb1] at HAc
      have HV := hide2 (fun wx => validRune_yes wx v hb2)
      dsimp only at hx1 hx2
      rw [hx2] at HAc
      subst hx1
      clear hf HX H H0 hb2 hb1 hx2
      go_wp2_with (first
        | (go_at_call 140; refine HAc.out.mono ?_; rintro e w2 ⟨rfl, S2⟩)
        | (go_at_call 233; refine (HV.out _).mono ?_; rintro e w3 ⟨rfl, rfl⟩))
      go_ret2
      exact ⟨rfl, S2⟩
    | k + 1, hdk, H =>
      have hf := H.out
      unfold Sg.hexGo at hf
      have HP := hide2 (peek_st S)
      have hd6 : (d : Int) < 6 := by omega
      cases hh : Sg.hexDigit r2.peek.1 with
      | none =>
        rw [hh] at hf
        dsimp only at hf
        have HH := hide2 (fun wx => hexDigit_none wx r2.peek.1 hh)
        generalize r2.peek.1 = p1 at *
        generalize r2.peek.2 = p2 at *
        have hX := HX.out
        rw [← hf] at hX
        obtain ⟨hd0, ⟨hb1, hb2⟩, hx1, hx2⟩ := hX
        have HAc := hide2 (fun wx (hx : RdSt w q wx r2) => accept_st hx 125)
        rw [hb1] at HAc
        have HV := hide2 (fun wx => validRune_yes wx v hb2)
        dsimp only at hx1 hx2 hd0
        rw [hx2] at HAc
        subst hx1
        have hd1 : 0 < (d : Int) := by omega
        clear hf HX H H0 hb2 hb1 hx2 hd0
        go_wp2_with (first
          | (go_at_call 142; refine HP.out.mono ?_; rintro e w2 ⟨rfl, S2⟩)
          | (go_at_call 232; refine (HH.out _).mono ?_; rintro e w3 ⟨rfl, rfl⟩)
          | (go_at_call 140; refine (HAc.out _ (by assumption)).mono ?_; rintro e w4 ⟨rfl, S4⟩)
          | (go_at_call 233; refine (HV.out _).mono ?_; rintro e w5 ⟨rfl, rfl⟩))
        go_ret2
        exact ⟨rfl, S4⟩
      | some y =>
        rw [hh] at hf
        dsimp only at hf
        have HH := hide2 (fun wx => hexDigit_some wx r2.peek.1 y hh)
        have hy : 0 ≤ y ∧ y ≤ 15 := by
          unfold Sg.hexDigit at hh
          split at hh
          · simp only [Option.some.injEq] at hh; omega
          · split at hh
            · simp only [Option.some.injEq] at hh; omega
            · split at hh
              · simp only [Option.some.injEq] at hh; omega
              · cases hh
        have HT := hide2 (fun wx (hx : RdSt w q wx r2) => take_st hx)
        have Hf := hide2 hf
        generalize r2.peek.1 = p1 at *
        generalize r2.peek.2 = p2 at *
        generalize r2.take.2 = r3 at *
        have hpw : 16 ^ d ≤ 16 ^ 5 := Nat.pow_le_pow_right (by decide) (by omega)
        have hps : (16 : Nat) ^ (d + 1) = 16 ^ d * 16 := Nat.pow_succ ..
        have hpn : (16 : Nat) ^ 5 = 1048576 := by decide
        rw [hpn] at hpw
        have hvb : v < 1048576 := by omega
        have HPw := hide2 (And.intro hv1 hps)
        clear hf HX H H0 hh hpw hps hpn hv1
        go_wp2_with (first
          | (go_at_call 142; refine HP.out.mono ?_; rintro e w2 ⟨rfl, S2⟩)
          | (go_at_call 232; refine (HH.out _).mono ?_; rintro e w3 ⟨rfl, rfl⟩)
          | (go_at_call 172; refine (HT.out _ (by assumption)).mono ?_; rintro e w4 ⟨rfl, S4⟩))
        obtain ⟨g1, g2⟩ := HPw.out
        refine ⟨⟨k, d + 1, v * 16 + y, r3, by go_num, by go_num, by omega, by omega, ?_, S4, Hf⟩, by simp [intOf]; omega⟩
        rw [g2]
        generalize 16 ^ d = z at *
        omega
end Go.Proofs.YtlhokghgicgppaaGreatDoor
namespace Go.Proofs.YtlhokghgicgppaaGreatDoor
open Go.RowKit Go.Extern
theorem indexByte_any (s : ByteArray) (c : Int) (w : World) :
    Calls Tryz.prog 179 #[.string s, .int .u8 c] w fun e w' => e = .returned (.int .i64 (Lib.indexByte s.data.toList c.toNat.toUInt8)) ∧ w' = w := by
  go_enter Tryz.func179, Tryz.ntmps179
  go_wp2
  rw [run_callFunc_extern Tryz.func199 (by kernel_rfl) (by kernel_rfl) (by kernel_rfl) (e := Extern.BytealgIndexByte.indexByte) (by kernel_rfl), Lib.run_indexByteString]
  simp only [Result.andThen]
  rw [Oper.upon_value]
  go_wp2
  go_ret
  exact ⟨rfl, rfl⟩
def selfB : ByteArray := { data := #[40, 41, 91, 93, 123, 125, 124, 42, 43, 63, 46, 92, 45, 94] }
theorem self_at : ∀ v ∈ Sg.themselves, 0 ≤ v ∧ v < 128 ∧ 0 ≤ Lib.indexByte selfB.data.toList v.toNat.toUInt8 := by decide
theorem containsRune_yes (v : Int) (h : v ∈ Sg.themselves) (w : World) :
    Calls Tryz.prog 226 #[.string selfB, .int .i32 v] w fun e w' => e = .returned (.bool true) ∧ w' = w := by
  obtain ⟨h0, h1, h2⟩ := self_at v h
  have HI : Hid (∀ wx, Calls Tryz.prog 234 #[.string selfB, .int .i32 v] wx fun e w' => e = .returned (.int .i64 (Lib.indexByte selfB.data.toList v.toNat.toUInt8)) ∧ w' = wx) := by
    refine hide2 (fun wx => ?_)
    have HS : Hid (∀ wy, Calls Tryz.prog 244 #[.string selfB, .int .u8 v] wy fun e w' => e = .returned (.int .i64 (Lib.indexByte selfB.data.toList v.toNat.toUInt8)) ∧ w' = wy) := by
      refine hide2 (fun wy => ?_)
      have HB := hide2 (fun wz => indexByte_any selfB v wz)
      generalize Lib.indexByte selfB.data.toList v.toNat.toUInt8 = z at *
      generalize selfB = s at *
      go_enter Tryz.func244, Tryz.ntmps244
      go_wp2_with (go_at_call 179; refine (HB.out _).mono ?_; rintro e w2 ⟨rfl, rfl⟩)
      go_ret
      exact ⟨rfl, rfl⟩
    generalize Lib.indexByte selfB.data.toList v.toNat.toUInt8 = z at *
    generalize selfB = s at *
    go_enter Tryz.func234, Tryz.ntmps234
    go_wp2_with (go_at_call 244; refine (HS.out _).mono ?_; rintro e w2 ⟨rfl, rfl⟩)
    go_ret
    exact ⟨rfl, rfl⟩
  generalize Lib.indexByte selfB.data.toList v.toNat.toUInt8 = z at *
  generalize selfB = s at *
  go_enter Tryz.func226, Tryz.ntmps226
  go_wp2_with (go_at_call 234; refine (HI.out _).mono ?_; rintro e w2 ⟨rfl, rfl⟩)
  go_ret
  exact ⟨rfl, rfl⟩
theorem numbered_st {w wx : World} {q : Nat} {r : Sg.Rd} (h : RdSt w q wx r) {x : Int} {r' : Sg.Rd} (hx : r.numbered = (some x, r')) :
    Calls Tryz.prog 225 #[.pointer (some ⟨q, 0, none⟩)] wx fun e w' => e = .returned (.tuple #[.int .i32 x, .bool true]) ∧ RdSt w q w' r' :=
  (numbered_some wx q r h.at_ x r' hx).mono fun _ _ ⟨he, hs⟩ => ⟨he, h.go hs⟩
theorem escape_any (w : World) (q : Nat) (r : Sg.Rd) (h : RdAt w q r) (x : Int) (r' : Sg.Rd) (hx : r.escape = .ok (x, r')) :
    Calls Tryz.prog 206 #[.pointer (some ⟨q, 0, none⟩)] w fun e w' => e = .returned (.int .i32 x) ∧ RdSt w q w' r' := by
  have S0 := RdSt.start h
  clear h
  have HT := hide2 (take_st S0)
  have HT2 := hide2 (fun wx (hx : RdSt w q wx r.take.2) => take_st hx)
  unfold Sg.Rd.escape at hx
  dsimp only at hx
  have e1 : r.take.2.take.1 = r.take.2.peek := rfl
  rw [e1] at hx
  clear e1
  generalize r.peek.1 = a1 at *
  generalize r.peek.2 = a2 at *
  generalize r.take.2 = r1 at *
  generalize hp1 : r1.peek.1 = p1 at *
  generalize r1.peek.2 = p2 at *
  generalize r1.take.2 = r2 at *
  clear hp1
  have go : ∀ (y : Int) (r3 : Sg.Rd), (p1 = 110 ∧ y = 10 ∧ r3 = r2) ∨ (p1 = 116 ∧ y = 9 ∧ r3 = r2) ∨ (p1 = 114 ∧ y = 13 ∧ r3 = r2) ∨ (p1 = 117 ∧ r2.numbered = (some y, r3)) ∨ (p1 ∈ Sg.themselves ∧ y = p1 ∧ r3 = r2) →
      Calls Tryz.prog 206 #[.pointer (some ⟨q, 0, none⟩)] w fun e w' => e = .returned (.int .i32 y) ∧ RdSt w q w' r3 := by
    clear hx
    intro y r3 hc
    rcases hc with ⟨rfl, rfl, rfl⟩ | ⟨rfl, rfl, rfl⟩ | ⟨rfl, rfl, rfl⟩ | ⟨rfl, hn⟩ | ⟨hm, hy, rfl⟩
    · go_enter Tryz.func206, Tryz.ntmps206
      go_wp2_with (first
        | (go_at_call 172; refine HT.out.mono ?_; clear HT; rintro e w1 ⟨rfl, S1⟩)
        | (go_at_call 172; refine (HT2.out _ (RdSt.alloc (by assumption) _)).mono ?_; clear HT2; rintro e w2 ⟨rfl, S2⟩))
      go_ret
      exact ⟨rfl, S2.alloc _⟩
    · go_enter Tryz.func206, Tryz.ntmps206
      go_wp2_with (first
        | (go_at_call 172; refine HT.out.mono ?_; clear HT; rintro e w1 ⟨rfl, S1⟩)
        | (go_at_call 172; refine (HT2.out _ (RdSt.alloc (by assumption) _)).mono ?_; clear HT2; rintro e w2 ⟨rfl, S2⟩))
      go_ret
      exact ⟨rfl, S2.alloc _⟩
    · go_enter Tryz.func206, Tryz.ntmps206
      go_wp2_with (first
        | (go_at_call 172; refine HT.out.mono ?_; clear HT; rintro e w1 ⟨rfl, S1⟩)
        | (go_at_call 172; refine (HT2.out _ (RdSt.alloc (by assumption) _)).mono ?_; clear HT2; rintro e w2 ⟨rfl, S2⟩))
      go_ret
      exact ⟨rfl, S2.alloc _⟩
    · have HN := hide2 (fun wx (hx : RdSt w q wx r2) => numbered_st hx hn)
      clear hn
      go_enter Tryz.func206, Tryz.ntmps206
      go_wp2_with (first
        | (go_at_call 172; refine HT.out.mono ?_; clear HT; rintro e w1 ⟨rfl, S1⟩)
        | (go_at_call 172; refine (HT2.out _ (RdSt.alloc (by assumption) _)).mono ?_; clear HT2; rintro e w2 ⟨rfl, S2⟩)
        | (go_at_call 225; refine (HN.out _ (RdSt.alloc (by assumption) _)).mono ?_; clear HN; rintro e w3 ⟨rfl, S3⟩))
      go_ret
      exact ⟨rfl, S3⟩
    · rw [hy]
      clear hy
      have HC := hide2 (fun wx => containsRune_yes p1 hm wx)
      unfold selfB at HC
      have hn1 : ¬ p1 = 110 := by rintro rfl; revert hm; decide
      have hn2 : ¬ p1 = 116 := by rintro rfl; revert hm; decide
      have hn3 : ¬ p1 = 114 := by rintro rfl; revert hm; decide
      have hn4 : ¬ p1 = 117 := by rintro rfl; revert hm; decide
      clear hm
      go_enter Tryz.func206, Tryz.ntmps206
      go_wp2_with (first
        | (go_at_call 172; refine HT.out.mono ?_; clear HT; rintro e w1 ⟨rfl, S1⟩)
        | (go_at_call 172; refine (HT2.out _ (RdSt.alloc (by assumption) _)).mono ?_; clear HT2; rintro e w2 ⟨rfl, S2⟩)
        | (go_at_call 226; refine (HC.out _).mono ?_; clear HC; rintro e w3 ⟨rfl, rfl⟩))
      go_ret
      exact ⟨rfl, S2.alloc _⟩
  apply go
  split at hx
  · rename_i h1
    cases hx; exact .inl ⟨h1, rfl, rfl⟩
  · split at hx
    · rename_i h1
      cases hx; exact .inr (.inl ⟨h1, rfl, rfl⟩)
    · split at hx
      · rename_i h1
        cases hx; exact .inr (.inr (.inl ⟨h1, rfl, rfl⟩))
      · split at hx
        · rename_i h1
          split at hx
          · rename_i v r3 hn
            cases hx; exact .inr (.inr (.inr (.inl ⟨h1, hn⟩)))
          · cases hx
        · split at hx
          · rename_i h1
            cases hx; exact .inr (.inr (.inr (.inr ⟨by simpa using h1, rfl, rfl⟩)))
          · cases hx
end Go.Proofs.YtlhokghgicgppaaGreatDoor
