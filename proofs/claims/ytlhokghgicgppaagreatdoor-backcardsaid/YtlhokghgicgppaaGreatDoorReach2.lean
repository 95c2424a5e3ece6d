/- walk.reach. -/
/- walk.reach, over a list of bytes. -/
import Derived.Test.YtlhokghgicgppaaGreatDoorCompA
import Derived.Laws.DeepBits32
set_option linter.unusedSimpArgs false
set_option linter.unusedVariables false
set_option maxRecDepth 100000
set_option maxHeartbeats 4000000
namespace Go.Proofs.YtlhokghgicgppaaGreatDoor
open Go.RowKit Go.Extern
theorem i32_or_add (a r k : Nat) (hr : r < 2 ^ k) (h : a * 2 ^ k + r < 2147483648) : bits .or .i32 ((a * 2 ^ k : Nat) : Int) (r : Int) = ((a * 2 ^ k + r : Nat) : Int) := by
  show IntKind.i32.wrap ((BitVec.ofInt 32 ((a * 2 ^ k : Nat) : Int) ||| BitVec.ofInt 32 (r : Int)).toNat : Int) = _
  rw [BitVec.toNat_or, ofInt_u32 _ (by omega), ofInt_u32 r (by omega), show a * 2 ^ k ||| r = a * 2 ^ k + r by rw [Nat.mul_comm a]; exact (Nat.two_pow_add_eq_or_of_lt hr a).symm]
  exact wrap_i32_small _ (by omega) (by omega)
theorem or6 (a r : Int) (h0 : 0 ≤ a) (hr0 : 0 ≤ r) (hr : r < 64) (h : a < 33554432) : bits .or .i32 (a * 64) r = a * 64 + r := by
  have := i32_or_add a.toNat r.toNat 6 (by omega) (by omega)
  rw [show ((a.toNat * 2 ^ 6 : Nat) : Int) = a * 64 by omega, show ((r.toNat : Nat) : Int) = r by omega, show ((a.toNat * 2 ^ 6 + r.toNat : Nat) : Int) = a * 64 + r by omega] at this
  exact this
theorem or12 (a : Int) (h0 : 0 ≤ a) (h : a < 524288) : bits .or .i32 (a * 4096) 4095 = a * 4096 + 4095 := by
  have := i32_or_add a.toNat 4095 12 (by omega) (by omega)
  rw [show ((a.toNat * 2 ^ 12 : Nat) : Int) = a * 4096 by omega, show ((a.toNat * 2 ^ 12 + 4095 : Nat) : Int) = a * 4096 + 4095 by omega] at this
  exact this
theorem or18 (a : Int) (h0 : 0 ≤ a) (h : a < 8192) : bits .or .i32 (a * 262144) 262143 = a * 262144 + 262143 := by
  have := i32_or_add a.toNat 262143 18 (by omega) (by omega)
  rw [show ((a.toNat * 2 ^ 18 : Nat) : Int) = a * 262144 by omega, show ((a.toNat * 2 ^ 18 + 262143 : Nat) : Int) = a * 262144 + 262143 by omega] at this
  exact this
theorem reach_21 (k0 b o cap : Nat) (w : World) (h0 : w.cell? ⟨b, o, none⟩ = some (.int .u8 k0)) (c0 : (k0 : Int) < 224) (hk0 : (k0 : Int) < 256) (hcap : 1 ≤ cap) :
    Calls Tryz.prog 62 #[.slice (some ⟨b, o, none⟩) 1 cap] w fun e w' => e = .returned (.tuple #[.int .i32 (max ((k0 % 32 : Int) * 64) 0), .int .i32 (min ((k0 % 32 : Int) * 64 + 63) 1114111)]) ∧ ∃ n, w' = w.drewN n := by
  have c1 : (k0 : Int) < 240 := by omega
  rcases Nat.lt_or_ge 1 cap with hc | hc
  · go_enter Tryz.func62, Tryz.ntmps62
    go_wp2
    go_quiet (fail)
    go_wp2
    have o9 := or6 (k0 % 32 : Int) 63 (by omega) (by omega) (by omega) (by omega)
    go_loop [2, 29] (fun lo i => (i = .int .i64 0 ∧ lo = .int .i32 (k0 % 32 : Int))) (fun _ i => 0 - (intOf i).toNat)
    case atStart => exact ⟨rfl, rfl⟩
    case round =>
      obtain ⟨rfl, rfl⟩ := hrel
      · go_wp2
        go_ret2
        exact ⟨rfl, _, rfl⟩
  · obtain rfl : cap = 1 := by omega
    go_enter Tryz.func62, Tryz.ntmps62
    go_wp2
    go_quiet (fail)
    go_wp2
    have o9 := or6 (k0 % 32 : Int) 63 (by omega) (by omega) (by omega) (by omega)
    go_loop [2, 29] (fun lo i => (i = .int .i64 0 ∧ lo = .int .i32 (k0 % 32 : Int))) (fun _ i => 0 - (intOf i).toNat)
    case atStart => exact ⟨rfl, rfl⟩
    case round =>
      obtain ⟨rfl, rfl⟩ := hrel
      · go_wp2
        go_ret2
        exact ⟨rfl, _, rfl⟩
theorem reach_31 (k0 b o cap : Nat) (w : World) (h0 : w.cell? ⟨b, o, none⟩ = some (.int .u8 k0)) (c0 : (k0 : Int) < 240) (c1 : (224 : Int) ≤ k0) (hk0 : (k0 : Int) < 256) (hcap : 1 ≤ cap) :
    Calls Tryz.prog 62 #[.slice (some ⟨b, o, none⟩) 1 cap] w fun e w' => e = .returned (.tuple #[.int .i32 (max ((k0 % 16 : Int) * 4096) 2048), .int .i32 (min ((k0 % 16 : Int) * 4096 + 4095) 1114111)]) ∧ ∃ n, w' = w.drewN n := by
  rcases Nat.lt_or_ge 1 cap with hc | hc
  · go_enter Tryz.func62, Tryz.ntmps62
    go_wp2
    go_quiet (fail)
    go_wp2
    have o9 := or12 (k0 % 16 : Int) (by omega) (by omega)
    go_loop [2, 29] (fun lo i => (i = .int .i64 0 ∧ lo = .int .i32 (k0 % 16 : Int))) (fun _ i => 0 - (intOf i).toNat)
    case atStart => exact ⟨rfl, rfl⟩
    case round =>
      obtain ⟨rfl, rfl⟩ := hrel
      · go_wp2
        go_ret2
        exact ⟨rfl, _, rfl⟩
  · obtain rfl : cap = 1 := by omega
    go_enter Tryz.func62, Tryz.ntmps62
    go_wp2
    go_quiet (fail)
    go_wp2
    have o9 := or12 (k0 % 16 : Int) (by omega) (by omega)
    go_loop [2, 29] (fun lo i => (i = .int .i64 0 ∧ lo = .int .i32 (k0 % 16 : Int))) (fun _ i => 0 - (intOf i).toNat)
    case atStart => exact ⟨rfl, rfl⟩
    case round =>
      obtain ⟨rfl, rfl⟩ := hrel
      · go_wp2
        go_ret2
        exact ⟨rfl, _, rfl⟩
theorem reach_41 (k0 b o cap : Nat) (w : World) (h0 : w.cell? ⟨b, o, none⟩ = some (.int .u8 k0)) (c0 : (240 : Int) ≤ k0) (hk0 : (k0 : Int) < 256) (hcap : 1 ≤ cap) :
    Calls Tryz.prog 62 #[.slice (some ⟨b, o, none⟩) 1 cap] w fun e w' => e = .returned (.tuple #[.int .i32 (max ((k0 % 8 : Int) * 262144) 65536), .int .i32 (min ((k0 % 8 : Int) * 262144 + 262143) 1114111)]) ∧ ∃ n, w' = w.drewN n := by
  rcases Nat.lt_or_ge 1 cap with hc | hc
  · go_enter Tryz.func62, Tryz.ntmps62
    go_wp2
    go_quiet (fail)
    go_wp2
    have o9 := or18 (k0 % 8 : Int) (by omega) (by omega)
    go_loop [2, 29] (fun lo i => (i = .int .i64 0 ∧ lo = .int .i32 (k0 % 8 : Int))) (fun _ i => 0 - (intOf i).toNat)
    case atStart => exact ⟨rfl, rfl⟩
    case round =>
      obtain ⟨rfl, rfl⟩ := hrel
      · go_wp2
        go_ret2
        exact ⟨rfl, _, rfl⟩
  · obtain rfl : cap = 1 := by omega
    go_enter Tryz.func62, Tryz.ntmps62
    go_wp2
    go_quiet (fail)
    go_wp2
    have o9 := or18 (k0 % 8 : Int) (by omega) (by omega)
    go_loop [2, 29] (fun lo i => (i = .int .i64 0 ∧ lo = .int .i32 (k0 % 8 : Int))) (fun _ i => 0 - (intOf i).toNat)
    case atStart => exact ⟨rfl, rfl⟩
    case round =>
      obtain ⟨rfl, rfl⟩ := hrel
      · go_wp2
        go_ret2
        exact ⟨rfl, _, rfl⟩
theorem reach_32 (k0 k1 b o cap : Nat) (w : World) (h0 : w.cell? ⟨b, o, none⟩ = some (.int .u8 k0)) (h1 : w.cell? ⟨b, o + 1, none⟩ = some (.int .u8 k1)) (c0 : (k0 : Int) < 240) (c1 : (224 : Int) ≤ k0) (hk0 : (k0 : Int) < 256) (hk1 : (k1 : Int) < 256) (hcap : 2 ≤ cap) :
    Calls Tryz.prog 62 #[.slice (some ⟨b, o, none⟩) 2 cap] w fun e w' => e = .returned (.tuple #[.int .i32 (max (((k0 % 16 : Int) * 64 + (k1 % 64 : Int)) * 64) 2048), .int .i32 (min (((k0 % 16 : Int) * 64 + (k1 % 64 : Int)) * 64 + 63) 1114111)]) ∧ ∃ n, w' = w.drewN n := by
  have hc : 1 < cap := by omega
  go_enter Tryz.func62, Tryz.ntmps62
  go_wp2
  go_quiet (fail)
  go_wp2
  have o1 := or6 (k0 % 16 : Int) (k1 % 64 : Int) (by omega) (by omega) (by omega) (by omega)
  have o9 := or6 ((k0 % 16 : Int) * 64 + (k1 % 64 : Int)) 63 (by omega) (by omega) (by omega) (by omega)
  go_loop [2, 29] (fun lo i => (i = .int .i64 0 ∧ lo = .int .i32 (k0 % 16 : Int)) ∨ (i = .int .i64 1 ∧ lo = .int .i32 ((k0 % 16 : Int) * 64 + (k1 % 64 : Int)))) (fun _ i => 1 - (intOf i).toNat)
  case atStart => exact .inl ⟨rfl, rfl⟩
  case round =>
    rcases hrel with ⟨rfl, rfl⟩ | ⟨rfl, rfl⟩
    · go_wp2
      go_round
      case rel => exact .inr ⟨rfl, rfl⟩
      case measure => simp [intOf]
    · go_wp2
      go_ret2
      exact ⟨rfl, _, rfl⟩
theorem reach_42 (k0 k1 b o cap : Nat) (w : World) (h0 : w.cell? ⟨b, o, none⟩ = some (.int .u8 k0)) (h1 : w.cell? ⟨b, o + 1, none⟩ = some (.int .u8 k1)) (c0 : (240 : Int) ≤ k0) (hk0 : (k0 : Int) < 256) (hk1 : (k1 : Int) < 256) (hcap : 2 ≤ cap) :
    Calls Tryz.prog 62 #[.slice (some ⟨b, o, none⟩) 2 cap] w fun e w' => e = .returned (.tuple #[.int .i32 (max (((k0 % 8 : Int) * 64 + (k1 % 64 : Int)) * 4096) 65536), .int .i32 (min (((k0 % 8 : Int) * 64 + (k1 % 64 : Int)) * 4096 + 4095) 1114111)]) ∧ ∃ n, w' = w.drewN n := by
  have hc : 1 < cap := by omega
  go_enter Tryz.func62, Tryz.ntmps62
  go_wp2
  go_quiet (fail)
  go_wp2
  have o1 := or6 (k0 % 8 : Int) (k1 % 64 : Int) (by omega) (by omega) (by omega) (by omega)
  have o9 := or12 ((k0 % 8 : Int) * 64 + (k1 % 64 : Int)) (by omega) (by omega)
  go_loop [2, 29] (fun lo i => (i = .int .i64 0 ∧ lo = .int .i32 (k0 % 8 : Int)) ∨ (i = .int .i64 1 ∧ lo = .int .i32 ((k0 % 8 : Int) * 64 + (k1 % 64 : Int)))) (fun _ i => 1 - (intOf i).toNat)
  case atStart => exact .inl ⟨rfl, rfl⟩
  case round =>
    rcases hrel with ⟨rfl, rfl⟩ | ⟨rfl, rfl⟩
    · go_wp2
      go_round
      case rel => exact .inr ⟨rfl, rfl⟩
      case measure => simp [intOf]
    · go_wp2
      go_ret2
      exact ⟨rfl, _, rfl⟩
theorem reach_43 (k0 k1 k2 b o cap : Nat) (w : World) (h0 : w.cell? ⟨b, o, none⟩ = some (.int .u8 k0)) (h1 : w.cell? ⟨b, o + 1, none⟩ = some (.int .u8 k1)) (h2 : w.cell? ⟨b, o + 1 + 1, none⟩ = some (.int .u8 k2)) (c0 : (240 : Int) ≤ k0) (hk0 : (k0 : Int) < 256) (hk1 : (k1 : Int) < 256) (hk2 : (k2 : Int) < 256) (hcap : 3 ≤ cap) :
    Calls Tryz.prog 62 #[.slice (some ⟨b, o, none⟩) 3 cap] w fun e w' => e = .returned (.tuple #[.int .i32 (max ((((k0 % 8 : Int) * 64 + (k1 % 64 : Int)) * 64 + (k2 % 64 : Int)) * 64) 65536), .int .i32 (min ((((k0 % 8 : Int) * 64 + (k1 % 64 : Int)) * 64 + (k2 % 64 : Int)) * 64 + 63) 1114111)]) ∧ ∃ n, w' = w.drewN n := by
  have hc : 1 < cap := by omega
  go_enter Tryz.func62, Tryz.ntmps62
  go_wp2
  go_quiet (fail)
  go_wp2
  have o1 := or6 (k0 % 8 : Int) (k1 % 64 : Int) (by omega) (by omega) (by omega) (by omega)
  have o2 := or6 ((k0 % 8 : Int) * 64 + (k1 % 64 : Int)) (k2 % 64 : Int) (by omega) (by omega) (by omega) (by omega)
  have o9 := or6 (((k0 % 8 : Int) * 64 + (k1 % 64 : Int)) * 64 + (k2 % 64 : Int)) 63 (by omega) (by omega) (by omega) (by omega)
  go_loop [2, 29] (fun lo i => (i = .int .i64 0 ∧ lo = .int .i32 (k0 % 8 : Int)) ∨ (i = .int .i64 1 ∧ lo = .int .i32 ((k0 % 8 : Int) * 64 + (k1 % 64 : Int))) ∨ (i = .int .i64 2 ∧ lo = .int .i32 (((k0 % 8 : Int) * 64 + (k1 % 64 : Int)) * 64 + (k2 % 64 : Int)))) (fun _ i => 2 - (intOf i).toNat)
  case atStart => exact .inl ⟨rfl, rfl⟩
  case round =>
    rcases hrel with ⟨rfl, rfl⟩ | ⟨rfl, rfl⟩ | ⟨rfl, rfl⟩
    · go_wp2
      go_round
      case rel => exact .inr (.inl ⟨rfl, rfl⟩)
      case measure => simp [intOf]
    · go_wp2
      go_round
      case rel => exact .inr (.inr ⟨rfl, rfl⟩)
      case measure => simp [intOf]
    · go_wp2
      go_ret2
      exact ⟨rfl, _, rfl⟩
end Go.Proofs.YtlhokghgicgppaaGreatDoor
namespace Go.Proofs.YtlhokghgicgppaaGreatDoor
open Go.RowKit Go.Extern
def short (l : Sg.Bs) : Prop := 1 ≤ l.length ∧ l.length < if 240 ≤ (l.getD 0 0).toNat then 4 else if 224 ≤ (l.getD 0 0).toNat then 3 else 2
theorem short_of_full {l : Sg.Bs} (h : Sg.full l = false) (h0 : l ≠ []) : short l := by
  unfold Sg.full at h
  simp only [h0, if_false] at h
  have hn1 : 1 ≤ l.length := by rcases l with _ | _; exact absurd rfl h0; simp
  refine ⟨hn1, ?_⟩
  by_cases hb : Lib.firstT (l.getD 0 0).toNat % 8 ≤ l.length
  · rw [if_pos hb] at h; cases h
  · clear h
    have hk := UInt8.toNat_lt (l.getD 0 0)
    generalize (l.getD 0 0).toNat = k at *
    unfold Lib.firstT at hb
    repeat' split at hb
    all_goals (repeat' split) <;> omega
theorem ret_two {k : IntKind} {a b c d : Int} (h1 : b = a) (h2 : d = c) : Ending.returned (.tuple #[.int k a, .int k c]) = .returned (.tuple #[.int k b, .int k d]) := by rw [h1, h2]
theorem reach_any (l : Sg.Bs) (b o cap : Nat) (w : World) (h : ∀ j, j < l.length → w.cell? ⟨b, o + j, none⟩ = some (.int .u8 (l.getD j 0).toNat)) (hs : short l) (hcap : l.length ≤ cap) :
    Calls Tryz.prog 62 #[.slice (some ⟨b, o, none⟩) l.length cap] w fun e w' => e = .returned (.tuple #[.int .i32 (Sg.reach l).1, .int .i32 (Sg.reach l).2]) ∧ ∃ n, w' = w.drewN n := by
  obtain ⟨hn1, hn⟩ := hs
  match l, h, hn1, hn, hcap with
  | [x0], h, _, hn, hcap =>
    have h0 := h 0 (by simp)
    have k0 := UInt8.toNat_lt x0
    simp only [List.getD_cons_zero, List.length_cons, List.length_nil, Nat.add_zero] at h0 hn hcap
    by_cases c4 : 240 ≤ x0.toNat
    · refine (reach_41 x0.toNat b o cap w h0 (by omega) (by omega) (by omega)).mono ?_
      rintro e w' ⟨rfl, hw⟩
      exact ⟨ret_two (by simp [Sg.reach, c4]) (by simp [Sg.reach, c4]), hw⟩
    · by_cases c3 : 224 ≤ x0.toNat
      · refine (reach_31 x0.toNat b o cap w h0 (by omega) (by omega) (by omega) (by omega)).mono ?_
        rintro e w' ⟨rfl, hw⟩
        exact ⟨ret_two (by simp [Sg.reach, c4, c3]) (by simp [Sg.reach, c4, c3]), hw⟩
      · refine (reach_21 x0.toNat b o cap w h0 (by omega) (by omega) (by omega)).mono ?_
        rintro e w' ⟨rfl, hw⟩
        exact ⟨ret_two (by simp [Sg.reach, c4, c3]) (by simp [Sg.reach, c4, c3]), hw⟩
  | [x0, x1], h, _, hn, hcap =>
    have h0 := h 0 (by simp)
    have h1 := h 1 (by simp)
    have k0 := UInt8.toNat_lt x0
    have k1 := UInt8.toNat_lt x1
    simp only [List.getD_cons_zero, List.getD_cons_succ, List.length_cons, List.length_nil, Nat.add_zero] at h0 h1 hn hcap
    by_cases c4 : 240 ≤ x0.toNat
    · refine (reach_42 x0.toNat x1.toNat b o cap w h0 h1 (by omega) (by omega) (by omega) (by omega)).mono ?_
      rintro e w' ⟨rfl, hw⟩
      exact ⟨ret_two (by simp [Sg.reach, c4]) (by simp [Sg.reach, c4]), hw⟩
    · by_cases c3 : 224 ≤ x0.toNat
      · refine (reach_32 x0.toNat x1.toNat b o cap w h0 h1 (by omega) (by omega) (by omega) (by omega) (by omega)).mono ?_
        rintro e w' ⟨rfl, hw⟩
        exact ⟨ret_two (by simp [Sg.reach, c4, c3]) (by simp [Sg.reach, c4, c3]), hw⟩
      · rw [if_neg c4, if_neg c3] at hn; omega
  | [x0, x1, x2], h, _, hn, hcap =>
    have h0 := h 0 (by simp)
    have h1 := h 1 (by simp)
    have h2 := h 2 (by simp)
    have k0 := UInt8.toNat_lt x0
    have k1 := UInt8.toNat_lt x1
    have k2 := UInt8.toNat_lt x2
    simp only [List.getD_cons_zero, List.getD_cons_succ, List.length_cons, List.length_nil, Nat.add_zero] at h0 h1 h2 hn hcap
    by_cases c4 : 240 ≤ x0.toNat
    · refine (reach_43 x0.toNat x1.toNat x2.toNat b o cap w h0 h1 h2 (by omega) (by omega) (by omega) (by omega) (by omega)).mono ?_
      rintro e w' ⟨rfl, hw⟩
      exact ⟨ret_two (by simp [Sg.reach, c4]) (by simp [Sg.reach, c4]), hw⟩
    · rw [if_neg c4] at hn
      split at hn <;> omega
  | _ :: _ :: _ :: _ :: _, h, _, hn, _ =>
    simp only [List.length_cons] at hn
    split at hn
    · omega
    · split at hn <;> omega
end Go.Proofs.YtlhokghgicgppaaGreatDoor
