/- scangenkeep.Whole. -/
import Derived.Test.YtlhokghgicgppaaGreatDoorSameW
import Derived.Test.YtlhokghgicgppaaGreatDoorKeepB
import Derived.BigQuiet
set_option linter.unusedSimpArgs false
set_option linter.unusedVariables false
namespace Go.Proofs.YtlhokghgicgppaaGreatDoor
open Go.RowKit Go.Extern

theorem ruleB_of {m : Sg.Mach} {n : Nat} (h : ruleB m n = true) (hn : 1 ≤ n) (s : Nat) : -1 ≤ m.rule s ∧ m.rule s < (n : Int) := by
  unfold Sg.Mach.rule
  rw [List.getD_eq_getElem?_getD]
  rcases hx : m.states[s]? with _ | x
  · show -1 ≤ (0 : Int) ∧ (0 : Int) < n
    omega
  · have := List.all_eq_true.1 h x (List.mem_of_getElem? hx)
    simp only [Bool.and_eq_true, decide_eq_true_eq] at this
    exact this
theorem rules_pos (k : Nat) (hk : k < 8) : 1 ≤ (rulesL k).length := by
  rw [rules_l k hk]; split <;> omega
theorem Sg.toksOf_lined {m : Sg.Mach} (hm : m.Ok) (hu : m.Up) {nr : Nat} (hr : ∀ s, -1 ≤ m.rule s ∧ m.rule s < (nr : Int)) (text : Sg.Bs) (ht : text.length ≤ 2000) : Sg.Lined nr text 0 1 (Sg.toksOf m text) := by
  unfold Sg.toksOf
  rw [Sg.allT_canon m hm hu askN_len 3000 _ text (Sg.live0_has _ _) (Sg.on_zero rfl) (by show text.length < 5000; omega) (by show 4 ≤ 5000; omega) (by omega)]
  have := Sg.lined_canon m hm nr hr text 3000 (0, 1, 1) 0 rfl (Nat.zero_le _) (by show (1 : Int) ≤ 1; omega) (by omega)
  rwa [List.drop_zero] at this
theorem take_extract (t : Sg.Bs) (a n : Nat) (u : Sg.Bs) (h : (t.drop a).take n = u) : (ByteArray.mk t.toArray).extract a (a + n) = ⟨u.toArray⟩ := by
  apply ByteArray.ext
  rw [ByteArray.data_extract]
  rw [← h]
  apply Array.ext'
  simp [List.drop_take]
theorem slice_take (t : Sg.Bs) (a n : Nat) (u : Sg.Bs) (h : (t.drop a).take n = u) (hle : a + n ≤ t.length) (W : World) : (Instr.slice 9 (.string ⟨t.toArray⟩) (some (.int .i64 (a : Int))) (some (.int .i64 ((a : Int) + (n : Int)))) none).run Tryz.prog W = .ok (.string ⟨u.toArray⟩) W := by
  rw [run_slice_string W _ _ .i64 .i64 _ _ Tryz.underlying9 (by omega) (by omega) (by show (a : Int) + (n : Int) ≤ ((ByteArray.mk t.toArray).size : Int); rw [size_list]; omega)]
  rw [show ((a : Int) + (n : Int)).toNat = a + n by omega, Int.toNat_natCast, take_extract t a n u h]
theorem byte_at (t : Sg.Bs) (k : Nat) (b : UInt8) (h : t[k]? = some b) (hk : k < (ByteArray.mk t.toArray).size) : (ByteArray.mk t.toArray)[k]'hk = b := by
  obtain ⟨h1, h2⟩ := List.getElem?_eq_some_iff.1 h
  exact h2
theorem count_snoc (t : Sg.Bs) (k : Nat) (b : UInt8) (h : t[k]? = some b) : Lib.countByte (t.take (k + 1)) 10 = Lib.countByte (t.take k) 10 + if b = 10 then 1 else 0 := by
  unfold Lib.countByte
  rw [List.take_add_one, h, List.count_append]
  congr 1
  simp [List.count_cons]
theorem count_le (t : Sg.Bs) (k : Nat) : Lib.countByte (t.take k) 10 ≤ k := by
  unfold Lib.countByte
  exact Nat.le_trans List.count_le_length (by rw [List.length_take]; omega)

set_option maxRecDepth 100000 in
set_option maxHeartbeats 2000000 in
theorem whole_any (c : Int) (hc : InI64 c) (text : Sg.Bs) (w : World) (h : Lay w) :
    Calls Tryz.prog 8 #[.int .i64 c, .string ⟨text.toArray⟩] w fun e w' => e = .returned (.bool true) ∧ Below w.heap.size w w' := by
  obtain ⟨k, hk⟩ : ∃ k : Nat, pickT c 8 = k := ⟨(pickT c 8).toNat, by have := pickT_range c 8 (by omega); omega⟩
  have hk8 : k < 8 := by have := pickT_range c 8 (by omega); omega
  have HT := hide2 (tables_any c hc k hk w h)
  by_cases ht' : 2000 < text.length
  · go_enter Tryz.func8, Tryz.ntmps8
    go_wp2_with (go_at_call 17; refine HT.out.mono ?_; clear HT; rintro e w1 ⟨tp, rfl, H1⟩)
    go_ret
    exact ⟨rfl, H1.out.1⟩
  have ht : text.length ≤ 2000 := by omega
  have hok := (comp_of (comp_l k hk8)).ok
  have HTk : Hid (∀ w1 tp, (Below w.heap.size w w1 ∧ ∃ p, TabAt w1 tp p w1.heap.size (machL k)) → Calls Tryz.prog 18 #[.pointer (some ⟨tp, 0, none⟩), .string ⟨text.toArray⟩] w1 fun en w2 => ∃ (ts : List Sg.Tok) (ra : Option Addr) (rc : Nat), en = .returned (.tuple #[.slice ra ts.length rc, .bool true]) ∧ ts.length ≤ 2000 ∧ Hid (Sg.Lined (rulesL k).length text 0 1 ts) ∧ Hid (RowAt 5 w2 ra rc ts.length (ts.flatMap tokCells)) ∧ Hid (Below w.heap.size w w2)) := hide2 fun w1 tp ⟨hb1, p, hT⟩ => by
    obtain ⟨_, k2, k3, k4⟩ := Sg.toksOf_has (machL k) text ht
    refine (tokens_any _ hok tp p _ text ht w1 hT).mono ?_
    rintro en w2 ⟨ra, rc, rfl, g1, g2, g3⟩
    exact ⟨_, ra, rc, rfl, by omega, hide2 (Sg.toksOf_lined hok (up_l k hk8) (ruleB_of (rule_l k hk8) (rules_pos k hk8)) text ht), hide2 g1, hide2 (hb1.trans (g3.mono hb1.size))⟩
  have HR : Hid (∀ (wa W : World), Calls Tryz.prog 19 #[.int .i64 c] W fun e w' => ∃ ra rc, e = .returned (.slice ra (rulesL k).length rc) ∧ (Below wa.heap.size wa W → Below wa.heap.size wa w')) := hide2 fun wa W => (rules_any c hc k hk W).mono (by
    rintro e w' ⟨ra, rc, rfl, _, hb⟩
    exact ⟨ra, rc, rfl, fun g => g.trans (hb.mono g.size)⟩)
  clear h hk hok hc
  generalize (rulesL k).length = nr at *
  clear hk8
  go_enter Tryz.func8, Tryz.ntmps8
  go_wp2_with (first
    | (go_at_call 17; refine HT.out.mono ?_; clear HT; rintro e w1 ⟨tp, rfl, H1⟩)
    | (go_at_call 18; refine (HTk.out w1 tp H1.out).mono ?_; clear HTk; rintro e w2 ⟨ts, ra, rc, rfl, hts, HT1, HT2, HB2⟩))
  go_loopw [8, 9, 10] (fun av lv iv wr => ∃ (j a : Nat) (ln : Int), iv = .int .i64 j ∧ av = .int .i64 a ∧ lv = .int .i64 ln ∧ j ≤ ts.length ∧ a ≤ text.length ∧ 1 ≤ ln ∧ ln ≤ a + 1 ∧ Hid (Sg.Lined nr text a ln (ts.drop j) ∧ Below w2.heap.size w2 wr)) (fun _ _ iv _ => ts.length - (intOf iv).toNat)
  case atStart => exact ⟨0, 0, 1, rfl, rfl, rfl, Nat.zero_le _, Nat.zero_le _, by omega, by omega, hide2 ⟨HT1.out, Below.refl _ _⟩⟩
  case round =>
    obtain ⟨j, a, ln, rfl, rfl, rfl, hj, ha, hl1, hl2, H⟩ := hrel
    by_cases hlt : j < ts.length
    · obtain ⟨rb, ro, rfl, c0, c1, c2, c3, c4⟩ := tok_cells (HT2.out.below H.out.2) j hlt
      have hL := H.out.1
      rw [List.drop_eq_getElem_cons hlt] at hL
      obtain ⟨hne, e1, hle, hex, e2, hcol, hr1, hr2, hr3, hL⟩ := hL
      have HL := hide2 hL
      rw [e1] at c1
      rw [e2] at c2
      clear hL e1 e2
      generalize ts[j] = t at *
      have hl0 : 1 ≤ t.text.length := by
        rcases hx : t.text with _ | _
        · exact absurd hx hne
        · simp
      have hsl := slice_take text a t.text.length t.text hex hle
      have hz : (((t.text.length : Nat) : Int) == 0) = false := beq_eq_false_iff_ne.2 (by omega)
      have hgt : ((text.length : Int) < (a : Int) + (t.text.length : Int)) = False := eq_false (by omega)
      have hcl : (t.col < 1) = False := eq_false (by omega)
      clear hne hex
      go_upto_region 13 with fail
      go_quiet (fail)
      have hbq : Below wr.heap.size wr (wr.drewN nq) := ⟨rfl, rfl, rfl, Nat.le_refl _, fun _ _ => rfl⟩
      have HW2 := hide2 (H.out.2.trans (hbq.mono H.out.2.size))
      have d0 := below_keep hbq c0
      have d4 := below_keep hbq c4
      clear c0 c1 c2 c3 c4 H hbq
      generalize wr.drewN nq = wq at *
      have HS : Hid (∀ w', Below wq.heap.size wq w' → Below wq.heap.size wq w' ∧ w'.cell? ⟨rb, ro + j * 5, none⟩ = some (.int .i64 t.rule)) := hide2 fun w' hb => ⟨hb, below_keep hb d0⟩
      have HRq := hide2 (HR.out wq)
      have D4 := hide2 d4
      have g1 : (t.rule < -1) = False := eq_false (by omega)
      have g2 : ((nr : Int) ≤ t.rule) = False := eq_false (by omega)
      have hn4 : (t.rule < 0) = False ∨ ((t.rule < 0) = True ∧ ((4 : Int) < (t.text.length : Int)) = False) := by
        by_cases hneg : t.rule < 0
        · exact .inr ⟨eq_true hneg, eq_false (by have := hr3 hneg; omega)⟩
        · exact .inl (eq_false hneg)
      clear d0 d4 HR hr1 hr2 hr3 hcol hcl hz hgt hsl
      go_upto_region 15 with fail
      rcases hn4 with g3 | ⟨g3, g4⟩
      all_goals first
        | (go_region_held (fun w' => Below wq.heap.size wq w' ∧ w'.cell? ⟨rb, ro + j * 5, none⟩ = some (.int .i64 t.rule))
            ((with_reducible refine HS.out _ ?_; first
              | with_reducible exact (Below.refl _ _).drew
              | with_reducible exact hw3))
            ((go_at_call 19; refine (HRq.out _).mono ?_; rintro e w3 ⟨qa, qc, rfl, hk⟩; have hw3 : Below wq.heap.size wq w3 := hk (by with_reducible exact (Below.refl _ _).drew); clear hk)))
        | fail
      all_goals go_wp2
      all_goals (
        have e4 := below_keep hw3 D4.out
        have HW3 := hide2 (HW2.out.trans (hw3.mono HW2.out.size))
        clear hw3 HRq HS HW2 D4
        go_loopw [9, 12] (fun lv kv wi => wi = w3 ∧ ∃ (kk m : Nat), kv = .int .i64 kk ∧ lv = .int .i64 (ln + (m : Int)) ∧ kk ≤ t.text.length ∧ m ≤ kk ∧ Hid (m = Lib.countByte (t.text.take kk) 10)) (fun _ kv _ => t.text.length - (intOf kv).toNat)
        case atStart => exact ⟨rfl, 0, 0, rfl, by simp, Nat.zero_le _, Nat.zero_le _, hide2 (by simp [Lib.countByte])⟩
        case round =>
          obtain ⟨rfl, kk, m, rfl, rfl, hkk, hmk, HC⟩ := hrel
          by_cases hk2 : kk < t.text.length
          · obtain ⟨b, hb⟩ : ∃ b, t.text[kk]? = some b := ⟨_, List.getElem?_eq_getElem hk2⟩
            have HCS := hide2 (count_snoc t.text kk b hb)
            have hg := byte_at t.text kk b hb
            clear hb
            by_cases h10 : b = 10
            · have hb10 : (((b.toNat : Nat) : Int) == 10) = true := by rw [h10]; rfl
              go_wp2
              go_roundw
              case rel =>
                refine ⟨trivial, kk + 1, m + 1, by go_num, by go_num, by omega, by omega, hide2 ?_⟩
                rw [HCS.out, ← HC.out, if_pos h10]
              case measure => simp [intOf]; omega
            · have hb10 : (((b.toNat : Nat) : Int) == 10) = false := beq_eq_false_iff_ne.2 (fun e => h10 (UInt8.toNat.inj (show b.toNat = 10 by omega)))
              go_wp2
              go_roundw
              case rel =>
                refine ⟨trivial, kk + 1, m, by go_num, rfl, by omega, by omega, hide2 ?_⟩
                rw [HCS.out, ← HC.out, if_neg h10]; rfl
              case measure => simp [intOf]; omega
          · have hkn : kk = t.text.length := by omega
            have hmm : m = Lib.countByte t.text 10 := by rw [HC.out, hkn, List.take_length]
            go_wp2
            go_roundw
            case rel =>
              refine ⟨j + 1, a + t.text.length, ln + (m : Int), by go_num, by go_num, rfl, by omega, hle, by omega, by omega, hide2 ⟨?_, HW3.out⟩⟩
              rw [hmm]; exact HL.out
            case measure => simp [intOf]; omega)
    · have hd : ts.drop j = [] := List.drop_of_length_le (by omega)
      have hL := H.out.1
      rw [hd] at hL
      have hL : a = text.length := hL
      subst hL
      go_wp2
      go_ret
      have hb2 := HB2.out
      exact ⟨rfl, hb2.trans (H.out.2.mono hb2.size)⟩
end Go.Proofs.YtlhokghgicgppaaGreatDoor
