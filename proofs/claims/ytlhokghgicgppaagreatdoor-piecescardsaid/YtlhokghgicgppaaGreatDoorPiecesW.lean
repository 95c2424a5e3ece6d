/- scangenkeep.Pieces. -/
import Derived.Test.YtlhokghgicgppaaGreatDoorRuns
set_option linter.unusedSimpArgs false
set_option linter.unusedVariables false
namespace Go.Proofs.YtlhokghgicgppaaGreatDoor
open Go.RowKit Go.Extern

theorem take_ext (t : Sg.Bs) (n : Nat) : (ByteArray.mk t.toArray).extract 0 n = ⟨(t.take n).toArray⟩ := by
  apply ByteArray.ext
  rw [ByteArray.data_extract]
  apply Array.ext'
  simp
/-- Pieces that were laid so far; what is left of the text. -/
def PI (w : World) (text : Sg.Bs) (wr : World) (pa : Option Addr) (pc pn : Nat) (rs : Sg.Bs) : Prop :=
  ∃ ps : List Sg.Pc, pn = ps.length ∧ RowAt 3 wr pa pc ps.length (ps.flatMap pcCells) ∧ NewRow w pa ∧ Below w.heap.size w wr ∧ (∀ c ∈ ps, c.Good ∧ c.text.length ≤ 2000 ∧ c.n ≤ 1) ∧ ps.flatMap (·.text) ++ rs = text
theorem PI.add {w wr : World} {text : Sg.Bs} {pa : Option Addr} {pc pn : Nat} {rs : Sg.Bs} (h : PI w text wr pa pc pn rs) (c : Sg.Pc) (rs' : Sg.Bs) (hc : c.Good ∧ c.text.length ≤ 2000 ∧ c.n ≤ 1) (e : c.text ++ rs' = rs) (hn : pn < 1000) (ty vt : TypeId) :
    ∃ ra' rc' w', (Builtin.append_ #[37, 37] ty #[.slice pa pn pc, .slice (some ⟨wr.heap.size, 0, none⟩) 1 1]).run Tryz.prog (wr.alloc (.cells #[.string ⟨c.text.toArray⟩, .int .i64 c.n, .int .i64 c.kind] vt)) = .ok (.slice ra' (pn + 1) rc') w' ∧ Hid (PI w text w' ra' rc' (pn + 1) rs') := by
  obtain ⟨ps, rfl, h1, h2, h3, h4, h5⟩ := h
  obtain ⟨ra', rc', w', g1, g2, g3, g4⟩ := append_pc h1 c (by omega) ty vt
  refine ⟨ra', rc', w', g1, hide2 ⟨ps ++ [c], by simp, g2, h2.moved h3.size g4, below_row h3 g3 (fun b o e => h2 b o e), ?_, ?_⟩⟩
  · intro x hx
    rcases List.mem_append.1 hx with hx | hx
    · exact h4 x hx
    · rw [List.mem_singleton] at hx; subst hx; exact hc
  · rw [List.flatMap_append, List.append_assoc]
    have e2 : [c].flatMap (·.text) = c.text := by simp
    rw [e2, e, h5]

set_option maxRecDepth 100000 in
set_option maxHeartbeats 2000000 in
theorem pieces_any (c : Int) (hc : InI64 c) (text : Sg.Bs) (ca : Option Addr) (n cc : Nat) (hnn : n ≤ 9223372036854775807) (w : World) (h : Lay w) (hC : ∀ i, i < n → ∃ cb co z, ca = some ⟨cb, co, none⟩ ∧ w.cell? ⟨cb, co + i, none⟩ = some (.int .i64 z) ∧ InI64 z) :
    Calls Tryz.prog 9 #[.int .i64 c, .string ⟨text.toArray⟩, .slice ca n cc] w fun e w' => e = .returned (.bool true) ∧ Below w.heap.size w w' := by
  obtain ⟨k, hk⟩ : ∃ k : Nat, pickT c 8 = k := ⟨(pickT c 8).toNat, by have := pickT_range c 8 (by omega); omega⟩
  have hk8 : k < 8 := by have := pickT_range c 8 (by omega); omega
  have HT := hide2 (tables_any c hc k hk w h)
  by_cases ht' : 2000 < text.length
  · go_enter Tryz.func9, Tryz.ntmps9
    go_wp2_with (go_at_call 17; refine HT.out.mono ?_; clear HT; rintro e w1 ⟨tp, rfl, H1⟩)
    go_ret
    exact ⟨rfl, H1.out.1⟩
  have ht : text.length ≤ 2000 := by omega
  have hok := (comp_of (comp_l k hk8)).ok
  have hup := up_l k hk8
  have HTk : Hid (∀ w1 tp, (Below w.heap.size w w1 ∧ ∃ p, TabAt w1 tp p w1.heap.size (machL k)) → Calls Tryz.prog 18 #[.pointer (some ⟨tp, 0, none⟩), .string ⟨text.toArray⟩] w1 fun en w2 => ∃ (tn : Nat) (la : Option Addr) (lc : Nat), en = .returned (.tuple #[.slice la tn lc, .bool true]) ∧ Hid (Below w.heap.size w w2) ∧
      Hid (∀ w3 pa pc pn, PI w2 text w3 pa pc pn [] → 0 < pn → pn < 1000 → Calls Tryz.prog 21 #[.slice pa pn pc] w3 fun e w4 => ∃ q, e = .returned (.pointer (some ⟨q, 0, none⟩)) ∧
        Hid (Calls Tryz.prog 22 #[.pointer (some ⟨tp, 0, none⟩), .pointer (some ⟨q, 0, none⟩), .int .i64 5000] w4 fun en w5 => ∃ sq, en = .returned (.tuple #[.pointer (some ⟨sq, 0, none⟩), .nilIface]) ∧
        Hid (Calls Tryz.prog 23 #[.pointer (some ⟨sq, 0, none⟩), .int .i64 3000] w5 fun en w6 => ∃ rb rd, en = .returned (.tuple #[.slice rb tn rd, .iface 50 (.int .i64 13)]) ∧
        Hid (Calls Tryz.prog 24 #[.iface 50 (.int .i64 13)] w6 fun e w7 => e = .returned (.tuple #[.int .i64 13, .int .i64 (-1), .int .i64 (-1)]) ∧
        Hid (Calls Tryz.prog 25 #[.slice la tn lc, .slice rb tn rd] w7 fun e w8 => e = .returned (.bool true) ∧ Hid (Below w.heap.size w w8))))))) := hide2 fun w1 tp ⟨hb1, p, hT⟩ => by
    obtain ⟨_, k2, k3, k4⟩ := Sg.toksOf_has (machL k) text ht
    refine (tokens_any _ hok tp p _ text ht w1 hT).mono ?_
    rintro en w2 ⟨la, lc, rfl, g1, g2, g3⟩
    have hb2 := hb1.trans (g3.mono hb1.size)
    refine ⟨_, la, lc, rfl, hide2 hb2, hide2 ?_⟩
    rintro w3 pa pc pn ⟨ps, rfl, p1, p2, p3, p4, p5⟩ hp0 hp1
    have hb3 := hb2.trans (p3.mono hb2.size)
    have hb13 : Below w1.heap.size w1 w3 := g3.trans (p3.mono g3.size)
    have hT3 := hT.below hok (Nat.le_refl _) hb13
    have hbm := hT3.le
    rw [List.append_nil] at p5
    refine (scan_row _ hok tp p _ 5000 (by omega) (by omega) w3 hT3 ps (fun e => by rw [e] at hp0; exact absurd hp0 (by simp)) (by omega) ⟨by show 0 < 1000000000; omega, by show 0 < 1000000000; omega, fun x hx => ⟨by have := (p4 x hx).2.1; omega, by have := (p4 x hx).2.2; omega⟩⟩ pa pc p1).mono ?_
    rintro e w4 ⟨q, rfl, HS⟩
    refine ⟨q, rfl, hide2 (HS.out.mono ?_)⟩
    rintro en w5 ⟨sq, F, rfl, HF⟩
    refine ⟨sq, rfl, hide2 ((all_row _ hok w3 w5 sq _ hbm _ F HF.out _ 13 (toks_pieces _ hok hup text ht ps (fun x hx => (p4 x hx).1) p5)).mono ?_)⟩
    rintro en w6 ⟨rb, rd, rfl, K6⟩
    obtain ⟨r1, r2, r3, r4⟩ := K6.out
    have hb6 := hb3.trans (r4.mono hb3.size)
    refine ⟨rb, rd, rfl, hide2 ((told_errno 13 w6 (h.below hb6).et).mono ?_)⟩
    rintro e w7 ⟨rfl, hb7⟩
    refine ⟨rfl, hide2 ((same_any w7 la rb lc rd _ (by omega) (g1.below (p3.trans ((r4.mono p3.size).trans (hb7.mono (Nat.le_trans p3.size r4.size))))) (r1.below hb7)).mono ?_)⟩
    rintro e w8 ⟨rfl, hb8⟩
    have hb7' := hb6.trans (hb7.mono hb6.size)
    exact ⟨rfl, hide2 (hb7'.trans (hb8.mono hb7'.size))⟩
  have HCt : Hid (∀ w2 wr, Below w.heap.size w w2 → Below w2.heap.size w2 wr → ∀ i, i < n → ∃ cb co z, ca = some ⟨cb, co, none⟩ ∧ wr.cell? ⟨cb, co + i, none⟩ = some (.int .i64 z) ∧ InI64 z) := hide2 fun w2 wr hb hb2 i hi => by
    obtain ⟨cb, co, z, e1, e2, e3⟩ := hC i hi
    exact ⟨cb, co, z, e1, below_keep (hb.trans (hb2.mono hb.size)) e2, e3⟩
  clear h hk hok hc hC hup
  clear hk8
  go_enter Tryz.func9, Tryz.ntmps9
  go_wp2_with (first
    | (go_at_call 17; refine HT.out.mono ?_; clear HT; rintro e w1 ⟨tp, rfl, H1⟩)
    | (go_at_call 18; refine (HTk.out w1 tp H1.out).mono ?_; clear HTk; rintro e w2 ⟨tn, la, lc, rfl, HB2, HX⟩))
  go_loopw [10, 11, 12] (fun pv rv iv wr => ∃ (i : Nat) (pa : Option Addr) (pc pn : Nat) (rs : Sg.Bs), iv = .int .i64 i ∧ rv = .string ⟨rs.toArray⟩ ∧ pv = .slice pa pn pc ∧ i ≤ 100 ∧ pn ≤ i ∧ rs.length ≤ 2000 ∧ Hid (PI w2 text wr pa pc pn rs)) (fun _ _ iv _ => 101 - (intOf iv).toNat)
  case atStart => exact ⟨0, none, 0, 0, text, rfl, rfl, rfl, by omega, by omega, ht, hide2 ⟨[], rfl, RowAt.nil 3 _, (fun _ _ e => by cases e), Below.refl _ _, (fun _ hx => by cases hx), rfl⟩⟩
  case round =>
    obtain ⟨i, pa, pc, pn, rs, rfl, rfl, rfl, hi, hpn, hrs, H⟩ := hrel
    by_cases hcond : i < n ∧ 0 < rs.length ∧ i < 100
    · obtain ⟨hc1, hc2, hc3⟩ := hcond
      obtain ⟨cb, co, z, rfl, hz, hzr⟩ := HCt.out w2 wr HB2.out (by obtain ⟨_, _, _, _, hb, _⟩ := H.out; exact hb) i hc1
      obtain ⟨kk, hkk⟩ : ∃ kk : Nat, pickT z ((rs.length : Int) + 1) = kk := ⟨(pickT z ((rs.length : Int) + 1)).toNat, by have := pickT_range z ((rs.length : Int) + 1) (by omega); omega⟩
      have hkl : kk ≤ rs.length := by have := pickT_range z ((rs.length : Int) + 1) (by omega); omega
      have HP := hide2 (fun W => pick_any z ((rs.length : Int) + 1) hzr (by omega) (by omega) W)
      rw [hkk] at HP
      have hx1 : (ByteArray.mk rs.toArray).extract 0 kk = ⟨(rs.take kk).toArray⟩ := by
        have := take_ext rs kk; exact this
      have hx2 := drop_extract rs kk
      clear hkk hzr
      by_cases hk0 : 0 < kk
      · have hne : rs.take kk ≠ [] := fun e => by
          have h1 : (rs.take kk).length = 0 := by rw [e]; rfl
          rw [List.length_take] at h1; omega
        have HA := hide2 (H.out.add ⟨rs.take kk, ((i % 5 / 3 : Nat) : Int), 0⟩ (rs.drop kk) ⟨⟨rfl, by show ((i % 5 / 3 : Nat) : Int) ≤ 1; omega, .inl hne⟩, by show (rs.take kk).length ≤ 2000; rw [List.length_take]; omega, by show ((i % 5 / 3 : Nat) : Int) ≤ 1; omega⟩ (List.take_append_drop _ _) (by omega) 37 40)
        clear H
        have e5 : (i : Int).tmod 5 = ((i % 5 : Nat) : Int) := rfl
        have e3 : ((i % 5 : Nat) : Int).tdiv 3 = ((i % 5 / 3 : Nat) : Int) := rfl
        go_wp2_with (first
          | (go_at_call 20; refine (HP.out _).mono ?_; rintro e w3 ⟨rfl, rfl⟩)
          | (at_builtin; obtain ⟨ra2, rc2, w4, hrun, H4⟩ := HA.out; refine wpList_append_run rfl _ _ _ _ rfl _ _ _ rfl rfl hrun ?_; clear hrun HA))
        go_roundw
        case rel => exact ⟨i + 1, ra2, rc2, pn + 1, rs.drop kk, by go_num, rfl, rfl, by omega, by omega, by rw [List.length_drop]; omega, H4⟩
        case measure => simp [intOf]; omega
      · have hk00 : kk = 0 := by omega
        subst hk00
        rw [List.drop_zero] at hx2
        go_wp2_with (go_at_call 20; refine (HP.out _).mono ?_; rintro e w3 ⟨rfl, rfl⟩)
        go_roundw
        case rel => exact ⟨i + 1, pa, pc, pn, rs, by go_num, rfl, rfl, by omega, by omega, hrs, H⟩
        case measure => simp [intOf]; omega
    · have HA := hide2 (H.out.add ⟨rs, 0, 0⟩ [] ⟨⟨rfl, by show (0 : Int) ≤ 1; omega, .inr (by show (0 : Int) ≤ 0; omega)⟩, hrs, by show (0 : Int) ≤ 1; omega⟩ (List.append_nil _) (by omega) 37 40)
      clear H
      have hway : (¬ i < n) ∨ (i < n ∧ rs.length = 0) ∨ (i < n ∧ 0 < rs.length ∧ ¬ i < 100) := by omega
      clear hcond
      rcases hway with hw1 | ⟨hw1, hw2⟩ | ⟨hw1, hw2, hw3⟩
      all_goals go_wp2_with (first
        | (at_builtin; obtain ⟨ra2, rc2, w4, hrun, H4⟩ := HA.out; refine wpList_append_run rfl _ _ _ _ rfl _ _ _ rfl rfl hrun ?_; have HX2 := hide2 (HX.out w4 ra2 rc2 (pn + 1) H4.out (by omega) (by omega)); clear hrun HA H4)
        | (go_at_call 21; refine HX2.out.mono ?_; clear HX2; rintro e w5 ⟨q, rfl, HS⟩)
        | (go_at_call 22; refine HS.out.mono ?_; clear HS; rintro e w6 ⟨sq, rfl, HS⟩)
        | (go_at_call 23; refine HS.out.mono ?_; clear HS; rintro e w7 ⟨rb, rd, rfl, HS⟩)
        | (go_at_call 24; refine HS.out.mono ?_; clear HS; rintro e w8 ⟨rfl, HS⟩)
        | (go_at_call 25; refine HS.out.mono ?_; clear HS; rintro e w9 ⟨rfl, HS⟩))
      all_goals go_ret
      all_goals exact ⟨rfl, HS.out⟩
end Go.Proofs.YtlhokghgicgppaaGreatDoor
