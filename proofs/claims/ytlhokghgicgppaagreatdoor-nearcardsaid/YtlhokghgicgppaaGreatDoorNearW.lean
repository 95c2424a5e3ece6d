/- scangenkeep.Near. -/
import Derived.Test.YtlhokghgicgppaaGreatDoorBoundB
import Derived.Test.YtlhokghgicgppaaGreatDoorBoundL
set_option linter.unusedSimpArgs false
set_option linter.unusedVariables false
namespace Go.Proofs.YtlhokghgicgppaaGreatDoor
open Go.RowKit Go.Extern

theorem toks_near (m : Sg.Mach) (hm : m.Ok) (hu : m.Up) {M : List Nat} {b : Nat} (hB : Sg.Bnd m M b) (text : Sg.Bs) (ht : text.length ≤ 2000) (lg : Nat) (h4 : 4 ≤ lg) (hl : ∀ t ∈ Sg.toksOf m text, t.text.length ≤ lg) : Sg.allT m 3000 (Sg.live0 (lg + b) [⟨text, 0, 0⟩]) = (Sg.toksOf m text, some 13) := by
  rw [← (Sg.toksOf_has m text ht).1]
  exact Sg.allT_same m hm hu askN_len lg 3000 _ _ text (Sg.live0_has _ _) (Sg.live0_has _ _) (Sg.on_zero rfl) (Sg.on_zero rfl) rfl (by show text.length < 5000; omega) (by show 4 ≤ 5000; omega) (by show 4 ≤ lg + b; omega) (fun r' _ h2 => Sg.fits_bound hm hu hB h2) (fun t htk => hl t htk)
theorem row_pc (w : World) (text : Sg.Bs) (t : TypeId) : RowAt 3 (w.alloc (.cells #[.string ⟨text.toArray⟩, .int .i64 0, .int .i64 0] t)) (some ⟨w.heap.size, 0, none⟩) 1 [(⟨text, 0, 0⟩ : Sg.Pc)].length ([(⟨text, 0, 0⟩ : Sg.Pc)].flatMap pcCells) := by
  refine ⟨rfl, .inr ⟨w.heap.size, 0, rfl, Nat.le_refl _, fun j v hj => ?_, fun j hj => ?_, by simp, fun j => World.frozen?_alloc_at _ _ _ _ rfl⟩⟩
  · rw [World.cell?_alloc_at _ _ _ _ rfl, Nat.zero_add]
    simpa [pcCells, strV] using hj
  · rw [World.cell?_alloc_at _ _ _ _ rfl, Nat.zero_add]
    match j, hj with
    | 0, _ => rfl
    | 1, _ => rfl
    | 2, _ => rfl
    | j + 3, h => omega
set_option maxRecDepth 100000 in
set_option maxHeartbeats 2000000 in
theorem near_any (c : Int) (hc : InI64 c) (text : Sg.Bs) (w : World) (h : Lay w) :
    Calls Tryz.prog 12 #[.int .i64 c, .string ⟨text.toArray⟩] w fun e w' => e = .returned (.bool true) ∧ Below w.heap.size w w' := by
  obtain ⟨k, hk⟩ : ∃ k : Nat, pickT c 8 = k := ⟨(pickT c 8).toNat, by have := pickT_range c 8 (by omega); omega⟩
  have hk8 : k < 8 := by have := pickT_range c 8 (by omega); omega
  have HT := hide2 (tables_any c hc k hk w h)
  by_cases ht' : 2000 < text.length
  · go_enter Tryz.func12, Tryz.ntmps12
    go_wp2_with (go_at_call 17; refine HT.out.mono ?_; clear HT; rintro e w1 ⟨tp, rfl, H1⟩)
    go_ret
    exact ⟨rfl, H1.out.1⟩
  have ht : text.length ≤ 2000 := by omega
  have hok := (comp_of (comp_l k hk8)).ok
  have hup := up_l k hk8
  have HTk : Hid (∀ w1 tp, (Below w.heap.size w w1 ∧ ∃ p, TabAt w1 tp p w1.heap.size (machL k)) → Calls Tryz.prog 18 #[.pointer (some ⟨tp, 0, none⟩), .string ⟨text.toArray⟩] w1 fun en w2 => ∃ (ts : List Sg.Tok) (la : Option Addr) (lc : Nat), en = .returned (.tuple #[.slice la ts.length lc, .bool true]) ∧ ts.length ≤ 2000 ∧ Hid (∀ t ∈ ts, t.text.length ≤ 2000) ∧
      Hid (Calls Tryz.prog 27 #[.pointer (some ⟨tp, 0, none⟩)] w2 fun e w3 => e = .returned (.int .i64 (bndV k)) ∧ Hid (RowAt 5 w3 la lc ts.length (ts.flatMap tokCells)) ∧ Hid (Below w.heap.size w w3) ∧
      Hid (∀ (b lg : Nat), bndV k = b → 1 ≤ b → b ≤ 1000 → Sg.bndOk (machL k) (bndM k) b = true → 4 ≤ lg → lg ≤ 2000 → (∀ t ∈ ts, t.text.length ≤ lg) → Calls Tryz.prog 21 #[.slice (some ⟨w3.heap.size, 0, none⟩) 1 1] (w3.alloc (.cells #[.string ⟨text.toArray⟩, .int .i64 0, .int .i64 0] 40)) fun e w4 => ∃ q, e = .returned (.pointer (some ⟨q, 0, none⟩)) ∧
        Hid (Calls Tryz.prog 22 #[.pointer (some ⟨tp, 0, none⟩), .pointer (some ⟨q, 0, none⟩), .int .i64 ((lg : Int) + (b : Int))] w4 fun en w5 => ∃ sq, en = .returned (.tuple #[.pointer (some ⟨sq, 0, none⟩), .nilIface]) ∧
        Hid (Calls Tryz.prog 23 #[.pointer (some ⟨sq, 0, none⟩), .int .i64 3000] w5 fun en w6 => ∃ rb rd, en = .returned (.tuple #[.slice rb ts.length rd, .iface 50 (.int .i64 13)]) ∧
        Hid (Calls Tryz.prog 24 #[.iface 50 (.int .i64 13)] w6 fun e w7 => e = .returned (.tuple #[.int .i64 13, .int .i64 (-1), .int .i64 (-1)]) ∧
        Hid (Calls Tryz.prog 25 #[.slice la ts.length lc, .slice rb ts.length rd] w7 fun e w8 => e = .returned (.bool true) ∧ Hid (Below w.heap.size w w8)))))))) := hide2 fun w1 tp ⟨hb1, p, hT⟩ => by
    obtain ⟨_, k2, k3, k4⟩ := Sg.toksOf_has (machL k) text ht
    refine (tokens_any _ hok tp p _ text ht w1 hT).mono ?_
    rintro en w2 ⟨la, lc, rfl, g1, g2, g3⟩
    have hb2 := hb1.trans (g3.mono hb1.size)
    refine ⟨_, la, lc, rfl, by omega, hide2 (fun t htk => ?_), hide2 ((boundL_any k hk8 w2 tp p _ (hT.below hok (Nat.le_refl _) g3)).mono ?_)⟩
    · have : t.text.length ≤ text.length := by
        rw [← k2]
        obtain ⟨x, y, hab⟩ := List.append_of_mem htk
        rw [hab, List.flatMap_append, List.flatMap_cons, List.length_append, List.length_append]; omega
      omega
    · rintro e w3 ⟨rfl, H3⟩
      have p3 := H3.out
      have hb3 := hb2.trans (p3.mono hb2.size)
      refine ⟨rfl, hide2 (g1.below p3), hide2 hb3, hide2 ?_⟩
      intro b lg hbv hb0 hb1000 hcert h4 hlg hall
      have pA := blw1' w3 (.cells #[.string ⟨text.toArray⟩, .int .i64 0, .int .i64 0] 40)
      have p3A := p3.trans (pA.mono p3.size)
      have hb13 : Below w1.heap.size w1 _ := g3.trans (p3A.mono g3.size)
      have hT3 := hT.below hok (Nat.le_refl _) hb13
      have hbm := hT3.le
      have hbA := hb3.trans (pA.mono hb3.size)
      refine (scan_row _ hok tp p _ (lg + b) (by omega) (by omega) _ hT3 [⟨text, 0, 0⟩] (by simp) (by simp) ⟨by show 0 < 1000000000; omega, by show 0 < 1000000000; omega, fun x hx => by
        simp only [List.mem_singleton] at hx
        subst hx
        exact ⟨by show text.length < _; omega, by show (0 : Int) < _; omega⟩⟩ _ 1 (row_pc w3 text _)).mono ?_
      rintro e w4 ⟨q, rfl, HS⟩
      have hs := HS.out
      rw [show (((lg + b : Nat)) : Int) = (lg : Int) + (b : Int) by omega] at hs
      refine ⟨q, rfl, hide2 (hs.mono ?_)⟩
      rintro en w5 ⟨sq, F, rfl, HF⟩
      refine ⟨sq, rfl, hide2 ((all_row _ hok _ w5 sq _ hbm _ F HF.out _ 13 (toks_near _ hok hup (Sg.bnd_of hcert) text ht lg h4 hall)).mono ?_)⟩
      rintro en w6 ⟨rb, rd, rfl, K6⟩
      obtain ⟨r1, r2, r3, r4⟩ := K6.out
      have hb6 := hbA.trans (r4.mono hbA.size)
      refine ⟨rb, rd, rfl, hide2 ((told_errno 13 w6 (h.below hb6).et).mono ?_)⟩
      rintro e w7 ⟨rfl, hb7⟩
      refine ⟨rfl, hide2 ((same_any w7 la rb lc rd _ (by omega) (g1.below (p3A.trans ((r4.mono p3A.size).trans (hb7.mono (Nat.le_trans p3A.size r4.size))))) (r1.below hb7)).mono ?_)⟩
      rintro e w8 ⟨rfl, hb8⟩
      have hb7' := hb6.trans (hb7.mono hb6.size)
      exact ⟨rfl, hide2 (hb7'.trans (hb8.mono hb7'.size))⟩
  have HBn := hide2 (bnd_l k hk8)
  have hbn : bndV k = -1 ∨ ∃ b : Nat, bndV k = b ∧ 1 ≤ b ∧ b ≤ 1000 := by
    match k, hk8 with
    | 0, _ => exact .inr ⟨1, rfl, by omega, by omega⟩
    | 1, _ => exact .inl rfl
    | 2, _ => exact .inr ⟨4, rfl, by omega, by omega⟩
    | 3, _ => exact .inl rfl
    | 4, _ => exact .inr ⟨4, rfl, by omega, by omega⟩
    | 5, _ => exact .inr ⟨6, rfl, by omega, by omega⟩
    | 6, _ => exact .inr ⟨8, rfl, by omega, by omega⟩
    | 7, _ => exact .inr ⟨2, rfl, by omega, by omega⟩
    | _ + 8, h => omega
  clear h hk hok hc hup hk8
  rcases hbn with hbv | ⟨b, hbv, hb1, hb2⟩
  · rw [hbv] at HTk
    go_enter Tryz.func12, Tryz.ntmps12
    go_wp2_with (first
      | (go_at_call 17; refine HT.out.mono ?_; clear HT; rintro e w1 ⟨tp, rfl, H1⟩)
      | (go_at_call 18; refine (HTk.out w1 tp H1.out).mono ?_; clear HTk; rintro e w2 ⟨ts, la, lc, rfl, hts, HL, HBd⟩)
      | (go_at_call 27; refine HBd.out.mono ?_; clear HBd; rintro e w3 ⟨rfl, HR, HB3, HX⟩))
    go_ret
    exact ⟨rfl, HB3.out⟩
  · have _HBV := hide2 hbv
    have HCt : Hid (Sg.bndOk (machL k) (bndM k) b = true) := hide2 (by
      rcases HBn.out with e | ⟨e1, e2⟩
      · omega
      · rw [hbv] at e2; exact e2)
    rw [hbv] at HTk
    have hbz : (((b : Nat) : Int) == 0) = false := beq_eq_false_iff_ne.2 (by omega)
    clear hbv HBn
    go_enter Tryz.func12, Tryz.ntmps12
    go_wp2_with (first
      | (go_at_call 17; refine HT.out.mono ?_; clear HT; rintro e w1 ⟨tp, rfl, H1⟩)
      | (go_at_call 18; refine (HTk.out w1 tp H1.out).mono ?_; clear HTk; rintro e w2 ⟨ts, la, lc, rfl, hts, HL, HBd⟩)
      | (go_at_call 27; refine HBd.out.mono ?_; clear HBd; rintro e w3 ⟨rfl, HR, HB3, HX⟩))
    go_loopw [9, 10] (fun gv iv wr => wr = w3 ∧ ∃ (i lg : Nat), iv = .int .i64 i ∧ gv = .int .i64 lg ∧ i ≤ ts.length ∧ 4 ≤ lg ∧ lg ≤ 2000 ∧ Hid (∀ t ∈ ts.take i, t.text.length ≤ lg)) (fun _ iv _ => ts.length - (intOf iv).toNat)
    case atStart => exact ⟨rfl, 0, 4, rfl, rfl, Nat.zero_le _, Nat.le_refl _, by omega, hide2 (fun t ht => by simp at ht)⟩
    case round =>
      obtain ⟨rfl, i, lg, rfl, rfl, hi, hl4, hl2, HG⟩ := hrel
      by_cases hlt : i < ts.length
      · obtain ⟨rb, ro, rfl, c0, c1, c2, c3, c4⟩ := tok_cells HR.out i hlt
        have hmx := HL.out ts[i] (List.getElem_mem hlt)
        have htk : ts.take (i + 1) = ts.take i ++ [ts[i]] := by rw [List.take_add_one, List.getElem?_eq_getElem hlt]; rfl
        have Htk := hide2 htk
        clear c0 c1 c2 c3 htk
        generalize ts[i] = t at *
        by_cases hbig : lg < t.text.length
        · go_wp2
          go_roundw
          case rel =>
            refine ⟨trivial, i + 1, t.text.length, by go_num, rfl, by omega, by omega, hmx, hide2 (fun x hx => ?_)⟩
            rw [Htk.out] at hx
            rcases List.mem_append.1 hx with hx | hx
            · have := HG.out x hx; omega
            · rw [List.mem_singleton] at hx; subst hx; exact Nat.le_refl _
          case measure => simp [intOf]; omega
        · go_wp2
          go_roundw
          case rel =>
            refine ⟨trivial, i + 1, lg, by go_num, rfl, by omega, hl4, hl2, hide2 (fun x hx => ?_)⟩
            rw [Htk.out] at hx
            rcases List.mem_append.1 hx with hx | hx
            · exact HG.out x hx
            · rw [List.mem_singleton] at hx; subst hx; omega
          case measure => simp [intOf]; omega
      · have hall : ∀ t ∈ ts, t.text.length ≤ lg := by
          have := HG.out
          rwa [List.take_of_length_le (by omega)] at this
        have HX2 := hide2 (HX.out b lg rfl hb1 hb2 HCt.out hl4 hl2 hall)
        clear HX hall HG HR HL
        go_wp2_with (first
          | (go_at_call 21; refine HX2.out.mono ?_; clear HX2; rintro e w5 ⟨q, rfl, HS⟩)
          | (go_at_call 22; refine HS.out.mono ?_; clear HS; rintro e w6 ⟨sq, rfl, HS⟩)
          | (go_at_call 23; refine HS.out.mono ?_; clear HS; rintro e w7 ⟨rb, rd, rfl, HS⟩)
          | (go_at_call 24; refine HS.out.mono ?_; clear HS; rintro e w8 ⟨rfl, HS⟩)
          | (go_at_call 25; refine HS.out.mono ?_; clear HS; rintro e w9 ⟨rfl, HS⟩))
        go_ret
        exact ⟨rfl, HS.out⟩
end Go.Proofs.YtlhokghgicgppaaGreatDoor
