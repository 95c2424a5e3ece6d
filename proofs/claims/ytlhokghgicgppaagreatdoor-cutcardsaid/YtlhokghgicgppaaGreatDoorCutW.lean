/- scangenkeep.Near. -/
/- scangenkeep.Cut. -/
import Derived.Test.YtlhokghgicgppaaGreatDoorBoundB
import Derived.Test.YtlhokghgicgppaaGreatDoorBoundL
set_option linter.unusedSimpArgs false
set_option linter.unusedVariables false
namespace Go.Proofs.YtlhokghgicgppaaGreatDoor
open Go.RowKit Go.Extern

theorem toks_near (m : Sg.Mach) (hm : m.Ok) (hu : m.Up) {M : List Nat} {b : Nat} (hB : Sg.Bnd m M b) (text : Sg.Bs) (ht : text.length ≤ 2000) (lg : Nat) (h4 : 4 ≤ lg) (hl : ∀ t ∈ Sg.toksOf m text, t.text.length ≤ lg) : Sg.allT m 3000 (Sg.live0 (lg + b) [⟨text, 0, 0⟩]) = (Sg.toksOf m text, some 13) := by
  rw [← (Sg.toksOf_has m text ht).1]
  exact Sg.allT_same m hm hu askN_len lg 3000 _ _ text (Sg.live0_has _ _) (Sg.live0_has _ _) (Sg.on_zero rfl) (Sg.on_zero rfl) rfl (by show text.length < 5000; omega) (by show 4 ≤ 5000; omega) (by show 4 ≤ lg + b; omega) (fun r' _ h2 => Sg.fits_bound hm hu hB h2) (fun t htk => hl t htk)
theorem row_pc (w : World) (text : Sg.Bs) (t : TypeId) : RowAt 3 (w.alloc (.cells #[.string ⟨text.toArray⟩, .int .i64 0, .int .i64 0] t)) (some ⟨w.heap.size, 0, none⟩) 1 [(⟨text, 0, 0⟩ : Sg.Pc)].length ([(⟨text, 0, 0⟩ : Sg.Pc)].flatMap pcCells) := by
  refine ⟨rfl, .inr ⟨w.heap.size, 0, rfl, Nat.le_refl _, fun j v hj => ?_, fun j hj => ?_, by simp, fun j => World.frozen?_alloc_at _ _ _ _ rfl⟩⟩
  · rw [World.cell?_alloc_at _ _ _ _ rfl, Nat.zero_add]
    simpa [pcCells, strV] using hj
  · rw [World.cell?_alloc_at _ _ _ _ rfl, Nat.zero_add]
    match j, hj with
    | 0, _ => rfl
    | 1, _ => rfl
    | 2, _ => rfl
    | j + 3, h => omega
set_option maxRecDepth 100000 in
set_option maxHeartbeats 2000000 in
theorem near_any (c : Int) (hc : InI64 c) (text : Sg.Bs) (w : World) (h : Lay w) :
    Calls Tryz.prog 12 #[.int .i64 c, .string ⟨text.toArray⟩] w fun e w' => e = .returned (.bool true) ∧ Below w.heap.size w w' := by
  obtain ⟨k, hk⟩ : ∃ k : Nat, pickT c 8 = k := ⟨(pickT c 8).toNat, by have := pickT_range c 8 (by omega); omega⟩
  have hk8 : k < 8 := by have := pickT_range c 8 (by omega); omega
  have HT := hide2 (tables_any c hc k hk w h)
  by_cases ht' : 2000 < text.length
  · go_enter Tryz.func12, Tryz.ntmps12
    go_wp2_with (go_at_call 17; refine HT.out.mono ?_; clear HT; rintro e w1 ⟨tp, rfl, H1⟩)
    go_ret
    exact ⟨rfl, H1.out.1⟩
  have ht : text.length ≤ 2000 := by omega
  have hok := (comp_of (comp_l k hk8)).ok
  have hup := up_l k hk8
  have HTk : Hid (∀ w1 tp, (Below w.heap.size w w1 ∧ ∃ p, TabAt w1 tp p w1.heap.size (machL k)) → Calls Tryz.prog 18 #[.pointer (some ⟨tp, 0, none⟩), .string ⟨text.toArray⟩] w1 fun en w2 => ∃ (ts : List Sg.Tok) (la : Option Addr) (lc : Nat), en = .returned (.tuple #[.slice la ts.length lc, .bool true]) ∧ ts.length ≤ 2000 ∧ Hid (∀ t ∈ ts, t.text.length ≤ 2000) ∧
      Hid (Calls Tryz.prog 27 #[.pointer (some ⟨tp, 0, none⟩)] w2 fun e w3 => e = .returned (.int .i64 (bndV k)) ∧ Hid (RowAt 5 w3 la lc ts.length (ts.flatMap tokCells)) ∧ Hid (Below w.heap.size w w3) ∧
      Hid (∀ (b lg : Nat), bndV k = b → 1 ≤ b → b ≤ 1000 → Sg.bndOk (machL k) (bndM k) b = true → 4 ≤ lg → lg ≤ 2000 → (∀ t ∈ ts, t.text.length ≤ lg) → Calls Tryz.prog 21 #[.slice (some ⟨w3.heap.size, 0, none⟩) 1 1] (w3.alloc (.cells #[.string ⟨text.toArray⟩, .int .i64 0, .int .i64 0] 40)) fun e w4 => ∃ q, e = .returned (.pointer (some ⟨q, 0, none⟩)) ∧
        Hid (Calls Tryz.prog 22 #[.pointer (some ⟨tp, 0, none⟩), .pointer (some ⟨q, 0, none⟩), .int .i64 ((lg : Int) + (b : Int))] w4 fun en w5 => ∃ sq, en = .returned (.tuple #[.pointer (some ⟨sq, 0, none⟩), .nilIface]) ∧
        Hid (Calls Tryz.prog 23 #[.pointer (some ⟨sq, 0, none⟩), .int .i64 3000] w5 fun en w6 => ∃ rb rd, en = .returned (.tuple #[.slice rb ts.length rd, .iface 50 (.int .i64 13)]) ∧
        Hid (Calls Tryz.prog 24 #[.iface 50 (.int .i64 13)] w6 fun e w7 => e = .returned (.tuple #[.int .i64 13, .int .i64 (-1), .int .i64 (-1)]) ∧
        Hid (Calls Tryz.prog 25 #[.slice la ts.length lc, .slice rb ts.length rd] w7 fun e w8 => e = .returned (.bool true) ∧ Hid (Below w.heap.size w w8)))))))) := hide2 fun w1 tp ⟨hb1, p, hT⟩ => by
    obtain ⟨_, k2, k3, k4⟩ := Sg.toksOf_has (machL k) text ht
    refine (tokens_any _ hok tp p _ text ht w1 hT).mono ?_
    rintro en w2 ⟨la, lc, rfl, g1, g2, g3⟩
    have hb2 := hb1.trans (g3.mono hb1.size)
    refine ⟨_, la, lc, rfl, by omega, hide2 (fun t htk => ?_), hide2 ((boundL_any k hk8 w2 tp p _ (hT.below hok (Nat.le_refl _) g3)).mono ?_)⟩
    · have : t.text.length ≤ text.length := by
        rw [← k2]
        obtain ⟨x, y, hab⟩ := List.append_of_mem htk
        rw [hab, List.flatMap_append, List.flatMap_cons, List.length_append, List.length_append]; omega
      omega
    · rintro e w3 ⟨rfl, H3⟩
      have p3 := H3.out
      have hb3 := hb2.trans (p3.mono hb2.size)
      refine ⟨rfl, hide2 (g1.below p3), hide2 hb3, hide2 ?_⟩
      intro b lg hbv hb0 hb1000 hcert h4 hlg hall
      have pA := blw1' w3 (.cells #[.string ⟨text.toArray⟩, .int .i64 0, .int .i64 0] 40)
      have p3A := p3.trans (pA.mono p3.size)
      have hb13 : Below w1.heap.size w1 _ := g3.trans (p3A.mono g3.size)
      have hT3 := hT.below hok (Nat.le_refl _) hb13
      have hbm := hT3.le
      have hbA := hb3.trans (pA.mono hb3.size)
      refine (scan_row _ hok tp p _ (lg + b) (by omega) (by omega) _ hT3 [⟨text, 0, 0⟩] (by simp) (by simp) ⟨by show 0 < 1000000000; omega, by show 0 < 1000000000; omega, fun x hx => by
        simp only [List.mem_singleton] at hx
        subst hx
        exact ⟨by show text.length < _; omega, by show (0 : Int) < _; omega⟩⟩ _ 1 (row_pc w3 text _)).mono ?_
      rintro e w4 ⟨q, rfl, HS⟩
      have hs := HS.out
      rw [show (((lg + b : Nat)) : Int) = (lg : Int) + (b : Int) by omega] at hs
      refine ⟨q, rfl, hide2 (hs.mono ?_)⟩
      rintro en w5 ⟨sq, F, rfl, HF⟩
      refine ⟨sq, rfl, hide2 ((all_row _ hok _ w5 sq _ hbm _ F HF.out _ 13 (toks_near _ hok hup (Sg.bnd_of hcert) text ht lg h4 hall)).mono ?_)⟩
      rintro en w6 ⟨rb, rd, rfl, K6⟩
      obtain ⟨r1, r2, r3, r4⟩ := K6.out
      have hb6 := hbA.trans (r4.mono hbA.size)
      refine ⟨rb, rd, rfl, hide2 ((told_errno 13 w6 (h.below hb6).et).mono ?_)⟩
      rintro e w7 ⟨rfl, hb7⟩
      refine ⟨rfl, hide2 ((same_any w7 la rb lc rd _ (by omega) (g1.below (p3A.trans ((r4.mono p3A.size).trans (hb7.mono (Nat.le_trans p3A.size r4.size))))) (r1.below hb7)).mono ?_)⟩
      rintro e w8 ⟨rfl, hb8⟩
      have hb7' := hb6.trans (hb7.mono hb6.size)
      exact ⟨rfl, hide2 (hb7'.trans (hb8.mono hb7'.size))⟩
  have HBn := hide2 (bnd_l k hk8)
  have hbn : bndV k = -1 ∨ ∃ b : Nat, bndV k = b ∧ 1 ≤ b ∧ b ≤ 1000 := by
    match k, hk8 with
    | 0, _ => exact .inr ⟨1, rfl, by omega, by omega⟩
    | 1, _ => exact .inl rfl
    | 2, _ => exact .inr ⟨4, rfl, by omega, by omega⟩
    | 3, _ => exact .inl rfl
    | 4, _ => exact .inr ⟨4, rfl, by omega, by omega⟩
    | 5, _ => exact .inr ⟨6, rfl, by omega, by omega⟩
    | 6, _ => exact .inr ⟨8, rfl, by omega, by omega⟩
    | 7, _ => exact .inr ⟨2, rfl, by omega, by omega⟩
    | _ + 8, h => omega
  clear h hk hok hc hup hk8
  rcases hbn with hbv | ⟨b, hbv, hb1, hb2⟩
  · rw [hbv] at HTk
    go_enter Tryz.func12, Tryz.ntmps12
    go_wp2_with (first
      | (go_at_call 17; refine HT.out.mono ?_; clear HT; rintro e w1 ⟨tp, rfl, H1⟩)
      | (go_at_call 18; refine (HTk.out w1 tp H1.out).mono ?_; clear HTk; rintro e w2 ⟨ts, la, lc, rfl, hts, HL, HBd⟩)
      | (go_at_call 27; refine HBd.out.mono ?_; clear HBd; rintro e w3 ⟨rfl, HR, HB3, HX⟩))
    go_ret
    exact ⟨rfl, HB3.out⟩
  · have _HBV := hide2 hbv
    have HCt : Hid (Sg.bndOk (machL k) (bndM k) b = true) := hide2 (by
      rcases HBn.out with e | ⟨e1, e2⟩
      · omega
      · rw [hbv] at e2; exact e2)
    rw [hbv] at HTk
    have hbz : (((b : Nat) : Int) == 0) = false := beq_eq_false_iff_ne.2 (by omega)
    clear hbv HBn
    go_enter Tryz.func12, Tryz.ntmps12
    go_wp2_with (first
      | (go_at_call 17; refine HT.out.mono ?_; clear HT; rintro e w1 ⟨tp, rfl, H1⟩)
      | (go_at_call 18; refine (HTk.out w1 tp H1.out).mono ?_; clear HTk; rintro e w2 ⟨ts, la, lc, rfl, hts, HL, HBd⟩)
      | (go_at_call 27; refine HBd.out.mono ?_; clear HBd; rintro e w3 ⟨rfl, HR, HB3, HX⟩))
    go_loopw [9, 10] (fun gv iv wr => wr = w3 ∧ ∃ (i lg : Nat), iv = .int .i64 i ∧ gv = .int .i64 lg ∧ i ≤ ts.length ∧ 4 ≤ lg ∧ lg ≤ 2000 ∧ Hid (∀ t ∈ ts.take i, t.text.length ≤ lg)) (fun _ iv _ => ts.length - (intOf iv).toNat)
    case atStart => exact ⟨rfl, 0, 4, rfl, rfl, Nat.zero_le _, Nat.le_refl _, by omega, hide2 (fun t ht => by simp at ht)⟩
    case round =>
      obtain ⟨rfl, i, lg, rfl, rfl, hi, hl4, hl2, HG⟩ := hrel
      by_cases hlt : i < ts.length
      · obtain ⟨rb, ro, rfl, c0, c1, c2, c3, c4⟩ := tok_cells HR.out i hlt
        have hmx := HL.out ts[i] (List.getElem_mem hlt)
        have htk : ts.take (i + 1) = ts.take i ++ [ts[i]] := by rw [List.take_add_one, List.getElem?_eq_getElem hlt]; rfl
        have Htk := hide2 htk
        clear c0 c1 c2 c3 htk
        generalize ts[i] = t at *
        by_cases hbig : lg < t.text.length
        · go_wp2
          go_roundw
          case rel =>
            refine ⟨trivial, i + 1, t.text.length, by go_num, rfl, by omega, by omega, hmx, hide2 (fun x hx => ?_)⟩
            rw [Htk.out] at hx
            rcases List.mem_append.1 hx with hx | hx
            · have := HG.out x hx; omega
            · rw [List.mem_singleton] at hx; subst hx; exact Nat.le_refl _
          case measure => simp [intOf]; omega
        · go_wp2
          go_roundw
          case rel =>
            refine ⟨trivial, i + 1, lg, by go_num, rfl, by omega, hl4, hl2, hide2 (fun x hx => ?_)⟩
            rw [Htk.out] at hx
            rcases List.mem_append.1 hx with hx | hx
            · exact HG.out x hx
            · rw [List.mem_singleton] at hx; subst hx; omega
          case measure => simp [intOf]; omega
      · have hall : ∀ t ∈ ts, t.text.length ≤ lg := by
          have := HG.out
          rwa [List.take_of_length_le (by omega)] at this
        have HX2 := hide2 (HX.out b lg rfl hb1 hb2 HCt.out hl4 hl2 hall)
        clear HX hall HG HR HL
        go_wp2_with (first
          | (go_at_call 21; refine HX2.out.mono ?_; clear HX2; rintro e w5 ⟨q, rfl, HS⟩)
          | (go_at_call 22; refine HS.out.mono ?_; clear HS; rintro e w6 ⟨sq, rfl, HS⟩)
          | (go_at_call 23; refine HS.out.mono ?_; clear HS; rintro e w7 ⟨rb, rd, rfl, HS⟩)
          | (go_at_call 24; refine HS.out.mono ?_; clear HS; rintro e w8 ⟨rfl, HS⟩)
          | (go_at_call 25; refine HS.out.mono ?_; clear HS; rintro e w9 ⟨rfl, HS⟩))
        go_ret
        exact ⟨rfl, HS.out⟩
end Go.Proofs.YtlhokghgicgppaaGreatDoor

namespace Go.Proofs.YtlhokghgicgppaaGreatDoor
open Go.RowKit Go.Extern

theorem cat_eq (a b : Sg.Bs) : ByteArray.mk a.toArray ++ ByteArray.mk b.toArray = ⟨(a ++ b).toArray⟩ := by
  refine ByteArray.ext ?_
  rw [ByteArray.data_append]
  simp
theorem cut_pure (m : Sg.Mach) (hm : m.Ok) (hu : m.Up) (text more : Sg.Bs) (ht : text.length + more.length ≤ 2000) (kind : Int) (hk : 1 ≤ kind ∧ kind ≤ 5) :
    ∃ ms rest t', Sg.allT m 3000 (Sg.live0 5000 [⟨text, 0, kind⟩, ⟨more, 0, 0⟩]) = (ms, some (Sg.errOf kind)) ∧ Sg.toksOf m (text ++ more) = ms ++ rest ∧ text = ms.flatMap (·.text) ++ t' ∧ ∀ M b, Sg.Bnd m M b → rest = [] ∨ ∃ tk r, rest = tk :: r ∧ t'.length ≤ b + (tk.text.length + 4) := by
  have hl : (text ++ more).length ≤ 2000 := by rw [List.length_append]; exact ht
  obtain ⟨ms, ls, t', h1, h2, h3, h4, h5⟩ := Sg.allT_cut m hm hu askN_len kind hk more 3000 (Sg.live0 5000 [⟨text ++ more, 0, 0⟩]) (Sg.live0 5000 [⟨text, 0, kind⟩, ⟨more, 0, 0⟩]) text (Sg.live0_has _ _) (.inl ⟨rfl, _, _, 0, rfl, rfl, rfl, Nat.zero_le _, by simp [Sg.live0]⟩) (Sg.on_zero rfl) (Sg.on_zero rfl) rfl (by show _ < 5000; omega) (by show _ < 5000; omega) (by show 4 ≤ 5000; omega) (by show 4 ≤ 5000; omega) (by omega)
  refine ⟨ms, ls, t', h1, h2, h3, fun M b hB => ?_⟩
  rcases h5 with h5 | ⟨tk, r, e1, e2⟩
  · exact .inl h5
  · refine .inr ⟨tk, r, e1, ?_⟩
    rw [e2]
    rcases h4 with h4 | h4
    · have := Sg.fits_bound hm hu hB (r := t' ++ more) (long := Sg.tokSz m (t' ++ more)) (Nat.le_refl _) t' more rfl h4
      omega
    · have := Sg.full_short h4; omega
theorem row_pc2 (w : World) (text more : Sg.Bs) (k : Int) (t : TypeId) : RowAt 3 (w.alloc (.cells #[.string ⟨text.toArray⟩, .int .i64 0, .int .i64 k, .string ⟨more.toArray⟩, .int .i64 0, .int .i64 0] t)) (some ⟨w.heap.size, 0, none⟩) 2 [(⟨text, 0, k⟩ : Sg.Pc), ⟨more, 0, 0⟩].length ([(⟨text, 0, k⟩ : Sg.Pc), ⟨more, 0, 0⟩].flatMap pcCells) := by
  refine ⟨rfl, .inr ⟨w.heap.size, 0, rfl, Nat.le_refl _, fun j v hj => ?_, fun j hj => ?_, by simp, fun j => World.frozen?_alloc_at _ _ _ _ rfl⟩⟩
  · rw [World.cell?_alloc_at _ _ _ _ rfl, Nat.zero_add]
    simpa [pcCells, strV] using hj
  · rw [World.cell?_alloc_at _ _ _ _ rfl, Nat.zero_add]
    match j, hj with
    | 0, _ => rfl
    | 1, _ => rfl
    | 2, _ => rfl
    | 3, _ => rfl
    | 4, _ => rfl
    | 5, _ => rfl
    | j + 6, h => omega
def lgOf (ts : List Sg.Tok) (n : Nat) : Nat := match ts[n]? with
  | some t => t.text.length + 4
  | none => 4
set_option maxRecDepth 100000 in
set_option maxHeartbeats 2000000 in
theorem longest_any (w : World) (ra : Option Addr) (rc : Nat) (ts : List Sg.Tok) (n : Nat) (hn : ts.length ≤ 3000) (hx : n ≤ 3000) (hl : ∀ t ∈ ts, t.text.length ≤ 2000) (h1 : RowAt 5 w ra rc ts.length (ts.flatMap tokCells)) :
    Calls Tryz.prog 28 #[.slice ra ts.length rc, .int .i64 n] w fun e w' => e = .returned (.int .i64 (lgOf ts n)) ∧ w' = w := by
  have H1 := hide2 h1
  clear h1
  unfold lgOf
  by_cases hlt : n < ts.length
  · rw [List.getElem?_eq_getElem hlt]
    obtain ⟨b1, o1, rfl, c0, c1, c2, c3, c4⟩ := tok_cells H1.out n hlt
    have hl' := hl ts[n] (List.getElem_mem hlt)
    dsimp only
    clear c0 c1 c2 c3 hl
    generalize ts[n] = t at *
    go_enter Tryz.func28, Tryz.ntmps28
    go_wp2
    go_ret
    exact ⟨by first | rfl | (go_num) | (refine ret_int ?_; omega), rfl⟩
  · rw [List.getElem?_eq_none (by omega)]
    dsimp only
    clear hl
    go_enter Tryz.func28, Tryz.ntmps28
    go_wp2
    go_ret
    exact ⟨rfl, rfl⟩
set_option maxRecDepth 100000 in
set_option maxHeartbeats 4000000 in
theorem cutK_any (c : Int) (hc : InI64 c) (text more : Sg.Bs) (kind : Int) (hkd : InI64 kind) (hz : text.length + more.length < 9223372036854775808) (w : World) (h : Lay w) :
    Calls Tryz.prog 10 #[.int .i64 c, .string ⟨text.toArray⟩, .string ⟨more.toArray⟩, .int .i64 kind] w fun e w' => e = .returned (.bool true) ∧ Below w.heap.size w w' := by
  obtain ⟨k, hk⟩ : ∃ k : Nat, pickT c 8 = k := ⟨(pickT c 8).toNat, by have := pickT_range c 8 (by omega); omega⟩
  have hk8 : k < 8 := by have := pickT_range c 8 (by omega); omega
  have HT := hide2 (tables_any c hc k hk w h)
  by_cases ht' : 2000 < text.length + more.length
  · have hwr : wrap64 ((text.length : Int) + (more.length : Int)) = (text.length : Int) + (more.length : Int) := by unfold wrap64; omega
    go_enter Tryz.func10, Tryz.ntmps10
    go_wp2_with (go_at_call 17; refine HT.out.mono ?_; clear HT; rintro e w1 ⟨tp, rfl, H1⟩)
    go_ret
    exact ⟨rfl, H1.out.1⟩
  have ht : text.length + more.length ≤ 2000 := by omega
  have htm : (text ++ more).length ≤ 2000 := by rw [List.length_append]; exact ht
  have hok := (comp_of (comp_l k hk8)).ok
  have hup := up_l k hk8
  obtain ⟨pk, hpk⟩ : ∃ pk : Int, pickT kind 5 = pk := ⟨_, rfl⟩
  have hpr : 1 ≤ 1 + pk ∧ 1 + pk ≤ 5 := by have := pickT_range kind 5 (by omega); omega
  have HP := hide2 (fun W => pick_any kind 5 hkd (by omega) (by omega) W)
  rw [hpk] at HP
  obtain ⟨e0, he0⟩ : ∃ e0, Sg.errOf (1 + pk) = e0 := ⟨_, rfl⟩
  have he : e0 = 14 ∨ e0 = 11 := by
    rw [← he0]; unfold Sg.errOf; split
    · exact .inl rfl
    · exact .inr rfl
  have hbl := bnd_l k hk8
  have HTk : Hid (∀ w1 tp, (Below w.heap.size w w1 ∧ ∃ p, TabAt w1 tp p w1.heap.size (machL k)) → Calls Tryz.prog 18 #[.pointer (some ⟨tp, 0, none⟩), .string (ByteArray.mk text.toArray ++ ByteArray.mk more.toArray)] w1 fun en w2 => ∃ (ts ms : List Sg.Tok) (la : Option Addr) (lc : Nat), en = .returned (.tuple #[.slice la ts.length lc, .bool true]) ∧ ts.length ≤ 2000 ∧ ms.length ≤ ts.length ∧ Hid (∃ rest, ts = ms ++ rest) ∧ Hid (∀ t ∈ ts, t.text.length ≤ 2000) ∧ Hid ((ms.flatMap (·.text)).length ≤ text.length) ∧ Hid (∀ b : Nat, bndV k = b → text.length - (ms.flatMap (·.text)).length ≤ b + lgOf ts ms.length ∨ ms.length = ts.length) ∧
      Hid (Calls Tryz.prog 21 #[.slice (some ⟨w2.heap.size, 0, none⟩) 2 2] (w2.alloc (.cells #[.string ⟨text.toArray⟩, .int .i64 0, .int .i64 (1 + pk), .string ⟨more.toArray⟩, .int .i64 0, .int .i64 0] 40)) fun e w4 => ∃ q, e = .returned (.pointer (some ⟨q, 0, none⟩)) ∧
        Hid (Calls Tryz.prog 22 #[.pointer (some ⟨tp, 0, none⟩), .pointer (some ⟨q, 0, none⟩), .int .i64 5000] w4 fun en w5 => ∃ sq, en = .returned (.tuple #[.pointer (some ⟨sq, 0, none⟩), .nilIface]) ∧
        Hid (Calls Tryz.prog 23 #[.pointer (some ⟨sq, 0, none⟩), .int .i64 3000] w5 fun en w6 => ∃ rb rd, en = .returned (.tuple #[.slice rb ms.length rd, .iface 50 (.int .i64 e0)]) ∧
        Hid (Calls Tryz.prog 24 #[.iface 50 (.int .i64 e0)] w6 fun e w7 => e = .returned (.tuple #[.int .i64 e0, .int .i64 (-1), .int .i64 (-1)]) ∧
          Hid (∀ wr, Below w7.heap.size w7 wr → Calls Tryz.prog 26 #[.pointer (some ⟨sq, 0, none⟩)] wr fun en w' => en = .returned (.tuple #[.agg #[.int .i64 0, .int .i64 0, .int .i64 0, .int .i64 0, .string ⟨#[]⟩], .iface 50 (.int .i64 e0)]) ∧ Hid (Below w7.heap.size w7 w')) ∧
          Hid (∀ wr, Below w7.heap.size w7 wr → Calls Tryz.prog 24 #[.iface 50 (.int .i64 e0)] wr fun e w' => e = .returned (.tuple #[.int .i64 e0, .int .i64 (-1), .int .i64 (-1)]) ∧ Hid (Below wr.heap.size wr w')) ∧
          Hid (∀ wr, Below w7.heap.size w7 wr → RowAt 5 wr la lc ts.length (ts.flatMap tokCells) ∧ RowAt 5 wr rb rd ms.length (ms.flatMap tokCells)) ∧
          Hid (∀ wr, Below w7.heap.size w7 wr → Calls Tryz.prog 27 #[.pointer (some ⟨tp, 0, none⟩)] wr fun e w8 => e = .returned (.int .i64 (bndV k)) ∧ Hid (Below w7.heap.size w7 w8)) ∧
          Hid (∀ wr, Below w7.heap.size w7 wr → Below w.heap.size w wr)))))) := hide2 fun w1 tp ⟨hb1, p, hT⟩ => by
    rw [cat_eq]
    obtain ⟨_, k2, k3, k4⟩ := Sg.toksOf_has (machL k) (text ++ more) htm
    obtain ⟨ms, rest, t', z1, z2, z3, z4⟩ := cut_pure (machL k) hok hup text more ht (1 + pk) hpr
    rw [he0] at z1
    have hms : ms.length ≤ (Sg.toksOf (machL k) (text ++ more)).length := by rw [z2, List.length_append]; omega
    have htl : text.length = (ms.flatMap (·.text)).length + t'.length := by conv => lhs; rw [z3, List.length_append]
    refine (tokens_any _ hok tp p _ (text ++ more) htm w1 hT).mono ?_
    rintro en w2 ⟨la, lc, rfl, g1, g2, g3⟩
    have hb2 := hb1.trans (g3.mono hb1.size)
    refine ⟨_, ms, la, lc, rfl, by omega, hms, hide2 ⟨rest, z2⟩, hide2 (fun t htk => ?_), hide2 (by omega), hide2 (fun b hb => ?_), hide2 ?_⟩
    · have : t.text.length ≤ (text ++ more).length := by
        rw [← k2]
        obtain ⟨x, y, hab⟩ := List.append_of_mem htk
        rw [hab, List.flatMap_append, List.flatMap_cons, List.length_append, List.length_append]; omega
      omega
    · have hB : Sg.Bnd (machL k) (bndM k) b := by
        rcases hbl with e | ⟨e1, e2⟩
        · omega
        · rw [hb] at e2; exact Sg.bnd_of e2
      rcases z4 _ _ hB with e | ⟨tk, r, e1, e2⟩
      · exact .inr (by rw [z2, e, List.append_nil])
      · refine .inl ?_
        have : lgOf (Sg.toksOf (machL k) (text ++ more)) ms.length = tk.text.length + 4 := by
          unfold lgOf
          rw [z2, e1, List.getElem?_append_right (Nat.le_refl _), Nat.sub_self]
          rfl
        rw [this]; omega
    · have pA := blw1' w2 (.cells #[.string ⟨text.toArray⟩, .int .i64 0, .int .i64 (1 + pk), .string ⟨more.toArray⟩, .int .i64 0, .int .i64 0] 40)
      have hb13 : Below w1.heap.size w1 _ := g3.trans (pA.mono g3.size)
      have hT3 := hT.below hok (Nat.le_refl _) hb13
      have hbm := hT3.le
      have hbA := hb2.trans (pA.mono hb2.size)
      refine (scan_row _ hok tp p _ 5000 (by omega) (by omega) _ hT3 [⟨text, 0, 1 + pk⟩, ⟨more, 0, 0⟩] (by simp) (by simp) ⟨by show 0 < 1000000000; omega, by show 0 < 1000000000; omega, fun x hx => by
        simp only [List.mem_cons, List.not_mem_nil, or_false] at hx
        rcases hx with rfl | rfl
        · exact ⟨by show text.length < _; omega, by show (0 : Int) < _; omega⟩
        · exact ⟨by show more.length < _; omega, by show (0 : Int) < _; omega⟩⟩ _ 2 (row_pc2 w2 text more (1 + pk) _)).mono ?_
      rintro e w4 ⟨q, rfl, HS⟩
      refine ⟨q, rfl, hide2 (HS.out.mono ?_)⟩
      rintro en w5 ⟨sq, F, rfl, HF⟩
      refine ⟨sq, rfl, hide2 ((all_row _ hok _ w5 sq _ hbm _ F HF.out _ e0 z1).mono ?_)⟩
      rintro en w6 ⟨rb, rd, rfl, K6⟩
      obtain ⟨r1, r2, r3, r4⟩ := K6.out
      have hb6 := hbA.trans (r4.mono hbA.size)
      have p26 := pA.trans (r4.mono pA.size)
      refine ⟨rb, rd, rfl, hide2 ((told_errno e0 w6 (h.below hb6).et).mono ?_)⟩
      rintro e w7 ⟨rfl, hb7⟩
      have hw7 := hb6.trans (hb7.mono hb6.size)
      have p27 := p26.trans (hb7.mono p26.size)
      have c7 := below_keep hb7 r3
      have q7 := r1.below hb7
      have t7 := (hT.below hok (Nat.le_refl _) g3).below hok (Nat.le_trans (Nat.le_refl _) g3.size) p27
      have a7 := g1.below p27
      have l7 := h.below hw7
      refine ⟨rfl, hide2 fun wr hr => ?_, hide2 fun wr hr => ?_, hide2 fun wr hr => ⟨a7.below hr, q7.below hr⟩, hide2 fun wr hr => ?_, hide2 fun wr hr => hw7.trans (hr.mono hw7.size)⟩
      · refine (next_dead sq e0 wr (below_keep hr c7)).mono ?_
        rintro en w' ⟨rfl, hb'⟩
        exact ⟨rfl, hide2 (hr.trans (hb'.mono hr.size))⟩
      · refine (told_errno e0 wr (l7.below hr).et).mono ?_
        rintro en w' ⟨rfl, hb'⟩
        exact ⟨rfl, hide2 hb'⟩
      · refine (boundL_any k hk8 wr tp p _ (t7.below hok (Nat.le_trans g3.size p27.size) hr)).mono ?_
        rintro e w8 ⟨rfl, H8⟩
        exact ⟨rfl, hide2 (hr.trans (H8.out.mono hr.size))⟩
  have hbn : bndV k = -1 ∨ ∃ b : Nat, bndV k = b ∧ 1 ≤ b ∧ b ≤ 1000 := by
    match k, hk8 with
    | 0, _ => exact .inr ⟨1, rfl, by omega, by omega⟩
    | 1, _ => exact .inl rfl
    | 2, _ => exact .inr ⟨4, rfl, by omega, by omega⟩
    | 3, _ => exact .inl rfl
    | 4, _ => exact .inr ⟨4, rfl, by omega, by omega⟩
    | 5, _ => exact .inr ⟨6, rfl, by omega, by omega⟩
    | 6, _ => exact .inr ⟨8, rfl, by omega, by omega⟩
    | 7, _ => exact .inr ⟨2, rfl, by omega, by omega⟩
    | _ + 8, h => omega
  clear h hk hok hc hup hkd hpk he0 htm hbl hk8
  go_enter Tryz.func10, Tryz.ntmps10
  go_wp2_with (first
    | (go_at_call 17; refine HT.out.mono ?_; clear HT; rintro e w1 ⟨tp, rfl, H1⟩)
    | (go_at_call 18; refine (HTk.out w1 tp H1.out).mono ?_; clear HTk; rintro e w2 ⟨ts, ms, la, lc, rfl, hts, hms, HRest, HL, HSum, HF, HX⟩)
    | (go_at_call 20; refine (HP.out _).mono ?_; clear HP; rintro e w3 ⟨rfl, rfl⟩)
    | (go_at_call 21; refine HX.out.mono ?_; clear HX; rintro e w5 ⟨q, rfl, HS⟩)
    | (go_at_call 22; refine HS.out.mono ?_; clear HS; rintro e w6 ⟨sq, rfl, HS⟩)
    | (go_at_call 23; refine HS.out.mono ?_; clear HS; rintro e w7 ⟨rb, rd, rfl, HS⟩)
    | (go_at_call 24; refine HS.out.mono ?_; clear HS; rintro e w8 ⟨rfl, HN, HTo, HR, HB, HW⟩))
  go_loopw [21] (fun iv wr => ∃ (i : Nat), iv = .int .i64 i ∧ i ≤ 3 ∧ Hid (Below w8.heap.size w8 wr)) (fun iv _ => 3 - (intOf iv).toNat)
  case atStart => exact ⟨0, rfl, by omega, hide2 (Below.refl _ _)⟩
  case round =>
    obtain ⟨i, rfl, hi, H⟩ := hrel
    by_cases hlt : i < 3
    · have HN1 := hide2 (HN.out wr H.out)
      go_wp2_with (first
        | (go_at_call 26; refine HN1.out.mono ?_; clear HN1; rintro e w9 ⟨rfl, H9⟩; have HA9 : Hid (Below w8.heap.size w8 (w9.alloc tokZ)) := hide2 (H9.out.alloc H9.out.size _); have HT9 := hide2 (HTo.out (w9.alloc tokZ) HA9.out); clear H9)
        | (go_at_call 24; refine HT9.out.mono ?_; clear HT9; rintro e w10 ⟨rfl, H10⟩; have d0 : w10.cell? ⟨w9.heap.size, 0, none⟩ = some (.int .i64 0) := below_keep H10.out (cell_of' (heap_alloc_new w9 tokZ) 0); have d1 : w10.cell? ⟨w9.heap.size, 1, none⟩ = some (.int .i64 0) := below_keep H10.out (cell_of' (heap_alloc_new w9 tokZ) 1); have d2 : w10.cell? ⟨w9.heap.size, 2, none⟩ = some (.int .i64 0) := below_keep H10.out (cell_of' (heap_alloc_new w9 tokZ) 2); have d3 : w10.cell? ⟨w9.heap.size, 3, none⟩ = some (.int .i64 0) := below_keep H10.out (cell_of' (heap_alloc_new w9 tokZ) 3); have d4 : w10.cell? ⟨w9.heap.size, 4, none⟩ = some (.string ⟨#[]⟩) := below_keep H10.out (cell_of' (heap_alloc_new w9 tokZ) 4); have HW10 := hide2 (HA9.out.trans (H10.out.mono HA9.out.size)); clear HA9 H10))
      go_roundw
      case rel => exact ⟨i + 1, by go_num, by omega, HW10⟩
      case measure => simp [intOf]; omega
    · clear HN HTo
      rcases he with rfl | rfl
      all_goals (
        go_wp2
        go_loopw [20, 27] (fun nv jv wi => ∃ (j s : Nat), jv = .int .i64 j ∧ nv = .int .i64 s ∧ j ≤ ms.length ∧ s ≤ 2000 ∧ Hid (s = ((ms.take j).flatMap (·.text)).length ∧ Below w8.heap.size w8 wi)) (fun _ jv _ => ms.length - (intOf jv).toNat)
        case atStart => exact ⟨0, 0, rfl, rfl, Nat.zero_le _, Nat.zero_le _, hide2 ⟨by simp, H.out⟩⟩
        case round =>
          obtain ⟨j, s, rfl, rfl, hj, hs, H2⟩ := hrel
          by_cases hlt2 : j < ms.length
          · obtain ⟨rest, hrest⟩ := HRest.out
            have hrows := HR.out wr H2.out.2
            obtain ⟨b1, o1, rfl, c0, c1, c2, c3, c4⟩ := tok_cells hrows.2 j hlt2
            obtain ⟨b2, o2, rfl, d0, d1, d2, d3, d4⟩ := tok_cells hrows.1 j (by omega)
            have hsame : ts[j]'(by omega) = ms[j] := by
              have h1 : ts[j]? = ms[j]? := by rw [hrest, List.getElem?_append_left hlt2]
              rw [List.getElem?_eq_getElem (by omega), List.getElem?_eq_getElem hlt2] at h1
              exact Option.some.inj h1
            rw [hsame] at d0 d1 d2 d3 d4
            have htk : ms.take (j + 1) = ms.take j ++ [ms[j]] := by rw [List.take_add_one, List.getElem?_eq_getElem hlt2]; rfl
            have hsum : s + ms[j].text.length = ((ms.take (j + 1)).flatMap (·.text)).length := by
              rw [htk, List.flatMap_append, List.length_append, ← H2.out.1]; simp
            have hpre : ((ms.take (j + 1)).flatMap (·.text)).length ≤ (ms.flatMap (·.text)).length := by
              conv => rhs; rw [← List.take_append_drop (j + 1) ms, List.flatMap_append, List.length_append]
              omega
            have hle : s + ms[j].text.length ≤ 2000 := by have := HSum.out; omega
            have HS2 := hide2 hsum
            clear hsame hrows htk hsum hpre hrest
            generalize ms[j] = t at *
            go_upto_region 24 with fail
            go_quiet (fail)
            have hbq : Below wr.heap.size wr (wr.drewN nq) := ⟨rfl, rfl, rfl, Nat.le_refl _, fun _ _ => rfl⟩
            have HW2 := hide2 (H2.out.2.trans (hbq.mono H2.out.2.size))
            have e4 := below_keep hbq c4
            clear c0 c1 c2 c3 c4 d0 d1 d2 d3 d4 H2 hbq
            generalize wr.drewN nq = wq at *
            go_wp2
            go_roundw
            case rel => exact ⟨j + 1, s + t.text.length, by go_num, by go_num, by omega, hle, hide2 ⟨HS2.out, HW2.out⟩⟩
            case measure => simp [intOf]; omega
          · have hjn : ms.take j = ms := List.take_of_length_le (by omega)
            have hs2 := H2.out.1
            rw [hjn] at hs2
            have hst : s ≤ text.length := by rw [hs2]; exact HSum.out
            have HB1 := hide2 (HB.out wr H2.out.2)
            have hfin := HF.out
            rw [← hs2] at hfin
            clear HB HF hs2 hjn
            rcases hbn with hbv | ⟨b, hbv, hb1, hb2⟩
            · rw [hbv] at HB1
              clear hfin
              go_wp2_with (go_at_call 27; refine HB1.out.mono ?_; clear HB1; rintro e w11 ⟨rfl, H11⟩)
              go_ret
              exact ⟨rfl, HW.out _ H11.out⟩
            · have hf := hfin b hbv
              have HLg : Hid (∀ W, Below w8.heap.size w8 W → Calls Tryz.prog 28 #[.slice la ts.length lc, .int .i64 ms.length] W fun e w' => e = .returned (.int .i64 (lgOf ts ms.length)) ∧ w' = W) := hide2 fun W hW => longest_any W la lc ts ms.length (by omega) (by omega) HL.out (HR.out W hW).1
              have hlg : lgOf ts ms.length ≤ 2004 := by
                unfold lgOf
                split
                · rename_i t e
                  have := HL.out t (List.mem_of_getElem? e)
                  omega
                · omega
              rw [hbv] at HB1
              clear hfin HR HL
              generalize lgOf ts ms.length = lg at *
              by_cases hle : text.length - s ≤ b + lg
              · clear hf
                go_wp2_with (first
                  | (go_at_call 27; refine HB1.out.mono ?_; clear HB1; rintro e w11 ⟨rfl, H11⟩)
                  | (go_at_call 28; refine (HLg.out _ H11.out).mono ?_; clear HLg; rintro e w12 ⟨rfl, rfl⟩))
                go_ret
                exact ⟨rfl, HW.out _ H11.out⟩
              · have hml : ms.length = ts.length := by
                  rcases hf with hf | hf
                  · exact absurd hf hle
                  · exact hf
                clear hf
                rw [hml] at HLg
                go_wp2_with (first
                  | (go_at_call 27; refine HB1.out.mono ?_; clear HB1; rintro e w11 ⟨rfl, H11⟩)
                  | (go_at_call 28; refine (HLg.out _ H11.out).mono ?_; clear HLg; rintro e w12 ⟨rfl, rfl⟩))
                go_ret
                exact ⟨rfl, HW.out _ H11.out⟩)
end Go.Proofs.YtlhokghgicgppaaGreatDoor
