/- (*layout).lows. -/
/- scangenkeep.tables. -/
/- scangenkeep.same, of two rows that hold the same tokens. -/
import Derived.Test.YtlhokghgicgppaaGreatDoorStates2
import Derived.Test.YtlhokghgicgppaaGreatDoorKeepB
import Derived.Test.YtlhokghgicgppaaGreatDoorToks
import Derived.BigQuiet
set_option linter.unusedSimpArgs false
set_option linter.unusedVariables false
set_option maxRecDepth 100000
set_option maxHeartbeats 4000000
namespace Go.Proofs.YtlhokghgicgppaaGreatDoor
open Go.RowKit Go.Extern Go.Sort Go.Lib
def lowS (a : List Int) (s : List (Int × Int)) : List Int := s.foldl (fun a r => a ++ [r.1, r.2 + 1]) a
theorem lowsOf_eq (lo : Sg.Lo) : Sg.lowsOf lo = (lo.lt.cls.foldl lowS [0]).foldl (fun a x => Sg.insI x a) [] := rfl
theorem rgOk_at {lo : Sg.Lo} (h : rgOk lo = true) {i : Nat} (hi : i < lo.lt.cls.length) : (∀ r ∈ lo.lt.cls[i], 0 ≤ r.1 ∧ r.1 ≤ r.2 ∧ r.2 ≤ 1114111) ∧ lo.lt.cls[i].length ≤ 100 := by
  unfold rgOk at h
  have h1 := List.all_eq_true.1 h lo.lt.cls[i] (List.getElem_mem _)
  rw [Bool.and_eq_true, List.all_eq_true] at h1
  refine ⟨fun r hr => ?_, by simpa using h1.2⟩
  have := h1.1 r hr
  simp only [Bool.and_eq_true, decide_eq_true_eq] at this
  omega
structure LI (w wr : World) (ra : Option Addr) (rc m : Nat) (zs : List Int) : Prop where
  hm : m = zs.length
  row : RowAt 1 wr ra rc m (zs.map i32V)
  ne : ∃ b o, ra = some ⟨b, o, none⟩
  new : InD (fun b => w.heap.size ≤ b) ra
  bel : Below w.heap.size w wr
theorem LI.below {w wr W : World} {ra : Option Addr} {rc m : Nat} {zs : List Int} (h : LI w wr ra rc m zs) (hb : Below wr.heap.size wr W) : LI w W ra rc m zs :=
  ⟨h.hm, h.row.below hb, h.ne, h.new, h.bel.trans (hb.mono h.bel.size)⟩
theorem LI.app {w wr : World} {ra : Option Addr} {rc m : Nat} {zs : List Int} (h : LI w wr ra rc m zs) (hn : m < 2000000000) (x y : Int) (ty vt : TypeId) : ∃ ra' rc' w', (Builtin.append_ #[236, 236] ty #[.slice ra m rc, .slice (some ⟨wr.heap.size, 0, none⟩) 2 2]).run Tryz.prog (wr.alloc (.cells #[.int .i32 x, .int .i32 y] vt)) = .ok (.slice ra' (m + 2) rc') w' ∧ Hid (LI w w' ra' rc' (m + 2) (zs ++ [x, y])) := by
  obtain ⟨ra', rc', w', h1, h2, h3, h4⟩ := append_pair h.row (.int .i32 x) (.int .i32 y) rfl rfl hn ty vt
  refine ⟨ra', rc', w', h1, hide2 ⟨by rw [List.length_append, h.hm]; rfl, by rw [List.map_append]; exact h2, ?_, moved_ind h4 h.new h.bel.size, h.bel.trans (h3.below h.bel.size (fun k o hk ⟨o', e⟩ => by have := h.new _ _ e; omega))⟩⟩
  rcases h4 with e | ⟨rb, e, _⟩
  · rw [e]; exact h.ne
  · exact ⟨rb, 0, e⟩
theorem lows_any : LowsAny := by
  intro B p w lo hlo hrg
  have hn := hlo.lt.n
  have HCl := hide2 hlo.lt.clsAt
  have hc := hlo.lt.clsAt.c0
  have HRg := hide2 hrg
  generalize hlen : lo.lt.cls.length = n at *
  have hc2 : ∀ o1, (w.alloc o1).cell? ⟨p, 0, none⟩ = some (.int .i64 n) := fun o1 => below_keep (blw1' w o1) hc
  have hsl := sliceCls p n hn
  have HLen := hide2 hlen
  have H0 : Hid (LI w (w.alloc (.cells #[.int .i32 0] 21)) (some ⟨w.heap.size, 0, none⟩) 1 1 [0]) := hide2 ⟨rfl, ⟨rfl, .inr ⟨w.heap.size, 0, rfl, Nat.le_refl _, fun j v hj => by rw [World.cell?_alloc_at _ _ _ _ rfl, Nat.zero_add, ← hj]; simp [i32V], fun j hj => by
      obtain rfl : j = 0 := by omega
      rw [World.cell?_alloc_at _ _ _ _ rfl]; rfl, by simp, fun j => World.frozen?_alloc_at _ _ _ _ rfl⟩⟩, ⟨_, _, rfl⟩, (fun b o e => by cases e; exact Nat.le_refl _), blw1' w _⟩
  clear hlo hrg hc hlen
  rw [lowsOf_eq]
  go_enter Tryz.func106, Tryz.ntmps106
  go_wp2
  go_quiet (fail)
  go_wp2
  have H1 : Hid (LI w ((w.alloc (.cells #[.int .i32 0] 21)).drewN nq) (some ⟨w.heap.size, 0, none⟩) 1 1 [0]) := hide2 (H0.out.below ⟨rfl, rfl, rfl, Nat.le_refl _, fun _ _ => rfl⟩)
  clear H0 hc2 hsl
  generalize (w.alloc (.cells #[.int .i32 0] 21)).drewN nq = w1 at *
  go_loopw [3, 18] (fun lv iv wr => ∃ (i m : Nat) (ra : Option Addr) (rc : Nat) (zs : List Int), lv = .slice ra m rc ∧ iv = .int .i64 i ∧ i ≤ n ∧ m ≤ 1 + i * 200 ∧ Hid (LI w wr ra rc m zs ∧ (lo.lt.cls.drop i).foldl lowS zs = lo.lt.cls.foldl lowS [0])) (fun _ iv _ => n - (intOf iv).toNat)
  case atStart => exact ⟨0, 1, _, 1, [0], rfl, rfl, Nat.zero_le _, by omega, hide2 ⟨H1.out, rfl⟩⟩
  case round =>
    clear H1
    obtain ⟨i, m, ra, rc, zs, rfl, rfl, hi, hm, H⟩ := hrel
    by_cases hlt : i < n
    · obtain ⟨ca, cc, k0w, hrow0⟩ := HCl.out.cls i hlt
      have k0 := below_keep H.out.1.bel k0w
      have hrow := hrow0.below H.out.1.bel
      have hil : i < lo.lt.cls.length := by rw [HLen.out]; exact hlt
      have hok := rgOk_at HRg.out hil
      have hgd : lo.lt.cls.getD i [] = lo.lt.cls[i] := by rw [List.getD_eq_getElem?_getD, List.getElem?_eq_getElem hil]; rfl
      have hfold := H.out.2
      rw [List.drop_eq_getElem_cons hil, List.foldl_cons] at hfold
      rw [hgd] at k0 hrow hrow0
      generalize lo.lt.cls[i] = C at *
      have HI := hide2 H.out.1
      have HFo := hide2 hfold
      have HRow := hide2 hrow
      have HRow0 := hide2 hrow0
      have HOk := hide2 hok
      have hCl := hok.2
      clear H hfold hrow hrow0 hok hgd k0w
      go_wp2
      go_loopw [3, 24] (fun lv jv wr2 => ∃ (j m2 : Nat) (ra2 : Option Addr) (rc2 : Nat) (ys : List Int), lv = .slice ra2 m2 rc2 ∧ jv = .int .i64 j ∧ j ≤ C.length ∧ m2 ≤ 1 + i * 200 + j * 2 ∧ Hid (LI w wr2 ra2 rc2 m2 ys ∧ lowS ys (C.drop j) = lowS zs C ∧ RowAt 2 wr2 ca cc C.length (C.flatMap rgCells))) (fun _ jv _ => C.length - (intOf jv).toNat)
      case atStart => exact ⟨0, m, ra, rc, zs, rfl, rfl, Nat.zero_le _, by omega, hide2 ⟨HI.out, rfl, HRow.out⟩⟩
      case round =>
        clear HI HRow
        obtain ⟨j, m2, ra2, rc2, ys, rfl, rfl, hj, hm2, H2⟩ := hrel
        by_cases hjl : j < C.length
        · obtain ⟨cb, co, rfl, hcb, q0, q1⟩ := rg_cells H2.out.2.2 j hjl
          have hgd : C.getD j (0, 0) = C[j] := by rw [List.getD_eq_getElem?_getD, List.getElem?_eq_getElem hjl]; rfl
          rw [hgd] at q0 q1
          have hr := HOk.out.1 C[j] (List.getElem_mem _)
          have hst : lowS (ys ++ [C[j].1, C[j].2 + 1]) (C.drop (j + 1)) = lowS zs C := by
            rw [← H2.out.2.1, List.drop_eq_getElem_cons hjl]; rfl
          have HSt := hide2 hst
          clear hst hgd
          generalize C[j].1 = x at *
          generalize C[j].2 = y at *
          obtain ⟨hx0, hxy, hy1⟩ := hr
          have hb0 := blw1' wr (.cells #[.int .i32 x, .int .i32 y] 294)
          have HI2 := hide2 (And.intro (H2.out.1.below hb0) (H2.out.2.2.below hb0))
          have hwr : IntKind.i32.wrap (y + 1) = y + 1 := by simp [IntKind.wrap, IntKind.bits, IntKind.signed]; split <;> omega
          have z0 : (wr.alloc (.cells #[.int .i32 x, .int .i32 y] 294)).cell? ⟨wr.heap.size, 0, none⟩ = some (.int .i32 x) := cell_of' (heap_alloc_new wr _) 0
          have z1 : (wr.alloc (.cells #[.int .i32 x, .int .i32 y] 294)).cell? ⟨wr.heap.size, 1, none⟩ = some (.int .i32 y) := cell_of' (heap_alloc_new wr _) 1
          obtain ⟨ra', rc', w', hrun, HA⟩ := HI2.out.1.app (by omega) x (y + 1) 236 21
          have hs1 : (wr.alloc (.cells #[.int .i32 x, .int .i32 y] 294)).heap.size = wr.heap.size + 1 := by simp
          rw [hs1] at hrun
          have hrow' : Hid (RowAt 2 w' (some ⟨cb, co, none⟩) cc C.length (C.flatMap rgCells)) := hide2 (HRow0.out.below HA.out.bel)
          clear hs1
          clear H2 hb0
          go_wp2_with (at_builtin; refine wpList_append_run rfl _ _ _ _ rfl _ _ _ rfl rfl hrun ?_; clear hrun)
          exact ⟨⟨j + 1, m2 + 2, ra', rc', _, rfl, by go_num, by omega, by omega, hide2 ⟨HA.out, HSt.out, hrow'.out⟩⟩, by simp [intOf]; omega⟩
        · have hd : C.drop j = [] := List.drop_of_length_le (by omega)
          have hys := H2.out.2.1
          rw [hd] at hys
          have hys' : ys = lowS zs C := hys
          have HY := hide2 hys'
          clear hys hys' hd
          go_wp2
          exact ⟨⟨i + 1, m2, ra2, rc2, ys, rfl, by go_num, by omega, by omega, hide2 ⟨H2.out.1, by rw [HY.out]; exact HFo.out⟩⟩, by simp [intOf]; omega⟩
    · have hd : lo.lt.cls.drop i = [] := List.drop_of_length_le (by rw [HLen.out]; omega)
      have hzs := H.out.2
      rw [hd] at hzs
      have hzs' : zs = lo.lt.cls.foldl lowS [0] := hzs
      have HZ := hide2 hzs'
      obtain ⟨ab, ao, rfl⟩ := H.out.1.ne
      have hmz := H.out.1.hm
      subst hmz
      have HC := hide2 (sortR_any wr ab ao rc zs H.out.1.row (by omega))
      have HI := hide2 H.out.1
      have hrc := H.out.1.row.le
      clear hd hzs hzs' H
      go_wp2_with (first
        | (go_at_call 147; refine HC.out.mono ?_; clear HC; rintro e w2 ⟨rfl, K2⟩; obtain ⟨d, k1, k2⟩ := K2.out; have HD := hide2 (compact_any wr w2 ab ao rc zs.length d k1 hrc (by omega)); rw [k2] at HD; clear k1 k2 K2)
        | (go_at_call 148; refine HD.out.mono ?_; clear HD; rintro e w3 ⟨rfl, K3⟩))
      go_ret
      rw [← HZ.out]
      obtain ⟨d2, g1, g2, g3⟩ := K3.out
      have hI := HI.out
      have hnew := hI.new ab ao rfl
      have hsz := hI.bel.size
      have hbel3 : Below w.heap.size w w3 := hI.bel.trans (g1.chg.below hsz (fun k o hk t => by have := t.1; omega))
      have hab : ab < wr.heap.size := hI.row.lt rfl
      refine ⟨_, rc, rfl, ⟨by simp, .inr ⟨ab, ao, rfl, by omega, fun t v hv => ?_, fun t ht => ?_, Nat.lt_of_lt_of_le hab g1.chg.size, fun t => ?_⟩⟩, hbel3, hI.new, by omega⟩
      · rw [List.getElem?_map] at hv
        obtain ⟨x, hx, rfl⟩ := Option.map_eq_some_iff.1 hv
        have ht := (List.getElem?_eq_some_iff.1 hx).1
        have := g1.cell t (by omega)
        rw [g3 t x hx] at this
        exact this
      · rw [g1.chg.live _ _ hab]
        rcases hI.row.row with ⟨h0, _⟩ | ⟨_, _, e, _, _, h3, _⟩
        · cases h0
        · cases e; exact h3 t ht
      · rw [g1.chg.frz _ _ hab]
        rcases hI.row.row with ⟨h0, _⟩ | ⟨_, _, e, _, _, _, _, h5⟩
        · cases h0
        · cases e; exact h5 t
end Go.Proofs.YtlhokghgicgppaaGreatDoor
namespace Go.Proofs.YtlhokghgicgppaaGreatDoor
open Go.RowKit Go.Extern
structure Lay (w : World) : Prop where
  tb : Tabs w
  et : w.cell? ⟨0, 0, none⟩ = some (.iface 192 (.agg #[.pointer (some ⟨4, 45, none⟩)]))
  g : 4 ≤ w.heap.size
theorem Lay.below {w w' : World} (h : Lay w) (hb : Below w.heap.size w w') : Lay w' :=
  ⟨h.tb.kept ⟨hb.size, fun k o v hv => (cell_block (hb.block k (cell_lt hv))).trans hv, fun k j hk => frozen_block (hb.block k hk)⟩, below_keep hb h.et, Nat.le_trans h.g hb.size⟩
theorem all_ab : Sg.allT machAB 9 (Sg.live0 10 [⟨[97, 98], 0, 0⟩]) = ([⟨0, 0, 1, 1, [97]⟩, ⟨1, 1, 1, 2, [98]⟩], some 13) := by kernel_rfl
theorem tab_of {w w' : World} {tp : Nat} {m : Sg.Mach} (hl : Lay w) (h : w.heap.size ≤ tp ∧ Below w.heap.size w w' ∧ ∃ p, w'.cell? ⟨tp, 0, none⟩ = some (.pointer (some ⟨p, 0, none⟩)) ∧ MachIn w' w'.heap.size p m) : ∃ p, TabAt w' tp p w'.heap.size m := by
  obtain ⟨_, hb, p, h1, h2⟩ := h
  have hl' := hl.below hb
  exact ⟨p, h1, h2, hl'.tb, hl'.g, Nat.le_refl _, cell_lt h1, hl'.et⟩
theorem tables_any (c : Int) (hc : InI64 c) (k : Nat) (hk : pickT c 8 = k) (w : World) (h : Lay w) :
    Calls Tryz.prog 17 #[.int .i64 c] w fun e w' => ∃ tp, e = .returned (.pointer (some ⟨tp, 0, none⟩)) ∧ Hid (Below w.heap.size w w' ∧ ∃ p, TabAt w' tp p w'.heap.size (machL k)) := by
  have hk8 : k < 8 := by have := pickT_range c 8 (by omega); omega
  have hok : machAB.Ok := (comp_of comp_ab).ok
  have hb0 := blw1' w (.cells #[.string ⟨#[97]⟩, .string ⟨#[98]⟩] 9)
  have HC1 := hide2 (compile_any lows_any (w.alloc (.cells #[.string ⟨#[97]⟩, .string ⟨#[98]⟩] 9)) (some ⟨w.heap.size, 0, none⟩) 2 [[97], [98]] (row_lit w ([[97], [98]].map rlV) 9) machAB (comp_of comp_ab))
  have HNS : Hid (∀ w1, Lay w1 → ∀ tp p, TabAt w1 tp p w1.heap.size machAB → Calls Tryz.prog 21 #[.slice (some ⟨w1.heap.size, 0, none⟩) 1 1] (w1.alloc (.cells #[.string ⟨#[97, 98]⟩, .int .i64 0, .int .i64 0] 40)) fun e w2 => ∃ q, e = .returned (.pointer (some ⟨q, 0, none⟩)) ∧
      Hid (Calls Tryz.prog 22 #[.pointer (some ⟨tp, 0, none⟩), .pointer (some ⟨q, 0, none⟩), .int .i64 10] w2 fun en w3 => ∃ sq F, en = .returned (.tuple #[.pointer (some ⟨sq, 0, none⟩), .nilIface]) ∧ Hid (Fresh w1 w3 sq w1.heap.size machAB (Sg.live0 10 [⟨[97, 98], 0, 0⟩]) F))) := hide2 fun w1 hl1 tp p hT => by
    have hba := blw1' w1 (.cells #[.string ⟨#[97, 98]⟩, .int .i64 0, .int .i64 0] 40)
    have hsm : Small ⟨[⟨[97, 98], 0, 0⟩], 0, 0⟩ := ⟨by show 0 < 1000000000; omega, by show 0 < 1000000000; omega, fun c hc => by
      simp only [List.mem_singleton] at hc
      subst hc
      exact ⟨by show 2 < _; omega, by show (0 : Int) < _; omega⟩⟩
    refine (newSource_any _ [⟨[97, 98], 0, 0⟩] (by simp) (by simp) w1.heap.size 0 1 (fun j u hj => ?_)).mono ?_
    · rw [World.cell?_alloc_at _ _ _ _ rfl, Nat.zero_add]
      simpa [pcCells, strV] using hj
    · rintro e w2 ⟨q, rfl, hns⟩
      refine ⟨q, rfl, hide2 ?_⟩
      have hb1 : Below w1.heap.size w1 w2 := hba.trans (hns.below.mono (by simp))
      have h1 := hT.below hok (Nat.le_refl _) hb1
      have hq := hns.new
      have hq' : w1.heap.size ≤ q := by simp at hq; omega
      refine (plainScan_any machAB hok tp p q w1.heap.size 10 _ w2 h1.t (by omega) (by omega) h1.ma h1.tb h1.g hq' hsm hns.src).mono ?_
      rintro en w3 ⟨sq, F, rfl, k1, k2, k3, k4⟩
      have hs1 := hb1.size
      refine ⟨sq, F, rfl, hide2 ⟨k1, fun i t => ?_, hb1.trans (k3.mono hs1)⟩⟩
      rcases k2 i t with e | e
      · omega
      · omega
  have HA : Hid (∀ w1 w3 sq F, Fresh w1 w3 sq w1.heap.size machAB (Sg.live0 10 [⟨[97, 98], 0, 0⟩]) F → Calls Tryz.prog 23 #[.pointer (some ⟨sq, 0, none⟩), .int .i64 9] w3 fun en w4 => ∃ rb ro rc, en = .returned (.tuple #[.slice (some ⟨rb, ro, none⟩) 2 rc, .iface 50 (.int .i64 13)]) ∧
      Hid (w4.cell? ⟨rb, ro, none⟩ = some (.int .i64 0) ∧ w4.cell? ⟨rb, ro + 5, none⟩ = some (.int .i64 1) ∧ w4.cell? ⟨rb, ro + 5 + 1, none⟩ = some (.int .i64 1) ∧ Below w1.heap.size w1 w4)) := hide2 fun w1 w3 sq F hf => by
    refine (all_any machAB hok sq w1.heap.size sq _ F 1 w3 hf.sc (by omega) (by omega) 9 (by omega) (by omega) _ 13 all_ab).mono ?_
    rintro en w4 ⟨ra, rc, rfl, k1, k2, k3, k4⟩
    have hs := hf.below.size
    rcases k1.row with ⟨_, _, e⟩ | ⟨rb, ro, rfl, _, hcl, _⟩
    · cases e
    · refine ⟨rb, ro, rc, rfl, hide2 ⟨?_, ?_, ?_, hf.below.trans (k4.below hs (fun k o hk t => by have := hf.fp k t; omega))⟩⟩
      · have := hcl 0 (.int .i64 0) rfl; exact this
      · have := hcl 5 (.int .i64 1) rfl; exact this
      · have := hcl 6 (.int .i64 1) rfl; exact this
  have HT : Hid (∀ w4, Lay w4 → Calls Tryz.prog 24 #[.iface 50 (.int .i64 13)] w4 fun e w' => e = .returned (.tuple #[.int .i64 13, .int .i64 (-1), .int .i64 (-1)]) ∧ Below w4.heap.size w4 w') := hide2 fun w4 hl => told_errno 13 w4 hl.et
  have HR := hide2 (fun W => rules_any c hc k hk W)
  have HC2 := hide2 (fun W ra rc (hR : RowAt 1 W ra rc (rulesL k).length ((rulesL k).map rlV)) => compile_any lows_any W ra rc (rulesL k) hR (machL k) (comp_of (comp_l k hk8)))
  have H := hide2 h
  have HB0 := hide2 hb0
  clear h hk hb0 hok
  generalize rulesL k = rl at *
  generalize machL k = m at *
  go_enter Tryz.func17, Tryz.ntmps17
  go_wp2_with (first
    | (go_at_call 29; refine HC1.out.mono ?_; clear HC1; rintro e w1 ⟨tp1, rfl, K1⟩; obtain ⟨p1, hT1⟩ := tab_of (H.out.below HB0.out) K1.out; have HL1 := hide2 (HB0.out.trans (K1.out.2.1.mono (by simp))); have HNS1 := hide2 (HNS.out w1 (H.out.below HL1.out) tp1 p1 hT1); clear K1 hT1 HNS HB0)
    | (go_at_call 21; refine HNS1.out.mono ?_; clear HNS1; rintro e w2 ⟨q, rfl, HS⟩)
    | (go_at_call 22; refine HS.out.mono ?_; clear HS; rintro e w3 ⟨sq, F, rfl, HF⟩; have HA1 := hide2 (HA.out w1 w3 sq F HF.out); clear HA HF)
    | (go_at_call 23; refine HA1.out.mono ?_; clear HA1; rintro e w4 ⟨rb, ro, rc, rfl, K4⟩; have HL4 := hide2 (HL1.out.trans (K4.out.2.2.2.mono HL1.out.size)); have HT4 := hide2 (HT.out w4 (H.out.below HL4.out)); clear HT HL1)
    | (go_at_call 24; refine HT4.out.mono ?_; clear HT4; rintro e w5 ⟨rfl, hb5⟩; have c0 := below_keep hb5 K4.out.1; have c1 := below_keep hb5 K4.out.2.1; have c2 := below_keep hb5 K4.out.2.2.1; have HL5 := hide2 (HL4.out.trans (hb5.mono HL4.out.size)); clear K4 hb5 HL4)
    | (go_at_call 19; refine (HR.out _).mono ?_; clear HR; rintro e w6 ⟨ra, rrc, rfl, hR6, hb6⟩; have HL6 := hide2 (HL5.out.trans (hb6.mono HL5.out.size)); have HC3 := hide2 (HC2.out w6 ra rrc hR6); clear hR6 hb6 HC2 c0 c1 c2 HL5)
    | (go_at_call 29; refine HC3.out.mono ?_; clear HC3; rintro e w7 ⟨tp, rfl, K7⟩))
  go_ret
  have hl6 := H.out.below HL6.out
  refine ⟨tp, rfl, hide2 ⟨HL6.out.trans (K7.out.2.1.mono HL6.out.size), tab_of hl6 K7.out⟩⟩
end Go.Proofs.YtlhokghgicgppaaGreatDoor
namespace Go.Proofs.YtlhokghgicgppaaGreatDoor
open Go.RowKit Go.Extern
theorem tok_cells {w : World} {ra : Option Addr} {rc : Nat} {ts : List Sg.Tok} (h : RowAt 5 w ra rc ts.length (ts.flatMap tokCells)) (j : Nat) (hj : j < ts.length) : ∃ rb ro, ra = some ⟨rb, ro, none⟩ ∧
    w.cell? ⟨rb, ro + j * 5, none⟩ = some (.int .i64 ts[j].rule) ∧ w.cell? ⟨rb, ro + j * 5 + 1, none⟩ = some (.int .i64 ts[j].at_) ∧ w.cell? ⟨rb, ro + j * 5 + 2, none⟩ = some (.int .i64 ts[j].line) ∧ w.cell? ⟨rb, ro + j * 5 + 3, none⟩ = some (.int .i64 ts[j].col) ∧ w.cell? ⟨rb, ro + j * 5 + 4, none⟩ = some (.string ⟨ts[j].text.toArray⟩) := by
  rcases h.row with ⟨_, _, h0⟩ | ⟨rb, ro, rfl, _, hc, _⟩
  · omega
  · have key : ∀ k v, k < 5 → (tokCells ts[j])[k]? = some v → w.cell? ⟨rb, ro + j * 5 + k, none⟩ = some v := fun k v hk e => by
      have := hc (j * 5 + k) v (by rw [flat_get tokCells 5 (fun _ => rfl) ts j k hj hk]; exact e)
      rw [← Nat.add_assoc] at this; exact this
    exact ⟨rb, ro, rfl, key 0 _ (by omega) rfl, key 1 _ (by omega) rfl, key 2 _ (by omega) rfl, key 3 _ (by omega) rfl, key 4 _ (by omega) rfl⟩
theorem same_any (w : World) (ra rb : Option Addr) (rc rd : Nat) (ts : List Sg.Tok) (hn : ts.length ≤ 3000) (h1 : RowAt 5 w ra rc ts.length (ts.flatMap tokCells)) (h2 : RowAt 5 w rb rd ts.length (ts.flatMap tokCells)) :
    Calls Tryz.prog 25 #[.slice ra ts.length rc, .slice rb ts.length rd] w fun e w' => e = .returned (.bool true) ∧ Below w.heap.size w w' := by
  have H1 := hide2 h1
  have H2 := hide2 h2
  clear h1 h2
  go_enter Tryz.func25, Tryz.ntmps25
  go_wp2
  go_loopw [5] (fun iv wr => ∃ j : Nat, iv = .int .i64 j ∧ j ≤ ts.length ∧ Hid (Below w.heap.size w wr)) (fun iv _ => ts.length - (intOf iv).toNat)
  case atStart => exact ⟨0, rfl, Nat.zero_le _, hide2 (Below.refl _ _)⟩
  case round =>
    obtain ⟨j, rfl, hj, H⟩ := hrel
    by_cases hlt : j < ts.length
    · obtain ⟨b1, o1, rfl, c0, c1, c2, c3, c4⟩ := tok_cells (H1.out.below H.out) j hlt
      obtain ⟨b2, o2, rfl, d0, d1, d2, d3, d4⟩ := tok_cells (H2.out.below H.out) j hlt
      generalize ts[j] = t at *
      go_upto_region 6 with fail
      go_quiet (fail)
      go_wp2
      go_roundw
      case rel => exact ⟨j + 1, by go_num, by omega, hide2 (H.out.trans ⟨rfl, rfl, rfl, Nat.le_refl _, fun _ _ => rfl⟩)⟩
      case measure => simp [intOf]; omega
    · go_wp2
      go_ret
      exact ⟨rfl, H.out⟩
end Go.Proofs.YtlhokghgicgppaaGreatDoor
