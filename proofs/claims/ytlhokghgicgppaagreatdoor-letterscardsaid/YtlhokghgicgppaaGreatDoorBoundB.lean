/- A scanner over a row of pieces, made and run to its end. -/
/- How far a scanner must look; readers that fail. -/
/- utf8.RuneLen; rows of numbers that are stored into; (*Machine).widths. -/
/- (*Machine).widths. -/
import Derived.Test.YtlhokghgicgppaaGreatDoorSameW
import Derived.Test.YtlhokghgicgppaaGreatDoorKeepB
import Derived.BigQuiet
set_option linter.unusedSimpArgs false
set_option linter.unusedVariables false
namespace Go.Proofs.YtlhokghgicgppaaGreatDoor
open Go.RowKit Go.Extern

theorem scan_row (m : Sg.Mach) (hm : m.Ok) (tp p bm cap : Nat) (h4 : 4 ≤ cap) (hN : cap ≤ 100000) (w : World) (h : TabAt w tp p bm m) (l : List Sg.Pc) (hne : l ≠ []) (hl : l.length < 1000000) (hsm : Small ⟨l, 0, 0⟩) (ra : Option Addr) (rc : Nat) (hR : RowAt 3 w ra rc l.length (l.flatMap pcCells)) :
    Calls Tryz.prog 21 #[.slice ra l.length rc] w fun e w1 => ∃ q, e = .returned (.pointer (some ⟨q, 0, none⟩)) ∧
      Hid (Calls Tryz.prog 22 #[.pointer (some ⟨tp, 0, none⟩), .pointer (some ⟨q, 0, none⟩), .int .i64 cap] w1 fun en w2 => ∃ sq F, en = .returned (.tuple #[.pointer (some ⟨sq, 0, none⟩), .nilIface]) ∧ Hid (Fresh w w2 sq bm m (Sg.live0 cap l) F)) := by
  have hle := h.le
  rcases hR.row with ⟨_, _, h0⟩ | ⟨rb, ro, rfl, _, hc, _⟩
  · exact absurd (List.eq_nil_of_length_eq_zero h0) hne
  · refine (newSource_any _ l hne hl rb ro rc hc).mono ?_
    rintro e w1 ⟨q, rfl, hns⟩
    refine ⟨q, rfl, hide2 ?_⟩
    have hb1 : Below w.heap.size w w1 := hns.below
    have h1 := h.below hm hle hb1
    have hq := hns.new
    refine (plainScan_any m hm tp p q bm cap _ w1 h1.t h4 hN h1.ma h1.tb h1.g (by omega) hsm hns.src).mono ?_
    rintro en w2 ⟨sq, F, rfl, k1, k2, k3, k4⟩
    have hs1 := hb1.size
    refine ⟨sq, F, rfl, hide2 ⟨k1, fun i t => ?_, hb1.trans (k3.mono hs1)⟩⟩
    rcases k2 i t with e | e
    · omega
    · omega
theorem all_row (m : Sg.Mach) (hm : m.Ok) (w w2 : World) (sq bm : Nat) (hbm : bm ≤ w.heap.size) (L : Sg.Live) (F : Nat → Prop) (hf : Fresh w w2 sq bm m L F) (ts : List Sg.Tok) (e0 : Int) (hT : Sg.allT m 3000 L = (ts, some e0)) :
    Calls Tryz.prog 23 #[.pointer (some ⟨sq, 0, none⟩), .int .i64 3000] w2 fun en w3 => ∃ ra rc, en = .returned (.tuple #[.slice ra ts.length rc, errV (some e0)]) ∧
      Hid (RowAt 5 w3 ra rc ts.length (ts.flatMap tokCells) ∧ NewRow w ra ∧ w3.cell? ⟨sq, 14, none⟩ = some (errV (some e0)) ∧ Below w.heap.size w w3) := by
  refine (all_any m hm sq bm sq _ F 1 w2 hf.sc (by omega) (by omega) 3000 (by omega) (by omega) ts e0 hT).mono ?_
  rintro en w3 ⟨ra, rc, rfl, k1, k2, k3, k4⟩
  have hs := hf.below.size
  exact ⟨ra, rc, rfl, hide2 ⟨k1, fun b o e => by have := k2 b o e; omega, k3, hf.below.trans (k4.below hs (fun k o hk t => by have := hf.fp k t; omega))⟩⟩

/-- append of one piece, laid in a new block. -/
theorem info_pcs : (Tryz.prog.info? 40).map (fun i => (i.zero, i.size, i.bytes)) = some (some (.agg #[.string ⟨#[]⟩, .int .i64 0, .int .i64 0]), 3, 32) := by kernel_rfl
theorem append_pc {w : World} {ra : Option Addr} {rc : Nat} {l : List Sg.Pc} (hR : RowAt 3 w ra rc l.length (l.flatMap pcCells)) (c : Sg.Pc) (hn : l.length < 2000000000) (ty vt : TypeId) :
    ∃ ra' rc' w', (Builtin.append_ #[37, 37] ty #[.slice ra l.length rc, .slice (some ⟨w.heap.size, 0, none⟩) 1 1]).run Tryz.prog (w.alloc (.cells #[strV c.text, .int .i64 c.n, .int .i64 c.kind] vt)) = .ok (.slice ra' (l.length + 1) rc') w' ∧ RowAt 3 w' ra' rc' (l ++ [c]).length ((l ++ [c]).flatMap pcCells) ∧ Chg (rowT ra) w w' ∧ Moved w ra ra' := by
  obtain ⟨i, hi, hz, hs, hb⟩ := info_parts info_pcs
  have hbl : Below w.heap.size w (w.alloc (.cells #[strV c.text, .int .i64 c.n, .int .i64 c.kind] vt)) := (Below.refl _ _).alloc (Nat.le_refl _) _
  obtain ⟨ra', rc', w', h1, h2, h3, h4⟩ := append_row (P := Tryz.prog) (w.alloc (.cells #[strV c.text, .int .i64 c.n, .int .i64 c.kind] vt)) 37 ty 40 i _ 3 32 Tryz.underlying37 hi hz hs hb rfl (by omega) ra rc l.length _ (hR.below hbl) w.heap.size 0 1 1 (by omega) (pcCells c) rfl (fun j x hj => by
    rw [World.cell?_alloc_at _ _ _ _ rfl, Nat.zero_add]
    simpa [pcCells] using hj) (fun x hx => by
      simp only [pcCells, List.mem_cons, List.not_mem_nil, or_false] at hx
      rcases hx with rfl | rfl | rfl <;> rfl) (by unfold maxLen; omega) (by omega)
  refine ⟨ra', rc', w', h1, ?_, (Chg.of_below hbl).trans h3, ?_⟩
  · rw [List.length_append, List.flatMap_append]
    have e : [c].flatMap pcCells = pcCells c := by simp
    rw [e]; exact h2
  · rcases h4 with h4 | ⟨rb, e1, e2⟩
    · exact .inl h4
    · exact .inr ⟨rb, e1, by have : (w.alloc (.cells #[strV c.text, .int .i64 c.n, .int .i64 c.kind] vt)).heap.size = w.heap.size + 1 := by simp
                             omega⟩
/-- The tokens of a text that comes in pieces. -/
theorem toks_pieces (m : Sg.Mach) (hm : m.Ok) (hu : m.Up) (text : Sg.Bs) (ht : text.length ≤ 2000) (l : List Sg.Pc) (hg : ∀ c ∈ l, c.Good) (hl : l.flatMap (·.text) = text) : Sg.allT m 3000 (Sg.live0 5000 l) = (Sg.toksOf m text, some 13) := by
  rw [← (Sg.toksOf_has m text ht).1]
  refine Sg.allT_same m hm hu askN_len 5000 3000 _ _ text (Sg.live0_has _ _) (.inl ⟨rfl, hg, ?_⟩) (Sg.on_zero rfl) (Sg.on_zero rfl) rfl (by show text.length < 5000; omega) (by show 4 ≤ 5000; omega) (by show 4 ≤ 5000; omega) (fun r' h1 _ => Sg.fits_of_lt m (by show r'.length < 5000; omega)) (fun t htk => ?_)
  · show text = [] ++ Sg.Src.bytes ⟨l, 0, 0⟩
    rw [List.nil_append, Sg.bytes_fresh, hl]
  · have e := (Sg.toksOf_has m text ht).2.1
    rw [show (Sg.allT m 3000 (Sg.live0 5000 [⟨text, 0, 0⟩])).1 = Sg.toksOf m text from rfl] at htk
    have : t.text.length ≤ text.length := by
      rw [← e]
      obtain ⟨a, b, hab⟩ := List.append_of_mem htk
      rw [hab, List.flatMap_append, List.flatMap_cons, List.length_append, List.length_append]; omega
    omega
end Go.Proofs.YtlhokghgicgppaaGreatDoor

namespace Go.Proofs.YtlhokghgicgppaaGreatDoor.Sg
open Go

/-! ### the bound -/
def hiOf (m : Mach) (i : Nat) : Int := if i + 1 < m.cuts.length then lowAt m.cuts (i + 1) - 1 else 1114111
/-- M: by state, how many bytes may follow without a match; b: 1 more than the most of them. -/
def bndOk (m : Mach) (M : List Nat) (b : Nat) : Bool :=
  (List.range m.states.length).all fun s => decide (M.getD s 0 + 1 ≤ b) && (List.range m.cuts.length).all fun i =>
    let n := m.next s (m.kind i)
    n == -1 || (if m.rule n.toNat = -1 then decide (scLen (hiOf m i) + M.getD n.toNat 0 ≤ M.getD s 0) else decide (scLen (hiOf m i) ≤ M.getD s 0 + 1))
structure Bnd (m : Mach) (M : List Nat) (b : Nat) : Prop where
  le : ∀ s, s < m.states.length → M.getD s 0 + 1 ≤ b
  go : ∀ s, s < m.states.length → ∀ i, i < m.cuts.length → m.next s (m.kind i) ≠ -1 → m.rule (m.next s (m.kind i)).toNat = -1 → scLen (hiOf m i) + M.getD (m.next s (m.kind i)).toNat 0 ≤ M.getD s 0
  hit : ∀ s, s < m.states.length → ∀ i, i < m.cuts.length → m.next s (m.kind i) ≠ -1 → scLen (hiOf m i) ≤ M.getD s 0 + 1
theorem bnd_of {m : Mach} {M : List Nat} {b : Nat} (h : bndOk m M b = true) : Bnd m M b := by
  unfold bndOk at h
  rw [List.all_eq_true] at h
  have key : ∀ s, s < m.states.length → M.getD s 0 + 1 ≤ b ∧ ∀ i, i < m.cuts.length → m.next s (m.kind i) ≠ -1 → (m.rule (m.next s (m.kind i)).toNat = -1 → scLen (hiOf m i) + M.getD (m.next s (m.kind i)).toNat 0 ≤ M.getD s 0) ∧ (m.rule (m.next s (m.kind i)).toNat ≠ -1 → scLen (hiOf m i) ≤ M.getD s 0 + 1) := fun s hs => by
    have h1 := h s (List.mem_range.2 hs)
    rw [Bool.and_eq_true, List.all_eq_true] at h1
    refine ⟨by simpa using h1.1, fun i hi hn => ?_⟩
    have h2 := h1.2 i (List.mem_range.2 hi)
    dsimp only at h2
    rw [Bool.or_eq_true] at h2
    rcases h2 with h2 | h2
    · exact absurd (by simpa using h2) hn
    · by_cases hr : m.rule (m.next s (m.kind i)).toNat = -1
      · rw [if_pos hr] at h2
        exact ⟨fun _ => by simpa using h2, fun e => absurd hr e⟩
      · rw [if_neg hr] at h2
        exact ⟨fun e => absurd e hr, fun _ => by simpa using h2⟩
  refine ⟨fun s hs => (key s hs).1, fun s hs i hi hn hr => ((key s hs).2 i hi hn).1 hr, fun s hs i hi hn => ?_⟩
  by_cases hr : m.rule (m.next s (m.kind i)).toNat = -1
  · have := ((key s hs).2 i hi hn).1 hr; omega
  · exact ((key s hs).2 i hi hn).2 hr
theorem scLen_mono {c d : Int} (h : c ≤ d) : scLen c ≤ scLen d := by
  unfold scLen
  repeat' split
  all_goals omega
theorem hi_ge {m : Mach} (hm : m.Ok) (hu : m.Up) {c : Int} (hc : 0 ≤ c) (hmax : c ≤ 1114111) : c ≤ hiOf m (cutIx m.cuts c) := by
  have := cutIx_spec m hm hu c hc
  unfold hiOf
  split
  · have := this.2 (by assumption); omega
  · exact hmax
/-- What stands in a walk. -/
def WkB (m : Mach) (M : List Nat) (b : Nat) (k : Wk) : Prop := k.length ≤ k.passed ∧ (k.state ≠ -1 → k.passed + M.getD k.state.toNat 0 + 1 ≤ k.length + b)
theorem dec_max (l : Bs) (h : ¬ ((dec l).1 = 65533 ∧ (dec l).2 = 1)) : (dec l).1 ≤ 1114111 := by
  by_cases hne : l = []
  · subst hne; decide
  · have h' : dec l ≠ (65533, 1) := fun e => h (by rw [e]; exact ⟨rfl, rfl⟩)
    rw [dec_ne hne] at h' ⊢
    have h1 := gd_lt l 0
    have h2 := gd_lt l 1
    revert h'
    unfold Lib.decodeN
    repeat' split
    all_goals intro h'
    all_goals first | exact absurd rfl h' | (clear h'; dsimp only; omega)
theorem stepB {m : Mach} (hm : m.Ok) (hu : m.Up) {M : List Nat} {b : Nat} (hB : Bnd m M b) {t : Bs} {k : Wk} (hk : k.Ok m t) (hb : WkB m M b k) (hs : k.state ≠ -1) (hf : full (t.drop k.passed) = true) : WkB m M b (stepW m k (t.drop k.passed)) := by
  obtain ⟨hl, hw⟩ := hb
  have hw := hw hs
  obtain ⟨s, hst, hsl⟩ : ∃ s : Nat, k.state = s ∧ s < m.states.length := by
    rcases hk.2.2 with h | h
    · exact absurd h hs
    · exact h
  have hne := full_ne hf
  generalize t.drop k.passed = u at *
  rw [hst, Int.toNat_natCast] at hw
  unfold stepW
  split
  · exact ⟨hl, fun h => absurd rfl h⟩
  · rename_i hd
    dsimp only
    rw [hst, Int.toNat_natCast]
    have hlen := dec_len hne hd
    have hmax := dec_max u hd
    have hi := cutIx_lt m.cuts ((dec u).1 : Nat) hm.cuts0
    have hge := hi_ge hm hu (c := ((dec u).1 : Nat)) (by omega) (by omega)
    have hle : (dec u).2 ≤ scLen (hiOf m (cutIx m.cuts ((dec u).1 : Nat))) := by rw [hlen]; exact scLen_mono hge
    have haf : m.after s ((dec u).1 : Nat) = m.next s (m.kind (cutIx m.cuts ((dec u).1 : Nat))) := rfl
    split
    · exact ⟨by show k.length ≤ k.passed + _; omega, fun h => absurd rfl h⟩
    · rename_i hn
      rw [haf] at hn ⊢
      split
      · rename_i hr
        have := hB.go s hsl _ hi hn hr
        exact ⟨by show k.length ≤ k.passed + _; omega, fun _ => by show k.passed + (dec u).2 + M.getD (m.next s (m.kind (cutIx m.cuts ((dec u).1 : Nat)))).toNat 0 + 1 ≤ k.length + b; omega⟩
      · refine ⟨Nat.le_refl _, fun _ => ?_⟩
        show k.passed + (dec u).2 + M.getD (m.next s (m.kind (cutIx m.cuts ((dec u).1 : Nat)))).toNat 0 + 1 ≤ k.passed + (dec u).2 + b
        have hx := hm.nexts s hsl (m.kind (cutIx m.cuts ((dec u).1 : Nat))) (by
          have h0 := hm.kind0 _ hi
          have h1 := hm.kinds _ hi s hsl
          unfold Mach.kind; omega)
        rcases hx with hx | hx
        · exact absurd hx hn
        · have := hB.le (m.next s (m.kind (cutIx m.cuts ((dec u).1 : Nat)))).toNat (by omega)
          omega
theorem goesB {m : Mach} (hm : m.Ok) (hu : m.Up) {M : List Nat} {b : Nat} (hB : Bnd m M b) {t : Bs} : ∀ {n : Nat} {k k' : Wk}, k.Ok m t → WkB m M b k → Goes m t n k k' → WkB m M b k'
  | 0, k, k', _, hb, h => by cases h; exact hb
  | n + 1, k, k', hk, hb, h => goesB hm hu hB (stepW_ok m hm t k hk h.1 h.2.1).1 (stepB hm hu hB hk hb h.1 h.2.1) h.2.2
/-- What is alive goes on no further than the bound, from its longest match on. -/
theorem alive_bound {m : Mach} (hm : m.Ok) (hu : m.Up) {M : List Nat} {b : Nat} (hB : Bnd m M b) (t : Bs) (h : aliveW m t (wkOf m t) = true) : t.length + 1 ≤ (wkOf m t).length + b := by
  obtain ⟨n, hn⟩ := wkOf_goes m t
  have hb := goesB hm hu hB (Wk.zero_ok m hm t) ⟨Nat.le_refl _, fun _ => by have := hB.le 0 hm.states0; show 0 + _ + 1 ≤ 0 + b; have e : Wk.zero.state.toNat = 0 := rfl; rw [e]; omega⟩ hn
  have hend := wkOf_end m hm t
  have hok := wkOf_ok m hm t
  generalize wkOf m t = k at *
  unfold aliveW at h
  by_cases hs : k.state = -1
  · rw [if_pos hs] at h; cases h
  · rw [if_neg hs] at h
    have hw := hb.2 hs
    by_cases he : t.drop k.passed = []
    · have hl := congrArg List.length he
      rw [List.length_drop, List.length_nil] at hl
      omega
    · rw [if_neg he] at h
      obtain ⟨s, hst, hsl⟩ : ∃ s : Nat, k.state = s ∧ s < m.states.length := by
        rcases hok.2.2 with h | h
        · exact absurd h hs
        · exact h
      rw [hst, Int.toNat_natCast] at h hw
      have hnf : full (t.drop k.passed) = false := by
        cases hx : full (t.drop k.passed)
        · rfl
        · exact absurd ⟨hs, hx⟩ hend
      have hp := reach_low (part_of he hnf)
      have hdl : (t.drop k.passed).length = t.length - k.passed := List.length_drop ..
      have h0 : 0 ≤ (reach (t.drop k.passed)).1 ∧ (reach (t.drop k.passed)).1 ≤ 1114111 ∨ 1114111 < (reach (t.drop k.passed)).1 := by
        have : 0 ≤ (reach (t.drop k.passed)).1 := by unfold reach; dsimp only; omega
        omega
      have hr2 : (reach (t.drop k.passed)).2 ≤ 1114111 := by unfold reach; dsimp only; omega
      generalize hlo : (reach (t.drop k.passed)).1 = lo at *
      generalize hhi : (reach (t.drop k.passed)).2 = hi at *
      unfold Mach.goesOn at h
      obtain ⟨x, hx1, hx2, hx3⟩ := goes_true _ h
      obtain ⟨j, hj, hjx⟩ := List.mem_iff_getElem.1 hx1
      rw [List.length_drop] at hj
      rw [List.getElem_drop] at hjx
      have hil : cutIx m.cuts lo + j < m.cuts.length := by omega
      have hkind : m.kind (cutIx m.cuts lo + j) = x.2.toNat := by unfold Mach.kind; rw [kind_at hil, hjx]
      have hit := hB.hit s hsl _ hil (by rw [hkind]; exact hx3)
      have hlow0 : 0 ≤ lo := by rw [← hlo]; unfold reach; dsimp only; omega
      have hge : lo ≤ hiOf m (cutIx m.cuts lo + j) ∨ 1114111 < lo := by
        rcases h0 with h0 | h0
        · left
          have sp := cutIx_spec m hm hu lo hlow0
          unfold hiOf
          split
          · rename_i hlt
            have := low_le hu (show cutIx m.cuts lo + 1 ≤ cutIx m.cuts lo + j + 1 by omega) hlt
            have := sp.2 (by omega)
            omega
          · exact h0.2
        · exact .inr h0
      rcases hge with hge | hge
      · have := scLen_mono hge
        omega
      · exfalso
        have sp := cutIx_spec m hm hu lo hlow0
        have hle := low_le hu (Nat.le_add_right (cutIx m.cuts lo) j) hil
        have hp4 : (t.drop k.passed).length < 4 := full_short hnf
        have hb4 : lo ≤ 1114111 := by
          rw [← hlo]
          exact reach_max (part_of he hnf)
        omega
theorem fits_bound {m : Mach} (hm : m.Ok) (hu : m.Up) {M : List Nat} {b : Nat} (hB : Bnd m M b) {r : Bs} {long : Nat} (hl : tokSz m r ≤ long) : Fits m r (long + b) := fun p g e ha => by
  have h1 := alive_bound hm hu hB p ha
  have h2 := wkOf_len m hm p g
  rw [← e] at h2
  unfold tokSz at hl
  split at hl
  · omega
  · omega

/-! ### readers that fail -/
def errOf (kind : Int) : Int := if kind = 1 ∨ kind = 5 then 14 else 11
/-- A scanner whose reader gives t, with what is read, and then fails. -/
def Live.HasF (L : Live) (t : Bs) (kind : Int) : Prop := (L.stop = none ∧ ∃ c r a, L.src = ⟨c :: r, a, 0⟩ ∧ c.kind = kind ∧ c.n = 0 ∧ a ≤ c.text.length ∧ t = L.rest ++ c.text.drop a) ∨ (L.stop = some (errOf kind) ∧ t = L.rest)
theorem ask1_text (most : Nat) (c : Pc) (r : List Pc) (a e : Nat) (h : a < c.text.length) : ask1 most ⟨c :: r, a, e⟩ = (((c.text.drop a).take most, if c.kind = 5 ∧ a + min most (c.text.length - a) = c.text.length then some 14 else none), ⟨c :: r, a + min most (c.text.length - a), e⟩) := by
  unfold ask1
  rw [srcRead_cons, if_pos h]
theorem ask1_fail (most : Nat) (c : Pc) (r : List Pc) (a : Nat) (h : ¬ a < c.text.length) (hn : c.n = 0) (hk : 1 ≤ c.kind ∧ c.kind ≤ 5) : ∃ s', ask1 most ⟨c :: r, a, 0⟩ = (([], some (errOf c.kind)), s') := by
  unfold ask1
  rw [srcRead_cons, if_neg h, if_neg (by rw [hn]; simp)]
  have : c.kind = 1 ∨ c.kind = 2 ∨ c.kind = 3 ∨ c.kind = 4 ∨ c.kind = 5 := by omega
  rcases this with e | e | e | e | e <;> rw [e] <;> exact ⟨_, rfl⟩
theorem more_hasF {L : Live} {t : Bs} {kind : Int} (h : L.HasF t kind) (hk : 1 ≤ kind ∧ kind ≤ 5) (hs : L.stop = none) (hlt : L.rest.length < L.cap) : L.more.HasF t kind := by
  rcases h with ⟨_, c, r, a, e1, e2, e3, e4, e5⟩ | ⟨h, _⟩
  · subst e2
    unfold Live.more
    dsimp only
    rw [e1]
    by_cases ha : a < c.text.length
    · have hne : (c.text.drop a).take (L.cap - L.rest.length) ≠ [] := fun e => by
        have := congrArg List.length e
        rw [List.length_take, List.length_drop, List.length_nil] at this; omega
      have hask : askN (L.cap - L.rest.length) 8 ⟨c :: r, a, 0⟩ = ask1 (L.cap - L.rest.length) ⟨c :: r, a, 0⟩ := by
        unfold askN
        dsimp only
        rw [if_pos]
        rw [ask1_text _ c r a 0 ha]
        exact .inl hne
      rw [hask, ask1_text _ c r a 0 ha]
      unfold Live.HasF
      dsimp only
      have hsp := take_drop_split c.text a (L.cap - L.rest.length) ha
      by_cases h5 : c.kind = 5 ∧ a + min (L.cap - L.rest.length) (c.text.length - a) = c.text.length
      · refine .inr ⟨by rw [if_pos h5, h5.1]; rfl, ?_⟩
        rw [h5.2, List.drop_of_length_le (Nat.le_refl _), List.append_nil] at hsp
        rw [e5, ← hsp]
      · refine .inl ⟨by rw [if_neg h5], c, r, _, rfl, rfl, e3, by omega, ?_⟩
        rw [e5, List.append_assoc, ← hsp]
    · obtain ⟨s', hf⟩ := ask1_fail (L.cap - L.rest.length) c r a ha e3 hk
      have hask : askN (L.cap - L.rest.length) 8 ⟨c :: r, a, 0⟩ = ask1 (L.cap - L.rest.length) ⟨c :: r, a, 0⟩ := by
        unfold askN
        dsimp only
        rw [if_pos]
        rw [hf]
        exact .inr (by simp)
      rw [hask, hf]
      refine .inr ⟨rfl, ?_⟩
      rw [e5, List.drop_of_length_le (by omega)]
  · rw [hs] at h; cases h
theorem nextT_fail (m : Mach) (hm : m.Ok) (hu : m.Up) (hal : ∀ most k s, (askN most k s).1.1.length ≤ most) (kind : Int) (hk : 1 ≤ kind ∧ kind ≤ 5) : ∀ (f : Nat) (L : Live) (t : Bs), L.HasF t kind → L.On m → Fits m t L.cap → 4 ≤ L.cap → L.nf < f →
    (nextT m f L = (.error (errOf kind), .inr (errOf kind)) ∧ (aliveW m t (wkOf m t) = true ∨ full t = false)) ∨
    (t ≠ [] ∧ ∃ L', (∀ g, nextT m f L = (.ok (tokAt m L.pos (t ++ g)), .inl L') ∧ tokSz m (t ++ g) = tokSz m t) ∧ L'.HasF (t.drop (tokSz m t)) kind ∧ L'.cap = L.cap ∧ L'.wk = Wk.zero ∧ L'.pos = passP L.pos (t.take (tokSz m t)))
  | 0, L, _, _, _, _, _, h => absurd h (Nat.not_lt_zero _)
  | f + 1, L, t, h, ho, hfit, hc4, hf => by
    have hW : (L.walked m).HasF t kind := h
    have hwk := on_walked hm ho
    have hre : (L.walked m).rest = L.rest := rfl
    have hpre : ∃ g, t = L.rest ++ g := by
      rcases h with ⟨_, c, r, a, _, _, _, _, rfl⟩ | ⟨_, rfl⟩
      · exact ⟨_, rfl⟩
      · exact ⟨[], by simp⟩
    have c1 : ¬ ((L.walked m).alive m = true ∧ (L.walked m).cap ≤ (L.walked m).rest.length) := fun q => by
      obtain ⟨g, hg⟩ := hpre
      have ha : aliveW m L.rest (wkOf m L.rest) = true := by rw [← hwk]; exact q.1
      have := hfit L.rest g hg ha
      have h2 := q.2
      rw [hre] at h2
      have h3 : (L.walked m).cap = L.cap := rfl
      omega
    unfold nextT
    rw [if_neg c1]
    by_cases c2 : (L.walked m).unsure m = true ∧ (L.walked m).stop = none
    · rw [if_pos c2]
      have hlt : (L.walked m).rest.length < (L.walked m).cap := unsure_lt (m := m) hc4 c1 c2.1
      have hn := nf_more (L.walked m) c2.2 hlt (hal _ _ _)
      rw [walked_nf] at hn
      exact nextT_fail m hm hu hal kind hk f _ t (more_hasF hW hk c2.2 hlt) (on_more (on_go ho)) hfit hc4 (by omega)
    · rw [if_neg c2]
      by_cases c3 : ((L.walked m).unsure m = true ∧ (L.walked m).stop ≠ some 13) ∨ (L.walked m).rest = []
      · rw [if_pos c3]
        have hun : (L.walked m).unsure m = true := by
          rcases c3 with c3 | c3
          · exact c3.1
          · unfold Live.unsure
            rw [c3, full_nil]; simp
        rcases hW with ⟨g, _⟩ | ⟨g, e⟩
        · exact absurd ⟨hun, g⟩ c2
        · refine .inl ⟨by rw [g]; rfl, ?_⟩
          rw [hre] at e
          subst e
          unfold Live.unsure Live.alive at hun
          rw [hwk, hre] at hun
          simpa using hun
      · rw [if_neg c3]
        have hne : (L.walked m).rest ≠ [] := fun e => c3 (.inr e)
        have hnu : ¬ (L.walked m).unsure m = true := fun hun => by
          rcases hW with ⟨k, _⟩ | ⟨k, e⟩
          · exact c2 ⟨hun, k⟩
          · refine c3 (.inl ⟨hun, ?_⟩)
            rw [k]
            unfold errOf
            split <;> simp
        have hd : (L.walked m).alive m = false ∧ full (L.walked m).rest = true := by
          unfold Live.unsure at hnu
          simpa using hnu
        obtain ⟨g, hg⟩ := hpre
        have htne : t ≠ [] := fun e => by rw [e] at hg; exact hne (List.append_eq_nil_iff.1 hg.symm).1
        have key : ∀ x, (L.walked m).tok = tokAt m (L.walked m).pos (t ++ x) ∧ (L.walked m).size = tokSz m (t ++ x) := fun x => by
          obtain ⟨e1, e2, _, _⟩ := cut_canon m hm hu (L.walked m) (t ++ x) (g ++ x) (by rw [hg, List.append_assoc]; rfl) hwk (.inr hd)
          exact ⟨e1, e2⟩
        obtain ⟨_, e2, e3, e4⟩ := cut_canon m hm hu (L.walked m) t g hg hwk (.inr hd)
        have hle : tokSz m t ≤ L.rest.length := by
          rw [← e2]
          unfold Live.size
          split
          · exact dec_le _
          · rw [hwk]; have := wkOf_ok m hm L.rest; exact Nat.le_trans this.2.1 this.1
        refine .inr ⟨htne, (L.walked m).cutT, fun x => ⟨by rw [(key x).1]; rfl, by rw [← (key x).2, e2]⟩, ?_, cutT_cap (L.walked m), rfl, e3⟩
        unfold Live.HasF
        rw [cutT_stop, cutT_src, e4, hre]
        rcases hW with ⟨g1, c, r, a, q1, q2, q3, q4, q5⟩ | ⟨g1, g3⟩
        · refine .inl ⟨g1, c, r, a, q1, q2, q3, q4, ?_⟩
          rw [← List.drop_append_of_le_length hle]; exact congrArg (List.drop (tokSz m t)) q5
        · exact .inr ⟨g1, congrArg (List.drop (tokSz m t)) g3⟩
/-- A scanner of t and of what follows, and one whose reader fails behind t. -/
theorem allT_cut (m : Mach) (hm : m.Ok) (hu : m.Up) (hal : ∀ most k s, (askN most k s).1.1.length ≤ most) (kind : Int) (hk : 1 ≤ kind ∧ kind ≤ 5) (g : Bs) : ∀ (n : Nat) (L M : Live) (t : Bs), L.Has (t ++ g) → M.HasF t kind → L.On m → M.On m → L.pos = M.pos → (t ++ g).length < L.cap → (t ++ g).length < M.cap → 4 ≤ L.cap → 4 ≤ M.cap → (t ++ g).length < n →
    ∃ ms ls t', allT m n M = (ms, some (errOf kind)) ∧ (allT m n L).1 = ms ++ ls ∧ t = ms.flatMap (·.text) ++ t' ∧ (aliveW m t' (wkOf m t') = true ∨ full t' = false) ∧ (ls = [] ∨ ∃ tk ls', ls = tk :: ls' ∧ tk.text.length = tokSz m (t' ++ g))
  | 0, _, _, _, _, _, _, _, _, _, _, _, _, h => absurd h (Nat.not_lt_zero _)
  | n + 1, L, M, t, hL, hM, oL, oM, hp, hcL, hcM, h4L, h4M, hn => by
    have hfM : Fits m t M.cap := fits_of_lt m (by rw [List.length_append] at hcM; omega)
    rcases nextT_fail m hm hu hal kind hk (M.nf + 1) M t hM oM hfM h4M (Nat.lt_succ_self _) with ⟨e, hend⟩ | ⟨htne, M', e, q1, q2, q3, q4⟩
    · refine ⟨[], (allT m (n + 1) L).1, t, allT_err (L := M) e, rfl, rfl, hend, ?_⟩
      rcases nextT_canon m hm hu hal (L.nf + 1) L (t ++ g) hL oL (fits_of_lt m hcL) h4L (Nat.lt_succ_self _) with ⟨_, g'⟩ | ⟨hne, L', g', _⟩
      · exact .inl (by rw [allT_err (L := L) g'])
      · refine .inr ⟨_, _, by rw [allT_tok (n := n) g'], ?_⟩
        show ((t ++ g).take (tokSz m (t ++ g))).length = _
        rw [List.length_take, Nat.min_eq_left (tokSz_le m hm _)]
    · obtain ⟨e1, e2⟩ := e g
      have htl := tokSz_le m hm t
      rcases nextT_canon m hm hu hal (L.nf + 1) L (t ++ g) hL oL (fits_of_lt m hcL) h4L (Nat.lt_succ_self _) with ⟨en, _⟩ | ⟨hne, L', g', k1, k2, k3, k4⟩
      · exact absurd (List.append_eq_nil_iff.1 en).1 htne
      · have hdr : (t ++ g).drop (tokSz m (t ++ g)) = t.drop (tokSz m t) ++ g := by rw [e2]; exact List.drop_append_of_le_length htl
        have htk : (t ++ g).take (tokSz m (t ++ g)) = t.take (tokSz m t) := by rw [e2]; exact List.take_append_of_le_length htl
        rw [hdr] at k1
        rw [htk] at k4
        have h1 := tokSz_pos m t htne
        have hlen : (t.drop (tokSz m t) ++ g).length + tokSz m t = (t ++ g).length := by rw [List.length_append, List.length_append, List.length_drop]; omega
        obtain ⟨ms, ls, t', f1, f2, f3, f4, f5⟩ := allT_cut m hm hu hal kind hk g n L' M' (t.drop (tokSz m t)) k1 q1 (on_zero k3) (on_zero q3) (by rw [k4, q4, hp]) (by rw [k2]; omega) (by rw [q2]; omega) (by rw [k2]; exact h4L) (by rw [q2]; exact h4M) (by omega)
        refine ⟨tokAt m M.pos (t ++ g) :: ms, ls, t', by rw [allT_tok (n := n) e1, f1], by rw [allT_tok (n := n) g', f2, hp]; rfl, ?_, f4, f5⟩
        rw [List.flatMap_cons, List.append_assoc, ← f3]
        show t = (t ++ g).take (tokSz m (t ++ g)) ++ _
        rw [htk, List.take_append_drop]
end Go.Proofs.YtlhokghgicgppaaGreatDoor.Sg

namespace Go.Proofs.YtlhokghgicgppaaGreatDoor
open Go.RowKit Go.Extern

def rlT (r : Int) : Int := if r < 0 then -1 else if r ≤ 127 then 1 else if r ≤ 2047 then 2 else if 55296 ≤ r ∧ r ≤ 57343 then -1 else if r ≤ 65535 then 3 else if r ≤ 1114111 then 4 else -1
set_option maxRecDepth 100000 in
set_option maxHeartbeats 1000000 in
theorem runeLen_any (r : Int) (w : World) : Calls Tryz.prog 99 #[.int .i32 r] w fun e w' => e = .returned (.int .i64 (rlT r)) ∧ w' = w := by
  by_cases h0 : r < 0
  · rw [show rlT r = -1 by unfold rlT; rw [if_pos h0]]
    go_enter Tryz.func99, Tryz.ntmps99
    go_wp2
    go_ret
    exact ⟨rfl, rfl⟩
  by_cases h1 : r ≤ 127
  · rw [show rlT r = 1 by unfold rlT; rw [if_neg h0, if_pos h1]]
    go_enter Tryz.func99, Tryz.ntmps99
    go_wp2
    go_ret
    exact ⟨rfl, rfl⟩
  by_cases h2 : r ≤ 2047
  · rw [show rlT r = 2 by unfold rlT; rw [if_neg h0, if_neg h1, if_pos h2]]
    go_enter Tryz.func99, Tryz.ntmps99
    go_wp2
    go_ret
    exact ⟨rfl, rfl⟩
  by_cases h3 : 55296 ≤ r ∧ r ≤ 57343
  · rw [show rlT r = -1 by unfold rlT; rw [if_neg h0, if_neg h1, if_neg h2, if_pos h3]]
    obtain ⟨h3a, h3b⟩ := h3
    go_enter Tryz.func99, Tryz.ntmps99
    go_wp2
    go_ret
    exact ⟨rfl, rfl⟩
  have hway : ¬ 55296 ≤ r ∨ (55296 ≤ r ∧ ¬ r ≤ 57343) := by omega
  have e : rlT r = if r ≤ 65535 then 3 else if r ≤ 1114111 then 4 else -1 := by unfold rlT; rw [if_neg h0, if_neg h1, if_neg h2, if_neg h3]
  rw [e]
  clear h3 e
  by_cases h4 : r ≤ 65535
  · rw [if_pos h4]
    rcases hway with h3 | ⟨h3, h3'⟩
    all_goals go_enter Tryz.func99, Tryz.ntmps99
    all_goals go_wp2
    all_goals go_ret
    all_goals exact ⟨rfl, rfl⟩
  rw [if_neg h4]
  have h3 : 55296 ≤ r := by omega
  have h3' : ¬ r ≤ 57343 := by omega
  clear hway
  by_cases h5 : r ≤ 1114111
  · rw [if_pos h5]
    go_enter Tryz.func99, Tryz.ntmps99
    go_wp2
    go_ret
    exact ⟨rfl, rfl⟩
  · rw [if_neg h5]
    go_enter Tryz.func99, Tryz.ntmps99
    go_wp2
    go_ret
    exact ⟨rfl, rfl⟩

/-- Numbers in a block of their own, made since w0. -/
structure IA (w0 W : World) (b : Nat) (l : List Int) : Prop where
  cell : ∀ i, i < l.length → W.cell? ⟨b, i, none⟩ = some (.int .i64 (l.getD i 0))
  frz : ∀ j, W.frozen? ⟨b, j, none⟩ = false
  new : w0.heap.size ≤ b
  lt : b < W.heap.size
theorem IA.of {w0 W W' : World} {b : Nat} {l : List Int} (h : IA w0 W b l) (hb : W'.heap[b]? = W.heap[b]?) (hs : W.heap.size ≤ W'.heap.size) : IA w0 W' b l :=
  ⟨fun i hi => (cell_block hb).trans (h.cell i hi), fun j => (frozen_block hb).trans (h.frz j), h.new, Nat.lt_of_lt_of_le h.lt hs⟩
theorem IA.set {w0 W : World} {b : Nat} {l : List Int} (h : IA w0 W b l) (i : Nat) (v : Int) (hi : i < l.length) : IA w0 (W.setCell ⟨b, i, none⟩ (.int .i64 v)) b (l.set i v) := by
  refine ⟨fun j hj => ?_, fun j => by rw [World.frozen?_setCell]; exact h.frz j, h.new, by rw [World.size_setCell]; exact h.lt⟩
  rw [List.length_set] at hj
  by_cases e : j = i
  · subst e
    rw [World.cell?_setCell_same _ _ _ (h.cell j hj)]
    simp [List.getD_eq_getElem?_getD, hj]
  · rw [World.cell?_setCell_other _ _ _ _ (by simp [e]), h.cell j hj]
    rw [List.getD_eq_getElem?_getD, List.getD_eq_getElem?_getD, List.getElem?_set_ne (by omega)]
theorem made_at (z : Value) (n j : Nat) (h : j < n) : (madeCells #[z] n)[j]? = some z := by
  unfold madeCells
  simp [h, Nat.mod_one]
theorem IA.made (w0 W : World) (n : Nat) (hs : w0.heap.size ≤ W.heap.size) : IA w0 (W.alloc (.cells (madeCells #[.int .i64 0] n) 3)) W.heap.size (List.replicate n 0) := by
  refine ⟨fun i hi => ?_, fun j => World.frozen?_alloc_at _ _ _ _ rfl, hs, by simp⟩
  rw [List.length_replicate] at hi
  rw [World.cell?_alloc_at _ _ _ _ rfl, made_at _ _ _ hi]
  simp [List.getD_eq_getElem?_getD, hi]
end Go.Proofs.YtlhokghgicgppaaGreatDoor

namespace Go.Proofs.YtlhokghgicgppaaGreatDoor
open Go.RowKit Go.Extern

def hiT (m : Sg.Mach) (i : Nat) : Int := if i + 1 < m.cuts.length then Sg.lowAt m.cuts (i + 1) - 1 else 1114111
def wdS (m : Sg.Mach) (l : List Int) (i : Nat) : List Int := l.set (m.kind i) (rlT (hiT m i))
def widthsT (m : Sg.Mach) : List Int := (List.range m.cuts.length).foldl (wdS m) (List.replicate (m.width 0) 0)
theorem drop_range (n i : Nat) (h : i < n) : (List.range n).drop i = i :: (List.range n).drop (i + 1) := by
  have hl : i < (List.range n).length := by simpa using h
  rw [List.drop_eq_getElem_cons hl]; simp
set_option maxRecDepth 100000 in
set_option maxHeartbeats 2000000 in
theorem widths_any (m : Sg.Mach) (hm : m.Ok) (hlow : ∀ i, i < m.cuts.length → 0 ≤ Sg.lowAt m.cuts i ∧ Sg.lowAt m.cuts i ≤ 2000000) (w : World) (p cb co cc sb so sc : Nat) (nb no nc : Nat → Nat) (M : MachAt w p m cb co cc sb so sc nb no nc) :
    Calls Tryz.prog 68 #[.pointer (some ⟨p, 0, none⟩)] w fun e w' => e = .returned (.slice (some ⟨w.heap.size, 0, none⟩) (m.width 0) (m.width 0)) ∧ Hid (IA w w' w.heap.size (widthsT m) ∧ Below w.heap.size w w') := by
  have hN0 := hm.nextN 0 hm.states0
  have hNs := hm.statesN
  have hNc := hm.cutsN
  have hs0 := hm.states0
  have c0 := M.c0
  have c1 := M.c1
  have cn := M.next 0 hm.states0
  rw [Nat.zero_mul, Nat.add_zero] at cn
  have hmk := run_make_row' (P := Tryz.prog) 24 3 (.int .i64 0) 8 Tryz.underlying24 (by kernel_rfl) rfl .i64 .i64 (m.width 0) (by omega) (by omega) w
  have hb0 := blw1' w (.cells (madeCells #[.int .i64 0] (m.width 0)) 3)
  have hc0 := below_keep hb0 c0
  have HI0 : Hid (IA w (w.alloc (.cells (madeCells #[.int .i64 0] (m.width 0)) 3)) w.heap.size (List.replicate (m.width 0) 0)) := hide2 (IA.made w w (m.width 0) (Nat.le_refl _))
  have HB0 := hide2 hb0
  have HM := hide2 M
  clear M hb0
  go_enter Tryz.func68, Tryz.ntmps68
  go_wp2
  clear c0 c1 cn hmk hc0
  go_loopw [21] (fun iv wr => ∃ (i : Nat), iv = .int .i64 i ∧ i ≤ m.cuts.length ∧ Hid (∃ l, IA w wr w.heap.size l ∧ l.length = m.width 0 ∧ Below w.heap.size w wr ∧ ((List.range m.cuts.length).drop i).foldl (wdS m) l = widthsT m)) (fun iv _ => m.cuts.length - (intOf iv).toNat)
  case atStart => exact ⟨0, rfl, Nat.zero_le _, hide2 ⟨_, HI0.out, List.length_replicate, HB0.out, rfl⟩⟩
  case round =>
    clear HI0 HB0
    obtain ⟨i, rfl, hi, H⟩ := hrel
    by_cases hlt : i < m.cuts.length
    · obtain ⟨l, g1, g2, g3, g4⟩ := H.out
      clear H
      rw [drop_range _ _ hlt, List.foldl_cons] at g4
      have Mr := HM.out.below g3
      have c0 := Mr.c0
      have hl := Mr.low i hlt
      have hk := Mr.kind i hlt
      obtain ⟨kd, hkd⟩ : ∃ kd : Nat, Sg.kindAt m.cuts i = kd := ⟨(Sg.kindAt m.cuts i).toNat, by have := hm.kind0 i hlt; omega⟩
      have hkl : kd < m.width 0 := by have := hm.kinds i hlt 0 hm.states0; omega
      have hkk : m.kind i = kd := by unfold Sg.Mach.kind; rw [hkd]; rfl
      rw [hkd] at hk
      have hbx := blw1' wr (.cells #[.int .i32 (Sg.lowAt m.cuts i), .int .i64 (kd : Int)] 168)
      have k0 := below_keep hbx c0
      have kx : (wr.alloc (.cells #[.int .i32 (Sg.lowAt m.cuts i), .int .i64 (kd : Int)] 168)).cell? ⟨wr.heap.size, 1, none⟩ = some (.int .i64 (kd : Int)) := cell_of' (heap_alloc_new wr _) 1
      have hIx : IA w (wr.alloc (.cells #[.int .i32 (Sg.lowAt m.cuts i), .int .i64 (kd : Int)] 168)) w.heap.size l := g1.of (hbx.block _ g1.lt) hbx.size
      have hBx : Below w.heap.size w (wr.alloc (.cells #[.int .i32 (Sg.lowAt m.cuts i), .int .i64 (kd : Int)] 168)) := g3.trans (hbx.mono g3.size)
      have HX := hide2 (And.intro hIx (And.intro g2 (And.intro hBx g4)))
      have hst := hIx.cell kd (by omega)
      have hsf := hIx.frz kd
      have HRl := hide2 (fun W => runeLen_any (hiT m i) W)
      rw [show wdS m l i = l.set kd (rlT (hiT m i)) by unfold wdS; rw [hkk]] at HX
      by_cases hnx : i + 1 < m.cuts.length
      · have hl1 := below_keep hbx (Mr.low (i + 1) hnx)
        have hr1 := hlow (i + 1) hnx
        have hhi : hiT m i = Sg.lowAt m.cuts (i + 1) - 1 := by unfold hiT; rw [if_pos hnx]
        rw [hhi] at HRl HX
        clear hhi hIx hBx g1 g2 g3 g4 Mr hkd hkk hbx
        generalize Sg.lowAt m.cuts i = L0 at *
        generalize Sg.lowAt m.cuts (i + 1) = L1 at *
        go_upto_region 8 with fail
        clear hl hk c0 k0 hl1
        generalize hsx : wr.heap.size = sx at *
        generalize wr.alloc (.cells #[.int .i32 L0, .int .i64 (kd : Int)] 168) = wx at *
        go_region_with (go_at_call 99; refine (HRl.out _).mono ?_; rintro e w2 ⟨rfl, rfl⟩)
        all_goals go_wp2
        all_goals (
         go_roundw
         case rel =>
          obtain ⟨g1, g2, g3, g4⟩ := HX.out
          exact ⟨i + 1, by go_num, by omega, hide2 ⟨_, (g1.of (W' := wx.drew) rfl (Nat.le_refl _)).set kd _ (by omega), by rw [List.length_set]; exact g2, g3.drew.setCell (p := ⟨w.heap.size, kd, none⟩) (Nat.le_refl _) _, g4⟩⟩
         case measure => simp [intOf]; omega)
      · have hhi : hiT m i = 1114111 := by unfold hiT; rw [if_neg hnx]
        rw [hhi] at HRl HX
        clear hhi hIx hBx g1 g2 g3 g4 Mr hkd hkk hbx
        generalize Sg.lowAt m.cuts i = L0 at *
        go_upto_region 8 with fail
        clear hl hk c0 k0
        generalize hsx : wr.heap.size = sx at *
        generalize wr.alloc (.cells #[.int .i32 L0, .int .i64 (kd : Int)] 168) = wx at *
        go_region_with (go_at_call 99; refine (HRl.out _).mono ?_; rintro e w2 ⟨rfl, rfl⟩)
        all_goals go_wp2
        all_goals (
         go_roundw
         case rel =>
          obtain ⟨g1, g2, g3, g4⟩ := HX.out
          exact ⟨i + 1, by go_num, by omega, hide2 ⟨_, (g1.of (W' := wx.drew) rfl (Nat.le_refl _)).set kd _ (by omega), by rw [List.length_set]; exact g2, g3.drew.setCell (p := ⟨w.heap.size, kd, none⟩) (Nat.le_refl _) _, g4⟩⟩
         case measure => simp [intOf]; omega)
    · have hd : (List.range m.cuts.length).drop i = [] := List.drop_of_length_le (by simp; omega)
      obtain ⟨l, g1, g2, g3, g4⟩ := H.out
      rw [hd] at g4
      have g4 : l = widthsT m := g4
      rw [g4] at g1
      have HF := hide2 (And.intro g1 g3)
      clear H g1 g2 g3 g4
      go_wp2
      go_ret
      exact ⟨rfl, HF⟩
end Go.Proofs.YtlhokghgicgppaaGreatDoor
