/- A scanner over a row of pieces, made and run to its end. -/
import Derived.Test.YtlhokghgicgppaaGreatDoorSameW
import Derived.Test.YtlhokghgicgppaaGreatDoorKeepB
set_option linter.unusedSimpArgs false
set_option linter.unusedVariables false
namespace Go.Proofs.YtlhokghgicgppaaGreatDoor
open Go.RowKit Go.Extern

theorem scan_row (m : Sg.Mach) (hm : m.Ok) (tp p bm cap : Nat) (h4 : 4 ≤ cap) (hN : cap ≤ 100000) (w : World) (h : TabAt w tp p bm m) (l : List Sg.Pc) (hne : l ≠ []) (hl : l.length < 1000000) (hsm : Small ⟨l, 0, 0⟩) (ra : Option Addr) (rc : Nat) (hR : RowAt 3 w ra rc l.length (l.flatMap pcCells)) :
    Calls Tryz.prog 21 #[.slice ra l.length rc] w fun e w1 => ∃ q, e = .returned (.pointer (some ⟨q, 0, none⟩)) ∧
      Hid (Calls Tryz.prog 22 #[.pointer (some ⟨tp, 0, none⟩), .pointer (some ⟨q, 0, none⟩), .int .i64 cap] w1 fun en w2 => ∃ sq F, en = .returned (.tuple #[.pointer (some ⟨sq, 0, none⟩), .nilIface]) ∧ Hid (Fresh w w2 sq bm m (Sg.live0 cap l) F)) := by
  have hle := h.le
  rcases hR.row with ⟨_, _, h0⟩ | ⟨rb, ro, rfl, _, hc, _⟩
  · exact absurd (List.eq_nil_of_length_eq_zero h0) hne
  · refine (newSource_any _ l hne hl rb ro rc hc).mono ?_
    rintro e w1 ⟨q, rfl, hns⟩
    refine ⟨q, rfl, hide2 ?_⟩
    have hb1 : Below w.heap.size w w1 := hns.below
    have h1 := h.below hm hle hb1
    have hq := hns.new
    refine (plainScan_any m hm tp p q bm cap _ w1 h1.t h4 hN h1.ma h1.tb h1.g (by omega) hsm hns.src).mono ?_
    rintro en w2 ⟨sq, F, rfl, k1, k2, k3, k4⟩
    have hs1 := hb1.size
    refine ⟨sq, F, rfl, hide2 ⟨k1, fun i t => ?_, hb1.trans (k3.mono hs1)⟩⟩
    rcases k2 i t with e | e
    · omega
    · omega
theorem all_row (m : Sg.Mach) (hm : m.Ok) (w w2 : World) (sq bm : Nat) (hbm : bm ≤ w.heap.size) (L : Sg.Live) (F : Nat → Prop) (hf : Fresh w w2 sq bm m L F) (ts : List Sg.Tok) (e0 : Int) (hT : Sg.allT m 3000 L = (ts, some e0)) :
    Calls Tryz.prog 23 #[.pointer (some ⟨sq, 0, none⟩), .int .i64 3000] w2 fun en w3 => ∃ ra rc, en = .returned (.tuple #[.slice ra ts.length rc, errV (some e0)]) ∧
      Hid (RowAt 5 w3 ra rc ts.length (ts.flatMap tokCells) ∧ NewRow w ra ∧ w3.cell? ⟨sq, 14, none⟩ = some (errV (some e0)) ∧ Below w.heap.size w w3) := by
  refine (all_any m hm sq bm sq _ F 1 w2 hf.sc (by omega) (by omega) 3000 (by omega) (by omega) ts e0 hT).mono ?_
  rintro en w3 ⟨ra, rc, rfl, k1, k2, k3, k4⟩
  have hs := hf.below.size
  exact ⟨ra, rc, rfl, hide2 ⟨k1, fun b o e => by have := k2 b o e; omega, k3, hf.below.trans (k4.below hs (fun k o hk t => by have := hf.fp k t; omega))⟩⟩

/-- append of one piece, laid in a new block. -/
theorem info_pcs : (Tryz.prog.info? 40).map (fun i => (i.zero, i.size, i.bytes)) = some (some (.agg #[.string ⟨#[]⟩, .int .i64 0, .int .i64 0]), 3, 32) := by kernel_rfl
theorem append_pc {w : World} {ra : Option Addr} {rc : Nat} {l : List Sg.Pc} (hR : RowAt 3 w ra rc l.length (l.flatMap pcCells)) (c : Sg.Pc) (hn : l.length < 2000000000) (ty vt : TypeId) :
    ∃ ra' rc' w', (Builtin.append_ #[37, 37] ty #[.slice ra l.length rc, .slice (some ⟨w.heap.size, 0, none⟩) 1 1]).run Tryz.prog (w.alloc (.cells #[strV c.text, .int .i64 c.n, .int .i64 c.kind] vt)) = .ok (.slice ra' (l.length + 1) rc') w' ∧ RowAt 3 w' ra' rc' (l ++ [c]).length ((l ++ [c]).flatMap pcCells) ∧ Chg (rowT ra) w w' ∧ Moved w ra ra' := by
  obtain ⟨i, hi, hz, hs, hb⟩ := info_parts info_pcs
  have hbl : Below w.heap.size w (w.alloc (.cells #[strV c.text, .int .i64 c.n, .int .i64 c.kind] vt)) := (Below.refl _ _).alloc (Nat.le_refl _) _
  obtain ⟨ra', rc', w', h1, h2, h3, h4⟩ := append_row (P := Tryz.prog) (w.alloc (.cells #[strV c.text, .int .i64 c.n, .int .i64 c.kind] vt)) 37 ty 40 i _ 3 32 Tryz.underlying37 hi hz hs hb rfl (by omega) ra rc l.length _ (hR.below hbl) w.heap.size 0 1 1 (by omega) (pcCells c) rfl (fun j x hj => by
    rw [World.cell?_alloc_at _ _ _ _ rfl, Nat.zero_add]
    simpa [pcCells] using hj) (fun x hx => by
      simp only [pcCells, List.mem_cons, List.not_mem_nil, or_false] at hx
      rcases hx with rfl | rfl | rfl <;> rfl) (by unfold maxLen; omega) (by omega)
  refine ⟨ra', rc', w', h1, ?_, (Chg.of_below hbl).trans h3, ?_⟩
  · rw [List.length_append, List.flatMap_append]
    have e : [c].flatMap pcCells = pcCells c := by simp
    rw [e]; exact h2
  · rcases h4 with h4 | ⟨rb, e1, e2⟩
    · exact .inl h4
    · exact .inr ⟨rb, e1, by have : (w.alloc (.cells #[strV c.text, .int .i64 c.n, .int .i64 c.kind] vt)).heap.size = w.heap.size + 1 := by simp
                             omega⟩
/-- The tokens of a text that comes in pieces. -/
theorem toks_pieces (m : Sg.Mach) (hm : m.Ok) (hu : m.Up) (text : Sg.Bs) (ht : text.length ≤ 2000) (l : List Sg.Pc) (hg : ∀ c ∈ l, c.Good) (hl : l.flatMap (·.text) = text) : Sg.allT m 3000 (Sg.live0 5000 l) = (Sg.toksOf m text, some 13) := by
  rw [← (Sg.toksOf_has m text ht).1]
  refine Sg.allT_same m hm hu askN_len 5000 3000 _ _ text (Sg.live0_has _ _) (.inl ⟨rfl, hg, ?_⟩) (Sg.on_zero rfl) (Sg.on_zero rfl) rfl (by show text.length < 5000; omega) (by show 4 ≤ 5000; omega) (by show 4 ≤ 5000; omega) (fun r' h1 _ => Sg.fits_of_lt m (by show r'.length < 5000; omega)) (fun t htk => ?_)
  · show text = [] ++ Sg.Src.bytes ⟨l, 0, 0⟩
    rw [List.nil_append, Sg.bytes_fresh, hl]
  · have e := (Sg.toksOf_has m text ht).2.1
    rw [show (Sg.allT m 3000 (Sg.live0 5000 [⟨text, 0, 0⟩])).1 = Sg.toksOf m text from rfl] at htk
    have : t.text.length ≤ text.length := by
      rw [← e]
      obtain ⟨a, b, hab⟩ := List.append_of_mem htk
      rw [hab, List.flatMap_append, List.flatMap_cons, List.length_append, List.length_append]; omega
    omega
end Go.Proofs.YtlhokghgicgppaaGreatDoor
