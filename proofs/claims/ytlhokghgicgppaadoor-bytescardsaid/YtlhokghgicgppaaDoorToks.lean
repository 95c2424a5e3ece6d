/- plain.Told at an api.Errno. Numbers filled in by wip/tools/inst.py. -/
/- scangenkeep.tokens. -/
import Derived.Test.YtlhokghgicgppaaDoorAsCalls
import Derived.Below
import Derived.Test.YtlhokghgicgppaaDoorMkScan
set_option linter.unusedSimpArgs false
set_option linter.unusedVariables false
namespace Go.Proofs.YtlhokghgicgppaaDoor
open Go.RowKit Go.Extern.Stop Go.Stop Go.Extern

set_option maxRecDepth 100000 in
set_option maxHeartbeats 4000000 in
theorem told_errno (n : Int) (w : World) (hg : w.cell? ⟨0, 0, none⟩ = some (.iface 112 (.agg #[.pointer (some ⟨4, 24, none⟩)]))) :
    Calls Tryd.prog 5 #[.iface 27 (.int .i64 n)] w fun e w' => e = .returned (.tuple #[.int .i64 n, .int .i64 (-1), .int .i64 (-1)]) ∧ Below w.heap.size w w' := by
  have hlt : 0 < w.heap.size := by
    rcases Nat.lt_or_ge 0 w.heap.size with h | h
    · exact h
    · simp [World.cell?, Array.getElem?_eq_none h] at hg
  have hA : (w.alloc (.cells #[.pointer none] 42)).cell? ⟨0, 0, none⟩ = some (.iface 112 (.agg #[.pointer (some ⟨4, 24, none⟩)])) := by
    rw [World.cell?_alloc_lt _ _ ⟨0, 0, none⟩ hlt]; exact hg
  go_enter Tryd.func5, Tryd.ntmps5
  go_wp2_with fail
  refine (as_missE n _ _ hA).mono ?_
  rintro e w1 ⟨rfl, rfl⟩
  go_wp2_with fail
  refine (as_hitE n _ (.int .i64 0) _ ?_ ?_ ?_).mono ?_
  · rw [World.cell?_alloc_lt _ _ ⟨0, 0, none⟩ (by simp <;> omega), World.cell?_alloc_lt _ _ ⟨0, 0, none⟩ (by simp <;> omega), World.cell?_alloc_lt _ _ ⟨0, 0, none⟩ (by simp <;> omega), World.cell?_alloc_lt _ _ ⟨0, 0, none⟩ (by simp <;> omega)]; exact hA
  · rw [World.cell?_alloc_at _ _ _ _ (by simp)]; rfl
  · rw [World.frozen?_alloc_at _ _ _ _ (by simp)]
  rintro e w2 ⟨rfl, rfl⟩
  go_wp2
  go_ret3
  refine ⟨rfl, ?_⟩
  exact (((((((((Below.refl _ _).alloc (Nat.le_refl _) _).alloc (by simp <;> omega) _).alloc (by simp <;> omega) _).alloc (by simp <;> omega) _).alloc (by simp <;> omega) _).alloc (by simp <;> omega) _).alloc (by simp <;> omega) _).alloc (by simp <;> omega) _).alloc (by simp <;> omega) _
end Go.Proofs.YtlhokghgicgppaaDoor

namespace Go.Proofs.YtlhokghgicgppaaDoor
open Go.RowKit Go.Extern

/-- Tables in memory, and what the library keeps beside them. -/
structure TabAt (w : World) (tp p bm : Nat) (m : Sg.Mach) : Prop where
  t : w.cell? ⟨tp, 0, none⟩ = some (.pointer (some ⟨p, 0, none⟩))
  ma : MachIn w bm p m
  tb : Tabs w
  g : 4 ≤ bm
  le : bm ≤ w.heap.size
  tl : tp < bm
  et : w.cell? ⟨0, 0, none⟩ = some (.iface 112 (.agg #[.pointer (some ⟨4, 24, none⟩)]))
theorem TabAt.below {w w' : World} {tp p bm : Nat} {m : Sg.Mach} (hm : m.Ok) (h : TabAt w tp p bm m) {B : Nat} (hB : bm ≤ B) (hb : Below B w w') : TabAt w' tp p bm m := by
  have htp := h.tl
  have hg := h.g
  have hle := h.le
  refine ⟨(hb.cell (p := ⟨tp, 0, none⟩) (by show tp < B; omega)).trans h.t, h.ma.of hm (fun b o v hx hc => (hb.cell (p := ⟨b, o, none⟩) (by show b < B; omega)).trans hc), ⟨fun c hc => (hb.cell (p := ⟨1, c, none⟩) (by show 1 < B; omega)).trans (h.tb.1 c hc), fun i hi => ⟨(hb.cell (p := ⟨2, 2 * i, none⟩) (by show 2 < B; omega)).trans (h.tb.2 i hi).1, (hb.cell (p := ⟨2, 2 * i + 1, none⟩) (by show 2 < B; omega)).trans (h.tb.2 i hi).2⟩⟩, h.g, Nat.le_trans h.le hb.size, h.tl, (hb.cell (p := ⟨0, 0, none⟩) (by show 0 < B; omega)).trans h.et⟩

/-- The tokens of a text that comes at once. -/
def Sg.toksOf (m : Sg.Mach) (text : Sg.Bs) : List Sg.Tok := (Sg.allT m 3000 (Sg.live0 5000 [⟨text, 0, 0⟩])).1
theorem Sg.live0_has (cap : Nat) (text : Sg.Bs) : (Sg.live0 cap [⟨text, 0, 0⟩]).Has text :=
  .inl ⟨rfl, fun c hc => by
    simp only [Sg.live0, List.mem_singleton] at hc
    subst hc
    exact ⟨rfl, by show (0 : Int) ≤ 1; decide, .inr (by show (0 : Int) ≤ 0; decide)⟩, by simp [Sg.live0, Sg.Src.bytes]⟩
theorem Sg.toksOf_has (m : Sg.Mach) (text : Sg.Bs) (h : text.length ≤ 2000) : Sg.allT m 3000 (Sg.live0 5000 [⟨text, 0, 0⟩]) = (Sg.toksOf m text, some 13) ∧ (Sg.toksOf m text).flatMap (·.text) = text ∧ (∀ t ∈ Sg.toksOf m text, t.text ≠ []) ∧ (Sg.toksOf m text).length ≤ text.length := by
  obtain ⟨ts, h1, h2, h3, h4⟩ := Sg.allT_has m askN_len 3000 (Sg.live0 5000 [⟨text, 0, 0⟩]) text (Sg.live0_has _ _) (by show text.length < 5000; omega) (by show 4 ≤ 5000; omega) (by omega)
  have e : Sg.toksOf m text = ts := by unfold Sg.toksOf; rw [h1]
  rw [e]
  exact ⟨h1, h2, h3, h4⟩

/-- A scanner that stands ahead of its text, new. -/
structure Fresh (w w2 : World) (sq bm : Nat) (m : Sg.Mach) (L : Sg.Live) (F : Nat → Prop) : Prop where
  sc : ScanAt w2 sq bm sq m L F 1
  fp : ∀ i, F i → w.heap.size ≤ i
  below : Below w.heap.size w w2

set_option maxRecDepth 100000 in
set_option maxHeartbeats 2000000 in
theorem tokens_any (m : Sg.Mach) (hm : m.Ok) (tp p bm : Nat) (text : Sg.Bs) (ht : text.length ≤ 2000) (w : World) (h : TabAt w tp p bm m) :
    Calls Tryd.prog 6 #[.pointer (some ⟨tp, 0, none⟩), .string ⟨text.toArray⟩] w fun en w' => ∃ ra rc, en = .returned (.tuple #[.slice ra (Sg.toksOf m text).length rc, .bool true]) ∧ RowAt 5 w' ra rc (Sg.toksOf m text).length ((Sg.toksOf m text).flatMap tokCells) ∧ NewRow w ra ∧ Below w.heap.size w w' := by
  have htk := (Sg.toksOf_has m text ht).1
  have hle := h.le
  have hsm : Small ⟨[⟨text, 0, 0⟩], 0, 0⟩ := ⟨by show 0 < 1000000000; omega, by show 0 < 1000000000; omega, fun c hc => by
    simp only [List.mem_singleton] at hc
    subst hc
    exact ⟨by show text.length < _; omega, by show (0 : Int) < _; omega⟩⟩
  have hba : Below w.heap.size w (w.alloc (.cells #[.string ⟨text.toArray⟩, .int .i64 0, .int .i64 0] 51)) := (Below.refl _ _).alloc (Nat.le_refl _) _
  have HN : Hid (Calls Tryd.prog 10 #[.slice (some ⟨w.heap.size, 0, none⟩) 1 1] (w.alloc (.cells #[.string ⟨text.toArray⟩, .int .i64 0, .int .i64 0] 51)) fun e w1 => ∃ q, e = .returned (.pointer (some ⟨q, 0, none⟩)) ∧
      Hid (Calls Tryd.prog 11 #[.pointer (some ⟨tp, 0, none⟩), .pointer (some ⟨q, 0, none⟩), .int .i64 5000] w1 fun en w2 => ∃ sq F, en = .returned (.tuple #[.pointer (some ⟨sq, 0, none⟩), .nilIface]) ∧ Hid (Fresh w w2 sq bm m (Sg.live0 5000 [⟨text, 0, 0⟩]) F))) := by
    show Calls _ _ _ _ _
    refine (newSource_any _ [⟨text, 0, 0⟩] (by simp) (by simp) w.heap.size 0 1 (fun j u hj => ?_)).mono ?_
    · rw [World.cell?_alloc_at _ _ _ _ rfl, Nat.zero_add]
      simpa [pcCells, strV] using hj
    · rintro e w1 ⟨q, rfl, hns⟩
      refine ⟨q, rfl, hide2 ?_⟩
      have hb1 : Below w.heap.size w w1 := hba.trans (hns.below.mono (by simp))
      have h1 := h.below hm hle hb1
      have hq := hns.new
      have hq' : w.heap.size ≤ q := by simp at hq; omega
      refine (plainScan_any m hm tp p q bm 5000 _ w1 h1.t (by omega) (by omega) h1.ma h1.tb h1.g (by omega) hsm hns.src).mono ?_
      rintro en w2 ⟨sq, F, rfl, k1, k2, k3, k4⟩
      have hs1 := hb1.size
      refine ⟨sq, F, rfl, hide2 ⟨k1, fun i t => ?_, hb1.trans (k3.mono hs1)⟩⟩
      rcases k2 i t with e | e
      · omega
      · omega
  have HA : Hid (∀ w2 sq F, Fresh w w2 sq bm m (Sg.live0 5000 [⟨text, 0, 0⟩]) F → Calls Tryd.prog 12 #[.pointer (some ⟨sq, 0, none⟩), .int .i64 3000] w2 fun en w3 => ∃ ra rc, en = .returned (.tuple #[.slice ra (Sg.toksOf m text).length rc, .iface 27 (.int .i64 13)]) ∧
      Hid (RowAt 5 w3 ra rc (Sg.toksOf m text).length ((Sg.toksOf m text).flatMap tokCells) ∧ NewRow w ra ∧ w3.cell? ⟨sq, 14, none⟩ = some (errV (some 13)) ∧ Below w.heap.size w w3)) := hide2 fun w2 sq F hf => by
    refine (all_any m hm sq bm sq _ F 1 w2 hf.sc (by omega) (by omega) 3000 (by omega) (by omega) (Sg.toksOf m text) 13 htk).mono ?_
    rintro en w3 ⟨ra, rc, rfl, k1, k2, k3, k4⟩
    have hs := hf.below.size
    exact ⟨ra, rc, rfl, hide2 ⟨k1, fun b o e => by have := k2 b o e; omega, k3, hf.below.trans (k4.below hs (fun k o hk t => by have := hf.fp k t; omega))⟩⟩
  have HT : Hid (∀ w3, Below w.heap.size w w3 → Calls Tryd.prog 5 #[.iface 27 (.int .i64 13)] w3 fun e w' => e = .returned (.tuple #[.int .i64 13, .int .i64 (-1), .int .i64 (-1)]) ∧ Below w3.heap.size w3 w') := hide2 fun w3 hb => told_errno 13 w3 (h.below hm hle hb).et
  have HD : Hid (∀ sq w, w.cell? ⟨sq, 14, none⟩ = some (errV (some 13)) → Calls Tryd.prog 13 #[.pointer (some ⟨sq, 0, none⟩)] w fun en w' => en = .returned (.tuple #[.agg #[.int .i64 0, .int .i64 0, .int .i64 0, .int .i64 0, .string ⟨#[]⟩], .iface 27 (.int .i64 13)]) ∧ Below w.heap.size w w') := hide2 (fun sq w hw => next_dead sq 13 w hw)
  have H := hide2 h
  clear h htk hsm hba
  go_enter Tryd.func6, Tryd.ntmps6
  go_wp2_with (first
    | (go_at_call 10; refine HN.out.mono ?_; clear HN; rintro e w1 ⟨q, rfl, HS⟩)
    | (go_at_call 11; refine HS.out.mono ?_; clear HS; rintro e w2 ⟨sq, F, rfl, HF⟩)
    | (go_at_call 12; refine (HA.out w2 sq F HF.out).mono ?_; clear HA; rintro e w3 ⟨ra, rc, rfl, H3⟩)
    | (go_at_call 13; refine (HD.out sq w4 (H4.out.2)).mono ?_; clear HD; rintro e w5 ⟨rfl, hb5⟩; have H5 := hide2 (H4.out.1.trans (hb5.mono H4.out.1.size)); have HU := hide2 (HT.out (w5.alloc tokZ) (H5.out.alloc H5.out.size _)); have HB5 := hide2 hb5; clear HT hb5)
    | (go_at_call 5; refine (HT.out w3 H3.out.2.2.2).mono ?_; rintro e w4 ⟨rfl, hb4⟩; have H4 := hide2 (And.intro (H3.out.2.2.2.trans (hb4.mono H3.out.2.2.2.size)) ((hb4.cell (p := ⟨sq, 14, none⟩) (cell_lt H3.out.2.2.1)).trans H3.out.2.2.1)); have HB4 := hide2 hb4; clear hb4)
    | (go_at_call 5; refine HU.out.mono ?_; rintro e w6 ⟨rfl, hb6⟩; have HB6 := hide2 hb6; clear hb6))
  go_ret2
  obtain ⟨k1, k2, k3, k4⟩ := H3.out
  have b4 := HB4.out
  have b5 := HB5.out
  have b6 := HB6.out
  have s4 := b4.size
  have s5 := b5.size
  have hz : (w5.alloc tokZ).heap.size = w5.heap.size + 1 := by simp
  have b56 : Below w5.heap.size w5 w6 := ((Below.refl _ _).alloc (Nat.le_refl _) tokZ).trans (b6.mono (by omega))
  have b36 : Below w3.heap.size w3 w6 := b4.trans ((b5.mono s4).trans (b56.mono (by omega)))
  exact ⟨ra, rc, rfl, k1.below b36, k2, k4.trans (b36.mono k4.size)⟩
end Go.Proofs.YtlhokghgicgppaaDoor
