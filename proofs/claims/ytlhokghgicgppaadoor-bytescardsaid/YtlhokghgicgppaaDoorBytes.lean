/- scangen.Load, (*Tables).Encode, scangenkeep.Bytes. -/
import Derived.Test.YtlhokghgicgppaaDoorRead
import Derived.Test.YtlhokghgicgppaaDoorToks
set_option linter.unusedSimpArgs false
set_option linter.unusedVariables false
namespace Go.Proofs.YtlhokghgicgppaaDoor
open Go.RowKit Go.Extern

set_option maxRecDepth 100000 in
set_option maxHeartbeats 1000000 in
theorem load_any (s : Sg.Bs) (hs : s.length ≤ 60000) (w : World) :
    Calls Tryd.prog 4 #[.string ⟨s.toArray⟩] w fun e w' => (e = .returned (.tuple #[.pointer none, .iface 27 (.int .i64 8)]) ∧ Hid (Below w.heap.size w w')) ∨ ∃ tp, e = .returned (.tuple #[.pointer (some ⟨tp, 0, none⟩), .nilIface]) ∧ Hid (Below w.heap.size w w' ∧ ∃ p cs zs, w'.cell? ⟨tp, 0, none⟩ = some (.pointer (some ⟨p, 0, none⟩)) ∧ ReadOk w w' s p cs zs ∧ w.heap.size ≤ tp) := by
  have HR : Hid (Calls Tryd.prog 8 #[.string ⟨s.toArray⟩] w fun e w' => (e = .returned (.tuple #[.pointer none, .iface 27 (.int .i64 8)]) ∧ Hid (Below w.heap.size w w')) ∨ ∃ p, e = .returned (.tuple #[.pointer (some ⟨p, 0, none⟩), .nilIface]) ∧ Hid (Below w.heap.size w w' ∧ ∃ cs zs, ReadOk w w' s p cs zs)) := hide2 ((read_any s hs w).mono (by
    rintro e w' ⟨hb, h | ⟨p, cs, zs, h1, h2⟩⟩
    · exact .inl ⟨h, hide2 hb⟩
    · exact .inr ⟨p, h1, hide2 ⟨hb, cs, zs, h2⟩⟩))
  go_enter Tryd.func4, Tryd.ntmps4
  go_wp2_with (go_at_call 8; refine HR.out.mono ?_; rintro e w1 (⟨rfl, H1⟩ | ⟨p, rfl, H1⟩))
  · go_ret2
    exact .inl ⟨rfl, H1⟩
  · go_ret2
    obtain ⟨hb, cs, zs, hr⟩ := H1.out
    have hbl : Below w1.heap.size w1 (w1.alloc (.cells #[.pointer (some ⟨p, 0, none⟩)] 41)) := (Below.refl _ _).alloc (Nat.le_refl _) _
    exact .inr ⟨_, rfl, hide2 ⟨hb.alloc hb.size _, p, cs, zs, newCell _ _ _ _ rfl, ⟨hr.at_.below hbl, hr.good, hr.new, hr.enc, hr.eq⟩, hb.size⟩⟩

set_option maxRecDepth 100000 in
set_option maxHeartbeats 1000000 in
theorem encode_any (s : Sg.Bs) (tp p : Nat) (cs : List (Int × Int)) (zs : List StZ) (w : World) (ht : w.cell? ⟨tp, 0, none⟩ = some (.pointer (some ⟨p, 0, none⟩))) (h : MadeAt w p cs zs) (hg : Good cs zs) (he : Sg.Mach.Enc ⟨cs, zs.map (·.1)⟩) (heq : Sg.encM ⟨cs, zs.map (·.1)⟩ = s) :
    Calls Tryd.prog 7 #[.pointer (some ⟨tp, 0, none⟩)] w fun e w' => e = .returned (.string ⟨s.toArray⟩) ∧ Below w.heap.size w w' := by
  obtain ⟨cb, co, cc, sb, so, sc, nb, no, nc, M, _⟩ := h.mach hg.ok hg.wide
  have HW := hide2 (write_any _ hg.ok he w p cb co cc sb so sc nb no nc M)
  rw [heq] at HW
  clear M
  go_enter Tryd.func7, Tryd.ntmps7
  go_wp2_with (go_at_call 14; refine HW.out.mono ?_; rintro e w1 ⟨rfl, hb⟩)
  go_ret
  exact ⟨rfl, hb⟩

/-- What the library keeps. -/
structure Lay (w : World) : Prop where
  tb : Tabs w
  et : w.cell? ⟨0, 0, none⟩ = some (.iface 112 (.agg #[.pointer (some ⟨4, 24, none⟩)]))
  g : 4 ≤ w.heap.size

theorem tok_cell {w : World} {ra : Option Addr} {rc : Nat} {ts : List Sg.Tok} (h : RowAt 5 w ra rc ts.length (ts.flatMap tokCells)) (j : Nat) (hj : j < ts.length) : ∃ rb ro, ra = some ⟨rb, ro, none⟩ ∧ w.cell? ⟨rb, ro + j * 5 + 4, none⟩ = some (.string ⟨ts[j].text.toArray⟩) := by
  rcases h.row with ⟨_, _, h0⟩ | ⟨rb, ro, rfl, _, hc, _⟩
  · omega
  · refine ⟨rb, ro, rfl, ?_⟩
    have := hc (j * 5 + 4) (strV ts[j].text) (by rw [flat_get tokCells 5 (fun _ => rfl) ts j 4 hj (by omega)]; rfl)
    rw [← Nat.add_assoc] at this; exact this

set_option maxRecDepth 100000 in
set_option maxHeartbeats 2000000 in
theorem bytes_any (s text : Sg.Bs) (w : World) (h : Lay w) :
    Calls Tryd.prog 3 #[.string ⟨s.toArray⟩, .string ⟨text.toArray⟩] w fun e w' => e = .returned (.bool true) ∧ Below w.heap.size w w' := by
  by_cases hs' : 60000 < s.length
  · go_enter Tryd.func3, Tryd.ntmps3
    go_wp2
    go_ret
    exact ⟨rfl, Below.refl _ _⟩
  have hs : s.length ≤ 60000 := by omega
  by_cases ht' : 2000 < text.length
  · go_enter Tryd.func3, Tryd.ntmps3
    go_wp2
    go_ret
    exact ⟨rfl, Below.refl _ _⟩
  have ht : text.length ≤ 2000 := by omega
  have hg := h.g
  have HTold : Hid (∀ w1, Below w.heap.size w w1 → Calls Tryd.prog 5 #[.iface 27 (.int .i64 8)] w1 fun e w' => e = .returned (.tuple #[.int .i64 8, .int .i64 (-1), .int .i64 (-1)]) ∧ Hid (Below w.heap.size w w')) := hide2 fun w1 hb => (told_errno 8 w1 ((hb.cell (p := ⟨0, 0, none⟩) (cell_lt h.et)).trans h.et)).mono (by
    rintro e w' ⟨h1, h2⟩
    exact ⟨h1, hide2 (hb.trans (h2.mono hb.size))⟩)
  have HL := hide2 (load_any s hs w)
  have HTk : Hid (∀ w1 tp, Below w.heap.size w w1 → (∃ p cs zs, w1.cell? ⟨tp, 0, none⟩ = some (.pointer (some ⟨p, 0, none⟩)) ∧ ReadOk w w1 s p cs zs ∧ w.heap.size ≤ tp) → Calls Tryd.prog 6 #[.pointer (some ⟨tp, 0, none⟩), .string ⟨text.toArray⟩] w1 fun en w2 => ∃ (ts : List Sg.Tok) (ra : Option Addr) (rc : Nat), en = .returned (.tuple #[.slice ra ts.length rc, .bool true]) ∧ ts.length ≤ 2000 ∧ Hid (ts.flatMap (·.text) = text ∧ ∀ t ∈ ts, t.text ≠ []) ∧ Hid (RowAt 5 w2 ra rc ts.length (ts.flatMap tokCells)) ∧ Hid (Below w.heap.size w w2) ∧ Hid (∀ w3, Below w2.heap.size w2 w3 → Calls Tryd.prog 7 #[.pointer (some ⟨tp, 0, none⟩)] w3 fun e w' => e = .returned (.string ⟨s.toArray⟩) ∧ Hid (Below w3.heap.size w3 w'))) := hide2 fun w1 tp hb1 ⟨p, cs, zs, hc, hr, hn⟩ => by
    have htab : TabAt w1 tp p w1.heap.size ⟨cs, zs.map (·.1)⟩ := ⟨hc, hr.at_.mach hr.good.ok hr.good.wide, h.tb.kept (⟨hb1.size, fun k o v hv => (cell_block (hb1.block k (cell_lt hv))).trans hv, fun k j hk => frozen_block (hb1.block k hk)⟩), by have := hb1.size; omega, Nat.le_refl _, cell_lt hc, (hb1.cell (p := ⟨0, 0, none⟩) (cell_lt h.et)).trans h.et⟩
    obtain ⟨_, k2, k3, k4⟩ := Sg.toksOf_has ⟨cs, zs.map (·.1)⟩ text ht
    refine (tokens_any _ hr.good.ok tp p _ text ht w1 htab).mono ?_
    rintro en w2 ⟨ra, rc, rfl, g1, g2, g3⟩
    refine ⟨_, ra, rc, rfl, by omega, hide2 ⟨k2, k3⟩, hide2 g1, hide2 (hb1.trans (g3.mono hb1.size)), hide2 fun w3 hb3 => ?_⟩
    have hb13 : Below w1.heap.size w1 w3 := g3.trans (hb3.mono g3.size)
    refine (encode_any s tp p cs zs w3 ((hb13.cell (p := ⟨tp, 0, none⟩) (cell_lt hc)).trans hc) (hr.at_.below hb13) hr.good hr.enc hr.eq).mono ?_
    rintro e w' ⟨h1, h2⟩
    exact ⟨h1, hide2 h2⟩
  clear h hg
  go_enter Tryd.func3, Tryd.ntmps3
  go_wp2_with (first
    | (go_at_call 4; refine HL.out.mono ?_; clear HL; rintro e w1 (⟨rfl, H1⟩ | ⟨tp, rfl, H1⟩))
    | (go_at_call 5; refine (HTold.out w1 H1.out).mono ?_; clear HTold; rintro e w2 ⟨rfl, HB2⟩)
    | (go_at_call 6; refine (HTk.out w1 tp H1.out.1 H1.out.2).mono ?_; clear HTk; rintro e w2 ⟨ts, ra, rc, rfl, hts, HT1, HT2, HB2, HE⟩))
  · go_ret
    exact ⟨rfl, HB2.out⟩
  · go_loopw [12, 13] (fun av iv wr => ∃ j : Nat, iv = .int .i64 j ∧ j ≤ ts.length ∧ av = .string ⟨((ts.take j).flatMap (·.text)).toArray⟩ ∧ Hid (Below w2.heap.size w2 wr)) (fun _ iv _ => ts.length - (intOf iv).toNat)
    case atStart => exact ⟨0, rfl, Nat.zero_le _, by simp, hide2 (Below.refl _ _)⟩
    case round =>
      obtain ⟨j, rfl, hj, rfl, H⟩ := hrel
      by_cases hlt : j < ts.length
      · obtain ⟨rb, ro, rfl, hcell⟩ := tok_cell (HT2.out.below H.out) j hlt
        have hne := HT1.out.2 ts[j] (List.getElem_mem hlt)
        have htk : ts.take (j + 1) = ts.take j ++ [ts[j]] := by rw [List.take_add_one, List.getElem?_eq_getElem hlt]; rfl
        have hpre : ((ts.take (j + 1)).flatMap (·.text)).length ≤ text.length := by
          rw [← HT1.out.1]
          conv => rhs; rw [← List.take_append_drop (j + 1) ts, List.flatMap_append, List.length_append]
          omega
        rw [htk, List.flatMap_append, List.length_append] at hpre
        have e1 : [ts[j]].flatMap (·.text) = ts[j].text := by simp
        rw [e1] at hpre
        have Htk := hide2 htk
        generalize ts[j] = t at *
        have hl0 : 1 ≤ t.text.length := by
          rcases hx : t.text with _ | _
          · exact absurd hx hne
          · simp
        have hz : (((t.text.length : Nat) : Int) == 0) = false := beq_eq_false_iff_ne.2 (by omega)
        clear htk hne e1
        generalize hpr : (ts.take j).flatMap (·.text) = pr at *
        go_wp2
        go_roundw
        case rel =>
          refine ⟨j + 1, by go_num, by omega, ?_, H⟩
          rw [Htk.out, List.flatMap_append, hpr]
          refine congrArg Value.string (ByteArray.ext ?_)
          rw [ByteArray.data_append]
          simp
        case measure => simp [intOf]; omega
      · have hall : (ts.take j).flatMap (·.text) = text := by rw [List.take_of_length_le (by omega)]; exact HT1.out.1
        rw [hall]
        have HE1 := hide2 (HE.out _ H.out)
        clear HE
        go_wp2_with (go_at_call 7; refine HE1.out.mono ?_; rintro e w4 ⟨rfl, HB4⟩)
        go_ret
        have hb2 := HB2.out
        have hbr := hb2.trans (H.out.mono hb2.size)
        exact ⟨rfl, hbr.trans (HB4.out.mono hbr.size)⟩
end Go.Proofs.YtlhokghgicgppaaDoor
