/- (*Machine).scalarsOnly. -/
import Derived.Test.YtlhokghgicgppaaDoorInOrder
import Derived.Test.YtlhokghgicgppaaDoorWalk
set_option linter.unusedSimpArgs false
set_option linter.unusedVariables false
namespace Go.Proofs.YtlhokghgicgppaaDoor
open Go.RowKit Go.Extern

/-- Made tables that can be walked through, as the walks see them. -/
theorem MadeAt.mach {w : World} {p : Nat} {cs : List (Int × Int)} {zs : List StZ} (h : MadeAt w p cs zs) (hm : Sg.Mach.Ok ⟨cs, zs.map (·.1)⟩) (hw : ∀ i, i < zs.length → 0 < Sg.Mach.width ⟨cs, zs.map (·.1)⟩ i) : MachIn w w.heap.size p ⟨cs, zs.map (·.1)⟩ := by
  obtain ⟨cr, cc, a1, a2⟩ := h.c0
  obtain ⟨sr, sc, b1, b2⟩ := h.c1
  have c0 := hm.cuts0
  have s0 := hm.states0
  rw [List.length_map] at s0
  obtain ⟨cb, co, rfl, _, _⟩ := cut_cells a2 0 c0
  obtain ⟨sb, so, rfl, _, _⟩ := st_cells b2 0 s0
  have hwd : ∀ i (hi : i < zs.length), Sg.Mach.width ⟨cs, zs.map (·.1)⟩ i = zs[i].1.2.length := fun i hi => by
    unfold Sg.Mach.width
    rw [List.getD_eq_getElem?_getD, List.getElem?_map, List.getElem?_eq_getElem hi]; rfl
  have hru : ∀ i (hi : i < zs.length), Sg.Mach.rule ⟨cs, zs.map (·.1)⟩ i = zs[i].1.1 := fun i hi => by
    unfold Sg.Mach.rule
    rw [List.getD_eq_getElem?_getD, List.getElem?_map, List.getElem?_eq_getElem hi]; rfl
  have hnx : ∀ i k (hi : i < zs.length) (hk : k < zs[i].1.2.length), Sg.Mach.next ⟨cs, zs.map (·.1)⟩ i k = zs[i].1.2[k] := fun i k hi hk => by
    unfold Sg.Mach.next
    have e : (zs.map (·.1)).getD i (0, []) = zs[i].1 := by rw [List.getD_eq_getElem?_getD, List.getElem?_map, List.getElem?_eq_getElem hi]; rfl
    rw [e, List.getD_eq_getElem?_getD, List.getElem?_eq_getElem hk]; rfl
  refine ⟨cb, co, cc, sb, so, sc, fun i => if hi : i < zs.length then ((zs[i].2.1.map (·.block)).getD 0) else 0, fun i => if hi : i < zs.length then ((zs[i].2.1.map (·.off)).getD 0) else 0, fun i => if hi : i < zs.length then zs[i].2.2 else 0, ⟨a1, ?_, ?_, ?_, ?_, ?_, ?_⟩, cell_lt a1, a2.lt rfl, b2.lt rfl, ?_, a2.le⟩
  · show w.cell? ⟨p, 1, none⟩ = some (.slice (some ⟨sb, so, none⟩) (zs.map (·.1)).length sc)
    rw [List.length_map]; exact b1
  · intro i hi
    obtain ⟨_, _, e, k1, _⟩ := cut_cells a2 i hi
    cases e; exact k1
  · intro i hi
    obtain ⟨_, _, e, _, k2⟩ := cut_cells a2 i hi
    cases e; exact k2
  · intro i hi
    have hi' : i < zs.length := by simpa using hi
    obtain ⟨_, _, e, k1, _⟩ := st_cells b2 i hi'
    cases e
    rw [hru i hi']; exact k1
  · intro i hi
    have hi' : i < zs.length := by simpa using hi
    obtain ⟨_, _, e, _, k2⟩ := st_cells b2 i hi'
    cases e
    have hpos := hw i hi'
    rw [hwd i hi'] at hpos
    obtain ⟨nb, no, e2, _⟩ := nx_cell (h.rows _ (List.getElem_mem hi')) 0 hpos
    rw [hwd i hi']
    simp only [dif_pos hi']
    rw [k2, e2]; rfl
  · intro i k hi hk
    have hi' : i < zs.length := by simpa using hi
    rw [hwd i hi'] at hk
    obtain ⟨nb, no, e2, k3⟩ := nx_cell (h.rows _ (List.getElem_mem hi')) k hk
    rw [hnx i k hi' hk]
    simp only [dif_pos hi', e2]
    exact k3
  · intro i hi
    have hi' : i < zs.length := by simpa using hi
    simp only [dif_pos hi']
    have hpos := hw i hi'
    rw [hwd i hi'] at hpos
    obtain ⟨nb, no, e2, k3⟩ := nx_cell (h.rows _ (List.getElem_mem hi')) 0 hpos
    rw [e2]
    exact cell_lt k3

set_option maxRecDepth 100000 in
set_option maxHeartbeats 2000000 in
theorem scalarsOnly_any (w : World) (B p : Nat) (m : Sg.Mach) (hm : m.Ok) (M : MachIn w B p m) :
    Calls Tryd.prog 33 #[.pointer (some ⟨p, 0, none⟩)] w fun e w' => (∃ b : Bool, e = .returned (.bool b)) ∧ Below w.heap.size w w' := by
  obtain ⟨cb, co, cc, sb, so, sc, nb, no, nc, M, l1, l2, l3, l4, l5⟩ := M
  have hc1 := M.c1
  have hsN := hm.statesN
  have HG : Hid (∀ (s : Nat) (low high : Int) (w' : World), s < m.states.length → Below w.heap.size w w' → Calls Tryd.prog 43 #[.pointer (some ⟨p, 0, none⟩), .int .i64 s, .int .i32 low, .int .i32 high] w' fun e w'' => e = .returned (.bool (m.goesOn s low high)) ∧ Below w.heap.size w w'') := hide2 fun s low high w' hs hb => (goesOn_any m hm s low high w' p cb co cc sb so sc nb no nc (M.below hb) hs l5).mono (by
    rintro e w'' ⟨h1, h2⟩
    exact ⟨h1, hb.trans (h2.mono hb.size)⟩)
  clear M
  go_enter Tryd.func33, Tryd.ntmps33
  go_wp2
  go_loopw [9] (fun iv wr => ∃ j : Nat, iv = .int .i64 j ∧ j ≤ m.states.length ∧ Hid (Below w.heap.size w wr)) (fun iv _ => m.states.length - (intOf iv).toNat)
  case atStart => exact ⟨0, rfl, Nat.zero_le _, hide2 (Below.refl _ _)⟩
  case round =>
    obtain ⟨j, rfl, hj, H⟩ := hrel
    by_cases hlt : j < m.states.length
    · have HG1 := hide2 (HG.out j 55296 57343 wr hlt H.out)
      have HG2 := hide2 (fun w' hb => HG.out j 1114112 1114112 w' hlt hb)
      generalize m.goesOn j 55296 57343 = b1 at *
      generalize m.goesOn j 1114112 1114112 = b2 at *
      clear HG
      cases b1
      · cases b2
        · go_wp2_with (first
            | (go_at_call 43; refine HG1.out.mono ?_; clear HG1; rintro e w2 ⟨rfl, hb2⟩; have HB2 := hide2 hb2; clear hb2)
            | (go_at_call 43; refine (HG2.out w2 HB2.out).mono ?_; clear HG2; rintro e w3 ⟨rfl, hb3⟩; have HB3 := hide2 hb3; clear hb3))
          go_roundw
          case rel => exact ⟨j + 1, by go_num, by omega, HB3⟩
          case measure => simp [intOf]; omega
        · go_wp2_with (first
            | (go_at_call 43; refine HG1.out.mono ?_; clear HG1; rintro e w2 ⟨rfl, hb2⟩; have HB2 := hide2 hb2; clear hb2)
            | (go_at_call 43; refine (HG2.out w2 HB2.out).mono ?_; clear HG2; rintro e w3 ⟨rfl, hb3⟩; have HB3 := hide2 hb3; clear hb3))
          go_ret
          exact ⟨⟨false, rfl⟩, HB3.out⟩
      · go_wp2_with (go_at_call 43; refine HG1.out.mono ?_; clear HG1; rintro e w2 ⟨rfl, hb2⟩; have HB2 := hide2 hb2; clear hb2)
        go_ret
        exact ⟨⟨false, rfl⟩, HB2.out⟩
    · go_wp2
      go_ret
      exact ⟨⟨true, rfl⟩, H.out⟩
end Go.Proofs.YtlhokghgicgppaaDoor
