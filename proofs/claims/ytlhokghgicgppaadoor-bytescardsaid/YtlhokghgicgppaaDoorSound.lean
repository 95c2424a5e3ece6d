/- (*Machine).Sound. -/
import Derived.Test.YtlhokghgicgppaaDoorAllMatch
set_option linter.unusedSimpArgs false
set_option linter.unusedVariables false
namespace Go.Proofs.YtlhokghgicgppaaDoor
open Go.RowKit Go.Extern

theorem Sg.cntGo_le : ∀ (l : List (Int × Int)) (f : Bool) (k least : Int), k ≤ 2097152 → (∀ c ∈ l, c.2 < 2097152) → (Sg.cntGo l f k least).1 ≤ 2097152
  | [], f, k, least, hk, _ => hk
  | c :: r, f, k, least, hk, hb => by
    unfold Sg.cntGo
    split
    · show (0 : Int) ≤ 2097152; decide
    · exact Sg.cntGo_le r false _ _ (by have := hb c (by simp); omega) (fun d hd => hb d (by simp [hd]))
/-- Made tables that the program calls sound. -/
structure Good (cs : List (Int × Int)) (zs : List StZ) : Prop where
  ok : Sg.Mach.Ok ⟨cs, zs.map (·.1)⟩
  wide : ∀ i, i < zs.length → 0 < Sg.Mach.width ⟨cs, zs.map (·.1)⟩ i
  few : zs.length ≤ 201
theorem good_of (cs : List (Int × Int)) (zs : List StZ) (hN : cs.length < 1000000) (hb : ∀ x ∈ cs, (0 ≤ x.1 ∧ x.1 < 2097152) ∧ (0 ≤ x.2 ∧ x.2 < 2097152)) (h1 : (Sg.cntT cs).2 = true) (h2 : Sg.ordT ⟨cs, zs.map (·.1)⟩ (Sg.cntT cs).1 = true) : Good cs zs := by
  have hle := Sg.cntGo_le cs true 0 0 (by decide) (fun c hc => (hb c hc).2.2)
  have hok := Sg.ok_of ⟨cs, zs.map (·.1)⟩ (by show cs.length < _; omega) h1 h2 (by show (Sg.cntGo cs true 0 0).1 < _; omega)
  refine ⟨hok, fun i hi => ?_, ?_⟩
  · have h5 := hok.kind0 0 hok.cuts0
    have h6 := hok.kinds 0 hok.cuts0 i (by rw [List.length_map]; exact hi)
    omega
  · unfold Sg.ordT at h2
    split at h2
    · cases h2
    · rename_i hs
      rw [List.length_map] at hs
      omega

set_option maxRecDepth 100000 in
set_option maxHeartbeats 2000000 in
theorem sound_any (w : World) (p : Nat) (cs : List (Int × Int)) (zs : List StZ) (h : MadeAt w p cs zs) (hN : cs.length < 1000000) (hZ : zs.length < 1000000) (hW : ∀ z ∈ zs, z.1.2.length < 1000000) (hb : ∀ x ∈ cs, (0 ≤ x.1 ∧ x.1 < 2097152) ∧ (0 ≤ x.2 ∧ x.2 < 2097152)) (hbz : ∀ z ∈ zs, (-1 ≤ z.1.1 ∧ z.1.1 < 2097152) ∧ ∀ x ∈ z.1.2, -1 ≤ x ∧ x < 2097152) :
    Calls Tryd.prog 17 #[.pointer (some ⟨p, 0, none⟩)] w fun e w' => ∃ b : Bool, e = .returned (.bool b) ∧ Below w.heap.size w w' ∧ (b = true → Good cs zs) := by
  have HC : Hid (Calls Tryd.prog 31 #[.pointer (some ⟨p, 0, none⟩)] w fun e w' => e = .returned (.tuple #[.int .i64 (Sg.cntT cs).1, .bool (Sg.cntT cs).2]) ∧ Below w.heap.size w w') := hide2 (countKinds_any w p cs zs h hN hb)
  cases hc : (Sg.cntT cs).2 with
  | false =>
    rw [hc] at HC
    clear h hW hb hbz
    go_enter Tryd.func17, Tryd.ntmps17
    go_wp2_with (go_at_call 31; refine HC.out.mono ?_; rintro e w1 ⟨rfl, hb1⟩)
    go_ret
    exact ⟨false, rfl, hb1, fun t => by cases t⟩
  | true =>
    obtain ⟨_, hk0, _⟩ := Sg.cntGo_true cs true 0 0 (by decide) (by decide) hc
    have hkl := Sg.cntGo_le cs true 0 0 (by decide) (fun c hc => (hb c hc).2.2)
    obtain ⟨k, hk⟩ := Int.eq_ofNat_of_zero_le (show 0 ≤ (Sg.cntT cs).1 from Int.le_of_lt hk0)
    have hkb : k < 10000000 := by
      have : (Sg.cntT cs).1 ≤ 2097152 := hkl
      omega
    have hgood := fun t => good_of cs zs hN hb hc t
    rw [hk] at hgood
    rw [hc, hk] at HC
    have HO : Hid (∀ w1, Below w.heap.size w w1 → Calls Tryd.prog 32 #[.pointer (some ⟨p, 0, none⟩), .int .i64 k] w1 fun e w' => e = .returned (.bool (Sg.ordT ⟨cs, zs.map (·.1)⟩ k)) ∧ Below w.heap.size w w') := hide2 fun w1 hb1 => (inOrder_any w1 p cs zs k (h.below hb1) hZ hW hkb hbz).mono (by
      rintro e w' ⟨h1, h2⟩
      exact ⟨h1, hb1.trans (h2.mono hb1.size)⟩)
    have HG := hide2 hgood
    have H := hide2 h
    have HWd : Hid (∀ z ∈ zs, z.1.2.length < 1000000) := hide2 hW
    clear h hW hb hbz hgood hk hk0 hkl
    cases ho : Sg.ordT ⟨cs, zs.map (·.1)⟩ k with
    | false =>
      rw [ho] at HO
      go_enter Tryd.func17, Tryd.ntmps17
      go_wp2_with (first
        | (go_at_call 31; refine HC.out.mono ?_; rintro e w1 ⟨rfl, hb1⟩; have HB1 := hide2 hb1; clear hb1)
        | (go_at_call 32; refine (HO.out w1 HB1.out).mono ?_; rintro e w2 ⟨rfl, hb2⟩; have HB2 := hide2 hb2; clear hb2))
      go_ret
      exact ⟨false, rfl, HB2.out, fun t => by cases t⟩
    | true =>
      rw [ho] at HO
      have hg : Good cs zs := HG.out ho
      have HS : Hid (∀ w2, Below w.heap.size w w2 → Calls Tryd.prog 33 #[.pointer (some ⟨p, 0, none⟩)] w2 fun e w' => (e = .returned (.bool true) ∧ Hid (Below w.heap.size w w')) ∨ (e = .returned (.bool false) ∧ Hid (Below w.heap.size w w'))) := hide2 fun w2 hb2 => (scalarsOnly_any w2 _ p _ hg.ok ((H.out.below hb2).mach hg.ok hg.wide)).mono (by
        rintro e w' ⟨⟨b, rfl⟩, h2⟩
        cases b
        · exact .inr ⟨rfl, hide2 (hb2.trans (h2.mono hb2.size))⟩
        · exact .inl ⟨rfl, hide2 (hb2.trans (h2.mono hb2.size))⟩)
      have HA : Hid (∀ w2, Below w.heap.size w w2 → Calls Tryd.prog 34 #[.pointer (some ⟨p, 0, none⟩)] w2 fun e w' => (e = .returned (.bool true) ∧ Hid (Below w.heap.size w w')) ∨ (e = .returned (.bool false) ∧ Hid (Below w.heap.size w w'))) := hide2 fun w2 hb2 => (allMatch_any w2 _ p _ hg.ok ((H.out.below hb2).mach hg.ok hg.wide) (by rw [List.length_map]; exact hg.few) (fun s hs => by
        have hs' : s < zs.length := by simpa using hs
        unfold Sg.Mach.width
        rw [List.getD_eq_getElem?_getD, List.getElem?_map, List.getElem?_eq_getElem hs']
        exact HWd.out _ (List.getElem_mem hs'))).mono (by
        rintro e w' ⟨⟨b, rfl⟩, h2⟩
        cases b
        · exact .inr ⟨rfl, hide2 (hb2.trans (h2.mono hb2.size))⟩
        · exact .inl ⟨rfl, hide2 (hb2.trans (h2.mono hb2.size))⟩)
      have HGd := hide2 hg
      clear hg HG H HWd
      go_enter Tryd.func17, Tryd.ntmps17
      go_wp2_with (first
        | (go_at_call 31; refine HC.out.mono ?_; rintro e w1 ⟨rfl, hb1⟩; have HB1 := hide2 hb1; clear hb1)
        | (go_at_call 32; refine (HO.out w1 HB1.out).mono ?_; rintro e w2 ⟨rfl, hb2⟩; have HB2 := hide2 hb2; clear hb2)
        | (go_at_call 33; refine (HS.out w2 HB2.out).mono ?_; rintro e w3 (⟨rfl, HB3⟩ | ⟨rfl, HB3⟩))
        | (go_at_call 34; refine (HA.out w3 HB3.out).mono ?_; rintro e w4 (⟨rfl, HB4⟩ | ⟨rfl, HB4⟩)))
      all_goals go_ret
      all_goals first
        | exact ⟨true, rfl, HB4.out, fun _ => HGd.out⟩
        | exact ⟨false, rfl, HB4.out, fun t => by cases t⟩
        | exact ⟨false, rfl, HB3.out, fun t => by cases t⟩
end Go.Proofs.YtlhokghgicgppaaDoor
