/- (*Machine).Sound. -/
/- stored.Read. -/
/- scangen.Load, (*Tables).Encode. -/
/- The eight machines can be written, and their bytes are read again. -/
/- scangenkeep.Back. -/
import Derived.Test.YtlhokghgicgppaaGreatDoorAllMatch
import Derived.Test.YtlhokghgicgppaaGreatDoorMachine4
import Derived.Test.YtlhokghgicgppaaGreatDoorKeepB
import Derived.Test.YtlhokghgicgppaaGreatDoorSameW
import Derived.Test.YtlhokghgicgppaaGreatDoorBoundL
set_option linter.unusedSimpArgs false
set_option linter.unusedVariables false
set_option maxRecDepth 100000
set_option maxHeartbeats 4000000
namespace Go.Proofs.YtlhokghgicgppaaGreatDoor
open Go.RowKit Go.Extern
theorem Sg.cntGo_le : ∀ (l : List (Int × Int)) (f : Bool) (k least : Int), k ≤ 2097152 → (∀ c ∈ l, c.2 < 2097152) → (Sg.cntGo l f k least).1 ≤ 2097152
  | [], f, k, least, hk, _ => hk
  | c :: r, f, k, least, hk, hb => by
    unfold Sg.cntGo
    split
    · show (0 : Int) ≤ 2097152; decide
    · exact Sg.cntGo_le r false _ _ (by have := hb c (by simp); omega) (fun d hd => hb d (by simp [hd]))
structure Good (cs : List (Int × Int)) (zs : List StZ) : Prop where
  ok : Sg.Mach.Ok ⟨cs, zs.map (·.1)⟩
  wide : ∀ i, i < zs.length → 0 < Sg.Mach.width ⟨cs, zs.map (·.1)⟩ i
  few : zs.length ≤ 201
theorem good_of (cs : List (Int × Int)) (zs : List StZ) (hN : cs.length < 1000000) (hb : ∀ x ∈ cs, (0 ≤ x.1 ∧ x.1 < 2097152) ∧ (0 ≤ x.2 ∧ x.2 < 2097152)) (h1 : (Sg.cntT cs).2 = true) (h2 : Sg.ordT ⟨cs, zs.map (·.1)⟩ (Sg.cntT cs).1 = true) : Good cs zs := by
  have hle := Sg.cntGo_le cs true 0 0 (by decide) (fun c hc => (hb c hc).2.2)
  have hok := Sg.ok_of ⟨cs, zs.map (·.1)⟩ (by show cs.length < _; omega) h1 h2 (by show (Sg.cntGo cs true 0 0).1 < _; omega)
  refine ⟨hok, fun i hi => ?_, ?_⟩
  · have h5 := hok.kind0 0 hok.cuts0
    have h6 := hok.kinds 0 hok.cuts0 i (by rw [List.length_map]; exact hi)
    omega
  · unfold Sg.ordT at h2
    split at h2
    · cases h2
    · rename_i hs
      rw [List.length_map] at hs
      omega
structure Sg.SoundOk (m : Sg.Mach) : Prop where
  cnt : (Sg.cntT m.cuts).2 = true
  ord : Sg.ordT m (Sg.cntT m.cuts).1 = true
  scal : Sg.ScalB m
  leads : Sg.Leads m
theorem sound_any (w : World) (p : Nat) (cs : List (Int × Int)) (zs : List StZ) (h : MadeAt w p cs zs) (hN : cs.length < 1000000) (hZ : zs.length < 1000000) (hW : ∀ z ∈ zs, z.1.2.length < 1000000) (hb : ∀ x ∈ cs, (0 ≤ x.1 ∧ x.1 < 2097152) ∧ (0 ≤ x.2 ∧ x.2 < 2097152)) (hbz : ∀ z ∈ zs, (-1 ≤ z.1.1 ∧ z.1.1 < 2097152) ∧ ∀ x ∈ z.1.2, -1 ≤ x ∧ x < 2097152) :
    Calls Tryz.prog 78 #[.pointer (some ⟨p, 0, none⟩)] w fun e w' => ∃ b : Bool, e = .returned (.bool b) ∧ Below w.heap.size w w' ∧ (b = true → Good cs zs) ∧ (Sg.SoundOk ⟨cs, zs.map (·.1)⟩ → b = true) := by
  have HC : Hid (Calls Tryz.prog 113 #[.pointer (some ⟨p, 0, none⟩)] w fun e w' => e = .returned (.tuple #[.int .i64 (Sg.cntT cs).1, .bool (Sg.cntT cs).2]) ∧ Below w.heap.size w w') := hide2 (countKinds_any w p cs zs h hN hb)
  cases hc : (Sg.cntT cs).2 with
  | false =>
    rw [hc] at HC
    clear h hW hb hbz
    go_enter Tryz.func78, Tryz.ntmps78
    go_wp2_with (go_at_call 113; refine HC.out.mono ?_; rintro e w1 ⟨rfl, hb1⟩)
    go_ret
    exact ⟨false, rfl, hb1, fun t => (by cases t), fun hs => by have := hs.cnt; rw [hc] at this; cases this⟩
  | true =>
    obtain ⟨_, hk0, _⟩ := Sg.cntGo_true cs true 0 0 (by decide) (by decide) hc
    have hkl := Sg.cntGo_le cs true 0 0 (by decide) (fun c hc => (hb c hc).2.2)
    obtain ⟨k, hk⟩ := Int.eq_ofNat_of_zero_le (show 0 ≤ (Sg.cntT cs).1 from Int.le_of_lt hk0)
    have hkb : k < 10000000 := by
      have : (Sg.cntT cs).1 ≤ 2097152 := hkl
      omega
    have hgood := fun t => good_of cs zs hN hb hc t
    have HKv : Hid (Sg.SoundOk ⟨cs, zs.map (·.1)⟩ → Sg.ordT ⟨cs, zs.map (·.1)⟩ k = true) := hide2 fun hs => by
      have := hs.ord
      have e : (Sg.cntT (Sg.Mach.cuts ⟨cs, zs.map (·.1)⟩)).1 = (k : Int) := hk
      rwa [e] at this
    rw [hk] at hgood
    rw [hc, hk] at HC
    have HO : Hid (∀ w1, Below w.heap.size w w1 → Calls Tryz.prog 114 #[.pointer (some ⟨p, 0, none⟩), .int .i64 k] w1 fun e w' => e = .returned (.bool (Sg.ordT ⟨cs, zs.map (·.1)⟩ k)) ∧ Below w.heap.size w w') := hide2 fun w1 hb1 => (inOrder_any w1 p cs zs k (h.below hb1) hZ hW hkb hbz).mono (by
      rintro e w' ⟨h1, h2⟩
      exact ⟨h1, hb1.trans (h2.mono hb1.size)⟩)
    have HG := hide2 hgood
    have H := hide2 h
    have HWd : Hid (∀ z ∈ zs, z.1.2.length < 1000000) := hide2 hW
    clear h hW hb hbz hgood hk hk0 hkl
    cases ho : Sg.ordT ⟨cs, zs.map (·.1)⟩ k with
    | false =>
      rw [ho] at HO
      go_enter Tryz.func78, Tryz.ntmps78
      go_wp2_with (first
        | (go_at_call 113; refine HC.out.mono ?_; rintro e w1 ⟨rfl, hb1⟩; have HB1 := hide2 hb1; clear hb1)
        | (go_at_call 114; refine (HO.out w1 HB1.out).mono ?_; rintro e w2 ⟨rfl, hb2⟩; have HB2 := hide2 hb2; clear hb2))
      go_ret
      exact ⟨false, rfl, HB2.out, fun t => (by cases t), fun hs => by have := HKv.out hs; rw [ho] at this; cases this⟩
    | true =>
      rw [ho] at HO
      have hg : Good cs zs := HG.out ho
      have HS : Hid (∀ w2, Below w.heap.size w w2 → Calls Tryz.prog 115 #[.pointer (some ⟨p, 0, none⟩)] w2 fun e w' => (e = .returned (.bool true) ∧ Hid (Below w.heap.size w w')) ∨ (e = .returned (.bool false) ∧ Hid (Below w.heap.size w w') ∧ Hid (¬ Sg.SoundOk ⟨cs, zs.map (·.1)⟩))) := hide2 fun w2 hb2 => (scalarsOnly_any w2 _ p _ hg.ok ((H.out.below hb2).mach hg.ok hg.wide)).mono (by
        rintro e w' ⟨⟨b, rfl, hs⟩, h2⟩
        cases b
        · exact .inr ⟨rfl, hide2 (hb2.trans (h2.mono hb2.size)), hide2 fun g => by have := hs g.scal; cases this⟩
        · exact .inl ⟨rfl, hide2 (hb2.trans (h2.mono hb2.size))⟩)
      have HA : Hid (∀ w2, Below w.heap.size w w2 → Calls Tryz.prog 116 #[.pointer (some ⟨p, 0, none⟩)] w2 fun e w' => (e = .returned (.bool true) ∧ Hid (Below w.heap.size w w')) ∨ (e = .returned (.bool false) ∧ Hid (Below w.heap.size w w') ∧ Hid (¬ Sg.SoundOk ⟨cs, zs.map (·.1)⟩))) := hide2 fun w2 hb2 => (allMatch_any w2 _ p _ hg.ok ((H.out.below hb2).mach hg.ok hg.wide) (by rw [List.length_map]; exact hg.few) (fun s hs => by
        have hs' : s < zs.length := by simpa using hs
        unfold Sg.Mach.width
        rw [List.getD_eq_getElem?_getD, List.getElem?_map, List.getElem?_eq_getElem hs']
        exact HWd.out _ (List.getElem_mem hs'))).mono (by
        rintro e w' ⟨⟨b, rfl, hs⟩, h2⟩
        cases b
        · exact .inr ⟨rfl, hide2 (hb2.trans (h2.mono hb2.size)), hide2 fun g => by have := hs g.leads; cases this⟩
        · exact .inl ⟨rfl, hide2 (hb2.trans (h2.mono hb2.size))⟩)
      have HGd := hide2 hg
      clear hg HG H HWd
      go_enter Tryz.func78, Tryz.ntmps78
      go_wp2_with (first
        | (go_at_call 113; refine HC.out.mono ?_; rintro e w1 ⟨rfl, hb1⟩; have HB1 := hide2 hb1; clear hb1)
        | (go_at_call 114; refine (HO.out w1 HB1.out).mono ?_; rintro e w2 ⟨rfl, hb2⟩; have HB2 := hide2 hb2; clear hb2)
        | (go_at_call 115; refine (HS.out w2 HB2.out).mono ?_; rintro e w3 (⟨rfl, HB3⟩ | ⟨rfl, HB3, HNo⟩))
        | (go_at_call 116; refine (HA.out w3 HB3.out).mono ?_; rintro e w4 (⟨rfl, HB4⟩ | ⟨rfl, HB4, HNo⟩)))
      all_goals go_ret
      all_goals first
        | exact ⟨true, rfl, HB4.out, fun _ => HGd.out, fun _ => rfl⟩
        | exact ⟨false, rfl, HB4.out, fun t => (by cases t), fun hs => absurd hs HNo.out⟩
        | exact ⟨false, rfl, HB3.out, fun t => (by cases t), fun hs => absurd hs HNo.out⟩
end Go.Proofs.YtlhokghgicgppaaGreatDoor
namespace Go.Proofs.YtlhokghgicgppaaGreatDoor
open Go.RowKit Go.Extern
theorem Sg.encN_len (n : Nat) (h : n < 268435456) : (Sg.encN n).length ≤ 4 := by
 rw [Sg.encN_eq]
 split
 ·simp
 rw [Sg.encN_eq]
 split
 ·simp
 rw [Sg.encN_eq]
 split
 ·simp
 rw [Sg.encN_eq]
 split
 ·simp
 ·omega
theorem enc_cuts_len : ∀ (cs : List (Int × Int)), (∀ x ∈ cs, (0 ≤ x.1 ∧ x.1 < 2097152) ∧ (0 ≤ x.2 ∧ x.2 < 2097152)) → (cs.flatMap Sg.encCut).length ≤ 8 * cs.length
 | [], _ => by simp
 | c :: r, h => by
  have h1 := h c (by simp)
  have h2 := enc_cuts_len r (fun x hx => h x (by simp [hx]))
  have h3 := Sg.encN_len c.1.toNat (by omega)
  have h4 := Sg.encN_len c.2.toNat (by omega)
  rw [List.flatMap_cons, List.length_append, List.length_cons]
  unfold Sg.encCut at *
  rw [List.length_append]; omega
theorem enc_nexts_len : ∀ (l : List Int), (∀ x ∈ l, -1 ≤ x ∧ x < 2097152) → (Sg.encNexts l).length ≤ 4 * l.length
 | [], _ => by simp [Sg.encNexts]
 | x :: r, h => by
  have h1 := h x (by simp)
  have h2 := enc_nexts_len r (fun y hy => h y (by simp [hy]))
  have h3 := Sg.encN_len (x + 1).toNat (by omega)
  unfold Sg.encNexts at *
  rw [List.flatMap_cons, List.length_append, List.length_cons]; omega
theorem enc_states_len : ∀ (zs : List StZ), (∀ z ∈ zs, (-1 ≤ z.1.1 ∧ z.1.1 < 2097152) ∧ ∀ x ∈ z.1.2, -1 ≤ x ∧ x < 2097152) → ((zs.map (·.1)).flatMap Sg.encState).length ≤ 4 * sumW zs
 | [], _ => by simp
 | z :: r, h => by
  have h1 := h z (by simp)
  have h2 := enc_states_len r (fun y hy => h y (by simp [hy]))
  have h3 := Sg.encN_len (z.1.1 + 1).toNat (by omega)
  have h4 := enc_nexts_len z.1.2 h1.2
  rw [List.map_cons, List.flatMap_cons, List.length_append]
  unfold Sg.encState at *
  rw [List.length_append]
  have : sumW (z :: r) = (1 + z.1.2.length) + sumW r := by unfold sumW; simp
  omega
theorem enc_of (cs : List (Int × Int)) (zs : List StZ) (hb : ∀ x ∈ cs, (0 ≤ x.1 ∧ x.1 < 2097152) ∧ (0 ≤ x.2 ∧ x.2 < 2097152)) (hz : ∀ z ∈ zs, (-1 ≤ z.1.1 ∧ z.1.1 < 2097152) ∧ ∀ x ∈ z.1.2, -1 ≤ x ∧ x < 2097152) (hN : cs.length < 100000) (hS : sumW zs < 100000) : Sg.Mach.Enc ⟨cs, zs.map (·.1)⟩ := by
 have g : ∀ i (hi : i < zs.length), (zs.map (·.1)).getD i (0, []) = zs[i].1 := fun i hi => by
  rw [List.getD_eq_getElem?_getD, List.getElem?_map, List.getElem?_eq_getElem hi]; rfl
 have gc : ∀ i (hi : i < cs.length), cs.getD i (0, 0) = cs[i] := fun i hi => by
  rw [List.getD_eq_getElem?_getD, List.getElem?_eq_getElem hi]; rfl
 refine ⟨fun i hi => ?_, fun i hi => ?_, fun i hi => ?_, fun i k hi hk => ?_, ?_⟩
 ·have hi' : i < cs.length := hi
  show 0 ≤ (cs.getD i (0, 0)).1 ∧ (cs.getD i (0, 0)).1 < _
  rw [gc i hi']
  have := hb _ (List.getElem_mem hi')
  omega
 ·have hi' : i < cs.length := hi
  show 0 ≤ (cs.getD i (0, 0)).2 ∧ (cs.getD i (0, 0)).2 < _
  rw [gc i hi']
  have := hb _ (List.getElem_mem hi')
  omega
 ·have hi' : i < zs.length := by simpa using hi
  show -1 ≤ ((zs.map (·.1)).getD i (0, [])).1 ∧ ((zs.map (·.1)).getD i (0, [])).1 < _
  rw [g i hi']
  have := (hz _ (List.getElem_mem hi')).1
  omega
 ·have hi' : i < zs.length := by simpa using hi
  have hk' : k < ((zs.map (·.1)).getD i (0, [])).2.length := hk
  show -1 ≤ ((zs.map (·.1)).getD i (0, [])).2.getD k 0 ∧ ((zs.map (·.1)).getD i (0, [])).2.getD k 0 < _
  rw [g i hi'] at hk' ⊢
  rw [List.getD_eq_getElem?_getD, List.getElem?_eq_getElem hk', Option.getD_some]
  have := (hz _ (List.getElem_mem hi')).2 _ (List.getElem_mem hk')
  omega
 ·have h1 := enc_cuts_len cs hb
  have h2 := enc_states_len zs hz
  have h3 := Sg.encN_len cs.length (by omega)
  unfold Sg.encM
  simp only [List.length_append]
  omega
structure ReadOk (w w' : World) (s : Sg.Bs) (p : Nat) (cs : List (Int × Int)) (zs : List StZ) : Prop where
 at_ : MadeAt w' p cs zs
 good : Good cs zs
 new : w.heap.size ≤ p
 enc : Sg.Mach.Enc ⟨cs, zs.map (·.1)⟩
 eq : Sg.encM ⟨cs, zs.map (·.1)⟩ = s
structure Sg.ReadS (l : List Int) (s : Sg.Bs) (m : Sg.Mach) : Prop where
 len : 0 < l.length
 fit : 2 * (l.getD 0 0).toNat ≤ l.length - 1
 mach : ∀ cs st, Sg.ValsOk ((l.drop 1).take (2 * (l.getD 0 0).toNat)) (l.drop (1 + 2 * (l.getD 0 0).toNat)) cs st → (⟨cs, st⟩ : Sg.Mach) = m
 sound : Sg.SoundOk m
 enc : Sg.encM m = s
theorem sumW_ge (zs : List StZ) : zs.length ≤ sumW zs ∧ ∀ z ∈ zs, z.1.2.length ≤ sumW zs := by
 induction zs with
 | nil => simp [sumW]
 | cons z r ih =>
  have e : sumW (z :: r) = (1 + z.1.2.length) + sumW r := by unfold sumW; simp
  refine ⟨by rw [List.length_cons, e]; omega, fun y hy => ?_⟩
  rcases List.mem_cons.1 hy with rfl | hy
  ·rw [e]; omega
  ·have := ih.2 y hy
   rw [e]; omega
theorem stRead_any (s : Sg.Bs) (hs : s.length ≤ 60000) (w : World) :
  Calls Tryz.prog 46 #[.string ⟨s.toArray⟩] w fun e w' => Below w.heap.size w w' ∧ ((e = .returned (.tuple #[.pointer none, errV (some 8)]) ∧ ∀ m, ¬ Sg.ReadS (Sg.numbersT s) s m) ∨ ∃ p cs zs, e = .returned (.tuple #[.pointer (some ⟨p, 0, none⟩), .nilIface]) ∧ ReadOk w w' s p cs zs ∧ ∀ m, Sg.ReadS (Sg.numbersT s) s m → (⟨cs, zs.map (·.1)⟩ : Sg.Mach) = m) := by
 have hlen := Sg.numGo_len s 0 0
 have hbd := Sg.numGo_lt s 0 0 (by omega) (by decide)
 have HN : Hid (Calls Tryz.prog 76 #[.string ⟨s.toArray⟩] w fun e w' => ∃ ra rc, e = .returned (.slice ra (Sg.numbersT s).length rc) ∧ RowAt 1 w' ra rc (Sg.numbersT s).length (intsV (Sg.numbersT s)) ∧ NewRow w ra ∧ Below w.heap.size w w') := hide2 (numbers_any s (by omega) w)
 have hlen' : (Sg.numbersT s).length ≤ s.length := hlen
 have hbd' : ∀ x ∈ Sg.numbersT s, 0 ≤ x ∧ x < 2097152 := hbd
 generalize Sg.numbersT s = l at *
 clear hlen hbd
 unfold errV
 by_cases hl0 : l.length = 0
 ·have HNo : Hid (∀ m, ¬ Sg.ReadS l s m) := hide2 fun m hm => by have := hm.len; omega
  rw [hl0] at HN
  go_enter Tryz.func46, Tryz.ntmps46
  go_wp2_with (go_at_call 76; refine HN.out.mono ?_; rintro e w1 ⟨ra, rc, rfl, hrow, hnew, hb1⟩; have HB1 := hide2 hb1; clear hrow hnew hb1)
  go_ret2
  exact ⟨HB1.out, .inl ⟨rfl, HNo.out⟩⟩
 ·have hz : (((l.length : Nat) : Int) == 0) = false := beq_eq_false_iff_ne.2 (by omega)
  have hx0 := hbd' (l.getD 0 0) (by rw [List.getD_eq_getElem?_getD, List.getElem?_eq_getElem (by omega)]; exact List.getElem_mem _)
  obtain ⟨x, hx⟩ := Int.eq_ofNat_of_zero_le hx0.1
  have HN1 : Hid (Calls Tryz.prog 76 #[.string ⟨s.toArray⟩] w fun e w1 => ∃ rb ro rc, e = .returned (.slice (some ⟨rb, ro, none⟩) l.length rc) ∧ w1.cell? ⟨rb, ro, none⟩ = some (.int .i64 x) ∧ l.length ≤ rc ∧ Hid (RowAt 1 w1 (some ⟨rb, ro, none⟩) rc l.length (intsV l) ∧ Below w.heap.size w w1)) := hide2 (HN.out.mono (by
   rintro e w1 ⟨ra, rc, rfl, hrow, _, hb1⟩
   obtain ⟨rb, ro, e1, e2⟩ := nx_cell hrow 0 (by omega)
   subst e1
   rw [Nat.add_zero] at e2
   refine ⟨rb, ro, rc, rfl, ?_, hrow.le, hide2 ⟨hrow, hb1⟩⟩
   rw [e2, ← hx, List.getD_eq_getElem?_getD, List.getElem?_eq_getElem (by omega)]
   rfl))
  clear HN
  by_cases hbig : 2 * x > l.length - 1
  ·have HNo : Hid (∀ m, ¬ Sg.ReadS l s m) := hide2 fun m hm => by have := hm.fit; rw [hx] at this; omega
   go_enter Tryz.func46, Tryz.ntmps46
   go_wp2_with (go_at_call 76; refine HN1.out.mono ?_; rintro e w1 ⟨rb, ro, rc, rfl, hc0, hrc, HB1⟩)
   go_ret2
   exact ⟨HB1.out.2, .inl ⟨rfl, HNo.out⟩⟩
  ·have hbig' : 2 * x ≤ l.length - 1 := by omega
   obtain ⟨cuts, hcuts⟩ : ∃ cuts, cuts = (l.drop 1).take (2 * x) := ⟨_, rfl⟩
   obtain ⟨states, hstates⟩ : ∃ states, states = l.drop (1 + 2 * x) := ⟨_, rfl⟩
   have hcl : cuts.length = 2 * x := by rw [hcuts, List.length_take, List.length_drop]; omega
   have hsl : states.length = l.length - (1 + 2 * x) := by rw [hstates, List.length_drop]
   have hcm : ∀ y ∈ cuts, 0 ≤ y ∧ y < 2097152 := fun y hy => hbd' y (by rw [hcuts] at hy; exact List.mem_of_mem_drop (List.mem_of_mem_take hy))
   have hsm : ∀ y ∈ states, 0 ≤ y ∧ y < 2097152 := fun y hy => hbd' y (by rw [hstates] at hy; exact List.mem_of_mem_drop hy)
   have hcg : ∀ j, j < cuts.length → cuts.getD j 0 = l.getD (1 + j) 0 := fun j hj => by
    rw [hcuts, List.getD_eq_getElem?_getD, List.getD_eq_getElem?_getD, List.getElem?_take_of_lt (by omega), List.getElem?_drop]
   have hsg : ∀ j, j < states.length → states.getD j 0 = l.getD (1 + 2 * x + j) 0 := fun j hj => by
    rw [hstates, List.getD_eq_getElem?_getD, List.getD_eq_getElem?_getD, List.getElem?_drop]
   have hle60 : l.length ≤ 60000 := by omega
   have HN2 : Hid (Calls Tryz.prog 76 #[.string ⟨s.toArray⟩] w fun e w1 => ∃ rb ro rc o1 o2, e = .returned (.slice (some ⟨rb, ro, none⟩) l.length rc) ∧ w1.cell? ⟨rb, ro, none⟩ = some (.int .i64 x) ∧ l.length ≤ rc ∧ (if rc = 1 then some (⟨rb, ro, none⟩ : Addr) else some ⟨rb, ro + 1, none⟩) = some ⟨rb, o1, none⟩ ∧ (if rc = 1 + 2 * x then some (⟨rb, ro, none⟩ : Addr) else some ⟨rb, ro + (1 + 2 * x), none⟩) = some ⟨rb, o2, none⟩ ∧ Hid (Below w.heap.size w w1) ∧
     Hid (Calls Tryz.prog 77 #[.slice (some ⟨rb, o1, none⟩) (2 * x) (rc - 1), .slice (some ⟨rb, o2, none⟩) (l.length - (1 + 2 * x)) (rc - (1 + 2 * x))] w1.drew fun e w2 => ∃ p cs zs, e = .returned (.pointer (some ⟨p, 0, none⟩)) ∧ Hid (Made w1 w2 p cs zs (2 * x) (l.length - (1 + 2 * x)) ∧ Below w.heap.size w w2) ∧ Hid (∀ m, Sg.ReadS l s m → (⟨cs, zs.map (·.1)⟩ : Sg.Mach) = m))) := hide2 (HN1.out.mono (by
    rintro e w1 ⟨rb, ro, rc, rfl, hc0, hrc, HB1⟩
    obtain ⟨hrow, hb1⟩ := HB1.out
    have hrb : rb < w1.heap.size := hrow.lt rfl
    have hcell : ∀ j, j < l.length → w1.cell? ⟨rb, ro + j, none⟩ = some (.int .i64 (l.getD j 0)) := fun j hj => by
     obtain ⟨rb2, ro2, e1, e2⟩ := nx_cell hrow j hj
     cases e1
     rw [e2, List.getD_eq_getElem?_getD, List.getElem?_eq_getElem hj]; rfl
    obtain ⟨o1, hif1, ho1⟩ : ∃ o1, (if rc = 1 then some (⟨rb, ro, none⟩ : Addr) else some ⟨rb, ro + 1, none⟩) = some ⟨rb, o1, none⟩ ∧ (¬ rc = 1 → o1 = ro + 1) := by
     by_cases h1 : rc = 1
     ·exact ⟨ro, by rw [if_pos h1], fun t => absurd h1 t⟩
     ·exact ⟨ro + 1, by rw [if_neg h1], fun _ => rfl⟩
    obtain ⟨o2, hif2, ho2⟩ : ∃ o2, (if rc = 1 + 2 * x then some (⟨rb, ro, none⟩ : Addr) else some ⟨rb, ro + (1 + 2 * x), none⟩) = some ⟨rb, o2, none⟩ ∧ (¬ rc = 1 + 2 * x → o2 = ro + (1 + 2 * x)) := by
     by_cases h1 : rc = 1 + 2 * x
     ·exact ⟨ro, by rw [if_pos h1], fun t => absurd h1 t⟩
     ·exact ⟨ro + (1 + 2 * x), by rw [if_neg h1], fun _ => rfl⟩
    refine ⟨rb, ro, rc, o1, o2, rfl, hc0, hrc, hif1, hif2, hide2 hb1, hide2 ?_⟩
    have hmc := machine_any w1.drew rb o1 o2 (rc - 1) (rc - (1 + 2 * x)) cuts states hrb (fun j hj => by
      rw [ho1 (by omega), hcg j hj, Nat.add_assoc]
      exact hcell (1 + j) (by omega)) (fun j hj => by
      rw [ho2 (by omega), hsg j hj, Nat.add_assoc]
      exact hcell (1 + 2 * x + j) (by omega)) (by omega) (by omega) (by omega) (by omega) (by omega) hcm hsm
    rw [hcl, hsl] at hmc
    refine hmc.mono ?_
    rintro e w2 ⟨p, cs, zs, rfl, hmade, hvals⟩
    have hbd : Below w1.heap.size w1 w2 := (Below.refl _ _).drew.trans hmade.below
    exact ⟨p, cs, zs, rfl, hide2 ⟨⟨hmade.c0, hmade.c1, hmade.rows, hmade.bc, hmade.bz, hmade.n1, hmade.n2, hbd, hmade.new⟩, hb1.trans (hbd.mono hb1.size)⟩, hide2 fun m hm => hm.mach cs _ (by rw [hx, Int.toNat_natCast, ← hcuts, ← hstates]; exact hvals)⟩))
   have HSo : Hid (∀ w1 w2 p cs zs, Made w1 w2 p cs zs (2 * x) (l.length - (1 + 2 * x)) → Below w.heap.size w w2 → Calls Tryz.prog 78 #[.pointer (some ⟨p, 0, none⟩)] w2 fun e w3 => (e = .returned (.bool false) ∧ Hid (Below w.heap.size w w3) ∧ Hid (¬ Sg.SoundOk ⟨cs, zs.map (·.1)⟩)) ∨ (e = .returned (.bool true) ∧ Hid (Below w.heap.size w w3) ∧ Hid (MadeAt w3 p cs zs ∧ Good cs zs ∧ Sg.Mach.Enc ⟨cs, zs.map (·.1)⟩) ∧ Hid (Calls Tryz.prog 45 #[.pointer (some ⟨p, 0, none⟩)] w3 fun e w4 => e = .returned (.string ⟨(Sg.encM ⟨cs, zs.map (·.1)⟩).toArray⟩) ∧ Hid (Below w.heap.size w w4 ∧ MadeAt w4 p cs zs)))) := hide2 fun w1 w2 p cs zs hmade hb2 => by
    have hzl := sumW_ge zs
    have n1 := hmade.n1
    have n2 := hmade.n2
    refine (sound_any w2 p cs zs hmade.at_ (by omega) (by omega) (fun z hz => by have := hzl.2 z hz; omega) hmade.bc hmade.bz).mono ?_
    rintro e w3 ⟨b, rfl, hb3, hg, hso⟩
    have hb3' := hb2.trans (hb3.mono hb2.size)
    cases b
    ·exact .inl ⟨rfl, hide2 hb3', hide2 fun g => by have := hso g; cases this⟩
    ·have hgood := hg rfl
     have henc := enc_of cs zs hmade.bc hmade.bz (by omega) (by omega)
     have hat := hmade.at_.below hb3
     refine .inr ⟨rfl, hide2 hb3', hide2 ⟨hat, hgood, henc⟩, hide2 ?_⟩
     obtain ⟨cb, co, cc, sb, so, sc, nb, no, nc, M, _⟩ := hat.mach hgood.ok hgood.wide
     refine (write_any _ hgood.ok henc w3 p cb co cc sb so sc nb no nc M).mono ?_
     rintro e w4 ⟨h1, h2⟩
     exact ⟨h1, hide2 ⟨hb3'.trans (h2.mono hb3'.size), hat.below h2⟩⟩
   clear hcuts hstates hcg hsg hcm hsm HN1 hbd' hx hx0
   go_enter Tryz.func46, Tryz.ntmps46
   go_wp2_with (go_at_call 76; refine HN2.out.mono ?_; clear HN2; rintro e w1 ⟨rb, ro, rc, o1, o2, rfl, hc0, hrc, hif1, hif2, HB1, HMc⟩)
   have hTr : True := trivial
   have et1 : (1 + 2 * (x : Int)).toNat - 1 = 2 * x := by omega
   have et2 : (1 + 2 * (x : Int)).toNat = 1 + 2 * x := by omega
   refine wp_region_held_drew (S := fun _ => True) (by kernel_rfl) trivial (fun hHeld => ?_)
   refine wpAnyH_take (i := 0) (v := ?_) rfl (by kernel_rfl) (by kernel_rfl) (by kernel_rfl) (fun _ _ _ h => h) (Or.inl ⟨by rfl, ?_⟩) (by assumption) ?_
   rotate_left
   ·intro w' _
    go_simp
    try with_reducible rfl
   try simp only [Act.put, List.setIfInBounds_toArray, List.set_cons_zero, List.set_cons_succ]
   refine wpAnyH_take (i := 1) (v := ?_) rfl (by kernel_rfl) (by kernel_rfl) (by kernel_rfl) (fun _ _ _ h => h) (Or.inl ⟨by rfl, ?_⟩) (by assumption) ?_
   rotate_left
   ·intro w' _
    go_simp
    try with_reducible rfl
   try simp only [Act.put, List.setIfInBounds_toArray, List.set_cons_zero, List.set_cons_succ]
   refine wpAnyH_take (i := 2) (v := (.slice (some ⟨rb, o1, none⟩) (2 * x) (rc - 1))) rfl (by kernel_rfl) (by kernel_rfl) (by kernel_rfl) (fun _ _ _ h => h) (Or.inl ⟨by rfl, ?_⟩) (by assumption) ?_
   ·intro w' _
    go_simp
    try (rw [if_pos ⟨by omega, by omega⟩, if_pos (by omega)])
    try rw [et1]
   try simp only [Act.put, List.setIfInBounds_toArray, List.set_cons_zero, List.set_cons_succ]
   refine wpAnyH_take (i := 3) (v := ?_) rfl (by kernel_rfl) (by kernel_rfl) (by kernel_rfl) (fun _ _ _ h => h) (Or.inl ⟨by rfl, ?_⟩) (by assumption) ?_
   rotate_left
   ·intro w' _
    go_simp
    try with_reducible rfl
   try simp only [Act.put, List.setIfInBounds_toArray, List.set_cons_zero, List.set_cons_succ]
   refine wpAnyH_take (i := 4) (v := ?_) rfl (by kernel_rfl) (by kernel_rfl) (by kernel_rfl) (fun _ _ _ h => h) (Or.inl ⟨by rfl, ?_⟩) (by assumption) ?_
   rotate_left
   ·intro w' _
    go_simp
    try with_reducible rfl
   try simp only [Act.put, List.setIfInBounds_toArray, List.set_cons_zero, List.set_cons_succ]
   refine wpAnyH_take (i := 5) (v := (.slice (some ⟨rb, o2, none⟩) (l.length - (1 + 2 * x)) (rc - (1 + 2 * x)))) rfl (by kernel_rfl) (by kernel_rfl) (by kernel_rfl) (fun _ _ _ h => h) (Or.inl ⟨by rfl, ?_⟩) (by assumption) ?_
   ·intro w' _
    go_simp
    intro hcx
    exact absurd (hcx (by omega)) (by omega)
   try simp only [Act.put, List.setIfInBounds_toArray, List.set_cons_zero, List.set_cons_succ]
   refine wpAnyH_ready (rs := [6]) (by kernel_rfl) (by simp) ?_
   refine AllReadyH.cons rfl (fun K hK => ?_) AllReadyH.nil
   go_simp
   refine HMc.out.mono ?_
   clear HMc
   rintro e w2 ⟨p, cs, zs, rfl, HMade, HVal⟩
   refine hK.out _ _ trivial (fun hHeld => ?_)
   clear hK
   try simp only [Act.put, List.setIfInBounds_toArray, List.set_cons_zero, List.set_cons_succ]
   refine wpAnyH_take (i := 7) (v := ?_) rfl (by kernel_rfl) (by kernel_rfl) (by kernel_rfl) (fun _ _ _ h => h) (Or.inl ⟨by rfl, ?_⟩) (by assumption) ?_
   rotate_left
   ·intro w' _
    go_simp
    try with_reducible rfl
   try simp only [Act.put, List.setIfInBounds_toArray, List.set_cons_zero, List.set_cons_succ]
   refine wpAnyH_done (by kernel_rfl) ?_ _
   clear et1 et2 hif1 hif2
   go_wp2_with (first
    | (go_at_call 78; refine (HSo.out w1 w2 p cs zs HMade.out.1 HMade.out.2).mono ?_; clear HSo; rintro e w3 (⟨rfl, HB3, HNs⟩ | ⟨rfl, HB3, HG3, HW3⟩))
    | (go_at_call 45; refine HW3.out.mono ?_; clear HW3; rintro e w4 ⟨rfl, H4⟩))
   ·go_ret2
    exact ⟨HB3.out, .inl ⟨rfl, fun m hm => HNs.out (by rw [HVal.out m hm]; exact hm.sound)⟩⟩
   ·rename_i hne
    go_ret2
    refine ⟨H4.out.1, .inl ⟨rfl, fun m hm => ?_⟩⟩
    have h7 := hm.enc
    rw [← HVal.out m hm] at h7
    exact absurd h7 (by simpa using hne)
   ·rename_i heq
    go_ret2
    refine ⟨H4.out.1, .inr ⟨p, cs, zs, rfl, ⟨H4.out.2, HG3.out.2.1, ?_, HG3.out.2.2, by simpa using heq⟩, HVal.out⟩⟩
    have h5 := HMade.out.1.new
    have h6 := HB1.out.size
    omega
end Go.Proofs.YtlhokghgicgppaaGreatDoor
namespace Go.Proofs.YtlhokghgicgppaaGreatDoor
open Go.RowKit Go.Extern
theorem load_any (s : Sg.Bs) (hs : s.length ≤ 60000) (w : World) :
    Calls Tryz.prog 31 #[.string ⟨s.toArray⟩] w fun e w' => (e = .returned (.tuple #[.pointer none, .iface 50 (.int .i64 8)]) ∧ Hid (Below w.heap.size w w') ∧ Hid (∀ m, ¬ Sg.ReadS (Sg.numbersT s) s m)) ∨ ∃ tp, e = .returned (.tuple #[.pointer (some ⟨tp, 0, none⟩), .nilIface]) ∧ Hid (Below w.heap.size w w' ∧ ∃ p cs zs, w'.cell? ⟨tp, 0, none⟩ = some (.pointer (some ⟨p, 0, none⟩)) ∧ ReadOk w w' s p cs zs ∧ w.heap.size ≤ tp ∧ ∀ m, Sg.ReadS (Sg.numbersT s) s m → (⟨cs, zs.map (·.1)⟩ : Sg.Mach) = m) := by
  have HR : Hid (Calls Tryz.prog 46 #[.string ⟨s.toArray⟩] w fun e w' => (e = .returned (.tuple #[.pointer none, .iface 50 (.int .i64 8)]) ∧ Hid (Below w.heap.size w w') ∧ Hid (∀ m, ¬ Sg.ReadS (Sg.numbersT s) s m)) ∨ ∃ p, e = .returned (.tuple #[.pointer (some ⟨p, 0, none⟩), .nilIface]) ∧ Hid (Below w.heap.size w w' ∧ ∃ cs zs, ReadOk w w' s p cs zs ∧ ∀ m, Sg.ReadS (Sg.numbersT s) s m → (⟨cs, zs.map (·.1)⟩ : Sg.Mach) = m)) := hide2 ((stRead_any s hs w).mono (by
    rintro e w' ⟨hb, ⟨h, hn⟩ | ⟨p, cs, zs, h1, h2, h3⟩⟩
    · exact .inl ⟨h, hide2 hb, hide2 hn⟩
    · exact .inr ⟨p, h1, hide2 ⟨hb, cs, zs, h2, h3⟩⟩))
  go_enter Tryz.func31, Tryz.ntmps31
  go_wp2_with (go_at_call 46; refine HR.out.mono ?_; rintro e w1 (⟨rfl, H1, HN⟩ | ⟨p, rfl, H1⟩))
  · go_ret2
    exact .inl ⟨rfl, H1, HN⟩
  · go_ret2
    obtain ⟨hb, cs, zs, hr, hv⟩ := H1.out
    have hbl : Below w1.heap.size w1 (w1.alloc (.cells #[.pointer (some ⟨p, 0, none⟩)] 100)) := (Below.refl _ _).alloc (Nat.le_refl _) _
    exact .inr ⟨_, rfl, hide2 ⟨hb.alloc hb.size _, p, cs, zs, newCell _ _ _ _ rfl, ⟨hr.at_.below hbl, hr.good, hr.new, hr.enc, hr.eq⟩, hb.size, hv⟩⟩
theorem encode_in (tp p B : Nat) (m : Sg.Mach) (w : World) (ht : w.cell? ⟨tp, 0, none⟩ = some (.pointer (some ⟨p, 0, none⟩))) (h : MachIn w B p m) (hm : m.Ok) (he : m.Enc) :
    Calls Tryz.prog 30 #[.pointer (some ⟨tp, 0, none⟩)] w fun e w' => e = .returned (.string ⟨(Sg.encM m).toArray⟩) ∧ Below w.heap.size w w' := by
  obtain ⟨cb, co, cc, sb, so, sc, nb, no, nc, M, _⟩ := h
  have HW := hide2 (write_any _ hm he w p cb co cc sb so sc nb no nc M)
  clear M
  go_enter Tryz.func30, Tryz.ntmps30
  go_wp2_with (go_at_call 45; refine HW.out.mono ?_; rintro e w1 ⟨rfl, hb⟩)
  go_ret
  exact ⟨rfl, hb⟩
end Go.Proofs.YtlhokghgicgppaaGreatDoor
namespace Go.Proofs.YtlhokghgicgppaaGreatDoor
open Go.RowKit Go.Extern
def Sg.encB (m : Sg.Mach) : Bool := m.cuts.all (fun c => decide (0 ≤ c.1) && decide (c.1 < 10000000) && (decide (0 ≤ c.2) && decide (c.2 < 10000000))) && m.states.all (fun s => decide (-1 ≤ s.1) && decide (s.1 < 10000000) && s.2.all (fun x => decide (-1 ≤ x) && decide (x < 10000000))) && decide ((Sg.encM m).length < 10000000)
theorem Sg.enc_ofB {m : Sg.Mach} (h : Sg.encB m = true) : m.Enc := by
  unfold Sg.encB at h
  simp only [Bool.and_eq_true, List.all_eq_true, decide_eq_true_eq] at h
  obtain ⟨⟨h1, h2⟩, h3⟩ := h
  refine ⟨fun i hi => ?_, fun i hi => ?_, fun i hi => ?_, fun i k hi hk => ?_, h3⟩
  · rw [Sg.low_at hi]; exact (h1 _ (List.getElem_mem hi)).1
  · rw [Sg.kind_at hi]; exact (h1 _ (List.getElem_mem hi)).2
  · unfold Sg.Mach.rule
    rw [Sg.state_at hi]; exact (h2 _ (List.getElem_mem hi)).1
  · unfold Sg.Mach.width at hk
    unfold Sg.Mach.next
    rw [Sg.state_at hi] at hk ⊢
    rw [List.getD_eq_getElem?_getD, List.getElem?_eq_getElem hk]
    exact (h2 _ (List.getElem_mem hi)).2 _ (List.getElem_mem hk)
def Sg.scalB (m : Sg.Mach) : Bool := (List.range m.states.length).all fun s => !m.goesOn s 55296 57343 && !m.goesOn s 1114112 1114112
theorem Sg.scal_of {m : Sg.Mach} (h : Sg.scalB m = true) : Sg.ScalB m := fun s hs => by
  have := List.all_eq_true.1 h s (List.mem_range.2 hs)
  simpa using this
def Sg.rankGo (m : Sg.Mach) : Nat → List Nat → List Nat
  | 0, r => r
  | f + 1, r => Sg.rankGo m f ((List.range m.states.length).map fun s => if m.rule s ≠ -1 then 0 else (m.states.getD s (0, [])).2.foldl (fun a n => if n ≤ 0 then a else min a (1 + r.getD n.toNat 1000)) 1000)
def Sg.leadsB (m : Sg.Mach) (r : List Nat) : Bool := (List.range m.states.length).all fun s => decide (s = 0) || decide (m.rule s ≠ -1) || (List.range (m.width s)).any fun k => decide (0 < m.next s k) && decide (r.getD (m.next s k).toNat 0 < r.getD s 0)
theorem Sg.leads_of {m : Sg.Mach} {r : List Nat} (h : Sg.leadsB m r = true) : Sg.Leads m := by
  refine ⟨fun s => r.getD s 0, fun s h0 hs => ?_⟩
  have := List.all_eq_true.1 h s (List.mem_range.2 hs)
  simp only [Bool.or_eq_true, decide_eq_true_eq, List.any_eq_true, List.mem_range, Bool.and_eq_true] at this
  rcases this with (e | e) | ⟨k, hk, h1, h2⟩
  · omega
  · exact .inl e
  · exact .inr ⟨k, (m.next s k).toNat, hk, by omega, by omega, h2⟩
theorem Sg.vals_mach {cuts states : List Int} {m : Sg.Mach} (q : Nat) (h1 : Sg.cutsV cuts (cuts.length / 2) = m.cuts) (h2 : states.length = q * (1 + Sg.kdOf m.cuts)) (h3 : Sg.statesV states (1 + Sg.kdOf m.cuts) q = m.states) (cs : List (Int × Int)) (st : List (Int × List Int)) (h : Sg.ValsOk cuts states cs st) : (⟨cs, st⟩ : Sg.Mach) = m := by
  have hc : cs = m.cuts := h.vc.trans h1
  subst hc
  have hlen : st.length = q := by
    have g1 := h.ge
    rw [h2] at g1
    have g2 : q ≤ st.length := Nat.le_of_mul_le_mul_right g1 (by omega)
    rcases Nat.lt_or_ge q st.length with g | g
    · have := h.lt q g
      omega
    · omega
  have hs := h.vs
  rw [hlen, h3] at hs
  rw [hs]
def Sg.readB (l : List Int) (m : Sg.Mach) (q : Nat) : Bool :=
  decide (0 < l.length) && decide (2 * (l.getD 0 0).toNat ≤ l.length - 1) &&
  decide (Sg.cutsV ((l.drop 1).take (2 * (l.getD 0 0).toNat)) (((l.drop 1).take (2 * (l.getD 0 0).toNat)).length / 2) = m.cuts) &&
  decide ((l.drop (1 + 2 * (l.getD 0 0).toNat)).length = q * (1 + Sg.kdOf m.cuts)) &&
  decide (Sg.statesV (l.drop (1 + 2 * (l.getD 0 0).toNat)) (1 + Sg.kdOf m.cuts) q = m.states)
def Sg.soundB (m : Sg.Mach) : Bool := (Sg.cntT m.cuts).2 && Sg.ordT m (Sg.cntT m.cuts).1 && Sg.scalB m && Sg.leadsB m (Sg.rankGo m m.states.length [])
theorem Sg.readS_of {m : Sg.Mach} {l : List Int} {s : Sg.Bs} (q : Nat) (h : Sg.readB l m q = true) (hs : Sg.soundB m = true) (he : Sg.encM m = s) : Sg.ReadS l s m := by
  unfold Sg.readB at h
  unfold Sg.soundB at hs
  simp only [Bool.and_eq_true, decide_eq_true_eq] at h hs
  obtain ⟨⟨⟨⟨h1, h2⟩, h3⟩, h4⟩, h5⟩ := h
  obtain ⟨⟨⟨g1, g2⟩, g3⟩, g4⟩ := hs
  exact ⟨h1, h2, Sg.vals_mach q h3 h4 h5, ⟨g1, g2, Sg.scal_of g3, Sg.leads_of g4⟩, he⟩
def encL (k : Nat) : Sg.Bs := Sg.encM (machL k)
theorem enc_l : ∀ k, k < 8 → Sg.encB (machL k) = true
  | 0, _ => by kernel_rfl
  | 1, _ => by kernel_rfl
  | 2, _ => by kernel_rfl
  | 3, _ => by kernel_rfl
  | 4, _ => by kernel_rfl
  | 5, _ => by kernel_rfl
  | 6, _ => by kernel_rfl
  | 7, _ => by kernel_rfl
  | _ + 8, h => by omega
theorem sound_l : ∀ k, k < 8 → Sg.soundB (machL k) = true
  | 0, _ => by kernel_rfl
  | 1, _ => by kernel_rfl
  | 2, _ => by kernel_rfl
  | 3, _ => by kernel_rfl
  | 4, _ => by kernel_rfl
  | 5, _ => by kernel_rfl
  | 6, _ => by kernel_rfl
  | 7, _ => by kernel_rfl
  | _ + 8, h => by omega
theorem read_l : ∀ k, k < 8 → Sg.readB (Sg.numbersT (encL k)) (machL k) (machL k).states.length = true
  | 0, _ => by kernel_rfl
  | 1, _ => by kernel_rfl
  | 2, _ => by kernel_rfl
  | 3, _ => by kernel_rfl
  | 4, _ => by kernel_rfl
  | 5, _ => by kernel_rfl
  | 6, _ => by kernel_rfl
  | 7, _ => by kernel_rfl
  | _ + 8, h => by omega
theorem size_l : ∀ k, k < 8 → (decide (0 < (encL k).length) && decide ((encL k).length ≤ 60000)) = true
  | 0, _ => by kernel_rfl
  | 1, _ => by kernel_rfl
  | 2, _ => by kernel_rfl
  | 3, _ => by kernel_rfl
  | 4, _ => by kernel_rfl
  | 5, _ => by kernel_rfl
  | 6, _ => by kernel_rfl
  | 7, _ => by kernel_rfl
  | _ + 8, h => by omega
theorem readS_l (k : Nat) (hk : k < 8) : Sg.ReadS (Sg.numbersT (encL k)) (encL k) (machL k) := Sg.readS_of _ (read_l k hk) (sound_l k hk) rfl
end Go.Proofs.YtlhokghgicgppaaGreatDoor
namespace Go.Proofs.YtlhokghgicgppaaGreatDoor
open Go.RowKit Go.Extern
theorem back_any (c : Int) (hc : InI64 c) (text : Sg.Bs) (w : World) (h : Lay w) :
    Calls Tryz.prog 13 #[.int .i64 c, .string ⟨text.toArray⟩] w fun e w' => e = .returned (.bool true) ∧ Below w.heap.size w w' := by
  obtain ⟨k, hk⟩ : ∃ k : Nat, pickT c 8 = k := ⟨(pickT c 8).toNat, by have := pickT_range c 8 (by omega); omega⟩
  have hk8 : k < 8 := by have := pickT_range c 8 (by omega); omega
  have HT := hide2 (tables_any c hc k hk w h)
  by_cases ht' : 2000 < text.length
  · go_enter Tryz.func13, Tryz.ntmps13
    go_wp2_with (go_at_call 17; refine HT.out.mono ?_; clear HT; rintro e w1 ⟨tp, rfl, H1⟩)
    go_ret
    exact ⟨rfl, H1.out.1⟩
  have ht : text.length ≤ 2000 := by omega
  have hok := (comp_of (comp_l k hk8)).ok
  have henc := Sg.enc_ofB (enc_l k hk8)
  have hrd := readS_l k hk8
  have hsz := size_l k hk8
  simp only [Bool.and_eq_true, decide_eq_true_eq] at hsz
  obtain ⟨hs0, hs6⟩ := hsz
  have hes : Sg.encM (machL k) = encL k := rfl
  generalize encL k = s at *
  obtain ⟨_, _, _, k4⟩ := Sg.toksOf_has (machL k) text ht
  have HTk : Hid (∀ w1 tp, (Below w.heap.size w w1 ∧ ∃ p, TabAt w1 tp p w1.heap.size (machL k)) → Calls Tryz.prog 30 #[.pointer (some ⟨tp, 0, none⟩)] w1 fun e w2 => e = .returned (.string ⟨s.toArray⟩) ∧
      Hid (Calls Tryz.prog 31 #[.string ⟨s.toArray⟩] w2 fun e w3 => ∃ up, e = .returned (.tuple #[.pointer (some ⟨up, 0, none⟩), .nilIface]) ∧
      Hid (Calls Tryz.prog 18 #[.pointer (some ⟨tp, 0, none⟩), .string ⟨text.toArray⟩] w3 fun en w4 => ∃ la lc, en = .returned (.tuple #[.slice la (Sg.toksOf (machL k) text).length lc, .bool true]) ∧
      Hid (Calls Tryz.prog 18 #[.pointer (some ⟨up, 0, none⟩), .string ⟨text.toArray⟩] w4 fun en w5 => ∃ rb rd, en = .returned (.tuple #[.slice rb (Sg.toksOf (machL k) text).length rd, .bool true]) ∧
      Hid (Calls Tryz.prog 25 #[.slice la (Sg.toksOf (machL k) text).length lc, .slice rb (Sg.toksOf (machL k) text).length rd] w5 fun e w6 => e = .returned (.bool true) ∧
      Hid (Calls Tryz.prog 30 #[.pointer (some ⟨up, 0, none⟩)] w6 fun e w7 => e = .returned (.string ⟨s.toArray⟩) ∧
      Hid (Calls Tryz.prog 27 #[.pointer (some ⟨up, 0, none⟩)] w7 fun e w8 => e = .returned (.int .i64 (bndV k)) ∧
      Hid (Calls Tryz.prog 27 #[.pointer (some ⟨tp, 0, none⟩)] w8 fun e w9 => e = .returned (.int .i64 (bndV k)) ∧ Hid (Below w.heap.size w w9))))))))) := hide2 fun w1 tp ⟨hb1, p, hT⟩ => by
    refine (encode_in tp p _ _ w1 hT.t hT.ma hok henc).mono ?_
    rintro e w2 ⟨rfl, b2⟩
    rw [hes]
    refine ⟨rfl, hide2 ((load_any s hs6 w2).mono ?_)⟩
    rintro e w3 (⟨_, _, HN⟩ | ⟨up, rfl, H3⟩)
    · exact absurd hrd (HN.out _)
    obtain ⟨b3, q, cs, zs, hcu, hr, hnw, hmv⟩ := H3.out
    have hmm := hmv _ hrd
    have b13 : Below w1.heap.size w1 w3 := b2.trans (b3.mono b2.size)
    have hw3 := hb1.trans (b13.mono hb1.size)
    have l3 := h.below hw3
    have hU : TabAt w3 up q w3.heap.size (machL k) := by
      rw [← hmm]
      exact ⟨hcu, hr.at_.mach hr.good.ok hr.good.wide, l3.tb, l3.g, Nat.le_refl _, cell_lt hcu, l3.et⟩
    have hT3 := hT.below hok (Nat.le_refl _) b13
    refine ⟨up, rfl, hide2 ((tokens_any _ hok tp p _ text ht w3 hT3).mono ?_)⟩
    rintro en w4 ⟨la, lc, rfl, g1, _, b4⟩
    have hU4 := hU.below hok (Nat.le_refl _) b4
    have hT4 := hT3.below hok hT3.le b4
    refine ⟨la, lc, rfl, hide2 ((tokens_any _ hok up q _ text ht w4 hU4).mono ?_)⟩
    rintro en w5 ⟨rb, rd, rfl, g2, _, b5⟩
    have hU5 := hU4.below hok hU4.le b5
    have hT5 := hT4.below hok hT4.le b5
    refine ⟨rb, rd, rfl, hide2 ((same_any w5 la rb lc rd _ (by omega) (g1.below b5) g2).mono ?_)⟩
    rintro e w6 ⟨rfl, b6⟩
    have hU6 := hU5.below hok hU5.le b6
    have hT6 := hT5.below hok hT5.le b6
    refine ⟨rfl, hide2 ((encode_in up q _ _ w6 hU6.t hU6.ma hok henc).mono ?_)⟩
    rintro e w7 ⟨rfl, b7⟩
    rw [hes]
    have hU7 := hU6.below hok hU6.le b7
    have hT7 := hT6.below hok hT6.le b7
    refine ⟨rfl, hide2 ((boundL_any k hk8 w7 up q _ hU7).mono ?_)⟩
    rintro e w8 ⟨rfl, H8⟩
    have hT8 := hT7.below hok hT7.le H8.out
    refine ⟨rfl, hide2 ((boundL_any k hk8 w8 tp p _ hT8).mono ?_)⟩
    rintro e w9 ⟨rfl, H9⟩
    have c4 := hw3.trans (b4.mono hw3.size)
    have c5 := c4.trans (b5.mono c4.size)
    have c6 := c5.trans (b6.mono c5.size)
    have c7 := c6.trans (b7.mono c6.size)
    have c8 := c7.trans (H8.out.mono c7.size)
    exact ⟨rfl, hide2 (c8.trans (H9.out.mono c8.size))⟩
  clear h hk hok hc hk8 henc hrd hes hs6
  generalize (Sg.toksOf (machL k) text).length = tn at *
  generalize bndV k = bv at *
  go_enter Tryz.func13, Tryz.ntmps13
  go_wp2_with (first
    | (go_at_call 17; refine HT.out.mono ?_; clear HT; rintro e w1 ⟨tp, rfl, H1⟩; have HS := hide2 (HTk.out w1 tp H1.out); clear HTk H1)
    | (go_at_call 30; refine HS.out.mono ?_; clear HS; rintro e w2 ⟨rfl, HS⟩)
    | (go_at_call 31; refine HS.out.mono ?_; clear HS; rintro e w2 ⟨up, rfl, HS⟩)
    | (go_at_call 18; refine HS.out.mono ?_; clear HS; rintro e w2 ⟨ra, rc, rfl, HS⟩)
    | (go_at_call 25; refine HS.out.mono ?_; clear HS; rintro e w2 ⟨rfl, HS⟩)
    | (go_at_call 27; refine HS.out.mono ?_; clear HS; rintro e w2 ⟨rfl, HS⟩))
  go_ret
  exact ⟨rfl, HS.out⟩
end Go.Proofs.YtlhokghgicgppaaGreatDoor
