/- stored.Read. -/
import Derived.Test.YtlhokghgicgppaaDoorSound
import Derived.Test.YtlhokghgicgppaaDoorMachine4
set_option linter.unusedSimpArgs false
set_option linter.unusedVariables false
namespace Go.Proofs.YtlhokghgicgppaaDoor
open Go.RowKit Go.Extern

theorem Sg.encN_len (n : Nat) (h : n < 268435456) : (Sg.encN n).length ≤ 4 := by
  rw [Sg.encN_eq]
  split
  · simp
  rw [Sg.encN_eq]
  split
  · simp
  rw [Sg.encN_eq]
  split
  · simp
  rw [Sg.encN_eq]
  split
  · simp
  · omega
theorem enc_cuts_len : ∀ (cs : List (Int × Int)), (∀ x ∈ cs, (0 ≤ x.1 ∧ x.1 < 2097152) ∧ (0 ≤ x.2 ∧ x.2 < 2097152)) → (cs.flatMap Sg.encCut).length ≤ 8 * cs.length
  | [], _ => by simp
  | c :: r, h => by
    have h1 := h c (by simp)
    have h2 := enc_cuts_len r (fun x hx => h x (by simp [hx]))
    have h3 := Sg.encN_len c.1.toNat (by omega)
    have h4 := Sg.encN_len c.2.toNat (by omega)
    rw [List.flatMap_cons, List.length_append, List.length_cons]
    unfold Sg.encCut at *
    rw [List.length_append]; omega
theorem enc_nexts_len : ∀ (l : List Int), (∀ x ∈ l, -1 ≤ x ∧ x < 2097152) → (Sg.encNexts l).length ≤ 4 * l.length
  | [], _ => by simp [Sg.encNexts]
  | x :: r, h => by
    have h1 := h x (by simp)
    have h2 := enc_nexts_len r (fun y hy => h y (by simp [hy]))
    have h3 := Sg.encN_len (x + 1).toNat (by omega)
    unfold Sg.encNexts at *
    rw [List.flatMap_cons, List.length_append, List.length_cons]; omega
theorem enc_states_len : ∀ (zs : List StZ), (∀ z ∈ zs, (-1 ≤ z.1.1 ∧ z.1.1 < 2097152) ∧ ∀ x ∈ z.1.2, -1 ≤ x ∧ x < 2097152) → ((zs.map (·.1)).flatMap Sg.encState).length ≤ 4 * sumW zs
  | [], _ => by simp
  | z :: r, h => by
    have h1 := h z (by simp)
    have h2 := enc_states_len r (fun y hy => h y (by simp [hy]))
    have h3 := Sg.encN_len (z.1.1 + 1).toNat (by omega)
    have h4 := enc_nexts_len z.1.2 h1.2
    rw [List.map_cons, List.flatMap_cons, List.length_append]
    unfold Sg.encState at *
    rw [List.length_append]
    have : sumW (z :: r) = (1 + z.1.2.length) + sumW r := by unfold sumW; simp
    omega
theorem enc_of (cs : List (Int × Int)) (zs : List StZ) (hb : ∀ x ∈ cs, (0 ≤ x.1 ∧ x.1 < 2097152) ∧ (0 ≤ x.2 ∧ x.2 < 2097152)) (hz : ∀ z ∈ zs, (-1 ≤ z.1.1 ∧ z.1.1 < 2097152) ∧ ∀ x ∈ z.1.2, -1 ≤ x ∧ x < 2097152) (hN : cs.length < 100000) (hS : sumW zs < 100000) : Sg.Mach.Enc ⟨cs, zs.map (·.1)⟩ := by
  have g : ∀ i (hi : i < zs.length), (zs.map (·.1)).getD i (0, []) = zs[i].1 := fun i hi => by
    rw [List.getD_eq_getElem?_getD, List.getElem?_map, List.getElem?_eq_getElem hi]; rfl
  have gc : ∀ i (hi : i < cs.length), cs.getD i (0, 0) = cs[i] := fun i hi => by
    rw [List.getD_eq_getElem?_getD, List.getElem?_eq_getElem hi]; rfl
  refine ⟨fun i hi => ?_, fun i hi => ?_, fun i hi => ?_, fun i k hi hk => ?_, ?_⟩
  · have hi' : i < cs.length := hi
    show 0 ≤ (cs.getD i (0, 0)).1 ∧ (cs.getD i (0, 0)).1 < _
    rw [gc i hi']
    have := hb _ (List.getElem_mem hi')
    omega
  · have hi' : i < cs.length := hi
    show 0 ≤ (cs.getD i (0, 0)).2 ∧ (cs.getD i (0, 0)).2 < _
    rw [gc i hi']
    have := hb _ (List.getElem_mem hi')
    omega
  · have hi' : i < zs.length := by simpa using hi
    show -1 ≤ ((zs.map (·.1)).getD i (0, [])).1 ∧ ((zs.map (·.1)).getD i (0, [])).1 < _
    rw [g i hi']
    have := (hz _ (List.getElem_mem hi')).1
    omega
  · have hi' : i < zs.length := by simpa using hi
    have hk' : k < ((zs.map (·.1)).getD i (0, [])).2.length := hk
    show -1 ≤ ((zs.map (·.1)).getD i (0, [])).2.getD k 0 ∧ ((zs.map (·.1)).getD i (0, [])).2.getD k 0 < _
    rw [g i hi'] at hk' ⊢
    rw [List.getD_eq_getElem?_getD, List.getElem?_eq_getElem hk', Option.getD_some]
    have := (hz _ (List.getElem_mem hi')).2 _ (List.getElem_mem hk')
    omega
  · have h1 := enc_cuts_len cs hb
    have h2 := enc_states_len zs hz
    have h3 := Sg.encN_len cs.length (by omega)
    unfold Sg.encM
    simp only [List.length_append]
    omega

/-- Tables out of bytes. -/
structure ReadOk (w w' : World) (s : Sg.Bs) (p : Nat) (cs : List (Int × Int)) (zs : List StZ) : Prop where
  at_ : MadeAt w' p cs zs
  good : Good cs zs
  new : w.heap.size ≤ p
  enc : Sg.Mach.Enc ⟨cs, zs.map (·.1)⟩
  eq : Sg.encM ⟨cs, zs.map (·.1)⟩ = s

theorem sumW_ge (zs : List StZ) : zs.length ≤ sumW zs ∧ ∀ z ∈ zs, z.1.2.length ≤ sumW zs := by
  induction zs with
  | nil => simp [sumW]
  | cons z r ih =>
    have e : sumW (z :: r) = (1 + z.1.2.length) + sumW r := by unfold sumW; simp
    refine ⟨by rw [List.length_cons, e]; omega, fun y hy => ?_⟩
    rcases List.mem_cons.1 hy with rfl | hy
    · rw [e]; omega
    · have := ih.2 y hy
      rw [e]; omega

set_option maxRecDepth 100000 in
set_option maxHeartbeats 1000000 in
theorem read_any (s : Sg.Bs) (hs : s.length ≤ 60000) (w : World) :
    Calls Tryd.prog 8 #[.string ⟨s.toArray⟩] w fun e w' => Below w.heap.size w w' ∧ (e = .returned (.tuple #[.pointer none, errV (some 8)]) ∨ ∃ p cs zs, e = .returned (.tuple #[.pointer (some ⟨p, 0, none⟩), .nilIface]) ∧ ReadOk w w' s p cs zs) := by
  have hlen := Sg.numGo_len s 0 0
  have hbd := Sg.numGo_lt s 0 0 (by omega) (by decide)
  have HN : Hid (Calls Tryd.prog 15 #[.string ⟨s.toArray⟩] w fun e w' => ∃ ra rc, e = .returned (.slice ra (Sg.numbersT s).length rc) ∧ RowAt 1 w' ra rc (Sg.numbersT s).length (intsV (Sg.numbersT s)) ∧ NewRow w ra ∧ Below w.heap.size w w') := hide2 (numbers_any s (by omega) w)
  have hlen' : (Sg.numbersT s).length ≤ s.length := hlen
  have hbd' : ∀ x ∈ Sg.numbersT s, 0 ≤ x ∧ x < 2097152 := hbd
  generalize Sg.numbersT s = l at *
  clear hlen hbd
  unfold errV
  by_cases hl0 : l.length = 0
  · rw [hl0] at HN
    go_enter Tryd.func8, Tryd.ntmps8
    go_wp2_with (go_at_call 15; refine HN.out.mono ?_; rintro e w1 ⟨ra, rc, rfl, hrow, hnew, hb1⟩; have HB1 := hide2 hb1; clear hrow hnew hb1)
    go_ret2
    exact ⟨HB1.out, .inl rfl⟩
  · have hz : (((l.length : Nat) : Int) == 0) = false := beq_eq_false_iff_ne.2 (by omega)
    have hx0 := hbd' (l.getD 0 0) (by rw [List.getD_eq_getElem?_getD, List.getElem?_eq_getElem (by omega)]; exact List.getElem_mem _)
    obtain ⟨x, hx⟩ := Int.eq_ofNat_of_zero_le hx0.1
    have HN1 : Hid (Calls Tryd.prog 15 #[.string ⟨s.toArray⟩] w fun e w1 => ∃ rb ro rc, e = .returned (.slice (some ⟨rb, ro, none⟩) l.length rc) ∧ w1.cell? ⟨rb, ro, none⟩ = some (.int .i64 x) ∧ l.length ≤ rc ∧ Hid (RowAt 1 w1 (some ⟨rb, ro, none⟩) rc l.length (intsV l) ∧ Below w.heap.size w w1)) := hide2 (HN.out.mono (by
      rintro e w1 ⟨ra, rc, rfl, hrow, _, hb1⟩
      obtain ⟨rb, ro, e1, e2⟩ := nx_cell hrow 0 (by omega)
      subst e1
      rw [Nat.add_zero] at e2
      refine ⟨rb, ro, rc, rfl, ?_, hrow.le, hide2 ⟨hrow, hb1⟩⟩
      rw [e2, ← hx, List.getD_eq_getElem?_getD, List.getElem?_eq_getElem (by omega)]
      rfl))
    clear HN
    by_cases hbig : 2 * x > l.length - 1
    · go_enter Tryd.func8, Tryd.ntmps8
      go_wp2_with (go_at_call 15; refine HN1.out.mono ?_; rintro e w1 ⟨rb, ro, rc, rfl, hc0, hrc, HB1⟩)
      go_ret2
      exact ⟨HB1.out.2, .inl rfl⟩
    · have hbig' : 2 * x ≤ l.length - 1 := by omega
      obtain ⟨cuts, hcuts⟩ : ∃ cuts, cuts = (l.drop 1).take (2 * x) := ⟨_, rfl⟩
      obtain ⟨states, hstates⟩ : ∃ states, states = l.drop (1 + 2 * x) := ⟨_, rfl⟩
      have hcl : cuts.length = 2 * x := by rw [hcuts, List.length_take, List.length_drop]; omega
      have hsl : states.length = l.length - (1 + 2 * x) := by rw [hstates, List.length_drop]
      have hcm : ∀ y ∈ cuts, 0 ≤ y ∧ y < 2097152 := fun y hy => hbd' y (by rw [hcuts] at hy; exact List.mem_of_mem_drop (List.mem_of_mem_take hy))
      have hsm : ∀ y ∈ states, 0 ≤ y ∧ y < 2097152 := fun y hy => hbd' y (by rw [hstates] at hy; exact List.mem_of_mem_drop hy)
      have hcg : ∀ j, j < cuts.length → cuts.getD j 0 = l.getD (1 + j) 0 := fun j hj => by
        rw [hcuts, List.getD_eq_getElem?_getD, List.getD_eq_getElem?_getD, List.getElem?_take_of_lt (by omega), List.getElem?_drop]
      have hsg : ∀ j, j < states.length → states.getD j 0 = l.getD (1 + 2 * x + j) 0 := fun j hj => by
        rw [hstates, List.getD_eq_getElem?_getD, List.getD_eq_getElem?_getD, List.getElem?_drop]
      have hle60 : l.length ≤ 60000 := by omega
      have HN2 : Hid (Calls Tryd.prog 15 #[.string ⟨s.toArray⟩] w fun e w1 => ∃ rb ro rc o1 o2, e = .returned (.slice (some ⟨rb, ro, none⟩) l.length rc) ∧ w1.cell? ⟨rb, ro, none⟩ = some (.int .i64 x) ∧ l.length ≤ rc ∧ (if rc = 1 then some (⟨rb, ro, none⟩ : Addr) else some ⟨rb, ro + 1, none⟩) = some ⟨rb, o1, none⟩ ∧ (if rc = 1 + 2 * x then some (⟨rb, ro, none⟩ : Addr) else some ⟨rb, ro + (1 + 2 * x), none⟩) = some ⟨rb, o2, none⟩ ∧ Hid (Below w.heap.size w w1) ∧
          Hid (Calls Tryd.prog 16 #[.slice (some ⟨rb, o1, none⟩) (2 * x) (rc - 1), .slice (some ⟨rb, o2, none⟩) (l.length - (1 + 2 * x)) (rc - (1 + 2 * x))] w1.drew fun e w2 => ∃ p cs zs, e = .returned (.pointer (some ⟨p, 0, none⟩)) ∧ Hid (Made w1 w2 p cs zs (2 * x) (l.length - (1 + 2 * x)) ∧ Below w.heap.size w w2))) := hide2 (HN1.out.mono (by
        rintro e w1 ⟨rb, ro, rc, rfl, hc0, hrc, HB1⟩
        obtain ⟨hrow, hb1⟩ := HB1.out
        have hrb : rb < w1.heap.size := hrow.lt rfl
        have hcell : ∀ j, j < l.length → w1.cell? ⟨rb, ro + j, none⟩ = some (.int .i64 (l.getD j 0)) := fun j hj => by
          obtain ⟨rb2, ro2, e1, e2⟩ := nx_cell hrow j hj
          cases e1
          rw [e2, List.getD_eq_getElem?_getD, List.getElem?_eq_getElem hj]; rfl
        obtain ⟨o1, hif1, ho1⟩ : ∃ o1, (if rc = 1 then some (⟨rb, ro, none⟩ : Addr) else some ⟨rb, ro + 1, none⟩) = some ⟨rb, o1, none⟩ ∧ (¬ rc = 1 → o1 = ro + 1) := by
          by_cases h1 : rc = 1
          · exact ⟨ro, by rw [if_pos h1], fun t => absurd h1 t⟩
          · exact ⟨ro + 1, by rw [if_neg h1], fun _ => rfl⟩
        obtain ⟨o2, hif2, ho2⟩ : ∃ o2, (if rc = 1 + 2 * x then some (⟨rb, ro, none⟩ : Addr) else some ⟨rb, ro + (1 + 2 * x), none⟩) = some ⟨rb, o2, none⟩ ∧ (¬ rc = 1 + 2 * x → o2 = ro + (1 + 2 * x)) := by
          by_cases h1 : rc = 1 + 2 * x
          · exact ⟨ro, by rw [if_pos h1], fun t => absurd h1 t⟩
          · exact ⟨ro + (1 + 2 * x), by rw [if_neg h1], fun _ => rfl⟩
        refine ⟨rb, ro, rc, o1, o2, rfl, hc0, hrc, hif1, hif2, hide2 hb1, hide2 ?_⟩
        have hmc := machine_any w1.drew rb o1 o2 (rc - 1) (rc - (1 + 2 * x)) cuts states hrb (fun j hj => by
            rw [ho1 (by omega), hcg j hj, Nat.add_assoc]
            exact hcell (1 + j) (by omega)) (fun j hj => by
            rw [ho2 (by omega), hsg j hj, Nat.add_assoc]
            exact hcell (1 + 2 * x + j) (by omega)) (by omega) (by omega) (by omega) (by omega) (by omega) hcm hsm
        rw [hcl, hsl] at hmc
        refine hmc.mono ?_
        rintro e w2 ⟨p, cs, zs, rfl, hmade⟩
        have hbd : Below w1.heap.size w1 w2 := (Below.refl _ _).drew.trans hmade.below
        exact ⟨p, cs, zs, rfl, hide2 ⟨⟨hmade.c0, hmade.c1, hmade.rows, hmade.bc, hmade.bz, hmade.n1, hmade.n2, hbd, hmade.new⟩, hb1.trans (hbd.mono hb1.size)⟩⟩))
      have HSo : Hid (∀ w1 w2 p cs zs, Made w1 w2 p cs zs (2 * x) (l.length - (1 + 2 * x)) → Below w.heap.size w w2 → Calls Tryd.prog 17 #[.pointer (some ⟨p, 0, none⟩)] w2 fun e w3 => (e = .returned (.bool false) ∧ Hid (Below w.heap.size w w3)) ∨ (e = .returned (.bool true) ∧ Hid (Below w.heap.size w w3) ∧ Hid (MadeAt w3 p cs zs ∧ Good cs zs ∧ Sg.Mach.Enc ⟨cs, zs.map (·.1)⟩) ∧ Hid (Calls Tryd.prog 14 #[.pointer (some ⟨p, 0, none⟩)] w3 fun e w4 => e = .returned (.string ⟨(Sg.encM ⟨cs, zs.map (·.1)⟩).toArray⟩) ∧ Hid (Below w.heap.size w w4 ∧ MadeAt w4 p cs zs)))) := hide2 fun w1 w2 p cs zs hmade hb2 => by
        have hzl := sumW_ge zs
        have n1 := hmade.n1
        have n2 := hmade.n2
        refine (sound_any w2 p cs zs hmade.at_ (by omega) (by omega) (fun z hz => by have := hzl.2 z hz; omega) hmade.bc hmade.bz).mono ?_
        rintro e w3 ⟨b, rfl, hb3, hg⟩
        have hb3' := hb2.trans (hb3.mono hb2.size)
        cases b
        · exact .inl ⟨rfl, hide2 hb3'⟩
        · have hgood := hg rfl
          have henc := enc_of cs zs hmade.bc hmade.bz (by omega) (by omega)
          have hat := hmade.at_.below hb3
          refine .inr ⟨rfl, hide2 hb3', hide2 ⟨hat, hgood, henc⟩, hide2 ?_⟩
          obtain ⟨cb, co, cc, sb, so, sc, nb, no, nc, M, _⟩ := hat.mach hgood.ok hgood.wide
          refine (write_any _ hgood.ok henc w3 p cb co cc sb so sc nb no nc M).mono ?_
          rintro e w4 ⟨h1, h2⟩
          exact ⟨h1, hide2 ⟨hb3'.trans (h2.mono hb3'.size), hat.below h2⟩⟩
      clear hcuts hstates hcg hsg hcm hsm HN1 hbd' hx hx0
      go_enter Tryd.func8, Tryd.ntmps8
      go_wp2_with (go_at_call 15; refine HN2.out.mono ?_; clear HN2; rintro e w1 ⟨rb, ro, rc, o1, o2, rfl, hc0, hrc, hif1, hif2, HB1, HMc⟩)
      have hTr : True := trivial
      have et1 : (1 + 2 * (x : Int)).toNat - 1 = 2 * x := by omega
      have et2 : (1 + 2 * (x : Int)).toNat = 1 + 2 * x := by omega
      refine wp_region_held_drew (S := fun _ => True) (by kernel_rfl) trivial (fun hHeld => ?_)
      refine wpAnyH_take (i := 0) (v := ?_) rfl (by kernel_rfl) (by kernel_rfl) (by kernel_rfl) (fun _ _ _ h => h) (Or.inl ⟨by rfl, ?_⟩) (by assumption) ?_
      rotate_left
      · intro w' _
        go_simp
        try with_reducible rfl
      try simp only [Act.put, List.setIfInBounds_toArray, List.set_cons_zero, List.set_cons_succ]
      refine wpAnyH_take (i := 1) (v := ?_) rfl (by kernel_rfl) (by kernel_rfl) (by kernel_rfl) (fun _ _ _ h => h) (Or.inl ⟨by rfl, ?_⟩) (by assumption) ?_
      rotate_left
      · intro w' _
        go_simp
        try with_reducible rfl
      try simp only [Act.put, List.setIfInBounds_toArray, List.set_cons_zero, List.set_cons_succ]
      refine wpAnyH_take (i := 2) (v := (.slice (some ⟨rb, o1, none⟩) (2 * x) (rc - 1))) rfl (by kernel_rfl) (by kernel_rfl) (by kernel_rfl) (fun _ _ _ h => h) (Or.inl ⟨by rfl, ?_⟩) (by assumption) ?_
      · intro w' _
        go_simp
        try (rw [if_pos ⟨by omega, by omega⟩, if_pos (by omega)])
        try rw [et1]
      try simp only [Act.put, List.setIfInBounds_toArray, List.set_cons_zero, List.set_cons_succ]
      refine wpAnyH_take (i := 3) (v := ?_) rfl (by kernel_rfl) (by kernel_rfl) (by kernel_rfl) (fun _ _ _ h => h) (Or.inl ⟨by rfl, ?_⟩) (by assumption) ?_
      rotate_left
      · intro w' _
        go_simp
        try with_reducible rfl
      try simp only [Act.put, List.setIfInBounds_toArray, List.set_cons_zero, List.set_cons_succ]
      refine wpAnyH_take (i := 4) (v := ?_) rfl (by kernel_rfl) (by kernel_rfl) (by kernel_rfl) (fun _ _ _ h => h) (Or.inl ⟨by rfl, ?_⟩) (by assumption) ?_
      rotate_left
      · intro w' _
        go_simp
        try with_reducible rfl
      try simp only [Act.put, List.setIfInBounds_toArray, List.set_cons_zero, List.set_cons_succ]
      refine wpAnyH_take (i := 5) (v := (.slice (some ⟨rb, o2, none⟩) (l.length - (1 + 2 * x)) (rc - (1 + 2 * x)))) rfl (by kernel_rfl) (by kernel_rfl) (by kernel_rfl) (fun _ _ _ h => h) (Or.inl ⟨by rfl, ?_⟩) (by assumption) ?_
      · intro w' _
        go_simp
        intro hcx
        exact absurd (hcx (by omega)) (by omega)
      try simp only [Act.put, List.setIfInBounds_toArray, List.set_cons_zero, List.set_cons_succ]
      refine wpAnyH_ready (rs := [6]) (by kernel_rfl) (by simp) ?_
      refine AllReadyH.cons rfl (fun K hK => ?_) AllReadyH.nil
      go_simp
      refine HMc.out.mono ?_
      clear HMc
      rintro e w2 ⟨p, cs, zs, rfl, HMade⟩
      refine hK.out _ _ trivial (fun hHeld => ?_)
      clear hK
      try simp only [Act.put, List.setIfInBounds_toArray, List.set_cons_zero, List.set_cons_succ]
      refine wpAnyH_take (i := 7) (v := ?_) rfl (by kernel_rfl) (by kernel_rfl) (by kernel_rfl) (fun _ _ _ h => h) (Or.inl ⟨by rfl, ?_⟩) (by assumption) ?_
      rotate_left
      · intro w' _
        go_simp
        try with_reducible rfl
      try simp only [Act.put, List.setIfInBounds_toArray, List.set_cons_zero, List.set_cons_succ]
      refine wpAnyH_done (by kernel_rfl) ?_ _
      clear et1 et2 hif1 hif2
      go_wp2_with (first
        | (go_at_call 17; refine (HSo.out w1 w2 p cs zs HMade.out.1 HMade.out.2).mono ?_; clear HSo; rintro e w3 (⟨rfl, HB3⟩ | ⟨rfl, HB3, HG3, HW3⟩))
        | (go_at_call 14; refine HW3.out.mono ?_; clear HW3; rintro e w4 ⟨rfl, H4⟩))
      · go_ret2
        exact ⟨HB3.out, .inl rfl⟩
      · go_ret2
        exact ⟨H4.out.1, .inl rfl⟩
      · rename_i heq
        go_ret2
        refine ⟨H4.out.1, .inr ⟨p, cs, zs, rfl, H4.out.2, HG3.out.2.1, ?_, HG3.out.2.2, by simpa using heq⟩⟩
        have h5 := HMade.out.1.new
        have h6 := HB1.out.size
        omega
end Go.Proofs.YtlhokghgicgppaaDoor
