/- stored.machine: the walk. -/
import Derived.Test.YtlhokghgicgppaaDoorMachine3
set_option linter.unusedSimpArgs false
set_option linter.unusedVariables false
namespace Go.Proofs.YtlhokghgicgppaaDoor
open Go.RowKit Go.Extern

attribute [local go_sem] Oper.semAt_some

set_option maxRecDepth 100000 in
set_option maxHeartbeats 2000000 in
theorem machine_any (w : World) (rb o1 o2 cap1 cap2 : Nat) (cuts states : List Int) (hrb : rb < w.heap.size) (h1 : ∀ j, j < cuts.length → w.cell? ⟨rb, o1 + j, none⟩ = some (.int .i64 (cuts.getD j 0))) (h2 : ∀ j, j < states.length → w.cell? ⟨rb, o2 + j, none⟩ = some (.int .i64 (states.getD j 0)))
    (hc1 : cuts.length ≤ cap1) (hc2 : states.length ≤ cap2) (hN1 : cuts.length < 1000000) (hN2 : states.length < 1000000) (heven : cuts.length % 2 = 0) (hb1 : ∀ x ∈ cuts, 0 ≤ x ∧ x < 2097152) (hb2 : ∀ x ∈ states, 0 ≤ x ∧ x < 2097152) :
    Calls Tryd.prog 16 #[.slice (some ⟨rb, o1, none⟩) cuts.length cap1, .slice (some ⟨rb, o2, none⟩) states.length cap2] w fun e w' => ∃ p cs zs, e = .returned (.pointer (some ⟨p, 0, none⟩)) ∧ Made w w' p cs zs cuts.length states.length := by
  have hdd : ∀ k : Nat, (Fence.wide.depth.isSome = true → 1 ≤ k) := fun k h => by cases h
  refine (callsIn_wide (n := 5)).1 ?_
  refine callsIn_of_wp_marks Tryd.func16 rfl trivial ?_ rfl
  simp only [Tryd.ntmps16, List.size_toArray, List.length_cons, List.length_nil, Nat.reduceAdd, Nat.reduceSub, Array.replicate_succ, Array.replicate_zero, List.push_toArray, List.append_toArray, List.nil_append, List.cons_append]
  gi_wp2_with (refine ⟨trivial, ?_⟩; gi_at_call 30; refine (chunk_in _ _ _ _ 2 (by omega) (by omega) _).mono ?_; rintro e w' ⟨rfl, rfl⟩)
  obtain ⟨hc, hJ0⟩ := mC1_ok w rb o1 cap1 cuts hrb h1 hN1 heven hb1
  obtain ⟨c, hcd⟩ : ∃ c, c = mC1 w rb o1 cap1 cuts := ⟨_, rfl⟩
  rw [← hcd] at hc hJ0
  have ep : c.pb = w.heap.size := by rw [hcd]; rfl
  have em : c.mv = w.heap.size + 1 := by rw [hcd]; rfl
  have ek : c.kv = w.heap.size + 1 + 1 := by rw [hcd]; rfl
  have es : c.sb = w.heap.size + 1 + 1 + 1 := by rw [hcd]; rfl
  have en : c.nb = w.heap.size + 1 + 1 + 1 + 1 := by rw [hcd]; rfl
  have er : c.rb = rb := by rw [hcd]; rfl
  have eo : c.ro = o1 := by rw [hcd]; rfl
  have el : c.l = cuts := by rw [hcd]; rfl
  have ec : c.cap = cap1 := by rw [hcd]; rfl
  have ew : c.w0 = mW1 w rb o1 cuts.length cap1 := by rw [hcd]; rfl
  clear hcd
  have hIown := MC.J_own (c := c) (fun (xs : List Nat) i => xs = List.range i)
  have hIyown := MC.J_own (c := c) (fun (x : List Nat × Nat) i => x = (List.range i, i) ∧ i * 2 < cuts.length)
  have hIzown := MC.J_own (c := c) (fun (x : List Nat × Nat × Act) i => x = (List.range i, i, aM1 w rb o1 o2 cuts.length states.length cap1 cap2 (.slice (some ⟨rb, o1 + i * 2, none⟩) 2 2)) ∧ i * 2 < cuts.length)
  rw [ew] at hIown hIyown hIzown
  refine wpIn_rangeFunc_st2 (α := Nat) rfl (by omega) (gf := 48) (lb := #[.pointer (some ⟨w.heap.size + 1 + 1 + 1, 0, none⟩), .pointer (some ⟨w.heap.size + 1 + 1 + 1 + 1, 0, none⟩)]) rfl trivial (enters_of Tryd.func48 (by kernel_rfl) rfl) (encs := fun i => #[.slice (some ⟨rb, o1 + i * 2, none⟩) (min 2 (cuts.length - i * 2)) (min 2 (cuts.length - i * 2))]) (S := fun xs => cuts.length ≤ xs.length * 2) (Sp := fun _ => False) (fun x => rfl)
    (fun xs W => ∃ i, xs = List.range i ∧ c.J i W) (fun x W => ∃ i, (x = (List.range i, i) ∧ i * 2 < cuts.length) ∧ c.J i W) (fun _ _ _ => False) (fun x W => ∃ i, (x = (List.range i, i, aM1 w rb o1 o2 cuts.length states.length cap1 cap2 (.slice (some ⟨rb, o1 + i * 2, none⟩) 2 2)) ∧ i * 2 < cuts.length) ∧ c.J i W) hIzown hIown hIyown (fun _ => ⟨fun _ _ _ h _ => h, fun _ _ _ _ _ h _ _ => h⟩) ⟨0, rfl, hJ0⟩ ?seq ?assign ?body ?done ?stop
  case stop => exact fun _ _ _ _ _ hS => hS.elim
  case seq =>
    intro l D ready dn hY W hI hR
    obtain ⟨i, hi, hj⟩ := hI
    have hi0 : i = 0 := by
      have := congrArg List.length hi
      simpa using this.symm
    subst hi0
    have := chunk1_in (5 - 1) l (w.heap.size + 1 + 1 + 1) (w.heap.size + 1 + 1 + 1 + 1) rb o1 cuts.length cap1 2 (by omega) (by omega) (by omega) (fun i W => c.J i W ∧ RecAt l D ready W)
      (fun i W h => by
        have h5 := MC.at_ hc h.1
        rw [es, en, er, eo, el, ec] at h5
        exact ⟨h5.2.1, h5.2.2.1⟩) hc1 (fun i W h => ⟨by
        obtain ⟨cs, cr, cc, kd, h5⟩ := h.1
        exact ⟨cs, cr, cc, kd, h5.drew⟩, h.2⟩) (fun i W h hlt => by
        refine YieldAt.mono (hY (List.range i) i W ⟨i, ⟨rfl, hlt⟩, h.1⟩ h.2) ?_
        rintro e W' (⟨k1, ⟨i2, k2, k3⟩, k4⟩ | ⟨_, code, k, _⟩)
        · have : i2 = i + 1 := by
            have := congrArg List.length k2
            simpa using this.symm
          subst this
          exact ⟨k1, k3, k4⟩
        · exact k.elim) W ⟨hj, hR⟩
    refine this.mono ?_
    rintro e W' ⟨hv, i, k1, k2, k3, k4⟩
    exact ⟨hv, .inl ⟨List.range i, by simpa using k1, ⟨i, rfl, k3⟩, k4⟩⟩
  case assign =>
    rintro l pre x W ⟨i, ⟨e, hlt⟩, hj⟩
    simp only [Prod.mk.injEq] at e
    obtain ⟨rfl, rfl⟩ := e
    have e2 : min 2 (cuts.length - x * 2) = 2 := by omega
    rw [e2]
    gi_wp2
    exact ⟨KeepsFrom.refl _ _, x, ⟨rfl, hlt⟩, hj⟩
  case body =>
    rintro l pre x a' W ⟨i, ⟨e, hlt⟩, hj⟩
    simp only [Prod.mk.injEq] at e
    obtain ⟨rfl, rfl, rfl⟩ := e
    obtain ⟨cs, cr, cc, kd, hC⟩ := hj
    have hA := MC.at_ hc ⟨cs, cr, cc, kd, hC⟩
    rw [ep, em, es, en, er, eo, el, ec, ek] at hA
    obtain ⟨a1, _, _, a4, a5, a6⟩ := hA
    have hx0 := a4 (x * 2) (by omega)
    have hx1 := a4 (x * 2 + 1) (by omega)
    rw [← Nat.add_assoc] at hx1
    have hbx0 := hb1 (cuts.getD (x * 2) 0) (by rw [List.getD_eq_getElem?_getD, List.getElem?_eq_getElem (by omega)]; exact List.getElem_mem _)
    have hbx1 := hb1 (cuts.getD (x * 2 + 1) 0) (by rw [List.getD_eq_getElem?_getD, List.getElem?_eq_getElem (by omega)]; exact List.getElem_mem _)
    obtain ⟨y0, hy0⟩ := Int.eq_ofNat_of_zero_le hbx0.1
    obtain ⟨y1, hy1⟩ := Int.eq_ofNat_of_zero_le hbx1.1
    rw [hy0] at hx0 hbx0
    rw [hy1] at hx1 hbx1
    have hp0 := hC.cell
    have hk0 := hC.kind
    have hkd := hC.kd
    have hxle := hC.le
    rw [ep] at hp0
    rw [ek] at hk0
    obtain ⟨cr2, cc2, W2, hrun, hrow, hch, hmv⟩ := append_new (w := W.drew) 97 102 _ 2 16 info_cut rfl (by omega) Tryd.underlying97 (by omega) hC.row.drew [.int .i32 (IntKind.i32.wrap y0), .int .i64 y1] rfl (fun u hu => by
      simp only [List.mem_cons, List.not_mem_nil, or_false] at hu
      rcases hu with rfl | rfl <;> rfl) (by omega) 97 102
    have hwr : IntKind.i32.wrap (y0 : Int) = y0 := by simp [IntKind.wrap, IntKind.bits, IntKind.signed]; split <;> omega
    rw [hwr] at hrow
    have hstep := MC.C.step hc hC.drew (by rw [el]; omega) y0 y1 (by omega) (by omega) hrow hch hmv (kd2 := max kd (1 + y1)) (by omega) (W3 := (W2.setCell ⟨c.pb, 0, none⟩ (.slice cr2 (x + 1) cc2)).drew) ((Below.refl _ _).drew)
    rw [ep, ek] at hstep
    have hnr : ∀ b o, cr = some ⟨b, o, none⟩ → c.w0.heap.size ≤ b := hC.new
    have hzw : c.w0.heap.size = w.heap.size + 5 := by rw [ew]; simp
    have hkeep : ∀ b j v, b < w.heap.size + 5 → W.cell? ⟨b, j, none⟩ = some v → W2.cell? ⟨b, j, none⟩ = some v := fun b j v hb hv => (hch.cell b j (cell_lt hv) (by
      intro t
      obtain ⟨o, e⟩ := t
      have h5 := hnr b o e
      omega)).trans hv
    have hS2 : W2.cell? ⟨w.heap.size + 1, 0, none⟩ = some (.pointer (some ⟨w.heap.size, 0, none⟩)) ∧ W2.cell? ⟨w.heap.size, 0, none⟩ = some (.slice cr x cc) ∧ W2.cell? ⟨rb, o1 + x * 2, none⟩ = some (.int .i64 y0) ∧ W2.cell? ⟨rb, o1 + x * 2 + 1, none⟩ = some (.int .i64 y1) ∧ W2.frozen? ⟨w.heap.size, 0, none⟩ = false :=
      ⟨hkeep _ _ _ (by omega) a1, hkeep _ _ _ (by omega) hp0, hkeep _ _ _ (by omega) hx0, hkeep _ _ _ (by omega) hx1, (hch.frz _ _ (cell_lt hp0)).trans (a5 0)⟩
    have hk2 : W2.cell? ⟨w.heap.size + 1 + 1, 0, none⟩ = some (.int .i64 kd) := hkeep _ _ _ (by omega) hk0
    have hf2 : W2.frozen? ⟨w.heap.size + 1 + 1, 0, none⟩ = false := (hch.frz _ _ (cell_lt hk0)).trans (a6 0)
    have HS2 := hide2 hS2
    have HK2 := hide2 (And.intro hk2 hf2)
    have Hstep0 := hide2 hstep
    have Hrun := hide2 hrun
    clear hwr hrun hrow hch hmv hstep hkeep hS2 hk2 hf2 hC a4 h1 h2 hJ0 hIown hIyown hIzown hnr
    simp only [aM1]
    gi_wp2
    obtain ⟨W5, hW5⟩ : ∃ W5, W2.setCell ⟨w.heap.size, 0, none⟩ (.slice cr2 (x + 1) cc2) = W5 := ⟨_, rfl⟩
    have t1 : W5.cell? ⟨w.heap.size + 1 + 1, 0, none⟩ = some (.int .i64 kd) := by
      rw [← hW5]
      exact (World.cell?_setCell_other _ _ _ _ (fun e => by have := congrArg Addr.block e; simp at this; omega)).trans HK2.out.1
    have t2 : W5.cell? ⟨rb, o1 + x * 2 + 1, none⟩ = some (.int .i64 y1) := by
      rw [← hW5]
      exact (World.cell?_setCell_other _ _ _ _ (fun e => by have := congrArg Addr.block e; simp at this; omega)).trans HS2.out.2.2.2.1
    have t4 : W5.cell? ⟨w.heap.size + 1, 0, none⟩ = some (.pointer (some ⟨w.heap.size, 0, none⟩)) := by
      rw [← hW5]
      exact (World.cell?_setCell_other _ _ _ _ (fun e => by have := congrArg Addr.block e; simp at this)).trans HS2.out.1
    have t5 : W5.cell? ⟨rb, o1 + x * 2, none⟩ = some (.int .i64 y0) := by
      rw [← hW5]
      exact (World.cell?_setCell_other _ _ _ _ (fun e => by have := congrArg Addr.block e; simp at this; omega)).trans HS2.out.2.2.1
    have t3 : W5.frozen? ⟨w.heap.size + 1 + 1, 0, none⟩ = false := by
      rw [← hW5, World.frozen?_setCell]; exact HK2.out.2
    have Hstep := Hstep0.out
    rw [hW5] at Hstep
    have HStep := hide2 Hstep
    have HW5 := hide2 hW5
    have hmx : max (kd : Int) (IntKind.i64.wrap (1 + (y1 : Int))) = ((max kd (1 + y1) : Nat) : Int) := by
      rw [wrap_i64_small _ (by omega) (by omega)]; omega
    have Hmx := hide2 hmx
    clear hmx Hstep Hstep0
    have hs2 := HS2.out
    obtain ⟨b1, b2, b3, b4, b5⟩ := hs2
    refine wpIn_round_held (S := fun w' => w'.cell? ⟨w.heap.size + 1, 0, none⟩ = some (.pointer (some ⟨w.heap.size, 0, none⟩)) ∧ w'.cell? ⟨rb, o1 + x * 2, none⟩ = some (.int .i64 y0) ∧ w'.cell? ⟨rb, o1 + x * 2 + 1, none⟩ = some (.int .i64 y1)) (by kernel_rfl) (by kernel_rfl) (by rintro ⟨a, w, h⟩; exact h) ⟨a1, hx0, hx1⟩ (fun hHeld => ?_)
    refine wpAnyH_take (i := 0) (v := ?_) rfl (by kernel_rfl) (by kernel_rfl) (by kernel_rfl) (fun _ _ _ h => h) (Or.inl ⟨by rfl, ?_⟩) (by assumption) ?_
    rotate_left
    · intro w' hSw
      obtain ⟨q1, q2, q3⟩ := hSw
      go_simp
      try with_reducible rfl
    try simp only [Act.put, List.setIfInBounds_toArray, List.set_cons_zero, List.set_cons_succ]
    refine wpAnyH_take (i := 1) (v := ?_) rfl (by kernel_rfl) (by kernel_rfl) (by kernel_rfl) (fun _ _ _ h => h) (Or.inl ⟨by rfl, ?_⟩) (by assumption) ?_
    rotate_left
    · intro w' hSw
      obtain ⟨q1, q2, q3⟩ := hSw
      go_simp
      try with_reducible rfl
    try simp only [Act.put, List.setIfInBounds_toArray, List.set_cons_zero, List.set_cons_succ]
    refine wpAnyH_take (i := 2) (v := ?_) rfl (by kernel_rfl) (by kernel_rfl) (by kernel_rfl) (fun _ _ _ h => h) (Or.inl ⟨by rfl, ?_⟩) (by assumption) ?_
    rotate_left
    · intro w' hSw
      obtain ⟨q1, q2, q3⟩ := hSw
      go_simp
      try with_reducible rfl
    try simp only [Act.put, List.setIfInBounds_toArray, List.set_cons_zero, List.set_cons_succ]
    refine wpAnyH_take (i := 3) (v := ?_) rfl (by kernel_rfl) (by kernel_rfl) (by kernel_rfl) (fun _ _ _ h => h) (Or.inl ⟨by rfl, ?_⟩) (by assumption) ?_
    rotate_left
    · intro w' hSw
      obtain ⟨q1, q2, q3⟩ := hSw
      go_simp
      try with_reducible rfl
    try simp only [Act.put, List.setIfInBounds_toArray, List.set_cons_zero, List.set_cons_succ]
    refine wpAnyH_take (i := 5) (v := ?_) rfl (by kernel_rfl) (by kernel_rfl) (by kernel_rfl) (fun _ _ _ h => h) (Or.inl ⟨by rfl, ?_⟩) (by assumption) ?_
    rotate_left
    · intro w' hSw
      obtain ⟨q1, q2, q3⟩ := hSw
      go_simp
      try with_reducible rfl
    try simp only [Act.put, List.setIfInBounds_toArray, List.set_cons_zero, List.set_cons_succ]
    refine wpAnyH_take (i := 6) (v := ?_) rfl (by kernel_rfl) (by kernel_rfl) (by kernel_rfl) (fun _ _ _ h => h) (Or.inl ⟨by rfl, ?_⟩) (by assumption) ?_
    rotate_left
    · intro w' hSw
      obtain ⟨q1, q2, q3⟩ := hSw
      go_simp
      try with_reducible rfl
    try simp only [Act.put, List.setIfInBounds_toArray, List.set_cons_zero, List.set_cons_succ]
    refine wpAnyH_take (i := 7) (v := ?_) rfl (by kernel_rfl) (by kernel_rfl) (by kernel_rfl) (fun _ _ _ h => h) (Or.inl ⟨by rfl, ?_⟩) (by assumption) ?_
    rotate_left
    · intro w' hSw
      obtain ⟨q1, q2, q3⟩ := hSw
      go_simp
      try with_reducible rfl
    try simp only [Act.put, List.setIfInBounds_toArray, List.set_cons_zero, List.set_cons_succ]
    refine wpAnyH_take (i := 8) (v := ?_) rfl (by kernel_rfl) (by kernel_rfl) (by kernel_rfl) (fun _ _ _ h => h) (Or.inl ⟨by rfl, ?_⟩) (by assumption) ?_
    rotate_left
    · intro w' hSw
      obtain ⟨q1, q2, q3⟩ := hSw
      go_simp
      try with_reducible rfl
    try simp only [Act.put, List.setIfInBounds_toArray, List.set_cons_zero, List.set_cons_succ]
    refine wpAnyH_take (i := 9) (v := ?_) rfl (by kernel_rfl) (by kernel_rfl) (by kernel_rfl) (fun _ _ _ h => h) (Or.inl ⟨by rfl, ?_⟩) (by assumption) ?_
    rotate_left
    · intro w' hSw
      obtain ⟨q1, q2, q3⟩ := hSw
      go_simp
      try with_reducible rfl
    try simp only [Act.put, List.setIfInBounds_toArray, List.set_cons_zero, List.set_cons_succ]
    refine wpAnyH_take (i := 10) (v := ?_) rfl (by kernel_rfl) (by kernel_rfl) (by kernel_rfl) (fun _ _ _ h => h) (Or.inl ⟨by rfl, ?_⟩) (by assumption) ?_
    rotate_left
    · intro w' hSw
      obtain ⟨q1, q2, q3⟩ := hSw
      go_simp
      try with_reducible rfl
    try simp only [Act.put, List.setIfInBounds_toArray, List.set_cons_zero, List.set_cons_succ]
    refine wpAnyH_take (i := 11) (v := ?_) rfl (by kernel_rfl) (by kernel_rfl) (by kernel_rfl) (fun _ _ _ h => h) (Or.inl ⟨by rfl, ?_⟩) (by assumption) ?_
    rotate_left
    · intro w' hSw
      obtain ⟨q1, q2, q3⟩ := hSw
      go_simp
      try with_reducible rfl
    try simp only [Act.put, List.setIfInBounds_toArray, List.set_cons_zero, List.set_cons_succ]
    refine wpAnyH_take (i := 12) (v := ?_) rfl (by kernel_rfl) (by kernel_rfl) (by kernel_rfl) (fun _ _ _ h => h) (Or.inl ⟨by rfl, ?_⟩) (by assumption) ?_
    rotate_left
    · intro w' hSw
      obtain ⟨q1, q2, q3⟩ := hSw
      go_simp
      try with_reducible rfl
    try simp only [Act.put, List.setIfInBounds_toArray, List.set_cons_zero, List.set_cons_succ]
    have hp0' : ∀ o, (W.alloc o).cell? ⟨w.heap.size, 0, none⟩ = some (.slice cr x cc) := fun o => oldCell o hp0
    refine wpAnyH_ready (rs := [4, 13]) (by kernel_rfl) (by simp) ?_
    refine AllReadyH.cons rfl (fun K hK => ?_) (AllReadyH.cons rfl (fun K hK => ?_) AllReadyH.nil)
    · go_simp
      refine hK.out _ _ ⟨a1, hx0, hx1⟩ (fun hHeld => ?_)
      clear hK
      try simp only [Act.put, List.setIfInBounds_toArray, List.set_cons_zero, List.set_cons_succ]
      refine wpAnyH_ready (rs := [13]) (by kernel_rfl) (by simp) ?_
      refine AllReadyH.cons rfl (fun K hK => ?_) AllReadyH.nil
      go_simp
      refine hK.out _ _ ⟨oldCell _ a1, oldCell _ hx0, oldCell _ hx1⟩ (fun hHeld => ?_)
      clear hK
      try simp only [Act.put, List.setIfInBounds_toArray, List.set_cons_zero, List.set_cons_succ]
      refine wpAnyH_ready (rs := [14]) (by kernel_rfl) (by simp) ?_
      refine AllReadyH.cons rfl (fun K hK => ?_) AllReadyH.nil
      refine step_append_run rfl _ _ _ _ rfl _ _ _ rfl rfl Hrun.out ?_
      refine hK.out _ _ ⟨b1, b3, b4⟩ (fun hHeld => ?_)
      clear hK
      try simp only [Act.put, List.setIfInBounds_toArray, List.set_cons_zero, List.set_cons_succ]
      refine wpAnyH_take (i := 15) (v := ?_) rfl (by kernel_rfl) (by kernel_rfl) (by kernel_rfl) (fun _ _ _ h => h) (Or.inl ⟨by rfl, ?_⟩) (by assumption) ?_
      rotate_left
      · intro w' hSw
        obtain ⟨q1, q2, q3⟩ := hSw
        go_simp
        try with_reducible rfl
      try simp only [Act.put, List.setIfInBounds_toArray, List.set_cons_zero, List.set_cons_succ]
      refine wpAnyH_take (i := 16) (v := ?_) rfl (by kernel_rfl) (by kernel_rfl) (by kernel_rfl) (fun _ _ _ h => h) (Or.inl ⟨by rfl, ?_⟩) (by assumption) ?_
      rotate_left
      · intro w' hSw
        obtain ⟨q1, q2, q3⟩ := hSw
        go_simp
        try with_reducible rfl
      try simp only [Act.put, List.setIfInBounds_toArray, List.set_cons_zero, List.set_cons_succ]
      refine wpAnyH_ready (rs := [17]) (by kernel_rfl) (by simp) ?_
      refine AllReadyH.cons rfl (fun K hK => ?_) AllReadyH.nil
      go_simp
      refine hK.out _ _ ⟨t4, t5, t2⟩ (fun hHeld => ?_)
      clear hK
      refine wpAnyH_done (by kernel_rfl) ?_ _
      gi_wp2
      gi_region
      all_goals gi_wp2
      all_goals rw [Hmx.out]
      all_goals exact ⟨⟨HStep.out.2.size, fun k o _ hk ho => HStep.out.2.same k o hk ho⟩, x + 1, by rw [List.range_succ], _, _, _, _, HStep.out.1⟩
    · go_simp
      refine hK.out _ _ ⟨oldCell _ a1, oldCell _ hx0, oldCell _ hx1⟩ (fun hHeld => ?_)
      clear hK
      try simp only [Act.put, List.setIfInBounds_toArray, List.set_cons_zero, List.set_cons_succ]
      refine wpAnyH_ready (rs := [4]) (by kernel_rfl) (by simp) ?_
      refine AllReadyH.cons rfl (fun K hK => ?_) AllReadyH.nil
      go_simp
      refine hK.out _ _ ⟨oldCell _ a1, oldCell _ hx0, oldCell _ hx1⟩ (fun hHeld => ?_)
      clear hK
      try simp only [Act.put, List.setIfInBounds_toArray, List.set_cons_zero, List.set_cons_succ]
      refine wpAnyH_ready (rs := [14]) (by kernel_rfl) (by simp) ?_
      refine AllReadyH.cons rfl (fun K hK => ?_) AllReadyH.nil
      refine step_append_run rfl _ _ _ _ rfl _ _ _ rfl rfl Hrun.out ?_
      refine hK.out _ _ ⟨b1, b3, b4⟩ (fun hHeld => ?_)
      clear hK
      try simp only [Act.put, List.setIfInBounds_toArray, List.set_cons_zero, List.set_cons_succ]
      refine wpAnyH_take (i := 15) (v := ?_) rfl (by kernel_rfl) (by kernel_rfl) (by kernel_rfl) (fun _ _ _ h => h) (Or.inl ⟨by rfl, ?_⟩) (by assumption) ?_
      rotate_left
      · intro w' hSw
        obtain ⟨q1, q2, q3⟩ := hSw
        go_simp
        try with_reducible rfl
      try simp only [Act.put, List.setIfInBounds_toArray, List.set_cons_zero, List.set_cons_succ]
      refine wpAnyH_take (i := 16) (v := ?_) rfl (by kernel_rfl) (by kernel_rfl) (by kernel_rfl) (fun _ _ _ h => h) (Or.inl ⟨by rfl, ?_⟩) (by assumption) ?_
      rotate_left
      · intro w' hSw
        obtain ⟨q1, q2, q3⟩ := hSw
        go_simp
        try with_reducible rfl
      try simp only [Act.put, List.setIfInBounds_toArray, List.set_cons_zero, List.set_cons_succ]
      refine wpAnyH_ready (rs := [17]) (by kernel_rfl) (by simp) ?_
      refine AllReadyH.cons rfl (fun K hK => ?_) AllReadyH.nil
      go_simp
      refine hK.out _ _ ⟨t4, t5, t2⟩ (fun hHeld => ?_)
      clear hK
      refine wpAnyH_done (by kernel_rfl) ?_ _
      gi_wp2
      gi_region
      all_goals gi_wp2
      all_goals rw [Hmx.out]
      all_goals exact ⟨⟨HStep.out.2.size, fun k o _ hk ho => HStep.out.2.same k o hk ho⟩, x + 1, by rw [List.range_succ], _, _, _, _, HStep.out.1⟩
  case done =>
    rintro D xs W hD hS ⟨i, rfl, cs, cr, cc, kd, hC⟩ hK
    have hA := MC.at_ hc ⟨cs, cr, cc, kd, hC⟩
    rw [ep, em, es, en, er, eo, el, ec, ek] at hA
    obtain ⟨a1, _, _, _, a5, _⟩ := hA
    have hk0 := hC.kind
    have hkd := hC.kd
    have hp1 := hC.one
    rw [ek] at hk0
    rw [ep] at hp1
    have hzw : c.w0.heap.size = w.heap.size + 5 := by rw [ew]; simp
    have hWs := hC.chg.size
    have h2W : ∀ j, j < states.length → W.cell? ⟨rb, o2 + j, none⟩ = some (.int .i64 (states.getD j 0)) := fun j hj => by
      rw [hC.chg.cell rb _ (by omega) (fun t => by rw [ep, ek] at t; omega), ew]
      exact oldCell _ (oldCell _ (oldCell _ (oldCell _ (oldCell _ (h2 j hj)))))
    obtain ⟨hd2, hJ2⟩ := mD1_ok w.heap.size (w.heap.size + 1) W rb o2 cap2 kd D states hrb (by omega) (by omega) (by omega) a1 h2W hb2 hN2 a5 hp1 hK
    have HC := hide2 hC
    clear hC a5 h2W hJ0 hIown hIyown hIzown
    gi_wp2_with (refine ⟨trivial, ?_⟩; gi_at_call 30; refine (chunk_in' _ _ _ _ (1 + kd) _ (by omega) (by omega) (by omega) _).mono ?_; rintro e w' ⟨rfl, rfl⟩)
    obtain ⟨d, hdd2⟩ : ∃ d, d = mD1 w.heap.size (w.heap.size + 1) W rb o2 cap2 kd D states := ⟨_, rfl⟩
    rw [← hdd2] at hd2 hJ2
    have fp : d.pb = w.heap.size := by rw [hdd2]; rfl
    have fm : d.mv = w.heap.size + 1 := by rw [hdd2]; rfl
    have fs : d.sb = W.heap.size := by rw [hdd2]; rfl
    have fn : d.nb = W.heap.size + 1 := by rw [hdd2]; rfl
    have fr : d.rb = rb := by rw [hdd2]; rfl
    have fo : d.ro = o2 := by rw [hdd2]; rfl
    have fl : d.l = states := by rw [hdd2]; rfl
    have fc : d.cap = cap2 := by rw [hdd2]; rfl
    have fk : d.k = 1 + kd := by rw [hdd2]; rfl
    have fD : d.d1 = D := by rw [hdd2]; rfl
    have fw : d.w0 = mW2 W rb o2 states.length cap2 (1 + (kd : Int)) := by rw [hdd2]; rfl
    clear hdd2
    have gIown := MD.J_own (c := d) (fun (xs : List Nat) i => xs = List.range i)
    have gIyown := MD.J_own (c := d) (fun (x : List Nat × Nat) i => x = (List.range i, i) ∧ i * (1 + kd) < states.length)
    have gIzown := MD.J_own (c := d) (fun (x : List Nat × Nat × Act) i => x = (List.range i, i, aM2 w W rb o1 o2 cuts.length states.length cap1 cap2 kd D (.slice (some ⟨rb, o2 + i * (1 + kd), none⟩) (min (1 + kd) (states.length - i * (1 + kd))) (min (1 + kd) (states.length - i * (1 + kd))))) ∧ i * (1 + kd) < states.length)
    rw [fw] at gIown gIyown gIzown
    refine wpIn_rangeFunc_st2 (α := Nat) rfl (by omega) (gf := 48) (lb := #[.pointer (some ⟨W.heap.size, 0, none⟩), .pointer (some ⟨W.heap.size + 1, 0, none⟩)]) rfl trivial (enters_of Tryd.func48 (by kernel_rfl) rfl) (encs := fun i => #[.slice (some ⟨rb, o2 + i * (1 + kd), none⟩) (min (1 + kd) (states.length - i * (1 + kd))) (min (1 + kd) (states.length - i * (1 + kd)))]) (S := fun xs => states.length ≤ xs.length * (1 + kd)) (Sp := fun _ => False) (fun x => rfl)
      (fun xs W => ∃ i, xs = List.range i ∧ d.J i W) (fun x W => ∃ i, (x = (List.range i, i) ∧ i * (1 + kd) < states.length) ∧ d.J i W) (fun _ _ _ => False) (fun x W' => ∃ i, (x = (List.range i, i, aM2 w W rb o1 o2 cuts.length states.length cap1 cap2 kd D (.slice (some ⟨rb, o2 + i * (1 + kd), none⟩) (min (1 + kd) (states.length - i * (1 + kd))) (min (1 + kd) (states.length - i * (1 + kd))))) ∧ i * (1 + kd) < states.length) ∧ d.J i W') gIzown gIown gIyown (fun _ => ⟨fun _ _ _ h _ => h, fun _ _ _ _ _ h _ _ => h⟩) ⟨0, rfl, hJ2⟩ ?seq2 ?assign2 ?body2 ?done2 ?stop2
    case stop2 => exact fun _ _ _ _ _ hS => hS.elim
    case seq2 =>
      intro l D2 ready dn hY W' hI hR
      obtain ⟨i2, hi, hj⟩ := hI
      have hi0 : i2 = 0 := by
        have := congrArg List.length hi
        simpa using this.symm
      subst hi0
      have := chunk1_in (5 - 1) l W.heap.size (W.heap.size + 1) rb o2 states.length cap2 (1 + kd) (by omega) (by omega) (by omega) (fun i W => d.J i W ∧ RecAt l D2 ready W)
        (fun i W h => by
          have h5 := MD.at_ hd2 h.1
          rw [fs, fn, fr, fo, fl, fc, fk] at h5
          exact ⟨h5.2.1, h5.2.2.1⟩) hc2 (fun i W h => ⟨by
          obtain ⟨zs, sr, sc, h5⟩ := h.1
          exact ⟨zs, sr, sc, h5.drew⟩, h.2⟩) (fun i W h hlt => by
          refine YieldAt.mono (hY (List.range i) i W ⟨i, ⟨rfl, hlt⟩, h.1⟩ h.2) ?_
          rintro e W' (⟨k1, ⟨i2, k2, k3⟩, k4⟩ | ⟨_, code, k, _⟩)
          · have : i2 = i + 1 := by
              have := congrArg List.length k2
              simpa using this.symm
            subst this
            exact ⟨k1, k3, k4⟩
          · exact k.elim) W' ⟨hj, hR⟩
      refine this.mono ?_
      rintro e W'' ⟨hv, i, k1, k2, k3, k4⟩
      exact ⟨hv, .inl ⟨List.range i, by simpa using k1, ⟨i, rfl, k3⟩, k4⟩⟩
    case assign2 =>
      rintro l pre x W' ⟨i, ⟨e, hlt⟩, hj⟩
      simp only [Prod.mk.injEq] at e
      obtain ⟨rfl, rfl⟩ := e
      gi_wp2
      exact ⟨KeepsFrom.refl _ _, x, ⟨rfl, hlt⟩, hj⟩
    case body2 =>
      rintro l pre x a' W' ⟨i, ⟨e, hlt⟩, hj⟩
      simp only [Prod.mk.injEq] at e
      obtain ⟨rfl, rfl, rfl⟩ := e
      obtain ⟨zs, sr, sc, hDD⟩ := hj
      have hA := MD.at_ hd2 ⟨zs, sr, sc, hDD⟩
      rw [fp, fm, fs, fn, fr, fo, fl, fc, fk] at hA
      obtain ⟨a1, _, _, a4, a5⟩ := hA
      obtain ⟨e, he⟩ : ∃ e, e = min (1 + kd) (states.length - x * (1 + kd)) := ⟨_, rfl⟩
      have he1 : 1 ≤ e := by omega
      have heb : e ≤ 2097153 := by omega
      have hoff : x * (1 + kd) + e ≤ states.length := by omega
      obtain ⟨of_, hof⟩ : ∃ of_, of_ = x * (1 + kd) := ⟨_, rfl⟩
      rw [← hof] at hoff
      have hget : ∀ j, j < states.length → ∃ y : Nat, W'.cell? ⟨rb, o2 + j, none⟩ = some (.int .i64 y) ∧ states.getD j 0 = (y : Int) ∧ y < 2097152 := fun j hj => by
        have hb := hb2 (states.getD j 0) (by rw [List.getD_eq_getElem?_getD, List.getElem?_eq_getElem hj]; exact List.getElem_mem _)
        obtain ⟨y, hy⟩ := Int.eq_ofNat_of_zero_le hb.1
        exact ⟨y, by rw [a4 j hj, hy], hy, by omega⟩
      obtain ⟨y0, hy0, _, hyb⟩ := hget of_ (by omega)
      obtain ⟨xs, hxs⟩ : ∃ xs : List Int, xs = ((states.drop (of_ + 1)).take (e - 1)).map (· - 1) := ⟨_, rfl⟩
      have hxl : xs.length = e - 1 := by rw [hxs, List.length_map, List.length_take, List.length_drop]; omega
      have hxg : ∀ j, j < e - 1 → ∃ y : Nat, W'.cell? ⟨rb, o2 + of_ + 1 + j, none⟩ = some (.int .i64 y) ∧ xs[j]? = some ((y : Int) - 1) ∧ y < 2097152 := fun j hj => by
        obtain ⟨y, h5, h6, h7⟩ := hget (of_ + 1 + j) (by omega)
        refine ⟨y, by rw [show o2 + of_ + 1 + j = o2 + (of_ + 1 + j) by omega]; exact h5, ?_, h7⟩
        rw [hxs, List.getElem?_map, List.getElem?_take_of_lt (by omega), List.getElem?_drop, ← h6, List.getD_eq_getElem?_getD, List.getElem?_eq_getElem (by omega)]; rfl
      have hxb : ∀ v ∈ xs, -1 ≤ v ∧ v < 2097152 := fun v hv => by
        obtain ⟨j, hj, rfl⟩ := List.mem_iff_getElem.1 hv
        obtain ⟨y, _, h6, h7⟩ := hxg j (by omega)
        rw [List.getElem?_eq_getElem hj, Option.some.injEq] at h6
        rw [h6]; omega
      obtain ⟨o3, hif, ho3⟩ : ∃ o3, (if e = 1 then some (⟨rb, o2 + of_, none⟩ : Addr) else some ⟨rb, o2 + of_ + 1, none⟩) = some ⟨rb, o3, none⟩ ∧ (0 < e - 1 → o3 = o2 + of_ + 1) := by
        by_cases h1 : e = 1
        · exact ⟨o2 + of_, by rw [if_pos h1], by omega⟩
        · exact ⟨o2 + of_ + 1, by rw [if_neg h1], fun _ => rfl⟩
      have hwz : W.heap.size ≤ W'.heap.size := by have := hDD.chg.size; rw [fw] at this; simp at this; omega
      have hrbW : rb < W'.heap.size := by omega
      have HXG := hide2 hxg
      have HDD := hide2 hDD
      have HXB := hide2 hxb
      have Hhe := hide2 he
      have Hhof := hide2 hof
      simp only [aM2]
      rw [← he, ← hof]
      clear hxg hDD hxb hget hxs a4 he hof h1 h2 hJ2 gIown gIyown gIzown
      gi_wp2
      gi_loopw [53] (fun jv wr => ∃ (j : Nat) (na : Option Addr) (nc : Nat), jv = .int .i64 j ∧ j ≤ e - 1 ∧ Hid (Und W' wr W'.heap.size ((y0 : Int) - 1) xs j na nc)) (fun jv _ => e - 1 - (intOf jv).toNat)
      case atStart => exact ⟨0, none, 0, rfl, Nat.zero_le _, hide2 (Und.start W' _ xs)⟩
      case round =>
        obtain ⟨j, na, nc, rfl, hj, HU⟩ := hrel
        have u0 := HU.out.c0
        have u1 := HU.out.c1
        have uf := HU.out.fr
        by_cases hlj : j < e - 1
        · obtain ⟨y, hy, hxj, hyb2⟩ := HXG.out j hlj
          have hyc : wr.cell? ⟨rb, o3 + j, none⟩ = some (.int .i64 y) := by
            rw [ho3 (by omega)]
            exact (HU.out.below.cell (p := ⟨rb, o2 + of_ + 1 + j, none⟩) hrbW).trans hy
          obtain ⟨na2, nc2, w5, hrun, hrow, hch, hmv⟩ := append_one (w := wr) 61 3 (.int .i64 0) 8 info_int rfl Tryd.underlying61 (by omega) HU.out.row (.int .i64 ((y : Int) - 1)) rfl (by omega) 61 3
          obtain ⟨k1, k2, k3⟩ := HU.out.step _ hxj hrow hch hmv
          have Hrun := hide2 hrun
          have K1 := hide2 k1
          clear hrun hrow hch hmv k1 hy hxj
          gi_wp2_with (gi_at_builtin; refine wpListIn_append_run rfl _ _ _ _ rfl _ _ _ rfl rfl Hrun.out ?_)
          go_roundw
          case rel => exact ⟨j + 1, na2, nc2, by go_num, by omega, K1⟩
          case measure => simp [intOf]; omega
        · obtain rfl : j = e - 1 := by omega
          have hDD := HDD.out
          have hU : Und W' wr.drew W'.heap.size ((y0 : Int) - 1) xs xs.length na nc := by rw [hxl]; exact HU.out.drew
          obtain ⟨sr2, sc2, W2, hrun, hrow, hch, hmv⟩ := append_new (w := wr.drew) 98 104 _ 2 32 info_state rfl (by omega) Tryd.underlying98 (by omega) (hDD.row.below hU.below) [.int .i64 ((y0 : Int) - 1), .slice na (e - 1) nc] rfl (fun u hu => by
            simp only [List.mem_cons, List.not_mem_nil, or_false] at hu
            rcases hu with rfl | rfl <;> rfl) (by
              have h5 : x ≤ x * (1 + kd) := Nat.le_mul_of_pos_right _ (by omega)
              omega) 98 104
          have hrow' := hrow
          rw [← hxl] at hrow'
          obtain ⟨g1, g2, g3, g4, g5⟩ := MD.D.step hd2 hDD (by rw [fk, fl]; exact hlt) hU (by omega) HXB.out (by rw [hxl, fk, fl, ← Hhe.out]; omega) hrow' hch hmv
          rw [fp] at g1 g2 g3 g4 g5
          rw [fm] at g5
          have hp1 : wr.cell? ⟨w.heap.size, 1, none⟩ = some (.slice sr x sc) := by
            have h5 := hDD.cell
            rw [fp] at h5
            exact (HU.out.below.cell (p := ⟨w.heap.size, 1, none⟩) (cell_lt h5)).trans h5
          have hm1 : wr.cell? ⟨w.heap.size + 1, 0, none⟩ = some (.pointer (some ⟨w.heap.size, 0, none⟩)) := (HU.out.below.cell (p := ⟨w.heap.size + 1, 0, none⟩) (cell_lt a1)).trans a1
          have hsvs : W'.heap.size < wr.heap.size := cell_lt u0
          have hnsr : ∀ j, ¬ rowT sr W'.heap.size j := by
            intro j t
            obtain ⟨o, e5⟩ := t
            have h5 := hDD.row.lt e5
            omega
          have b2 : W2.cell? ⟨W'.heap.size, 0, none⟩ = some (.int .i64 ((y0 : Int) - 1)) := (hch.cell _ _ hsvs (hnsr _)).trans u0
          have b3 : W2.cell? ⟨W'.heap.size, 1, none⟩ = some (.slice na (e - 1) nc) := (hch.cell _ _ hsvs (hnsr _)).trans u1
          have b1 := g5
          obtain ⟨W5, hW5⟩ : ∃ W5, W2.setCell ⟨w.heap.size, 1, none⟩ (.slice sr2 (x + 1) sc2) = W5 := ⟨_, rfl⟩
          have hne1 : w.heap.size ≠ W'.heap.size := by have := cell_lt a1; omega
          have t1 : W5.cell? ⟨w.heap.size + 1, 0, none⟩ = some (.pointer (some ⟨w.heap.size, 0, none⟩)) := by
            rw [← hW5]
            exact (World.cell?_setCell_other _ _ _ _ (fun e => by have := congrArg Addr.block e; simp at this)).trans b1
          have t2 : W5.cell? ⟨W'.heap.size, 0, none⟩ = some (.int .i64 ((y0 : Int) - 1)) := by
            rw [← hW5]
            exact (World.cell?_setCell_other _ _ _ _ (fun e => by have := congrArg Addr.block e; simp at this; omega)).trans b2
          have t3 : W5.cell? ⟨W'.heap.size, 1, none⟩ = some (.slice na (e - 1) nc) := by
            rw [← hW5]
            exact (World.cell?_setCell_other _ _ _ _ (fun e => by have := congrArg Addr.block e; simp at this; omega)).trans b3
          rw [hW5] at g1 g2
          have G1 := hide2 g1
          have G2 := hide2 g2
          have Hrun := hide2 hrun
          have hp1' : ∀ o, (wr.alloc o).cell? ⟨w.heap.size, 1, none⟩ = some (.slice sr x sc) := fun o => oldCell o hp1
          clear hrun hrow hrow' hch hmv g1 g2 g5 hDD hU hnsr
          gi_wp2
          refine wpIn_round_held (S := fun w' => w'.cell? ⟨w.heap.size + 1, 0, none⟩ = some (.pointer (some ⟨w.heap.size, 0, none⟩)) ∧ w'.cell? ⟨W'.heap.size, 0, none⟩ = some (.int .i64 ((y0 : Int) - 1)) ∧ w'.cell? ⟨W'.heap.size, 1, none⟩ = some (.slice na (e - 1) nc)) (by kernel_rfl) (by kernel_rfl) (by rintro ⟨a, w, h⟩; exact h) ⟨hm1, u0, u1⟩ (fun hHeld => ?_)
          refine wpAnyH_take (i := 0) (v := ?_) rfl (by kernel_rfl) (by kernel_rfl) (by kernel_rfl) (fun _ _ _ h => h) (Or.inl ⟨by rfl, ?_⟩) (by assumption) ?_
          rotate_left
          · intro w' hSw
            obtain ⟨q1, q2, q3⟩ := hSw
            go_simp
            try with_reducible rfl
          try simp only [Act.put, List.setIfInBounds_toArray, List.set_cons_zero, List.set_cons_succ]
          refine wpAnyH_take (i := 1) (v := ?_) rfl (by kernel_rfl) (by kernel_rfl) (by kernel_rfl) (fun _ _ _ h => h) (Or.inl ⟨by rfl, ?_⟩) (by assumption) ?_
          rotate_left
          · intro w' hSw
            obtain ⟨q1, q2, q3⟩ := hSw
            go_simp
            try with_reducible rfl
          try simp only [Act.put, List.setIfInBounds_toArray, List.set_cons_zero, List.set_cons_succ]
          refine wpAnyH_take (i := 2) (v := ?_) rfl (by kernel_rfl) (by kernel_rfl) (by kernel_rfl) (fun _ _ _ h => h) (Or.inl ⟨by rfl, ?_⟩) (by assumption) ?_
          rotate_left
          · intro w' hSw
            obtain ⟨q1, q2, q3⟩ := hSw
            go_simp
            try with_reducible rfl
          try simp only [Act.put, List.setIfInBounds_toArray, List.set_cons_zero, List.set_cons_succ]
          refine wpAnyH_take (i := 3) (v := ?_) rfl (by kernel_rfl) (by kernel_rfl) (by kernel_rfl) (fun _ _ _ h => h) (Or.inl ⟨by rfl, ?_⟩) (by assumption) ?_
          rotate_left
          · intro w' hSw
            obtain ⟨q1, q2, q3⟩ := hSw
            go_simp
            try with_reducible rfl
          try simp only [Act.put, List.setIfInBounds_toArray, List.set_cons_zero, List.set_cons_succ]
          refine wpAnyH_take (i := 5) (v := ?_) rfl (by kernel_rfl) (by kernel_rfl) (by kernel_rfl) (fun _ _ _ h => h) (Or.inl ⟨by rfl, ?_⟩) (by assumption) ?_
          rotate_left
          · intro w' hSw
            obtain ⟨q1, q2, q3⟩ := hSw
            go_simp
            try with_reducible rfl
          try simp only [Act.put, List.setIfInBounds_toArray, List.set_cons_zero, List.set_cons_succ]
          refine wpAnyH_ready (rs := [4, 6]) (by kernel_rfl) (by simp) ?_
          refine AllReadyH.cons rfl (fun K hK => ?_) (AllReadyH.cons rfl (fun K hK => ?_) AllReadyH.nil)
          · go_simp
            refine hK.out _ _ ⟨hm1, u0, u1⟩ (fun hHeld => ?_)
            clear hK
            try simp only [Act.put, List.setIfInBounds_toArray, List.set_cons_zero, List.set_cons_succ]
            refine wpAnyH_ready (rs := [6]) (by kernel_rfl) (by simp) ?_
            refine AllReadyH.cons rfl (fun K hK => ?_) AllReadyH.nil
            go_simp
            refine hK.out _ _ ⟨oldCell _ hm1, oldCell _ u0, oldCell _ u1⟩ (fun hHeld => ?_)
            clear hK
            try simp only [Act.put, List.setIfInBounds_toArray, List.set_cons_zero, List.set_cons_succ]
            refine wpAnyH_ready (rs := [7]) (by kernel_rfl) (by simp) ?_
            refine AllReadyH.cons rfl (fun K hK => ?_) AllReadyH.nil
            refine step_append_run rfl _ _ _ _ rfl _ _ _ rfl rfl Hrun.out ?_
            refine hK.out _ _ ⟨b1, b2, b3⟩ (fun hHeld => ?_)
            clear hK
            try simp only [Act.put, List.setIfInBounds_toArray, List.set_cons_zero, List.set_cons_succ]
            refine wpAnyH_take (i := 8) (v := ?_) rfl (by kernel_rfl) (by kernel_rfl) (by kernel_rfl) (fun _ _ _ h => h) (Or.inl ⟨by rfl, ?_⟩) (by assumption) ?_
            rotate_left
            · intro w' hSw
              obtain ⟨q1, q2, q3⟩ := hSw
              go_simp
              try with_reducible rfl
            try simp only [Act.put, List.setIfInBounds_toArray, List.set_cons_zero, List.set_cons_succ]
            refine wpAnyH_take (i := 9) (v := ?_) rfl (by kernel_rfl) (by kernel_rfl) (by kernel_rfl) (fun _ _ _ h => h) (Or.inl ⟨by rfl, ?_⟩) (by assumption) ?_
            rotate_left
            · intro w' hSw
              obtain ⟨q1, q2, q3⟩ := hSw
              go_simp
              try with_reducible rfl
            try simp only [Act.put, List.setIfInBounds_toArray, List.set_cons_zero, List.set_cons_succ]
            refine wpAnyH_ready (rs := [10]) (by kernel_rfl) (by simp) ?_
            refine AllReadyH.cons rfl (fun K hK => ?_) AllReadyH.nil
            go_simp
            refine hK.out _ _ ⟨t1, t2, t3⟩ (fun hHeld => ?_)
            clear hK
            refine wpAnyH_done (by kernel_rfl) ?_ _
            gi_wp2
            exact ⟨⟨G2.out.size, fun k o _ hk ho => G2.out.same k o hk ho⟩, x + 1, by rw [List.range_succ], _, _, _, G1.out⟩
          · go_simp
            refine hK.out _ _ ⟨oldCell _ hm1, oldCell _ u0, oldCell _ u1⟩ (fun hHeld => ?_)
            clear hK
            try simp only [Act.put, List.setIfInBounds_toArray, List.set_cons_zero, List.set_cons_succ]
            refine wpAnyH_ready (rs := [4]) (by kernel_rfl) (by simp) ?_
            refine AllReadyH.cons rfl (fun K hK => ?_) AllReadyH.nil
            go_simp
            refine hK.out _ _ ⟨oldCell _ hm1, oldCell _ u0, oldCell _ u1⟩ (fun hHeld => ?_)
            clear hK
            try simp only [Act.put, List.setIfInBounds_toArray, List.set_cons_zero, List.set_cons_succ]
            refine wpAnyH_ready (rs := [7]) (by kernel_rfl) (by simp) ?_
            refine AllReadyH.cons rfl (fun K hK => ?_) AllReadyH.nil
            refine step_append_run rfl _ _ _ _ rfl _ _ _ rfl rfl Hrun.out ?_
            refine hK.out _ _ ⟨b1, b2, b3⟩ (fun hHeld => ?_)
            clear hK
            try simp only [Act.put, List.setIfInBounds_toArray, List.set_cons_zero, List.set_cons_succ]
            refine wpAnyH_take (i := 8) (v := ?_) rfl (by kernel_rfl) (by kernel_rfl) (by kernel_rfl) (fun _ _ _ h => h) (Or.inl ⟨by rfl, ?_⟩) (by assumption) ?_
            rotate_left
            · intro w' hSw
              obtain ⟨q1, q2, q3⟩ := hSw
              go_simp
              try with_reducible rfl
            try simp only [Act.put, List.setIfInBounds_toArray, List.set_cons_zero, List.set_cons_succ]
            refine wpAnyH_take (i := 9) (v := ?_) rfl (by kernel_rfl) (by kernel_rfl) (by kernel_rfl) (fun _ _ _ h => h) (Or.inl ⟨by rfl, ?_⟩) (by assumption) ?_
            rotate_left
            · intro w' hSw
              obtain ⟨q1, q2, q3⟩ := hSw
              go_simp
              try with_reducible rfl
            try simp only [Act.put, List.setIfInBounds_toArray, List.set_cons_zero, List.set_cons_succ]
            refine wpAnyH_ready (rs := [10]) (by kernel_rfl) (by simp) ?_
            refine AllReadyH.cons rfl (fun K hK => ?_) AllReadyH.nil
            go_simp
            refine hK.out _ _ ⟨t1, t2, t3⟩ (fun hHeld => ?_)
            clear hK
            refine wpAnyH_done (by kernel_rfl) ?_ _
            gi_wp2
            exact ⟨⟨G2.out.size, fun k o _ hk ho => G2.out.same k o hk ho⟩, x + 1, by rw [List.range_succ], _, _, _, G1.out⟩
    case done2 =>
      rintro D2 xs W'' hD2 hS2 ⟨i2, rfl, zs, sr, sc, hDD⟩ hK2
      have hD2' : (mW2 W rb o2 states.length cap2 (1 + (kd : Int))).heap.size ≤ D2 := hD2
      have hDlt : D < W.heap.size := (Array.getElem?_eq_some_iff.1 hK).1
      have hz2 : (mW2 W rb o2 states.length cap2 (1 + (kd : Int))).heap.size = W.heap.size + 2 := by simp
      have hdfr := hDD.dfr
      rw [fD] at hdfr
      have hK1 : (W''.putObj D2 (.deferred none)).heap[D]? = some (.deferred (some [])) := (World.putObj_heap_other (by omega)).trans hdfr
      have hC := HC.out
      have hA := MD.at_ hd2 ⟨zs, sr, sc, hDD⟩
      rw [fp, fm] at hA
      have q1 := hA.1
      have hi : 2 * i = cuts.length := by
        have h5 := hC.le
        rw [el] at h5
        simp only [List.length_range] at hS
        omega
      have hbW : Below w.heap.size w W := by
        have h5 : Below w.heap.size w c.w0 := by
          rw [ew]
          exact (((((Below.refl _ _).alloc (Nat.le_refl _) _).alloc (by simp) _).alloc (by simp; omega) _).alloc (by simp; omega) _).alloc (by simp; omega) _
        refine h5.trans (hC.chg.below (by omega) (fun k o hk t => ?_))
        rw [ep, ek] at t; omega
      have hbm : Below W.heap.size W d.w0 := by
        rw [fw]
        exact ((Below.refl _ _).alloc (Nat.le_refl _) _).alloc (by simp) _
      have hbW2 : Below w.heap.size w W'' := by
        refine (hbW.trans (hbm.mono (by omega))).trans (hDD.chg.below (by rw [fw, hz2]; omega) (fun k o hk t => ?_))
        rw [fp] at t; omega
      have hmade : Made w W'' w.heap.size cs zs cuts.length states.length := by
        refine ⟨⟨cr, cc, ?_, ?_⟩, ⟨sr, sc, ?_, by rw [hDD.len]; exact hDD.row⟩, hDD.rows, hC.bd, hDD.bd, by rw [hC.len]; exact hi, ?_, hbW2, Nat.le_refl _⟩
        · have h5 := hC.cell
          rw [ep] at h5
          rw [hC.len, hDD.chg.cell _ _ (by rw [fw, hz2]; omega) (fun t => by have := t.2; omega)]
          exact (hbm.cell (p := ⟨w.heap.size, 0, none⟩) (cell_lt h5)).trans h5
        · rw [hC.len]
          refine (hC.row.below hbm).of hDD.chg (fun rb2 ro j e t => ?_)
          have h5 := hC.new rb2 ro e
          have h6 := t.1
          rw [fp] at h6
          omega
        · have h5 := hDD.cell
          rw [fp] at h5
          rw [hDD.len]; exact h5
        · rw [hDD.sum, fl, fk]
          simp only [List.length_range] at hS2
          omega
      have k1 := kept_put (o' := .deferred none) hK2 rfl rfl
      have k2 := kept_put (o' := .deferred none) hK1 rfl rfl
      have hDw : w.heap.size ≤ D := by
        have h5 : c.w0.heap.size ≤ D := by rw [ew]; exact hD
        omega
      have hD2w : w.heap.size ≤ D2 := by omega
      have hfin := (hmade.kept k1 (below_put hbW2 hD2w _)).kept k2 (below_put (below_put hbW2 hD2w _) hDw _)
      have HF := hide2 hfin
      clear hfin hmade hC hDD HC hA gIown gIyown gIzown hJ2 h1 h2
      gi_wp2
      refine ⟨by simp, .inl ⟨_, _, rfl, run_takeDeferred hK2, ?_⟩⟩
      refine ⟨by simp, .inl ⟨_, _, rfl, run_takeDeferred hK1, ?_⟩⟩
      exact ⟨_, results_tmp rfl _ _ _, _, cs, zs, rfl, HF.out⟩
end Go.Proofs.YtlhokghgicgppaaDoor
