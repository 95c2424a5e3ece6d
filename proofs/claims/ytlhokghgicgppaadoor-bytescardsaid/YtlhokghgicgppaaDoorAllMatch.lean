/- (*Machine).allMatch. -/
import Derived.Test.YtlhokghgicgppaaDoorMark
set_option linter.unusedSimpArgs false
set_option linter.unusedVariables false
namespace Go.Proofs.YtlhokghgicgppaaDoor
open Go.RowKit Go.Extern

theorem madeCells_at (z : Value) (n j : Nat) (h : j < n) : (madeCells #[z] n)[j]? = some z := by
  unfold madeCells
  simp [h, Nat.mod_one]
theorem BefAt.start (w : World) (n : Nat) : BefAt (w.alloc (.cells (madeCells #[.slice none 0 0] n) 61)) w.heap.size n 0 (fun _ => (none, 0, [])) :=
  ⟨fun j hj => by rw [World.cell?_alloc_at _ _ _ _ rfl, madeCells_at _ _ _ hj]; rfl, fun j hj => RowAt.nil 1 _, fun j hj x hx => absurd hx (by simp), (fun j hj b o e => by cases e), (fun j j' _ _ _ b o o' e => by cases e), fun j hj => Nat.le_refl _, fun j => World.frozen?_alloc_at _ _ _ _ rfl⟩
theorem BefAt.below {W W' : World} {ba n cnt : Nat} {f : Nat → Option Addr × Nat × List Int} (h : BefAt W ba n cnt f) (hba : ba < W.heap.size) (hb : Below W.heap.size W W') : BefAt W' ba n cnt f := h.of hba (Chg.of_below (T := fun _ _ => False) hb) (fun _ t => t) (fun _ _ _ _ _ _ t => t)
/-- One more in a row. -/
theorem BefAt.push {W W2 : World} {ba n cnt : Nat} {f : Nat → Option Addr × Nat × List Int} (h : BefAt W ba n cnt f) (hba : ba < W.heap.size) (q : Nat) (hq : q < n) (x : Int) (hx : 0 ≤ x ∧ x < (n : Int)) {ra2 : Option Addr} {rc2 : Nat}
    (hrow : RowAt 1 W2 ra2 rc2 ((f q).2.2.length + 1) (intsV (f q).2.2 ++ [.int .i64 x])) (hch : Chg (rowT (f q).1) W W2) (hmv : Moved W (f q).1 ra2) :
    BefAt (W2.setCell ⟨ba, q, none⟩ (.slice ra2 ((f q).2.2.length + 1) rc2)) ba n (cnt + 1) (fun j => if j = q then (ra2, rc2, (f q).2.2 ++ [x]) else f j) ∧ W2.cell? ⟨ba, q, none⟩ = some (.slice (f q).1 (f q).2.2.length (f q).2.1) ∧ W2.frozen? ⟨ba, q, none⟩ = false ∧ (∀ b o, ra2 = some ⟨b, o, none⟩ → (f q).1 = some ⟨b, o, none⟩ ∨ W.heap.size ≤ b) := by
  have hn1 : ∀ b o, (f q).1 = some ⟨b, o, none⟩ → ba < b := h.new q hq
  have hmv2 : ∀ b o, ra2 = some ⟨b, o, none⟩ → (f q).1 = some ⟨b, o, none⟩ ∨ W.heap.size ≤ b := by
    intro b o e
    rcases hmv with hm | ⟨rb, e2, g⟩
    · rw [hm] at e; exact .inl e
    · rw [e2] at e; cases e; exact .inr g
  have hn2 : ∀ b o, ra2 = some ⟨b, o, none⟩ → ba < b := by
    intro b o e
    rcases hmv2 b o e with g | g
    · exact hn1 b o g
    · omega
  have hnot : ∀ j, ¬ rowT (f q).1 ba j := by
    intro j t
    obtain ⟨o, e⟩ := t
    have h5 := hn1 ba o e
    omega
  have hcell : W2.cell? ⟨ba, q, none⟩ = some (.slice (f q).1 (f q).2.2.length (f q).2.1) := (hch.cell _ _ hba (hnot _)).trans (h.cell q hq)
  have hset : Chg (fun i j => i = ba ∧ j = q) W2 (W2.setCell ⟨ba, q, none⟩ (.slice ra2 ((f q).2.2.length + 1) rc2)) := Chg.setCell1 (T := fun i j => i = ba ∧ j = q) ⟨rfl, rfl⟩ _
  have hba2 : ba < W2.heap.size := by have := hch.size; omega
  refine ⟨⟨fun j hj => ?_, fun j hj => ?_, fun j hj y hy => ?_, fun j hj b o e => ?_, fun j j' hj hj' hne b o o' e e' => ?_, fun j hj => ?_, fun j => ?_⟩, hcell, (hch.frz _ _ hba).trans (h.free q), hmv2⟩
  · by_cases e : j = q
    · subst e
      simp only [if_true]
      rw [List.length_append]
      exact World.cell?_setCell_same _ _ _ hcell
    · simp only [if_neg e]
      rw [World.cell?_setCell_other _ _ _ _ (fun e2 => e (congrArg Addr.off e2).symm), hch.cell _ _ hba (hnot _)]
      exact h.cell j hj
  · by_cases e : j = q
    · subst e
      simp only [if_true]
      rw [List.length_append, ← intsV_snoc]
      exact hrow.of hset (fun rb ro k e2 t => by have h5 := hn2 rb ro e2; have h6 := t.1; omega)
    · simp only [if_neg e]
      refine ((h.row j hj).of hch (fun rb ro k e2 t => ?_)).of hset (fun rb ro k e2 t => by have h5 := h.new j hj rb ro e2; have h6 := t.1; omega)
      obtain ⟨o, e3⟩ := t
      exact h.apart j q hj hq e rb ro o e2 e3
  · by_cases e : j = q
    · subst e
      simp only [if_true] at hy
      rcases List.mem_append.1 hy with hy | hy
      · exact h.bd j hj y hy
      · simp only [List.mem_singleton] at hy
        subst hy
        exact hx
    · simp only [if_neg e] at hy
      exact h.bd j hj y hy
  · by_cases e2 : j = q
    · subst e2
      simp only [if_true] at e
      exact hn2 b o e
    · simp only [if_neg e2] at e
      exact h.new j hj b o e
  · by_cases e2 : j = q
    · have e3 : ¬ j' = q := fun e4 => hne (by rw [e2, e4])
      subst e2
      simp only [if_true] at e
      simp only [if_neg e3] at e'
      rcases hmv2 b o e with g | g
      · exact h.apart j j' hj hj' hne b o o' g e'
      · have h5 := (h.row j' hj').lt e'
        omega
    · simp only [if_neg e2] at e
      by_cases e3 : j' = q
      · subst e3
        simp only [if_true] at e'
        rcases hmv2 b o' e' with g | g
        · exact h.apart j j' hj hj' hne b o o' e g
        · have h5 := (h.row j hj).lt e
          omega
      · simp only [if_neg e3] at e'
        exact h.apart j j' hj hj' hne b o o' e e'
  · by_cases e : j = q
    · subst e
      simp only [if_true]
      rw [List.length_append]
      have := h.le j hj
      simp only [List.length_cons, List.length_nil]; omega
    · simp only [if_neg e]
      have := h.le j hj
      omega
  · rw [World.frozen?_setCell, hch.frz _ _ hba]; exact h.free j
theorem Caught.At.below {c : Caught} {W W' : World} {bs : List Bool} (h : c.At W bs) (hn : 0 < c.n) (hb : Below W.heap.size W W') : c.At W' bs := by
  have hk := Kept.of_below hb
  have hms := h.ms 0 hn
  exact ⟨hk.cell _ _ _ h.m, fun j hj => hk.cell _ _ _ (h.ms j hj), fun j => (hk.frz _ _ (cell_lt hms)).trans (h.mf j), hk.cell _ _ _ h.ct, (hk.frz _ _ (cell_lt h.ct)).trans h.cf, hk.cell _ _ _ h.b, h.bf.below (cell_lt (h.bf.cell 0 hn)) hb, hk.cell _ _ _ h.k, h.len⟩

theorem rep_get (n j : Nat) : (List.replicate n false).getD j false = false := by
  rw [List.getD_eq_getElem?_getD, List.getElem?_replicate]
  split <;> rfl
theorem rep_trues (n : Nat) : trues (List.replicate n false) = 0 := by
  unfold trues
  rw [List.count_replicate]
  simp

set_option maxRecDepth 100000 in
set_option maxHeartbeats 4000000 in
theorem allMatch_any (w : World) (B p : Nat) (m : Sg.Mach) (hm : m.Ok) (M : MachIn w B p m) (hn : m.states.length ≤ 201) (hwd : ∀ s, s < m.states.length → m.width s < 1000000) :
    Calls Tryd.prog 34 #[.pointer (some ⟨p, 0, none⟩)] w fun e w' => (∃ b : Bool, e = .returned (.bool b)) ∧ Below w.heap.size w w' := by
  obtain ⟨cb, co, cc, sb, so, sc, nb, no, nc, M, l1, l2, l3, l4, l5⟩ := M
  have hc1 := M.c1
  have hs0 := hm.states0
  have HM := hide2 M
  have Hm := hide2 hm
  have HW := hide2 hwd
  clear M hm hwd
  have hmk := run_make_row' (P := Tryd.prog) 145 61 (.slice none 0 0) 24 Tryd.underlying145 (by kernel_rfl) rfl .i64 .i64 m.states.length (by omega) (by omega) w
  have hc1' : ((w.alloc (.cells (madeCells #[.slice none 0 0] m.states.length) 61)).alloc (.cells #[.slice (some ⟨w.heap.size, 0, none⟩) m.states.length m.states.length] 145)).cell? ⟨p, 1, none⟩ = some (.slice (some ⟨sb, so, none⟩) m.states.length sc) := oldCell _ (oldCell _ hc1)
  go_enter Tryd.func34, Tryd.ntmps34
  go_wp2
  go_loopw [24] (fun iv wr => ∃ (i cnt : Nat) (f : Nat → Option Addr × Nat × List Int), iv = .int .i64 i ∧ i ≤ m.states.length ∧ cnt ≤ i * 1000000 ∧ wr.cell? ⟨w.heap.size + 1, 0, none⟩ = some (.slice (some ⟨w.heap.size, 0, none⟩) m.states.length m.states.length) ∧ Hid (Below w.heap.size w wr ∧ BefAt wr w.heap.size m.states.length cnt f ∧ ∀ j, j < m.states.length → ∀ b o, (f j).1 = some ⟨b, o, none⟩ → w.heap.size + 1 < b)) (fun iv _ => m.states.length - (intOf iv).toNat)
  case atStart =>
    refine ⟨0, 0, fun _ => (none, 0, []), rfl, Nat.zero_le _, Nat.zero_le _, newCell _ _ _ _ (by simp), hide2 ⟨((Below.refl _ _).alloc (Nat.le_refl _) _).alloc (by simp) _, (BefAt.start w m.states.length).below (by simp) ((Below.refl _ _).alloc (Nat.le_refl _) _), (fun j hj b o e => by cases e)⟩⟩
  case round =>
    obtain ⟨i, cnt, f, rfl, hi, hcnt, hbv, H⟩ := hrel
    by_cases hlt : i < m.states.length
    · have Mr := HM.out.below H.out.1
      have hru := Mr.rule i hlt
      have hnx := Mr.next i hlt
      have hwi := HW.out i hlt
      have hbw := H.out.1
      have hsz : w.heap.size + 1 < wr.heap.size := cell_lt hbv
      clear Mr
      go_wp2
      go_loopw [32] (fun kv wr2 => ∃ (k cnt2 : Nat) (f2 : Nat → Option Addr × Nat × List Int), kv = .int .i64 k ∧ k ≤ m.width i ∧ cnt2 ≤ i * 1000000 + k ∧ wr2.cell? ⟨w.heap.size + 1, 0, none⟩ = some (.slice (some ⟨w.heap.size, 0, none⟩) m.states.length m.states.length) ∧ Hid (Below w.heap.size w wr2 ∧ BefAt wr2 w.heap.size m.states.length cnt2 f2 ∧ ∀ j, j < m.states.length → ∀ b o, (f2 j).1 = some ⟨b, o, none⟩ → w.heap.size + 1 < b)) (fun kv _ => m.width i - (intOf kv).toNat)
      case atStart => exact ⟨0, cnt, f, rfl, Nat.zero_le _, Nat.le_trans hcnt (Nat.le_add_right _ _), oldCell _ hbv, hide2 ⟨hbw.alloc hbw.size _, H.out.2.1.below (by omega) ((Below.refl _ _).alloc (Nat.le_refl _) _), H.out.2.2⟩⟩
      case round =>
        obtain ⟨k, cnt2, f2, rfl, hk, hcnt2, hbv2, H2⟩ := hrel
        by_cases hlk : k < m.width i
        · have Mr2 := HM.out.below H2.out.1
          have hto := Mr2.to i k hlt hlk
          have hnr := Hm.out.nexts i hlt k hlk
          clear Mr2
          by_cases hn1 : m.next i k = -1
          · rw [hn1] at hto
            go_wp2
            go_roundw
            case rel => exact ⟨k + 1, cnt2, f2, by go_num, by omega, by omega, hbv2, H2⟩
            case measure => simp [intOf]; omega
          · obtain ⟨y, hy⟩ := Int.eq_ofNat_of_zero_le (show 0 ≤ m.next i k by rcases hnr with t | t; exact absurd t hn1; exact t.1)
            have hyl : y < m.states.length := by rcases hnr with t | t; exact absurd t hn1; have := t.2; omega
            rw [hy] at hto hn1
            have hy1 : ((y : Int) != -1) = true := bne_iff_ne.2 hn1
            have hy2 : ((y : Int) == -1) = false := beq_eq_false_iff_ne.2 hn1
            have hsz2 : w.heap.size + 1 < wr.heap.size := cell_lt hbv2
            have hbf := H2.out.2.1
            have hcy := hbf.cell y hyl
            have hcy' : ∀ o, (wr.alloc o).cell? ⟨w.heap.size, y, none⟩ = some (.slice (f2 y).1 (f2 y).2.2.length (f2 y).2.1) := fun o => oldCell o hcy
            obtain ⟨ra2, rc2, W2, hrun, hrow, hch, hmv⟩ := append_one (w := wr.drew) 61 3 (.int .i64 0) 8 info_int rfl Tryd.underlying61 (by omega) (hbf.row y hyl).drew (.int .i64 i) rfl (by have := hbf.le y hyl; omega) 61 3
            have hbfd : BefAt wr.drew w.heap.size m.states.length cnt2 f2 := hbf.below (by omega) ((Below.refl _ _).drew)
            obtain ⟨g1, g2, g3, g4⟩ := hbfd.push (by show w.heap.size < wr.heap.size; omega) y hyl i (by omega) hrow hch hmv
            have hn2 : ∀ b o, (f2 y).1 = some ⟨b, o, none⟩ → w.heap.size + 1 < b := H2.out.2.2 y hyl
            have hbvW : W2.cell? ⟨w.heap.size + 1, 0, none⟩ = some (.slice (some ⟨w.heap.size, 0, none⟩) m.states.length m.states.length) := (hch.cell _ _ (by show w.heap.size + 1 < wr.heap.size; omega) (by
              intro t
              obtain ⟨o, e⟩ := t
              have h5 := hn2 _ o e
              omega)).trans hbv2
            obtain ⟨W5, hW5⟩ : ∃ W5, W2.setCell ⟨w.heap.size, y, none⟩ (.slice ra2 ((f2 y).2.2.length + 1) rc2) = W5 := ⟨_, rfl⟩
            have hbv5 : W5.cell? ⟨w.heap.size + 1, 0, none⟩ = some (.slice (some ⟨w.heap.size, 0, none⟩) m.states.length m.states.length) := by
              rw [← hW5]
              exact (World.cell?_setCell_other _ _ _ _ (fun e => by have := congrArg Addr.block e; simp at this)).trans hbvW
            have hb5 : Below w.heap.size w W5 := by
              rw [← hW5]
              have b1 : Below w.heap.size wr W2 := by
                have b0 : Below w.heap.size wr.drew W2 := hch.below (by show w.heap.size ≤ wr.heap.size; omega) (by
                  intro k5 o5 hk5 t
                  obtain ⟨o, e⟩ := t
                  have h5 := hn2 k5 o e
                  omega)
                exact ((Below.refl _ _).drew).trans b0
              exact (H2.out.1.trans b1).setCell (p := ⟨w.heap.size, y, none⟩) (Nat.le_refl _) _
            have hn5 : ∀ j, j < m.states.length → ∀ b o, (if j = y then (ra2, rc2, (f2 y).2.2 ++ [(i : Int)]) else f2 j).1 = some ⟨b, o, none⟩ → w.heap.size + 1 < b := by
              intro j hj b o e
              by_cases ej : j = y
              · simp only [if_pos ej] at e
                rcases g4 b o e with g | g
                · exact hn2 b o g
                · have : wr.drew.heap.size = wr.heap.size := rfl
                  omega
              · simp only [if_neg ej] at e
                exact H2.out.2.2 j hj b o e
            rw [hW5] at g1
            have H5 := hide2 (And.intro hb5 (And.intro g1 hn5))
            have Hrun := hide2 hrun
            have hbvA : ∀ o, (wr.alloc o).cell? ⟨w.heap.size + 1, 0, none⟩ = some (.slice (some ⟨w.heap.size, 0, none⟩) m.states.length m.states.length) := fun o => oldCell o hbv2
            clear hrun hrow hch hmv hbfd g1 g4 hn2 hb5 hn5 hbf hnr H2 H
            go_wp2
            refine wp_region_held_drew (S := fun w' => w'.cell? ⟨w.heap.size + 1, 0, none⟩ = some (.slice (some ⟨w.heap.size, 0, none⟩) m.states.length m.states.length)) (by kernel_rfl) hbv2 (fun hHeld => ?_)
            refine wpAnyH_take (i := 0) (v := ?_) rfl (by kernel_rfl) (by kernel_rfl) (by kernel_rfl) (fun _ _ _ h => h) (Or.inl ⟨by rfl, ?_⟩) (by assumption) ?_
            rotate_left
            · intro w' hSw
              try dsimp only at hSw
              go_simp
              try with_reducible rfl
            try simp only [Act.put, List.setIfInBounds_toArray, List.set_cons_zero, List.set_cons_succ]
            refine wpAnyH_take (i := 1) (v := ?_) rfl (by kernel_rfl) (by kernel_rfl) (by kernel_rfl) (fun _ _ _ h => h) (Or.inl ⟨by rfl, ?_⟩) (by assumption) ?_
            rotate_left
            · intro w' hSw
              try dsimp only at hSw
              go_simp
              try with_reducible rfl
            try simp only [Act.put, List.setIfInBounds_toArray, List.set_cons_zero, List.set_cons_succ]
            refine wpAnyH_take (i := 2) (v := ?_) rfl (by kernel_rfl) (by kernel_rfl) (by kernel_rfl) (fun _ _ _ h => h) (Or.inl ⟨by rfl, ?_⟩) (by assumption) ?_
            rotate_left
            · intro w' hSw
              try dsimp only at hSw
              go_simp
              try with_reducible rfl
            try simp only [Act.put, List.setIfInBounds_toArray, List.set_cons_zero, List.set_cons_succ]
            refine wpAnyH_take (i := 3) (v := ?_) rfl (by kernel_rfl) (by kernel_rfl) (by kernel_rfl) (fun _ _ _ h => h) (Or.inl ⟨by rfl, ?_⟩) (by assumption) ?_
            rotate_left
            · intro w' hSw
              try dsimp only at hSw
              go_simp
              try with_reducible rfl
            try simp only [Act.put, List.setIfInBounds_toArray, List.set_cons_zero, List.set_cons_succ]
            refine wpAnyH_take (i := 4) (v := ?_) rfl (by kernel_rfl) (by kernel_rfl) (by kernel_rfl) (fun _ _ _ h => h) (Or.inl ⟨by rfl, ?_⟩) (by assumption) ?_
            rotate_left
            · intro w' hSw
              try dsimp only at hSw
              go_simp
              try with_reducible rfl
            try simp only [Act.put, List.setIfInBounds_toArray, List.set_cons_zero, List.set_cons_succ]
            refine wpAnyH_take (i := 6) (v := ?_) rfl (by kernel_rfl) (by kernel_rfl) (by kernel_rfl) (fun _ _ _ h => h) (Or.inl ⟨by rfl, ?_⟩) (by assumption) ?_
            rotate_left
            · intro w' hSw
              try dsimp only at hSw
              go_simp
              try with_reducible rfl
            try simp only [Act.put, List.setIfInBounds_toArray, List.set_cons_zero, List.set_cons_succ]
            refine wpAnyH_ready (rs := [5, 7]) (by kernel_rfl) (by simp) ?_
            refine AllReadyH.cons rfl (fun K hK => ?_) (AllReadyH.cons rfl (fun K hK => ?_) AllReadyH.nil)
            · go_simp
              refine hK.out _ _ hbv2 (fun hHeld => ?_)
              clear hK
              try simp only [Act.put, List.setIfInBounds_toArray, List.set_cons_zero, List.set_cons_succ]
              refine wpAnyH_ready (rs := [7]) (by kernel_rfl) (by simp) ?_
              refine AllReadyH.cons rfl (fun K hK => ?_) AllReadyH.nil
              go_simp
              refine hK.out _ _ (hbvA _) (fun hHeld => ?_)
              clear hK
              try simp only [Act.put, List.setIfInBounds_toArray, List.set_cons_zero, List.set_cons_succ]
              refine wpAnyH_ready (rs := [8]) (by kernel_rfl) (by simp) ?_
              refine AllReadyH.cons rfl (fun K hK => ?_) AllReadyH.nil
              refine step_append_run rfl _ _ _ _ rfl _ _ _ rfl rfl Hrun.out ?_
              refine hK.out _ _ hbvW (fun hHeld => ?_)
              clear hK
              try simp only [Act.put, List.setIfInBounds_toArray, List.set_cons_zero, List.set_cons_succ]
              refine wpAnyH_take (i := 9) (v := ?_) rfl (by kernel_rfl) (by kernel_rfl) (by kernel_rfl) (fun _ _ _ h => h) (Or.inl ⟨by rfl, ?_⟩) (by assumption) ?_
              rotate_left
              · intro w' hSw
                try dsimp only at hSw
                go_simp
                try with_reducible rfl
              try simp only [Act.put, List.setIfInBounds_toArray, List.set_cons_zero, List.set_cons_succ]
              refine wpAnyH_ready (rs := [10]) (by kernel_rfl) (by simp) ?_
              refine AllReadyH.cons rfl (fun K hK => ?_) AllReadyH.nil
              go_simp
              refine hK.out _ _ hbv5 (fun hHeld => ?_)
              clear hK
              refine wpAnyH_done (by kernel_rfl) ?_ _
              go_wp2
              go_roundw
              case rel => exact ⟨k + 1, cnt2 + 1, _, by go_num, by omega, by omega, hbv5, H5⟩
              case measure => simp [intOf]; omega
            · go_simp
              refine hK.out _ _ (hbvA _) (fun hHeld => ?_)
              clear hK
              try simp only [Act.put, List.setIfInBounds_toArray, List.set_cons_zero, List.set_cons_succ]
              refine wpAnyH_ready (rs := [5]) (by kernel_rfl) (by simp) ?_
              refine AllReadyH.cons rfl (fun K hK => ?_) AllReadyH.nil
              go_simp
              refine hK.out _ _ (hbvA _) (fun hHeld => ?_)
              clear hK
              try simp only [Act.put, List.setIfInBounds_toArray, List.set_cons_zero, List.set_cons_succ]
              refine wpAnyH_ready (rs := [8]) (by kernel_rfl) (by simp) ?_
              refine AllReadyH.cons rfl (fun K hK => ?_) AllReadyH.nil
              refine step_append_run rfl _ _ _ _ rfl _ _ _ rfl rfl Hrun.out ?_
              refine hK.out _ _ hbvW (fun hHeld => ?_)
              clear hK
              try simp only [Act.put, List.setIfInBounds_toArray, List.set_cons_zero, List.set_cons_succ]
              refine wpAnyH_take (i := 9) (v := ?_) rfl (by kernel_rfl) (by kernel_rfl) (by kernel_rfl) (fun _ _ _ h => h) (Or.inl ⟨by rfl, ?_⟩) (by assumption) ?_
              rotate_left
              · intro w' hSw
                try dsimp only at hSw
                go_simp
                try with_reducible rfl
              try simp only [Act.put, List.setIfInBounds_toArray, List.set_cons_zero, List.set_cons_succ]
              refine wpAnyH_ready (rs := [10]) (by kernel_rfl) (by simp) ?_
              refine AllReadyH.cons rfl (fun K hK => ?_) AllReadyH.nil
              go_simp
              refine hK.out _ _ hbv5 (fun hHeld => ?_)
              clear hK
              refine wpAnyH_done (by kernel_rfl) ?_ _
              go_wp2
              go_roundw
              case rel => exact ⟨k + 1, cnt2 + 1, _, by go_num, by omega, by omega, hbv5, H5⟩
              case measure => simp [intOf]; omega
        · go_wp2
          go_roundw
          case rel => exact ⟨i + 1, cnt2, f2, by go_num, by omega, by omega, hbv2, H2⟩
          case measure => simp [intOf]; omega
    · have hbw := H.out.1
      have hsz : w.heap.size + 1 < wr.heap.size := cell_lt hbv
      have hc1r : wr.cell? ⟨p, 1, none⟩ = some (.slice (some ⟨sb, so, none⟩) m.states.length sc) := (hbw.cell (p := ⟨p, 1, none⟩) (cell_lt hc1)).trans hc1
      have hmk2 := run_make_row' (P := Tryd.prog) 146 4 (.bool false) 1 Tryd.underlying146 (by kernel_rfl) rfl .i64 .i64 m.states.length (by omega) (by omega) wr
      have hW4c : ∀ o1 o2 o3, (((((wr.alloc o1).alloc o2).alloc o3).alloc (.cells #[.nilFunc] 147))).cell? ⟨wr.heap.size + 1 + 1 + 1, 0, none⟩ = some .nilFunc := fun o1 o2 o3 => newCell _ _ _ _ (by simp)
      have hW4f : ∀ o1 o2 o3, (((((wr.alloc o1).alloc o2).alloc o3).alloc (.cells #[.nilFunc] 147))).frozen? ⟨wr.heap.size + 1 + 1 + 1, 0, none⟩ = false := fun o1 o2 o3 => newFree _ _ _ _ (by simp)
      have hst : ∀ (a1 a2 a3 a4 : Addr) (wx : World), wx.cell? ⟨wr.heap.size + 1 + 1 + 1, 0, none⟩ = some .nilFunc → wx.frozen? ⟨wr.heap.size + 1 + 1 + 1, 0, none⟩ = false → (store ⟨wr.heap.size + 1 + 1 + 1, 0, none⟩ (.func (.func 49) #[] #[.pointer (some a1), .pointer (some a2), .pointer (some a3), .pointer (some a4)])).run Tryd.prog wx = .ok () (wx.setCell ⟨wr.heap.size + 1 + 1 + 1, 0, none⟩ (.func (.func 49) #[] #[.pointer (some a1), .pointer (some a2), .pointer (some a3), .pointer (some a4)])) := fun a1 a2 a3 a4 wx h1 h2 => by
        rw [run_store _ _ _ _ _ rfl]
        simp [h1, h2]
      have hc4 : ∀ o1 o2 o3 o4, ((((wr.alloc o1).alloc o2).alloc o3).alloc o4).cell? ⟨p, 1, none⟩ = some (.slice (some ⟨sb, so, none⟩) m.states.length sc) := fun o1 o2 o3 o4 => oldCell _ (oldCell _ (oldCell _ (oldCell _ hc1r)))
      obtain ⟨c, hcd⟩ : ∃ c : Caught, c = ⟨wr.heap.size + 1, wr.heap.size, m.states.length, wr.heap.size + 1 + 1, w.heap.size + 1, w.heap.size, m.states.length, wr.heap.size + 1 + 1 + 1, m.states.length, cnt, f⟩ := ⟨_, rfl⟩
      have hcOk : c.Ok := by
        rw [hcd]
        refine ⟨⟨by show wr.heap.size + 1 ≠ wr.heap.size; omega, by show wr.heap.size + 1 ≠ wr.heap.size + 1 + 1; omega⟩, ⟨by show w.heap.size + 1 ≠ wr.heap.size; omega, by show w.heap.size + 1 ≠ wr.heap.size + 1 + 1; omega⟩, ⟨by show w.heap.size ≠ wr.heap.size; omega, by show w.heap.size ≠ wr.heap.size + 1 + 1; omega⟩, ⟨by show wr.heap.size + 1 + 1 + 1 ≠ wr.heap.size; omega, by show wr.heap.size + 1 + 1 + 1 ≠ wr.heap.size + 1 + 1; omega⟩, by show wr.heap.size ≠ wr.heap.size + 1 + 1; omega, fun j hj b o e => ?_, by show m.states.length < 1000000; omega, by show cnt < 1000000000; omega⟩
        have h5 := (H.out.2.1.row j hj).lt e
        exact ⟨by show b ≠ wr.heap.size; omega, by show b ≠ wr.heap.size + 1 + 1; omega⟩
      have hcAt : c.At ((((wr.alloc (.cells (madeCells #[.bool false] m.states.length) 4)).alloc (.cells #[.slice (some ⟨wr.heap.size, 0, none⟩) m.states.length m.states.length] 146)).alloc (.cells #[.int .i64 0] 3)).alloc (.cells #[.func (.func 49) #[] #[.pointer (some ⟨wr.heap.size + 1, 0, none⟩), .pointer (some ⟨wr.heap.size + 1 + 1, 0, none⟩), .pointer (some ⟨w.heap.size + 1, 0, none⟩), .pointer (some ⟨wr.heap.size + 1 + 1 + 1, 0, none⟩)]] 147)) (List.replicate m.states.length false) := by
        rw [hcd]
        refine ⟨oldCell _ (oldCell _ (newCell _ _ _ _ (by simp))), fun j hj => oldCell _ (oldCell _ (oldCell _ ?_)), fun j => oldFree _ (by show wr.heap.size < _; simp; omega) (oldFree _ (by show wr.heap.size < _; simp; omega) (oldFree _ (by show wr.heap.size < _; simp) (newFrees _ _ _ _ _ rfl))), ?_, oldFree _ (by show wr.heap.size + 1 + 1 < _; simp) (newFree _ _ _ _ (by simp)), oldCell _ (oldCell _ (oldCell _ (oldCell _ hbv))), ?_, newCell _ _ _ _ (by simp), by simp⟩
        · rw [World.cell?_alloc_at _ _ _ _ rfl, Nat.zero_add, madeCells_at _ _ _ hj]
          rw [rep_get]
        · rw [rep_trues]
          exact oldCell _ (newCell _ _ _ _ (by simp))
        · exact H.out.2.1.below (by omega) (((((Below.refl _ _).alloc (Nat.le_refl _) _).alloc (by simp) _).alloc (by simp; omega) _).alloc (by simp; omega) _)
      have hb4 : ∀ o1 o2 o3 o4, Below w.heap.size w ((((wr.alloc o1).alloc o2).alloc o3).alloc o4) := fun o1 o2 o3 o4 => ((((hbw.alloc (by omega) _).alloc (by simp; omega) _).alloc (by simp; omega) _).alloc (by simp; omega) _)
      have hcn : c.n = m.states.length := by rw [hcd]
      have ekb : c.kb = wr.heap.size + 1 + 1 + 1 := by rw [hcd]
      have emb : c.mb = wr.heap.size + 1 := by rw [hcd]
      have ecb : c.cb = wr.heap.size + 1 + 1 := by rw [hcd]
      have ebb : c.bb = w.heap.size + 1 := by rw [hcd]
      have ema : c.ma = wr.heap.size := by rw [hcd]
      have hma : w.heap.size ≤ c.ma ∧ w.heap.size ≤ c.cb := by rw [ema, ecb]; omega
      have HAt := hide2 hcAt
      have HB4 := hide2 hb4
      clear hcAt hcd hb4 H
      go_wp2
      go_loopw [62] (fun iv wr3 => ∃ (i : Nat) (bs : List Bool), iv = .int .i64 i ∧ i ≤ m.states.length ∧ Hid (Below w.heap.size w wr3 ∧ c.At wr3 bs)) (fun iv _ => m.states.length - (intOf iv).toNat)
      case atStart => exact ⟨0, _, rfl, Nat.zero_le _, hide2 ⟨HB4.out _ _ _ _, HAt.out⟩⟩
      case round =>
        obtain ⟨i3, bs, rfl, hi3, H3⟩ := hrel
        have hb3 := H3.out.1
        by_cases hlt3 : i3 < m.states.length
        · have Mr := HM.out.below hb3
          have hru := Mr.rule i3 hlt3
          have hnx := Mr.next i3 hlt3
          have hal : ∀ o, Below w.heap.size w (wr.alloc o) ∧ c.At (wr.alloc o) bs := fun o => ⟨hb3.alloc hb3.size o, H3.out.2.below (by rw [hcn]; omega) ((Below.refl _ _).alloc (Nat.le_refl _) _)⟩
          have HAl := hide2 hal
          clear Mr hal
          by_cases hr1 : m.rule i3 = -1
          · rw [hr1] at hru
            go_wp2
            go_roundw
            case rel => exact ⟨i3 + 1, bs, by go_num, by omega, hide2 (HAl.out _)⟩
            case measure => simp [intOf]; omega
          · have hr2 : (m.rule i3 != -1) = true := bne_iff_ne.2 hr1
            have hr3 : (m.rule i3 == -1) = false := beq_eq_false_iff_ne.2 hr1
            have hk : ∀ o, (wr.alloc o).cell? ⟨c.kb, 0, none⟩ = _ := fun o => (HAl.out o).2.k
            rw [ekb, emb, ecb, ebb] at hk
            have HMk : Hid (∀ o, Calls Tryd.prog 49 #[.int .i64 i3, .pointer (some ⟨c.mb, 0, none⟩), .pointer (some ⟨c.cb, 0, none⟩), .pointer (some ⟨c.bb, 0, none⟩), .pointer (some ⟨c.kb, 0, none⟩)] (wr.alloc o) fun e w' => (∃ v, e = .returned v) ∧ ∃ bs', Hid (Below w.heap.size w w' ∧ c.At w' bs')) := hide2 fun o => (mark_any c hcOk (c.n + 1) i3 (wr.alloc o) bs (by rw [hcn]; exact hlt3) (HAl.out o).2 (by omega)).mono (by
              rintro e w' ⟨hv, bs', h1, _, h2⟩
              refine ⟨hv, bs', hide2 ⟨(HAl.out o).1.trans (h2.below (HAl.out o).1.size (fun k o hk t => ?_)), h1⟩⟩
              rcases t with t | t
              · have := hma.1; omega
              · have := hma.2; omega)
            rw [ekb, emb, ecb, ebb] at HMk
            go_wp2_with (go_at_call 49; refine (HMk.out _).mono ?_; clear HMk; rintro e w5 ⟨⟨v, rfl⟩, bs5, H5⟩)
            go_roundw
            case rel => exact ⟨i3 + 1, bs5, by go_num, by omega, H5⟩
            case measure => simp [intOf]; omega
        · have hct := H3.out.2.ct
          rw [ecb] at hct
          have hc1e : wr.cell? ⟨p, 1, none⟩ = some (.slice (some ⟨sb, so, none⟩) m.states.length sc) := (hb3.cell (p := ⟨p, 1, none⟩) (cell_lt hc1)).trans hc1
          go_wp2
          go_quiet (fail)
          go_wp2
          go_ret
          exact ⟨⟨_, rfl⟩, below_drewN hb3 _⟩
end Go.Proofs.YtlhokghgicgppaaDoor
