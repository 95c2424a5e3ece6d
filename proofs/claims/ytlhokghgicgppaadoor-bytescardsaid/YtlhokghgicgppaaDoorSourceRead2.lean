/- (*source.Source).Read, where new space is made. -/
import Derived.Test.YtlhokghgicgppaaDoorSourceRead
set_option linter.unusedSimpArgs false
set_option linter.unusedVariables false
namespace Go.Proofs.YtlhokghgicgppaaDoor
open Go.RowKit Go.Extern

theorem madeCells_get (n j : Nat) (h : j < n) : (madeCells #[Value.int .u8 0] n)[j]? = some (.int .u8 0) := by
  unfold madeCells
  simp [h, Nat.mod_one]
theorem SpAt.made {w : World} {sq so q nn pb n c most : Nat} {s : Sg.Src} (h : SpAt w sq so q nn pb n c s) {A : Option Addr} {c0 : Nat} (hsp : w.cell? ⟨sq, so + 1, none⟩ = some (.slice A n c0)) (hM : most < 1000000000) (hm : 1 ≤ most) :
    SpAt ((w.setCell ⟨sq, so + 1, none⟩ (.slice (some ⟨w.heap.size, 0, none⟩) most most)).alloc (.cells (madeCells #[.int .u8 0] most) 5)) sq so q nn w.heap.size most most s := by
  have hsq := cell_lt h.rd
  have hnn := h.nn2
  have hn1 := h.nn1
  have hq := h.hq
  have hz : (w.setCell ⟨sq, so + 1, none⟩ (.slice (some ⟨w.heap.size, 0, none⟩) most most)).heap.size = w.heap.size := by simp
  refine ⟨?_, .inr ⟨hm, ?_, Nat.le_refl _, hnn, by omega, fun j hj => ?_, fun j => ?_⟩, ?_, hq, hn1, by simp; omega, fun j => ?_, h.small, hM⟩
  · rw [World.cell?_alloc_lt _ _ ⟨sq, so, none⟩ (by rw [hz]; exact hsq), World.cell?_setCell_other _ _ _ _ (by simp)]; exact h.rd
  · rw [World.cell?_alloc_lt _ _ ⟨sq, so + 1, none⟩ (by rw [hz]; exact hsq)]; exact World.cell?_setCell_same _ _ _ hsp
  · rw [World.cell?_alloc_at _ _ _ _ (by rw [hz]), madeCells_get _ _ hj]; rfl
  · rw [World.frozen?_alloc_at _ _ _ _ (by rw [hz])]
  · obtain ⟨la, lc, r, hx, hy⟩ := h.src
    refine ⟨la, lc, r, SrcAt.alloc (hx.of (fun b j v hb hc => ?_) (fun j => World.frozen?_setCell _ _ _ _)) _, hy⟩
    refine (World.cell?_setCell_other _ _ _ _ (fun e => ?_)).trans hc
    have e' : sq = b := congrArg Addr.block e
    rcases hb with hb | ⟨o, hb⟩
    · omega
    · have := (hy b o hb).2; omega
  · rw [World.frozen?_alloc_old _ _ ⟨sq, j, none⟩ (by rw [hz]; show sq ≠ w.heap.size; omega), World.frozen?_setCell]; exact h.fr j

set_option maxRecDepth 100000 in
set_option maxHeartbeats 800000 in
theorem sourceRead_new (sq so q nn pb n c most : Nat) (s : Sg.Src) (w : World) (h : SpAt w sq so q nn pb n c s) (hm : 1 ≤ most) (hmn : n < most) (hM : most < 1000000000) :
    Calls Tryd.prog 44 #[.pointer (some ⟨sq, so, none⟩), .int .i64 most] w fun en w' =>
      ∃ a' c', en = .returned (.tuple #[.slice a' (Sg.askN most 8 s).1.1.length c', errV (Sg.askN most 8 s).1.2]) ∧ SlAt w' a' (Sg.askN most 8 s).1.1 ∧ (∀ b o, a' = some ⟨b, o, none⟩ → b = w.heap.size) ∧
        SpAt w' sq so q nn w.heap.size most most (Sg.askN most 8 s).2 ∧ Chg (spT sq so q pb n) w w' := by
  obtain ⟨A, c0, hsp⟩ : ∃ A c0, w.cell? ⟨sq, so + 1, none⟩ = some (.slice A n c0) := by
    rcases h.sp with ⟨h0, h1⟩ | ⟨_, h1, _⟩
    · subst h0; exact ⟨_, _, h1⟩
    · exact ⟨_, _, h1⟩
  have hsq := cell_lt h.rd
  have hfr := h.fr
  have hmk := run_make_bytes most hM
  have g2 : (n : Int) < most := by omega
  have hnn2 := h.nn2
  have hSP := hide2 (h.made hsp hM hm)
  have hCH : Hid (Chg (spT sq so q pb n) w ((w.setCell ⟨sq, so + 1, none⟩ (.slice (some ⟨w.heap.size, 0, none⟩) most most)).alloc (.cells (madeCells #[.int .u8 0] most) 5))) := ((Chg.refl _ _).setCell (.inr (.inr ⟨rfl, rfl⟩)) _).alloc _
  go_enter Tryd.func44, Tryd.ntmps44
  go_wp2
  go_loopw [28] (fun i wr => ∃ (k : Nat) (sk : Sg.Src), i = .int .i64 k ∧ k ≤ 8 ∧ SpAt wr sq so q nn w.heap.size most most sk ∧ Chg (spT sq so q pb n) w wr ∧ Sg.askN most (8 - k) sk = Sg.askN most 8 s) (fun i _ => 8 - (intOf i).toNat)
  case atStart => exact ⟨0, s, rfl, by omega, hSP.out, hCH.out, rfl⟩
  case round =>
    obtain ⟨k, sk, rfl, hk, hS, hch, heq⟩ := hrel
    have Heq := hide2 heq
    clear heq
    by_cases hlt : k < 8
    · have hps' := hS.sp
      rcases hps' with ⟨hz, _⟩ | ⟨_, hsp1, _, _, _, hpc1, hpf1⟩
      · omega
      have hqn := hS.hq
      have hn1 := hS.nn1
      have hA := ask_any q w.heap.size nn 0 most most sq so (by omega) hm (by omega) sk wr hS.nn2 (by
          obtain ⟨la, lc, r, hx, hy⟩ := hS.src
          exact ⟨la, lc, r, hx, fun b o e => ⟨(hy b o e).1, by have := (hy b o e).2; omega, (hy b o e).2⟩⟩) hS.small
        (fun j hj => by rw [Nat.zero_add]; exact hpc1 j (by omega)) hpf1 hS.rd
      have hstep := askN_step most k hlt sk
      rw [Heq.out] at hstep
      have hsm := ask1_small most sk hS.small
      have hbl := ask1_len most sk
      obtain ⟨⟨⟨bs, er⟩, s'⟩, hx⟩ : ∃ x, Sg.ask1 most sk = x := ⟨_, rfl⟩
      rw [hx] at hA hstep hsm hbl
      clear hx
      dsimp only at hA hstep hsm hbl
      have HA := hide2 hA
      have Hstep := hide2 hstep
      have Hsm := hide2 hsm
      clear hA hstep hsm
      go_wp2_with fail
      refine HA.out.mono ?_
      rintro en w1 ⟨rfl, hby, hsrc, hch1⟩
      have hS1 : SpAt w1 sq so q nn w.heap.size most most s' := hS.read hch1 hsrc Hsm.out (by omega) hpc1 hpf1 hsp1 (by omega) (by omega) (by omega) (by omega)
      have hchA : Chg (spT sq so q pb n) w w1 := hch.trans_new hch1 (fun i j hi t => by rcases t with t | t; exact .inl t; omega)
      have hsl : SlAt w1 (some ⟨w.heap.size, 0, none⟩) bs := .inr ⟨w.heap.size, 0, rfl, hby⟩
      have HE := hide2 (isEnd_any er)
      clear HA hby hsrc hch1
      rcases er with _ | x
      · simp only [errV] at HE ⊢
        by_cases hb0 : bs = []
        · subst hb0
          rw [if_neg (by simp)] at Hstep
          go_wp2_with fail
          refine (HE.out _).mono ?_
          rintro en w2 ⟨rfl, hb⟩
          go_wp2
          go_roundw
          case rel => exact ⟨k + 1, s', by go_num, by omega, hS1.below hb, hchA.trans (Chg.of_below hb), Hstep.out.symm⟩
          case measure => simp [intOf]; omega
        · rw [if_pos (.inl hb0)] at Hstep
          have hpos : (0 : Int) < bs.length := by
            rcases bs with _ | _
            · exact absurd rfl hb0
            · simp only [List.length_cons]; omega
          have hpos' : decide ((0 : Int) < bs.length) = true := by simpa using hpos
          go_wp2_with fail
          refine (HE.out _).mono ?_
          rintro en w2 ⟨rfl, hb⟩
          go_wp2
          go_ret2
          refine ⟨some ⟨w.heap.size, 0, none⟩, most, ?_, ?_, ?_, ?_, hchA.trans (Chg.of_below hb)⟩
          · rw [Hstep.out]; rfl
          · rw [Hstep.out]; exact hsl.below hb
          · intro b o e; cases e; rfl
          · rw [Hstep.out]; exact hS1.below hb
      · rw [if_pos (.inr (by simp))] at Hstep
        simp only [errV] at HE ⊢
        by_cases hx13 : x = 13
        · subst hx13
          by_cases hb0 : bs = []
          · subst hb0
            go_wp2_with fail
            refine (HE.out _).mono ?_
            rintro en w2 ⟨rfl, hb⟩
            go_wp2
            go_ret2
            refine ⟨some ⟨w.heap.size, 0, none⟩, most, ?_, ?_, ?_, ?_, hchA.trans (Chg.of_below hb)⟩
            · rw [Hstep.out]; rfl
            · rw [Hstep.out]; exact hsl.below hb
            · intro b o e; cases e; rfl
            · rw [Hstep.out]; exact hS1.below hb
          · have hpos : (0 : Int) < bs.length := by
              rcases bs with _ | _
              · exact absurd rfl hb0
              · simp only [List.length_cons]; omega
            have hpos' : decide ((0 : Int) < bs.length) = true := by simpa using hpos
            go_wp2_with fail
            refine (HE.out _).mono ?_
            rintro en w2 ⟨rfl, hb⟩
            go_wp2
            go_ret2
            refine ⟨some ⟨w.heap.size, 0, none⟩, most, ?_, ?_, ?_, ?_, hchA.trans (Chg.of_below hb)⟩
            · rw [Hstep.out]; rfl
            · rw [Hstep.out]; exact hsl.below hb
            · intro b o e; cases e; rfl
            · rw [Hstep.out]; exact hS1.below hb
        · have hxe : ((some x : Option Int) == some 13) = false := by
            show (x == 13) = false
            exact beq_eq_false_iff_ne.2 hx13
          rw [hxe] at HE
          clear hxe
          by_cases hb0 : bs = []
          · subst hb0
            go_wp2_with fail
            refine (HE.out _).mono ?_
            rintro en w2 ⟨rfl, hb⟩
            go_wp2
            go_ret2
            refine ⟨some ⟨w.heap.size, 0, none⟩, most, ?_, ?_, ?_, ?_, hchA.trans (Chg.of_below hb)⟩
            · rw [Hstep.out]; rfl
            · rw [Hstep.out]; exact hsl.below hb
            · intro b o e; cases e; rfl
            · rw [Hstep.out]; exact hS1.below hb
          · have hpos : (0 : Int) < bs.length := by
              rcases bs with _ | _
              · exact absurd rfl hb0
              · simp only [List.length_cons]; omega
            have hpos' : decide ((0 : Int) < bs.length) = true := by simpa using hpos
            go_wp2_with fail
            refine (HE.out _).mono ?_
            rintro en w2 ⟨rfl, hb⟩
            go_wp2
            go_ret2
            refine ⟨some ⟨w.heap.size, 0, none⟩, most, ?_, ?_, ?_, ?_, hchA.trans (Chg.of_below hb)⟩
            · rw [Hstep.out]; rfl
            · rw [Hstep.out]; exact hsl.below hb
            · intro b o e; cases e; rfl
            · rw [Hstep.out]; exact hS1.below hb
    · go_wp2
      go_ret2
      obtain rfl : k = 8 := by omega
      have hz : Sg.askN most 8 s = (([], some 12), sk) := Heq.out.symm
      refine ⟨none, 0, ?_, ?_, ?_, ?_, hch⟩
      · rw [hz]; rfl
      · rw [hz]; exact .inl ⟨rfl, rfl⟩
      · intro b o e; cases e
      · rw [hz]; exact hS
end Go.Proofs.YtlhokghgicgppaaDoor
