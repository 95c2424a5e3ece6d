/- (*source.Source).Read. -/
import Derived.Test.YtlhokghgicgppaaDoorAsk
import Derived.Test.YtlhokghgicgppaaDoorFull
import Derived.Deep.OwnRows
set_option linter.unusedSimpArgs false
set_option linter.unusedVariables false
namespace Go.Proofs.YtlhokghgicgppaaDoor
open Go.RowKit Go.Extern

theorem srcRead_small_aux (most : Nat) : ∀ (l : List Sg.Pc) (a e : Nat), Small ⟨l, a, e⟩ → Small (Sg.srcRead most ⟨l, a, e⟩).2
  | [], a, e, h => by rw [Sg.srcRead_nil]; exact h
  | c :: l, a, e, h => by
    obtain ⟨h1, h2, h3⟩ := h
    have hc := h3 c (by simp)
    rw [Sg.srcRead_cons]
    split
    · exact ⟨by show a + min most (c.text.length - a) < _; omega, h2, h3⟩
    · split
      · exact ⟨h1, by show e + 1 < _; omega, h3⟩
      · split
        · exact ⟨h1, h2, h3⟩
        · split
          · exact ⟨h1, h2, h3⟩
          · split
            · exact ⟨h1, h2, h3⟩
            · split
              · exact ⟨h1, h2, h3⟩
              · exact srcRead_small_aux most l 0 0 ⟨by show 0 < 1000000000; omega, by show 0 < 1000000000; omega, fun c' hc' => h3 c' (List.mem_cons_of_mem _ hc')⟩
theorem ask1_small (most : Nat) (s : Sg.Src) (h : Small s) : Small (Sg.ask1 most s).2 := by
  have := srcRead_small_aux most s.l s.at_ s.empty h
  have e : Sg.srcRead most ⟨s.l, s.at_, s.empty⟩ = Sg.srcRead most s := rfl
  rw [e] at this
  unfold Sg.ask1
  generalize Sg.srcRead most s = x at *
  obtain ⟨g, s'⟩ := x
  rcases g with ⟨b, er⟩ | _ <;> exact this
theorem ask1_len (most : Nat) (s : Sg.Src) : (Sg.ask1 most s).1.1.length ≤ most := by
  have := srcRead_len most s
  unfold Sg.ask1
  generalize Sg.srcRead most s = x at *
  obtain ⟨g, s'⟩ := x
  rcases g with ⟨b, er⟩ | _
  · exact this b er rfl
  · simp

/-- A source.Source in memory: block sq from cell so on; the space of its own lies in block pb. -/
structure SpAt (w : World) (sq so q nn pb n c : Nat) (s : Sg.Src) : Prop where
  rd : w.cell? ⟨sq, so, none⟩ = some (.iface 48 (.pointer (some ⟨q, 0, none⟩)))
  sp : (n = 0 ∧ w.cell? ⟨sq, so + 1, none⟩ = some (.slice none 0 0)) ∨
    (1 ≤ n ∧ w.cell? ⟨sq, so + 1, none⟩ = some (.slice (some ⟨pb, 0, none⟩) n c) ∧ n ≤ c ∧ nn ≤ pb ∧ pb ≠ sq ∧ (∀ j, j < n → (w.cell? ⟨pb, j, none⟩).isSome = true) ∧ ∀ j, w.frozen? ⟨pb, j, none⟩ = false)
  src : ∃ la lc r, SrcAt w q la lc r s ∧ ∀ b o, la = some ⟨b, o, none⟩ → b ≠ q ∧ b < nn
  hq : q < nn
  nn1 : nn ≤ sq
  nn2 : nn ≤ w.heap.size
  fr : ∀ j, w.frozen? ⟨sq, j, none⟩ = false
  small : Small s
  cN : c < 1000000000

theorem run_make_bytes (n : Nat) (h : n < 1000000000) (w : World) :
    (Instr.makeSlice 84 (.int .i64 (n : Int)) (.int .i64 (n : Int))).run Tryd.prog w = .ok (.slice (some ⟨w.heap.size, 0, none⟩) n n) (w.alloc (.cells (madeCells #[.int .u8 0] n) 5)) :=
  run_make_row' 84 5 (.int .u8 0) 1 Tryd.underlying84 (by kernel_rfl) rfl .i64 .i64 n (by omega) (by omega) w

abbrev spT (sq so q pb n : Nat) : Nat → Nat → Prop := fun i j => i = q ∨ (1 ≤ n ∧ i = pb) ∨ (i = sq ∧ j = so + 1)

theorem askN_step (most k : Nat) (hk : k < 8) (s : Sg.Src) : Sg.askN most (8 - k) s = if (Sg.ask1 most s).1.1 ≠ [] ∨ (Sg.ask1 most s).1.2 ≠ none then Sg.ask1 most s else Sg.askN most (8 - (k + 1)) (Sg.ask1 most s).2 := by
  obtain ⟨f, hf⟩ : ∃ f, 8 - k = f + 1 := ⟨7 - k, by omega⟩
  rw [hf, show 8 - (k + 1) = f by omega]
  conv => lhs; unfold Sg.askN
theorem SpAt.read {w w1 : World} {sq so q nn pb n c most : Nat} {s s' : Sg.Src} (h : SpAt w sq so q nn pb n c s) (hch : Chg (rdT q pb 0 most) w w1) (hsrc : SrcOk w1 q pb nn s') (hsm : Small s') (hn : 1 ≤ n) (hpc : ∀ j, j < n → (w.cell? ⟨pb, j, none⟩).isSome = true) (hpf : ∀ j, w.frozen? ⟨pb, j, none⟩ = false)
    (hsp : w.cell? ⟨sq, so + 1, none⟩ = some (.slice (some ⟨pb, 0, none⟩) n c)) (hqs : q ≠ sq) (hps : pb ≠ sq) (hpn : nn ≤ pb) (hnc : n ≤ c) : SpAt w1 sq so q nn pb n c s' := by
  have hs := cell_lt h.rd
  have hp : pb < w.heap.size := by
    obtain ⟨v, hv⟩ := Option.isSome_iff_exists.1 (hpc 0 (by omega)); exact cell_lt hv
  have hnt : ∀ j, ¬ rdT q pb 0 most sq j := fun j t => by omega
  refine ⟨(hch.cell _ _ hs (hnt _)).trans h.rd, .inr ⟨hn, (hch.cell _ _ hs (hnt _)).trans hsp, hnc, hpn, hps, ?_, ?_⟩, ?_, h.hq, h.nn1, Nat.le_trans h.nn2 hch.size, fun j => (hch.frozen _ _ hs (hnt _)).trans (h.fr j), hsm, h.cN⟩
  · intro j hj; rw [hch.live _ _ hp]; exact hpc j hj
  · intro j; rw [hch.frz _ _ hp]; exact hpf j
  · obtain ⟨la, lc, r, hx, hy⟩ := hsrc
    exact ⟨la, lc, r, hx, fun b o e => ⟨(hy b o e).1, (hy b o e).2.2⟩⟩
theorem SpAt.below {w w1 : World} {sq so q nn pb n c : Nat} {s : Sg.Src} (h : SpAt w sq so q nn pb n c s) (hb : Below w.heap.size w w1) : SpAt w1 sq so q nn pb n c s := by
  have hs := cell_lt h.rd
  refine ⟨(hb.cell (p := ⟨sq, so, none⟩) hs).trans h.rd, ?_, ?_, h.hq, h.nn1, Nat.le_trans h.nn2 hb.size, fun j => (hb.frozen (p := ⟨sq, j, none⟩) hs).trans (h.fr j), h.small, h.cN⟩
  · rcases h.sp with ⟨h0, h1⟩ | ⟨h1, h2, h3, h4, h5, h6, h7⟩
    · exact .inl ⟨h0, (hb.cell (p := ⟨sq, so + 1, none⟩) hs).trans h1⟩
    · have hp : pb < w.heap.size := by
        obtain ⟨v, hv⟩ := Option.isSome_iff_exists.1 (h6 0 (by omega)); exact cell_lt hv
      exact .inr ⟨h1, (hb.cell (p := ⟨sq, so + 1, none⟩) hs).trans h2, h3, h4, h5, fun j hj => by rw [hb.cell (p := ⟨pb, j, none⟩) hp]; exact h6 j hj, fun j => (hb.frozen (p := ⟨pb, j, none⟩) hp).trans (h7 j)⟩
  · obtain ⟨la, lc, r, hx, hy⟩ := h.src
    exact ⟨la, lc, r, hx.below hb, hy⟩
theorem SlAt.below {w w' : World} {a : Option Addr} {l : Sg.Bs} (h : SlAt w a l) (hb : Below w.heap.size w w') : SlAt w' a l := by
  rcases h with h | ⟨b, o, rfl, h⟩
  · exact .inl h
  · exact .inr ⟨b, o, rfl, fun j hj => (hb.cell (p := ⟨b, o + j, none⟩) (cell_lt (h j hj))).trans (h j hj)⟩

set_option maxRecDepth 100000 in
set_option maxHeartbeats 800000 in
theorem sourceRead_old (sq so q nn pb n c most : Nat) (s : Sg.Src) (w : World) (h : SpAt w sq so q nn pb n c s) (hm : 1 ≤ most) (hmn : most ≤ n) :
    Calls Tryd.prog 44 #[.pointer (some ⟨sq, so, none⟩), .int .i64 most] w fun en w' =>
      ∃ a' c', en = .returned (.tuple #[.slice a' (Sg.askN most 8 s).1.1.length c', errV (Sg.askN most 8 s).1.2]) ∧ SlAt w' a' (Sg.askN most 8 s).1.1 ∧ (∀ b o, a' = some ⟨b, o, none⟩ → b = pb) ∧
        SpAt w' sq so q nn pb n c (Sg.askN most 8 s).2 ∧ Chg (spT sq so q pb n) w w' := by
  have hsp := h.sp
  rcases hsp with ⟨h0, _⟩ | ⟨h1, hsp, hnc, hpn, hps, hpc, hpf⟩
  · omega
  have hcN := h.cN
  have g1 : decide ((n : Int) < most) = false := by simp; omega
  have g2 : ¬ ((n : Int) < most) := by omega
  go_enter Tryd.func44, Tryd.ntmps44
  go_wp2
  go_loopw [28] (fun i wr => ∃ (k : Nat) (sk : Sg.Src), i = .int .i64 k ∧ k ≤ 8 ∧ SpAt wr sq so q nn pb n c sk ∧ Chg (spT sq so q pb n) w wr ∧ Sg.askN most (8 - k) sk = Sg.askN most 8 s) (fun i _ => 8 - (intOf i).toNat)
  case atStart => exact ⟨0, s, rfl, by omega, h, Chg.refl _ _, rfl⟩
  case round =>
    obtain ⟨k, sk, rfl, hk, hS, hch, heq⟩ := hrel
    have Heq := hide2 heq
    clear heq
    by_cases hlt : k < 8
    · have hps' := hS.sp
      rcases hps' with ⟨hz, _⟩ | ⟨_, hsp1, _, _, _, hpc1, hpf1⟩
      · omega
      have hqn := hS.hq
      have hn1 := hS.nn1
      have hA := ask_any q pb nn 0 most most sq so (by omega) hm (by omega) sk wr hS.nn2 (by
          obtain ⟨la, lc, r, hx, hy⟩ := hS.src
          exact ⟨la, lc, r, hx, fun b o e => ⟨(hy b o e).1, by have := (hy b o e).2; omega, (hy b o e).2⟩⟩) hS.small
        (fun j hj => by rw [Nat.zero_add]; exact hpc1 j (by omega)) hpf1 hS.rd
      have hstep := askN_step most k hlt sk
      rw [Heq.out] at hstep
      have hsm := ask1_small most sk hS.small
      have hbl := ask1_len most sk
      obtain ⟨⟨⟨bs, er⟩, s'⟩, hx⟩ : ∃ x, Sg.ask1 most sk = x := ⟨_, rfl⟩
      rw [hx] at hA hstep hsm hbl
      clear hx
      dsimp only at hA hstep hsm hbl
      have HA := hide2 hA
      have Hstep := hide2 hstep
      have Hsm := hide2 hsm
      clear hA hstep hsm
      go_wp2_with fail
      refine HA.out.mono ?_
      rintro en w1 ⟨rfl, hby, hsrc, hch1⟩
      have hS1 : SpAt w1 sq so q nn pb n c s' := hS.read hch1 hsrc Hsm.out (by omega) hpc1 hpf1 hsp1 (by omega) (by omega) (by omega) (by omega)
      have hchA : Chg (spT sq so q pb n) w w1 := hch.trans (hch1.mono (fun i j _ t => by rcases t with t | t; exact .inl t; exact .inr (.inl ⟨by omega, t.1⟩)))
      have hsl : SlAt w1 (some ⟨pb, 0, none⟩) bs := .inr ⟨pb, 0, rfl, hby⟩
      have HE := hide2 (isEnd_any er)
      clear HA hby hsrc hch1
      rcases er with _ | x
      · simp only [errV] at HE ⊢
        by_cases hb0 : bs = []
        · subst hb0
          rw [if_neg (by simp)] at Hstep
          go_wp2_with fail
          refine (HE.out _).mono ?_
          rintro en w2 ⟨rfl, hb⟩
          go_wp2
          go_roundw
          case rel => exact ⟨k + 1, s', by go_num, by omega, hS1.below hb, hchA.trans (Chg.of_below hb), Hstep.out.symm⟩
          case measure => simp [intOf]; omega
        · rw [if_pos (.inl hb0)] at Hstep
          have hpos : (0 : Int) < bs.length := by
            rcases bs with _ | _
            · exact absurd rfl hb0
            · simp only [List.length_cons]; omega
          have hpos' : decide ((0 : Int) < bs.length) = true := by simpa using hpos
          go_wp2_with fail
          refine (HE.out _).mono ?_
          rintro en w2 ⟨rfl, hb⟩
          go_wp2
          go_ret2
          refine ⟨some ⟨pb, 0, none⟩, most, ?_, ?_, ?_, ?_, hchA.trans (Chg.of_below hb)⟩
          · rw [Hstep.out]; rfl
          · rw [Hstep.out]; exact hsl.below hb
          · intro b o e; cases e; rfl
          · rw [Hstep.out]; exact hS1.below hb
      · rw [if_pos (.inr (by simp))] at Hstep
        simp only [errV] at HE ⊢
        by_cases hx13 : x = 13
        · subst hx13
          by_cases hb0 : bs = []
          · subst hb0
            go_wp2_with fail
            refine (HE.out _).mono ?_
            rintro en w2 ⟨rfl, hb⟩
            go_wp2
            go_ret2
            refine ⟨some ⟨pb, 0, none⟩, most, ?_, ?_, ?_, ?_, hchA.trans (Chg.of_below hb)⟩
            · rw [Hstep.out]; rfl
            · rw [Hstep.out]; exact hsl.below hb
            · intro b o e; cases e; rfl
            · rw [Hstep.out]; exact hS1.below hb
          · have hpos : (0 : Int) < bs.length := by
              rcases bs with _ | _
              · exact absurd rfl hb0
              · simp only [List.length_cons]; omega
            have hpos' : decide ((0 : Int) < bs.length) = true := by simpa using hpos
            go_wp2_with fail
            refine (HE.out _).mono ?_
            rintro en w2 ⟨rfl, hb⟩
            go_wp2
            go_ret2
            refine ⟨some ⟨pb, 0, none⟩, most, ?_, ?_, ?_, ?_, hchA.trans (Chg.of_below hb)⟩
            · rw [Hstep.out]; rfl
            · rw [Hstep.out]; exact hsl.below hb
            · intro b o e; cases e; rfl
            · rw [Hstep.out]; exact hS1.below hb
        · have hxe : ((some x : Option Int) == some 13) = false := by
            show (x == 13) = false
            exact beq_eq_false_iff_ne.2 hx13
          rw [hxe] at HE
          clear hxe
          by_cases hb0 : bs = []
          · subst hb0
            go_wp2_with fail
            refine (HE.out _).mono ?_
            rintro en w2 ⟨rfl, hb⟩
            go_wp2
            go_ret2
            refine ⟨some ⟨pb, 0, none⟩, most, ?_, ?_, ?_, ?_, hchA.trans (Chg.of_below hb)⟩
            · rw [Hstep.out]; rfl
            · rw [Hstep.out]; exact hsl.below hb
            · intro b o e; cases e; rfl
            · rw [Hstep.out]; exact hS1.below hb
          · have hpos : (0 : Int) < bs.length := by
              rcases bs with _ | _
              · exact absurd rfl hb0
              · simp only [List.length_cons]; omega
            have hpos' : decide ((0 : Int) < bs.length) = true := by simpa using hpos
            go_wp2_with fail
            refine (HE.out _).mono ?_
            rintro en w2 ⟨rfl, hb⟩
            go_wp2
            go_ret2
            refine ⟨some ⟨pb, 0, none⟩, most, ?_, ?_, ?_, ?_, hchA.trans (Chg.of_below hb)⟩
            · rw [Hstep.out]; rfl
            · rw [Hstep.out]; exact hsl.below hb
            · intro b o e; cases e; rfl
            · rw [Hstep.out]; exact hS1.below hb
    · go_wp2
      go_ret2
      obtain rfl : k = 8 := by omega
      have hz : Sg.askN most 8 s = (([], some 12), sk) := Heq.out.symm
      refine ⟨none, 0, ?_, ?_, ?_, ?_, hch⟩
      · rw [hz]; rfl
      · rw [hz]; exact .inl ⟨rfl, rfl⟩
      · intro b o e; cases e
      · rw [hz]; exact hS
end Go.Proofs.YtlhokghgicgppaaDoor
