/- (*Machine).Bound's own closure. -/
import Derived.Test.YtlhokghgicgppaaGreatDoorBoundB
set_option linter.unusedSimpArgs false
set_option linter.unusedVariables false
namespace Go.Proofs.YtlhokghgicgppaaGreatDoor
open Go.RowKit Go.Extern

abbrev KM := List Int × List Int
/-- Over what is left of a state's row. -/
def endsGo (m : Sg.Mach) (wd : List Int) (s : Nat) (rec : Nat → KM → Option (Bool × KM)) : List Int → Nat → KM → Option (Bool × KM)
  | [], _, K => some (true, (K.1.set s 2, K.2))
  | n :: r, j, K =>
    if n = -1 then endsGo m wd s rec r (j + 1) K
    else if m.rule n.toNat = -1 then
      match rec n.toNat K with
      | none => none
      | some (false, K') => some (false, K')
      | some (true, K') => if wd.getD j 0 + K'.2.getD n.toNat 0 ≤ 1000000 then endsGo m wd s rec r (j + 1) (K'.1, K'.2.set s (max (K'.2.getD s 0) (wd.getD j 0 + K'.2.getD n.toNat 0))) else none
    else endsGo m wd s rec r (j + 1) (K.1, K.2.set s (max (K.2.getD s 0) (wd.getD j 0 - 1)))
def endsT (m : Sg.Mach) (wd : List Int) : Nat → Nat → KM → Option (Bool × KM)
  | 0, _, _ => none
  | f + 1, s, K =>
    if K.1.getD s 0 = 0 then endsGo m wd s (endsT m wd f) ((List.range (m.width s)).map (m.next s)) 0 (K.1.set s 1, K.2)
    else some (K.1.getD s 0 == 2, K)
/-- What the closure works on. -/
structure EV where
  (kv mv wv ev ov kb wb ob p : Nat)
def EV.fn (v : EV) : Value := .func (.func 69) #[] #[.pointer (some ⟨v.kv, 0, none⟩), .pointer (some ⟨v.mv, 0, none⟩), .pointer (some ⟨v.wv, 0, none⟩), .pointer (some ⟨v.ev, 0, none⟩), .pointer (some ⟨v.ov, 0, none⟩)]
structure EnvAt (w0 : World) (m : Sg.Mach) (v : EV) (wd : List Int) (W : World) (K : KM) : Prop where
  k : IA w0 W v.kb K.1
  o : IA w0 W v.ob K.2
  wi : IA w0 W v.wb wd
  kl : K.1.length = m.states.length
  ol : K.2.length = m.states.length
  wl : wd.length = m.width 0
  ck : W.cell? ⟨v.kv, 0, none⟩ = some (.slice (some ⟨v.kb, 0, none⟩) m.states.length m.states.length)
  cm : W.cell? ⟨v.mv, 0, none⟩ = some (.pointer (some ⟨v.p, 0, none⟩))
  cw : W.cell? ⟨v.wv, 0, none⟩ = some (.slice (some ⟨v.wb, 0, none⟩) (m.width 0) (m.width 0))
  ce : W.cell? ⟨v.ev, 0, none⟩ = some v.fn
  co : W.cell? ⟨v.ov, 0, none⟩ = some (.slice (some ⟨v.ob, 0, none⟩) m.states.length m.states.length)
  ne : v.kb ≠ v.ob ∧ v.kb ≠ v.wb ∧ v.ob ≠ v.wb ∧ (∀ x, x = v.kv ∨ x = v.mv ∨ x = v.wv ∨ x = v.ev ∨ x = v.ov → x ≠ v.kb ∧ x ≠ v.ob)
  bel : Below w0.heap.size w0 W
  small : (∀ i, 0 ≤ K.2.getD i 0 ∧ K.2.getD i 0 ≤ 1000000) ∧ ∀ i, -1 ≤ wd.getD i 0 ∧ wd.getD i 0 ≤ 4
theorem EnvAt.drewN {w0 : World} {m : Sg.Mach} {v : EV} {wd : List Int} {W : World} {K : KM} (h : EnvAt w0 m v wd W K) (n : Nat) : EnvAt w0 m v wd (W.drewN n) K :=
  ⟨h.k.of rfl (Nat.le_refl _), h.o.of rfl (Nat.le_refl _), h.wi.of rfl (Nat.le_refl _), h.kl, h.ol, h.wl, h.ck, h.cm, h.cw, h.ce, h.co, h.ne, h.bel.trans ⟨rfl, rfl, rfl, Nat.le_refl _, fun _ _ => rfl⟩, h.small⟩
theorem cell_set_ne (W : World) (b i : Nat) (x : Value) (k o : Nat) (h : k ≠ b) : (W.setCell ⟨b, i, none⟩ x).cell? ⟨k, o, none⟩ = W.cell? ⟨k, o, none⟩ :=
  World.cell?_setCell_other _ _ _ _ (by simp [h])
theorem IA.other {w0 W : World} {b : Nat} {l : List Int} (h : IA w0 W b l) (c i : Nat) (x : Value) (hne : b ≠ c) : IA w0 (W.setCell ⟨c, i, none⟩ x) b l :=
  ⟨fun j hj => (cell_set_ne W c i x b j hne).trans (h.cell j hj), fun j => by rw [World.frozen?_setCell]; exact h.frz j, h.new, by rw [World.size_setCell]; exact h.lt⟩
theorem EnvAt.setK {w0 : World} {m : Sg.Mach} {v : EV} {wd : List Int} {W : World} {K : KM} (h : EnvAt w0 m v wd W K) (s : Nat) (x : Int) (hs : s < m.states.length) : EnvAt w0 m v wd (W.setCell ⟨v.kb, s, none⟩ (.int .i64 x)) (K.1.set s x, K.2) := by
  obtain ⟨n1, n2, n3, n4⟩ := h.ne
  have c : ∀ y, y = v.kv ∨ y = v.mv ∨ y = v.wv ∨ y = v.ev ∨ y = v.ov → (W.setCell ⟨v.kb, s, none⟩ (.int .i64 x)).cell? ⟨y, 0, none⟩ = W.cell? ⟨y, 0, none⟩ := fun y hy => cell_set_ne W _ _ _ _ _ (n4 y hy).1
  exact ⟨h.k.set s x (by rw [h.kl]; exact hs), h.o.other _ _ _ (fun e => n1 e.symm), h.wi.other _ _ _ (fun e => n2 e.symm), by rw [List.length_set]; exact h.kl, h.ol, h.wl, (c _ (.inl rfl)).trans h.ck, (c _ (.inr (.inl rfl))).trans h.cm, (c _ (.inr (.inr (.inl rfl)))).trans h.cw, (c _ (.inr (.inr (.inr (.inl rfl))))).trans h.ce, (c _ (.inr (.inr (.inr (.inr rfl))))).trans h.co, h.ne, h.bel.setCell (p := ⟨v.kb, s, none⟩) h.k.new _, h.small⟩
theorem EnvAt.setO {w0 : World} {m : Sg.Mach} {v : EV} {wd : List Int} {W : World} {K : KM} (h : EnvAt w0 m v wd W K) (s : Nat) (x : Int) (hs : s < m.states.length) (hx : 0 ≤ x ∧ x ≤ 1000000) : EnvAt w0 m v wd (W.setCell ⟨v.ob, s, none⟩ (.int .i64 x)) (K.1, K.2.set s x) := by
  obtain ⟨n1, n2, n3, n4⟩ := h.ne
  have c : ∀ y, y = v.kv ∨ y = v.mv ∨ y = v.wv ∨ y = v.ev ∨ y = v.ov → (W.setCell ⟨v.ob, s, none⟩ (.int .i64 x)).cell? ⟨y, 0, none⟩ = W.cell? ⟨y, 0, none⟩ := fun y hy => cell_set_ne W _ _ _ _ _ (n4 y hy).2
  refine ⟨h.k.other _ _ _ n1, h.o.set s x (by rw [h.ol]; exact hs), h.wi.other _ _ _ (fun e => n3 e.symm), h.kl, by rw [List.length_set]; exact h.ol, h.wl, (c _ (.inl rfl)).trans h.ck, (c _ (.inr (.inl rfl))).trans h.cm, (c _ (.inr (.inr (.inl rfl)))).trans h.cw, (c _ (.inr (.inr (.inr (.inl rfl))))).trans h.ce, (c _ (.inr (.inr (.inr (.inr rfl))))).trans h.co, h.ne, h.bel.setCell (p := ⟨v.ob, s, none⟩) h.o.new _, fun i => ?_, h.small.2⟩
  dsimp only
  rw [List.getD_eq_getElem?_getD, List.getElem?_set]
  split
  · split
    · exact hx
    · exact ⟨by show (0 : Int) ≤ 0; omega, by show (0 : Int) ≤ 1000000; omega⟩
  · rw [← List.getD_eq_getElem?_getD]; exact h.small.1 i
set_option maxRecDepth 100000 in
set_option maxHeartbeats 4000000 in
theorem ends_any (w0 : World) (m : Sg.Mach) (hm : m.Ok) (v : EV) (wd : List Int) (cb co cc sb so sc : Nat) (nb no nc : Nat → Nat) (M : MachAt w0 v.p m cb co cc sb so sc nb no nc) (hwd : ∀ s, s < m.states.length → m.width s = m.width 0) : ∀ (f s : Nat) (K : KM) (r : Bool × KM), endsT m wd f s K = some r → s < m.states.length → ∀ W, EnvAt w0 m v wd W K →
    Calls Tryz.prog 69 #[.int .i64 s, .pointer (some ⟨v.kv, 0, none⟩), .pointer (some ⟨v.mv, 0, none⟩), .pointer (some ⟨v.wv, 0, none⟩), .pointer (some ⟨v.ev, 0, none⟩), .pointer (some ⟨v.ov, 0, none⟩)] W fun e w' => e = .returned (.bool r.1) ∧ Hid (EnvAt w0 m v wd w' r.2)
  | 0, s, K, r, h, _, W, _ => by cases h
  | f + 1, s, K, r, h, hs, W, hE => by
    have hNs := hm.statesN
    unfold endsT at h
    have hck := hE.ck
    have hkc := hE.k.cell s (by rw [hE.kl]; exact hs)
    by_cases h0 : K.1.getD s 0 = 0
    · rw [if_pos h0] at h
      rw [h0] at hkc
      have hE1 := hE.setK s 1 hs
      have M1 := M.below hE1.bel
      have a1 := hE1.cm
      have a2 := M1.c1
      have a3 := M1.next s hs
      have hfr := hE.k.frz s
      have hws := hm.nextN s hs
      have HE1 := hide2 hE1
      have HG := hide2 h
      have HM := hide2 M
      have IH := hide2 (ends_any w0 m hm v wd cb co cc sb so sc nb no nc M hwd f)
      have HWd := hide2 (hwd s hs)
      clear hE1 M1 hE h M h0 hwd
      go_enter Tryz.func69, Tryz.ntmps69
      go_wp2
      clear a1 a2 a3 hfr hck hkc
      generalize W.setCell ⟨v.kb, s, none⟩ (.int .i64 1) = W1 at *
      go_loopw [33] (fun jv wr => ∃ (j : Nat), jv = .int .i64 j ∧ j ≤ m.width s ∧ Hid (∃ K', EnvAt w0 m v wd wr K' ∧ endsGo m wd s (endsT m wd f) (((List.range (m.width s)).map (m.next s)).drop j) j K' = some r)) (fun jv _ => m.width s - (intOf jv).toNat)
      case atStart => exact ⟨0, rfl, Nat.zero_le _, hide2 ⟨_, HE1.out, HG.out⟩⟩
      case round =>
        clear HE1 HG
        obtain ⟨j, rfl, hj, H⟩ := hrel
        obtain ⟨K', hE, hG⟩ := H.out
        clear H
        by_cases hlt : j < m.width s
        · rw [show ((List.range (m.width s)).map (m.next s)).drop j = m.next s j :: ((List.range (m.width s)).map (m.next s)).drop (j + 1) by
            rw [← List.map_drop, ← List.map_drop, drop_range _ _ hlt, List.map_cons]] at hG
          unfold endsGo at hG
          have Mr := HM.out.below hE.bel
          have b1 := Mr.to s j hs hlt
          by_cases hn1 : m.next s j = -1
          · rw [if_pos hn1] at hG
            rw [hn1] at b1
            have HN := hide2 (And.intro hE hG)
            clear hE hG Mr
            go_wp2
            go_roundw
            case rel => exact ⟨j + 1, by go_num, by omega, hide2 ⟨_, HN.out.1, HN.out.2⟩⟩
            case measure => simp [intOf]; omega
          · rw [if_neg hn1] at hG
            obtain ⟨nn, hnn⟩ : ∃ nn : Nat, m.next s j = nn := ⟨(m.next s j).toNat, by rcases hm.nexts s hs j hlt with e | e <;> omega⟩
            have hnl : nn < m.states.length := by rcases hm.nexts s hs j hlt with e | e <;> omega
            have hjw : j < wd.length := by rw [hE.wl, ← HWd.out]; exact hlt
            rw [hnn] at b1 hG hn1
            rw [Int.toNat_natCast] at hG
            have hnz : (((nn : Nat) : Int) == -1) = false := beq_eq_false_iff_ne.2 (by omega)
            have b2 := hE.cw
            have b3 := hE.wi.cell j hjw
            have b4 := hE.cm
            have b5 := Mr.c1
            have b6 := Mr.rule nn hnl
            have hsm := hE.small.2 j
            have hjw0 : j < m.width 0 := by rw [← HWd.out]; exact hlt
            by_cases hrl : m.rule nn = -1
            · rw [if_pos hrl] at hG
              rw [hrl] at b6
              have b7 := hE.ce
              unfold EV.fn at b7
              rcases hrec : endsT m wd f nn K' with _ | ⟨bb, K2⟩
              · rw [hrec] at hG; cases hG
              · rw [hrec] at hG
                have HC := hide2 (IH.out nn K' (bb, K2) hrec hnl wr hE)
                clear hE hrec Mr hn1 hrl
                obtain ⟨wj, hwj⟩ : ∃ x, wd.getD j 0 = x := ⟨_, rfl⟩
                rw [hwj] at b3 hsm
                have HWJ := hide2 hwj
                clear hwj
                cases bb
                · have hG : some (false, K2) = some r := hG
                  cases hG
                  go_wp2_with (go_at_call 69; refine HC.out.mono ?_; rintro e w2 ⟨rfl, H2⟩)
                  go_ret
                  exact ⟨rfl, H2⟩
                · dsimp only at hG
                  by_cases hbig : wd.getD j 0 + K2.2.getD nn 0 ≤ 1000000
                  · rw [if_pos hbig] at hG
                    have HG2 := hide2 hG
                    obtain ⟨on, hon⟩ : ∃ x, K2.2.getD nn 0 = x := ⟨_, rfl⟩
                    obtain ⟨os, hos⟩ : ∃ x, K2.2.getD s 0 = x := ⟨_, rfl⟩
                    rw [HWJ.out, hon] at hbig
                    have HON := hide2 hon
                    have HOS := hide2 hos
                    clear hG hon hos
                    go_upto_region 12 with (go_at_call 69; refine HC.out.mono ?_; rintro e w2 ⟨rfl, H2⟩; have d1 := H2.out.cw; have d2 := H2.out.wi.cell j hjw; have d3 := H2.out.co; have d4 := H2.out.o.cell nn (by rw [H2.out.ol]; exact hnl); have hs3 := H2.out.small.1 nn; rw [HON.out] at d4 hs3; rw [HWJ.out] at d2; clear HC b1 b2 b3 b4 b5 b6 b7)
                    go_quiet (fail)
                    have HE3 := hide2 (H2.out.drewN nq)
                    clear d1 d2 d3 d4 H2
                    generalize w2.drewN nq = w3 at *
                    have d5 := HE3.out.co
                    have d6 := HE3.out.o.cell s (by rw [HE3.out.ol]; exact hs)
                    have d7 := HE3.out.o.frz s
                    have hs4 := HE3.out.small.1 s
                    rw [HOS.out] at d6 hs4
                    go_upto_region 13 with fail
                    go_region
                    all_goals go_wp2
                    all_goals (
                     go_roundw
                     case rel =>
                       refine ⟨j + 1, by go_num, by omega, hide2 ⟨_, (HE3.out.setO s _ hs ⟨by omega, by omega⟩).drewN 1, ?_⟩⟩
                       have e := HG2.out
                       rw [HON.out, HOS.out, HWJ.out] at e
                       exact e
                     case measure => simp [intOf]; omega)
                  · rw [if_neg hbig] at hG; cases hG
            · rw [if_neg hrl] at hG
              have hrz : (m.rule nn == -1) = false := beq_eq_false_iff_ne.2 hrl
              have b7 := hE.co
              have b8 := hE.o.cell s (by rw [hE.ol]; exact hs)
              have b9 := hE.o.frz s
              have hsm2 := hE.small.1 s
              have HN := hide2 (And.intro hE hG)
              clear hE hG Mr hn1 hrl
              generalize wd.getD j 0 = wj at *
              generalize K'.2.getD s 0 = os at *
              generalize m.rule nn = rn at *
              go_upto_region 13 with fail
              go_region
              all_goals go_wp2
              all_goals (
               go_roundw
               case rel => exact ⟨j + 1, by go_num, by omega, hide2 ⟨_, (HN.out.1.setO s _ hs ⟨by omega, by omega⟩).drewN 1, HN.out.2⟩⟩
               case measure => simp [intOf]; omega)
        · have hd : ((List.range (m.width s)).map (m.next s)).drop j = [] := List.drop_of_length_le (by simp; omega)
          rw [hd] at hG
          unfold endsGo at hG
          cases hG
          have b1 := hE.ck
          have b2 := hE.k.cell s (by rw [hE.kl]; exact hs)
          have b3 := hE.k.frz s
          have HN := hide2 (hE.setK s 2 hs)
          clear hE
          go_wp2
          go_ret
          exact ⟨rfl, HN⟩
    · rw [if_neg h0] at h
      cases h
      have hz : (K.1.getD s 0 == 0) = false := beq_eq_false_iff_ne.2 h0
      have HE := hide2 hE
      clear hE
      generalize K.1.getD s 0 = x at *
      go_enter Tryz.func69, Tryz.ntmps69
      go_wp2
      go_ret
      exact ⟨rfl, HE⟩
end Go.Proofs.YtlhokghgicgppaaGreatDoor
