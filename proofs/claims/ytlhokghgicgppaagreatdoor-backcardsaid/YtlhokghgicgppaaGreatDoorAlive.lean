/- (*walk.Walk).Alive. -/
import Derived.Test.YtlhokghgicgppaaGreatDoorWalk
import Derived.Test.YtlhokghgicgppaaGreatDoorBytePure
set_option linter.unusedSimpArgs false
set_option linter.unusedVariables false
set_option maxRecDepth 100000
set_option maxHeartbeats 4000000
namespace Go.Proofs.YtlhokghgicgppaaGreatDoor
open Go.RowKit Go.Extern
theorem hide1 {p : Prop} (h : p) : Hid p := h
abbrev wkT (q o : Nat) : Nat → Nat → Prop := fun i j => i = q ∧ o < j ∧ j ≤ o + 4
def wkLeft (l : Sg.Bs) (q o : Nat) (w : World) : Nat :=
  if (w.cell? ⟨q, o + 1, none⟩).map intOf = some (-1) then 0 else l.length - (((w.cell? ⟨q, o + 2, none⟩).map intOf).getD 0).toNat + 1
theorem wkLeft_eq {l : Sg.Bs} {q o p : Nat} {w : World} {k : Sg.Wk} (h : WkAt w q o p k) : wkLeft l q o w = Sg.need l k := by
  unfold wkLeft Sg.need
  rw [h.c1, h.c2]
  simp [intOf]
theorem WkAt.below {w w' : World} {q o p : Nat} {k : Sg.Wk} (h : WkAt w q o p k) (hb : Below w.heap.size w w') : WkAt w' q o p k :=
  have hq := cell_lt h.c0
  ⟨(hb.cell (p := ⟨q, o, none⟩) hq).trans h.c0, (hb.cell (p := ⟨q, o + 1, none⟩) hq).trans h.c1, (hb.cell (p := ⟨q, o + 2, none⟩) hq).trans h.c2, (hb.cell (p := ⟨q, o + 3, none⟩) hq).trans h.c3, (hb.cell (p := ⟨q, o + 4, none⟩) hq).trans h.c4, fun j => (hb.frozen (p := ⟨q, j, none⟩) hq).trans (h.fr j)⟩
theorem SlAt.below {w w' : World} {a : Option Addr} {l : Sg.Bs} (h : SlAt w a l) (hb : Below w.heap.size w w') : SlAt w' a l := by
  rcases h with h | ⟨b, o, rfl, h⟩
  · exact .inl h
  · exact .inr ⟨b, o, rfl, fun j hj => (hb.cell (p := ⟨b, o + j, none⟩) (cell_lt (h j hj))).trans (h j hj)⟩
theorem Tabs.chg {w w' : World} (h : Tabs w) {T : Nat → Nat → Prop} (hc : Chg T w w') {B : Nat} (hB : 4 ≤ B) (hT : ∀ i o, T i o → B ≤ i) : Tabs w' :=
  ⟨fun c hc' => (hc.cell _ _ (cell_lt (h.1 c hc')) (fun t => by have := hT _ _ t; omega)).trans (h.1 c hc'),
   fun i hi => ⟨(hc.cell _ _ (cell_lt (h.2 i hi).1) (fun t => by have := hT _ _ t; omega)).trans (h.2 i hi).1, (hc.cell _ _ (cell_lt (h.2 i hi).2) (fun t => by have := hT _ _ t; omega)).trans (h.2 i hi).2⟩⟩
theorem alive_some (m : Sg.Mach) (hm : m.Ok) (k : Sg.Wk) (l : Sg.Bs) (hk : k.Ok m l) (cap : Nat) (w : World) (hT : Tabs w) (hl : l.length ≤ cap) (hN : l.length < 1000000000) (B p q o b ob : Nat) (hG : 4 ≤ B) (hB : B ≤ q) (hbq : b ≠ q)
    (Mi : MachIn w B p m) (hW : WkAt w q o p k) (hL : ∀ j, j < l.length → w.cell? ⟨b, ob + j, none⟩ = some (.int .u8 (l.getD j 0).toNat)) :
    Calls Tryz.prog 36 #[.pointer (some ⟨q, o, none⟩), .slice (some ⟨b, ob, none⟩) l.length cap] w fun e w' =>
      e = .returned (.bool (Sg.aliveW m l (Sg.walkTo m l (l.length + 1) k))) ∧ WkAt w' q o p (Sg.walkTo m l (l.length + 1) k) ∧ Chg (wkT q o) w w' := by
  have hwT : ∀ i j, wkT q o i j → B ≤ i := fun i j t => by omega
  go_enter Tryz.func36, Tryz.ntmps36
  go_wp2
  go_loopw [] (fun wr => ∃ kk : Sg.Wk, WkAt wr q o p kk ∧ Chg (wkT q o) w wr ∧ kk.Ok m l ∧ Sg.walkTo m l (l.length + 1) kk = Sg.walkTo m l (l.length + 1) k) (fun wr => wkLeft l q o wr)
  case atStart => exact ⟨k, hW, Chg.refl _ _, hk, rfl⟩
  case round =>
    obtain ⟨kk, hW1, hch, hok, heq⟩ := hrel
    have Heq : Hid (Sg.walkTo m l (l.length + 1) kk = Sg.walkTo m l (l.length + 1) k) := heq
    have Hok : Hid (kk.Ok m l) := hok
    have hpl := hok.1
    have hM1 := Mi.chg hm hch hwT
    have hT1 := hT.chg hch hG hwT
    have hL1 : ∀ j, j < l.length → wr.cell? ⟨b, ob + j, none⟩ = some (.int .u8 (l.getD j 0).toNat) := fun j hj => (hch.cell _ _ (cell_lt (hL j hj)) (fun t => hbq t.1)).trans (hL j hj)
    have HL1 : Hid (∀ j, j < l.length → wr.cell? ⟨b, ob + j, none⟩ = some (.int .u8 (l.getD j 0).toNat)) := hL1
    have hc1 := hW1.c1
    have hc2 := hW1.c2
    have hc0 := hW1.c0
    clear hL1 heq
    rcases hok.2.2 with hs | ⟨s, hs, hsl⟩
    · clear hok
      have hfin : Hid (Sg.walkTo m l (l.length + 1) k = kk) := by show _ = _; rw [← Heq.out]; exact Sg.walkTo_stay m l _ kk (fun c => c.1 hs)
      have hal : Hid (Sg.aliveW m l kk = false) := by show _ = _; unfold Sg.aliveW; rw [if_pos hs]
      rw [hs] at hc1
      go_wp2
      go_ret
      exact ⟨ret_bool (by rw [hfin.out, hal.out]), by rw [hfin.out]; exact hW1, hch⟩
    · clear hok
      rw [hs] at hc1
      have hsN := hm.statesN
      have g1 : ((s : Int) == -1) = false := beq_eq_false_iff_ne.2 (by omega)
      have hstay : Sg.full (l.drop kk.passed) = false → Hid (Sg.walkTo m l (l.length + 1) k = kk) := fun hf => by
        show _ = _; rw [← Heq.out]; exact Sg.walkTo_stay m l _ kk (fun c => by rw [hf] at c; cases c.2)
      rcases Nat.lt_or_ge kk.passed cap with hcp | hcp
      · have hsl1 : SlAt wr (some ⟨b, ob + kk.passed, none⟩) (l.drop kk.passed) := .inr ⟨_, _, rfl, fun j hj => by
          rw [List.length_drop] at hj
          have := HL1.out (kk.passed + j) (by omega)
          rw [← Nat.add_assoc] at this
          rw [this]; simp only [List.getD_eq_getElem?_getD, List.getElem?_drop]⟩
        have HF : Hid (Calls Tryz.prog 37 #[.slice (some ⟨b, ob + kk.passed, none⟩) (l.length - kk.passed) (cap - kk.passed)] wr fun e w' => e = .returned (.bool (Sg.full (l.drop kk.passed))) ∧ Below wr.heap.size wr w') := by
          have := full_any (l.drop kk.passed) _ (cap - kk.passed) wr hT1 hsl1 (by rw [List.length_drop]; omega)
          rw [List.length_drop] at this; exact this
        cases hf : Sg.full (l.drop kk.passed)
        · rw [hf] at HF
          have hfin := hstay hf
          clear hstay
          have Hf := hide1 hf
          clear hf
          by_cases hz : l.length - kk.passed = 0
          · have hal : Hid (Sg.aliveW m l kk = true) := by
              show _ = _
              unfold Sg.aliveW
              rw [if_neg (by rw [hs]; omega), if_pos (List.drop_of_length_le (by omega))]
            have hz' : (((l.length - kk.passed : Nat) : Int) == 0) = true := beq_iff_eq.2 (by omega)
            have Hz := hide1 hz
            clear hz
            go_wp2_with fail
            refine HF.out.mono ?_
            rintro e w1 ⟨rfl, hb⟩
            have hW2 := hW1.below hb
            have hd1 := hW2.c1
            have hd2 := hW2.c2
            go_wp2
            go_ret
            exact ⟨ret_bool (by rw [hfin.out, hal.out]), by rw [hfin.out]; exact hW2, hch.trans (Chg.of_below hb)⟩
          · have hne : l.drop kk.passed ≠ [] := fun e => by
              have := congrArg List.length e; rw [List.length_drop] at this; exact hz this
            have hal : Hid (Sg.aliveW m l kk = m.goesOn s (Sg.reach (l.drop kk.passed)).1 (Sg.reach (l.drop kk.passed)).2) := by
              show _ = _
              unfold Sg.aliveW
              rw [if_neg (by rw [hs]; omega), if_neg hne, hs]; rfl
            have hz' : (((l.length - kk.passed : Nat) : Int) == 0) = false := beq_eq_false_iff_ne.2 (by omega)
            have hsh := short_of_full Hf.out hne
            have Hsh := hide1 hsh
            clear hsh hne
            go_wp2_with fail
            refine HF.out.mono ?_
            rintro e w1 ⟨rfl, hb⟩
            have hW2 := hW1.below hb
            have hd0 := hW2.c0
            have hd1 := hW2.c1
            have hd2 := hW2.c2
            rw [hs] at hd1
            have hch2 : Chg (wkT q o) wr w1 := Chg.of_below hb
            have hM2 := hM1.chg hm hch2 hwT
            have HR : Hid (Calls Tryz.prog 62 #[.slice (some ⟨b, ob + kk.passed, none⟩) (l.length - kk.passed) (cap - kk.passed)] w1 fun e w' => e = .returned (.tuple #[.int .i32 (Sg.reach (l.drop kk.passed)).1, .int .i32 (Sg.reach (l.drop kk.passed)).2]) ∧ ∃ n, w' = w1.drewN n) := by
              have := reach_any (l.drop kk.passed) b (ob + kk.passed) (cap - kk.passed) w1 (by
                rcases hsl1.below hb with ⟨e, _⟩ | ⟨b', o', e, h⟩
                · cases e
                · cases e; exact h) Hsh.out (by rw [List.length_drop]; omega)
              rw [List.length_drop] at this; exact this
            clear HF hsl1
            generalize (Sg.reach (l.drop kk.passed)).1 = r1 at *
            generalize (Sg.reach (l.drop kk.passed)).2 = r2 at *
            go_wp2_with fail
            refine HR.out.mono ?_
            rintro e w2 ⟨rfl, n2, rfl⟩
            obtain ⟨cb, co, cc, sb, so, sc, nb, no, nc, M, l1, l2, l3, l4, l5⟩ := hM2
            have HG : Hid (Calls Tryz.prog 63 #[.pointer (some ⟨p, 0, none⟩), .int .i64 s, .int .i32 r1, .int .i32 r2] (w1.drewN n2).drew fun e w' => e = .returned (.bool (m.goesOn s r1 r2)) ∧ Below w1.heap.size (w1.drewN n2).drew w') :=
              goesOn_any m hm s r1 r2 (w1.drewN n2).drew p cb co cc sb so sc nb no nc (M.of fun _ _ _ h => h) hsl l5
            clear HR
            go_wp2
            go_region_with (go_at_call 63; refine HG.out.mono ?_; rintro e w3 ⟨rfl, hb3⟩)
            all_goals
              go_wp2
              go_ret
              have hb4 : Below w1.heap.size w1 w3 := ⟨hb3.os, hb3.tape, hb3.output, hb3.size, hb3.block⟩
              exact ⟨ret_bool (by rw [hfin.out, hal.out]), by rw [hfin.out]; exact hW2.below hb4, (hch.trans hch2).trans (Chg.of_below hb4)⟩
        · rw [hf] at HF
          have Hf := hide1 hf
          clear hf hstay
          go_wp2_with fail
          refine HF.out.mono ?_
          rintro e w1 ⟨rfl, hb⟩
          have hW2 := hW1.below hb
          have hch2 : Chg (wkT q o) wr w1 := Chg.of_below hb
          have hd1 := hW2.c1
          have hd2 := hW2.c2
          have hsl2 : SlAt w1 (some ⟨b, ob + kk.passed, none⟩) (l.drop kk.passed) := hsl1.below hb
          have HS : Hid (Calls Tryz.prog 61 #[.pointer (some ⟨q, o, none⟩), .slice (some ⟨b, ob + kk.passed, none⟩) (l.length - kk.passed) (cap - kk.passed)] w1 fun e w' => (∃ v, e = .returned v) ∧ WkAt w' q o p (Sg.stepW m kk (l.drop kk.passed)) ∧ Chg (wkT q o) w1 w') := by
            have := step_any m hm kk s hs hsl (by omega) (l.drop kk.passed) (some ⟨b, ob + kk.passed, none⟩) (cap - kk.passed) w1 (hT1.chg hch2 hG hwT) hsl2 (Sg.full_ne Hf.out) B p q o hB (hM1.chg hm hch2 hwT) hW2
            rw [List.length_drop] at this; exact this
          have hgo := Sg.walkTo_go m hm l (l.length + 1) kk Hok.out (Sg.need_le l kk) ⟨by rw [hs]; omega, Hf.out⟩
          have hst := Sg.stepW_ok m hm l kk Hok.out (by rw [hs]; omega) Hf.out
          have Hgo := hide1 hgo
          have Hst := hide1 hst
          clear hgo hst HF hsl1 hsl2
          go_wp2_with fail
          refine HS.out.mono ?_
          rintro e w2 ⟨⟨v, rfl⟩, hW3, hch3⟩
          go_wp2
          go_roundw
          case rel => exact ⟨_, hW3, (hch.trans hch2).trans hch3, Hst.out.1, by rw [← Hgo.out, Heq.out]⟩
          case measure => rw [wkLeft_eq hW3, wkLeft_eq hW1]; exact Hst.out.2
      · obtain rfl : kk.passed = cap := by omega
        have hlen : l.length = kk.passed := by omega
        have hdr : l.drop kk.passed = [] := List.drop_of_length_le (by omega)
        have hfin := hstay (by rw [hdr]; rfl)
        have hal : Hid (Sg.aliveW m l kk = true) := by
          show _ = _
          unfold Sg.aliveW
          rw [if_neg (by rw [hs]; omega), if_pos hdr]
        have HF : Hid (∀ x c : Nat, x = 0 → Calls Tryz.prog 37 #[.slice (some ⟨b, ob, none⟩) x c] wr fun e w' => e = .returned (.bool false) ∧ Below wr.heap.size wr w') := fun x c hx => by
          subst hx
          exact full_any [] (some ⟨b, ob, none⟩) c wr hT1 (.inr ⟨b, ob, rfl, fun j hj => by simp at hj⟩) (by simp)
        have hz' : (((l.length - kk.passed : Nat) : Int) == 0) = true := beq_iff_eq.2 (by omega)
        have Hlen := hide1 hlen
        clear hstay hdr hlen
        go_wp2_with fail
        refine (HF.out _ _ (by have := Hlen.out; omega)).mono ?_
        rintro e w1 ⟨rfl, hb⟩
        have hW2 := hW1.below hb
        have hd1 := hW2.c1
        have hd2 := hW2.c2
        go_wp2
        go_ret
        exact ⟨ret_bool (by rw [hfin.out, hal.out]), by rw [hfin.out]; exact hW2, hch.trans (Chg.of_below hb)⟩
theorem alive_none (m : Sg.Mach) (k : Sg.Wk) (hk : k.Ok m []) (w : World) (hT : Tabs w) (p q o cap : Nat) (hW : WkAt w q o p k) :
    Calls Tryz.prog 36 #[.pointer (some ⟨q, o, none⟩), .slice none 0 cap] w fun e w' =>
      e = .returned (.bool (Sg.aliveW m [] (Sg.walkTo m [] 1 k))) ∧ WkAt w' q o p (Sg.walkTo m [] 1 k) ∧ Chg (wkT q o) w w' := by
  have hfin : Hid (Sg.walkTo m [] 1 k = k) := Sg.walkTo_stay m [] 1 k (fun c => by rw [List.drop_nil] at c; cases c.2)
  have hc1 := hW.c1
  have hc2 := hW.c2
  have hp : k.passed = 0 := by have := hk.1; simpa using this
  rw [hp] at hc2
  have HF : Hid (∀ c : Nat, Calls Tryz.prog 37 #[.slice none 0 c] w fun e w' => e = .returned (.bool false) ∧ Below w.heap.size w w') := fun c =>
    full_any [] none c w hT (.inl ⟨rfl, rfl⟩) (by simp)
  rw [hfin.out]
  rcases hk.2.2 with hs | ⟨s, hs, hsl⟩
  · have hal : Hid (Sg.aliveW m [] k = false) := by show _ = _; unfold Sg.aliveW; rw [if_pos hs]
    rw [hs] at hc1
    generalize Sg.aliveW m [] k = al at *
    go_enter Tryz.func36, Tryz.ntmps36
    go_wp2
    go_loopw [] (fun wr => wr = w) (fun _ => 0)
    case atStart => exact rfl
    case round =>
      subst hrel
      go_wp2
      go_ret
      exact ⟨ret_bool hal.out, hW, Chg.refl _ _⟩
  · have hal : Hid (Sg.aliveW m [] k = true) := by show _ = _; unfold Sg.aliveW; rw [if_neg (by rw [hs]; omega), if_pos (by simp)]
    rw [hs] at hc1
    have g1 : ((s : Int) == -1) = false := beq_eq_false_iff_ne.2 (by omega)
    generalize Sg.aliveW m [] k = al at *
    go_enter Tryz.func36, Tryz.ntmps36
    go_wp2
    go_loopw [] (fun wr => wr = w) (fun _ => 0)
    case atStart => exact rfl
    case round =>
      subst hrel
      go_wp2_with fail
      refine (HF.out _).mono ?_
      rintro e w1 ⟨rfl, hb⟩
      have hW2 := hW.below hb
      have hd1 := hW2.c1
      have hd2 := hW2.c2
      rw [hs] at hd1
      rw [hp] at hd2
      go_wp2
      go_ret
      exact ⟨ret_bool hal.out, hW2, Chg.of_below hb⟩
end Go.Proofs.YtlhokghgicgppaaGreatDoor
