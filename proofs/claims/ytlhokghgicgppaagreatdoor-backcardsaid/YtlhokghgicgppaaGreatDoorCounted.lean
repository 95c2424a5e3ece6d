/- Turned; single. -/
/- edge, item, where they are right. -/
/- Classes, plainly. -/
/- number, most. -/
/- A class of a rule, where it is right. -/
/- counted, where it is right. -/
import Derived.Test.YtlhokghgicgppaaGreatDoorScal3
import Derived.Test.YtlhokghgicgppaaGreatDoorRd3
import Derived.Test.YtlhokghgicgppaaGreatDoorPlaces
set_option linter.unusedSimpArgs false
set_option linter.unusedVariables false
set_option maxRecDepth 100000
set_option maxHeartbeats 4000000
namespace Go.Proofs.YtlhokghgicgppaaGreatDoor
open Go.RowKit Go.Extern
theorem RowAt.two (w : World) (a b : Value) (t : TypeId) : RowAt 2 (w.alloc (.cells #[a, b] t)) (some ⟨w.heap.size, 0, none⟩) 1 1 [a, b] := by
  have hb := heap_alloc_new w (.cells #[a, b] t)
  have hc : ∀ o, (w.alloc (.cells #[a, b] t)).cell? ⟨w.heap.size, o, none⟩ = #[a, b][o]? := cell_of' hb
  refine ⟨rfl, .inr ⟨w.heap.size, 0, rfl, Nat.le_refl _, fun j v hj => ?_, fun j hj => ?_, by simp, fun j => ?_⟩⟩
  · rw [Nat.zero_add, hc, ← hj]; simp
  · rw [Nat.zero_add, hc]
    match j, hj with
    | 0, _ => rfl
    | 1, _ => rfl
  · unfold World.frozen?; simp only [hb]; simp
theorem gapsGo_len : ∀ (s : List (Int × Int)) (low : Int), (Sg.gapsGo low s).length = s.length + 1
  | [], _ => rfl
  | r :: l, low => by unfold Sg.gapsGo; rw [List.length_cons, gapsGo_len l]; rfl
def Bnd0 (l : List (Int × Int)) : Prop := ∀ x ∈ l, (0 ≤ x.1 ∧ x.1 ≤ 1114111) ∧ (0 ≤ x.2 ∧ x.2 ≤ 1114111)
theorem turned_any (w : World) (ra : Option Addr) (rc : Nat) (s : List (Int × Int)) (hR : RowAt 2 w ra rc s.length (s.flatMap rgCells)) (h5 : s.length ≤ 5) (hB : Bnd0 s) (hne : Sg.partsOf (Sg.gapsGo 0 s) ≠ []) :
    Calls Tryz.prog 204 #[.slice ra s.length rc] w fun e w' => ∃ ra' rc', e = .returned (.slice ra' (Sg.turnedR s).length rc') ∧ RowAt 2 w' ra' rc' (Sg.turnedR s).length ((Sg.turnedR s).flatMap rgCells) ∧ Below w.heap.size w w' ∧ InD (fun b => w.heap.size ≤ b) ra' := by
  have HR := hide2 hR
  have HB := hide2 hB
  have HN := hide2 hne
  clear hR hB hne
  generalize hfin : Sg.turnedR s = fin
  have HF := hide2 (show Sg.ofR (Sg.gapsGo 0 s) = fin from hfin)
  clear hfin
  generalize hall : Sg.gapsGo 0 s = all at *
  have H0 := hide2 hall
  have hal : all.length = s.length + 1 := by rw [← hall, gapsGo_len]
  clear hall
  go_enter Tryz.func204, Tryz.ntmps204
  go_wp2
  go_loopw [3, 4, 9] (fun sv lv iv wr => ∃ (j : Nat) (ga : Option Addr) (gc : Nat) (gs : List (Int × Int)) (low : Int), sv = .slice ga j gc ∧ lv = .int .i32 low ∧ iv = .int .i64 j ∧ j ≤ s.length ∧ 0 ≤ low ∧ low ≤ 1114112 ∧ Hid (gs.length = j ∧ RowAt 2 wr ga gc j (gs.flatMap rgCells) ∧ InD (fun b => w.heap.size ≤ b) ga ∧ Below w.heap.size w wr ∧ gs ++ Sg.gapsGo low (s.drop j) = all ∧ Bnd gs)) (fun _ _ iv _ => s.length - (intOf iv).toNat)
  case atStart => exact ⟨0, none, 0, [], 0, rfl, rfl, rfl, Nat.zero_le _, by omega, by omega, hide2 ⟨rfl, RowAt.nil 2 w, (fun _ _ e => by cases e), Below.refl _ _, H0.out, fun x hx => by cases hx⟩⟩
  case round =>
    obtain ⟨j, ga, gc, gs, low, rfl, rfl, rfl, hj, hl0, hl1, H⟩ := hrel
    by_cases hlt : j < s.length
    · obtain ⟨g0, g1, g2, g3, g4, g5⟩ := H.out
      obtain ⟨rb, ro, rfl, hrl, k0, k1⟩ := rg_cells (HR.out.below g3) j hlt
      rw [getD_of s j hlt] at k0 k1
      have hxb := HB.out s[j] (List.getElem_mem _)
      rw [List.drop_eq_getElem_cons hlt] at g4
      generalize s[j] = x at *
      obtain ⟨x1, x2⟩ := x
      dsimp only at k0 k1 hxb
      have hbl := blw1' wr (.cells #[.int .i32 x1, .int .i32 x2] 294)
      have A1 := append_two (w := wr.alloc (.cells #[.int .i32 x1, .int .i32 x2] 294)) 222 294 _ 8 info_rg rfl Tryz.underlying222 (by omega) (g1.below hbl) (.int .i32 low) (.int .i32 (x1 - 1)) rfl rfl (by omega) 222 294
      have hsz : (wr.alloc (.cells #[.int .i32 x1, .int .i32 x2] 294)).heap.size = wr.heap.size + 1 := by simp
      rw [hsz] at A1
      clear hsz
      have hw1 := below_go g3 hbl
      have hnb := heap_alloc_new wr (.cells #[.int .i32 x1, .int .i32 x2] 294)
      have hpl : ∀ b o, ga = some ⟨b, o, none⟩ → b < wr.heap.size := fun b o e => g1.lt e
      have HA1 := hide2 A1
      have HX := hide2 (And.intro g2 (And.intro hw1 (And.intro hnb (And.intro g4 (And.intro g5 (And.intro hpl g0))))))
      clear A1 g1 g2 g3 g4 g5 hbl hw1 hnb hpl H g0
      go_wp2_with (at_builtin; obtain ⟨ra2, rc2, w2, hrun, hrow, hch, hmv⟩ := HA1.out; refine wpList_append_run rfl _ _ _ _ rfl _ _ _ rfl rfl hrun ?_; have hcb : w2.heap[wr.heap.size]? = some (.cells #[.int .i32 x1, .int .i32 x2] 294) := (hch.block _ (by simp) (fun o t => by obtain ⟨o', e⟩ := t; have := HX.out.2.2.2.2.2.1 _ _ e; omega)).trans HX.out.2.2.1; have c0 : w2.cell? ⟨wr.heap.size, 0, none⟩ = some (.int .i32 x1) := cell_of' hcb 0; have c1 : w2.cell? ⟨wr.heap.size, 1, none⟩ = some (.int .i32 x2) := cell_of' hcb 1; have H2 := hide2 (And.intro hrow (And.intro hch hmv)); clear hrun hrow hch hmv HA1 hcb)
      obtain ⟨f1, f2, f3, f4, f5, f6, f7⟩ := HX.out
      obtain ⟨r1, r2, r3⟩ := H2.out
      rw [rg_snoc] at r1
      refine ⟨⟨j + 1, ra2, rc2, gs ++ [(low, x1 - 1)], x2 + 1, rfl, by go_num, by go_num, by omega, by omega, by omega, hide2 ⟨by rw [List.length_append, f7]; rfl, r1, f1.moved f2.size r3, below_row f2 r2 f1, ?_, ?_⟩⟩, by simp [intOf]; omega⟩
      · rw [← f4, List.append_assoc]; rfl
      · intro x hx
        rcases List.mem_append.1 hx with hx | hx
        · exact f5 x hx
        · simp at hx; subst hx; dsimp only; omega
    · obtain ⟨g0, g1, g2, g3, g4, g5⟩ := H.out
      rw [List.drop_of_length_le (by omega)] at g4
      have g4' : gs ++ [(low, 1114111)] = all := g4
      have A1 := append_two (w := wr) 222 294 _ 8 info_rg rfl Tryz.underlying222 (by omega) g1 (.int .i32 low) (.int .i32 1114111) rfl rfl (by omega) 222 294
      rw [rg_snoc, g4'] at A1
      have hball : Bnd all := by
        rw [← g4']
        intro x hx
        rcases List.mem_append.1 hx with hx | hx
        · exact g5 x hx
        · simp at hx; subst hx; dsimp only; omega
      have hjs : j = s.length := by omega
      have hal' : all.length = j + 1 := by omega
      have A2 : ∀ (W : World) (qa : Option Addr) (qc : Nat), RowAt 2 W qa qc all.length (all.flatMap rgCells) → _ := fun W qa qc h => of_any W qa qc all h (by omega) hball HN.out
      rw [HF.out, hal'] at A2
      have HA1 := hide2 A1
      have HA2 := hide2 A2
      have HX := hide2 (And.intro g2 g3)
      clear A1 A2 g0 g1 g2 g3 g4 g4' g5 H hball hal' hjs
      generalize all.flatMap rgCells = cells at *
      go_wp2_with (first
        | (at_builtin; obtain ⟨ra2, rc2, w2, hrun, hrow, hch, hmv⟩ := HA1.out; refine wpList_append_run rfl _ _ _ _ rfl _ _ _ rfl rfl hrun ?_; have H2 := hide2 (And.intro hrow (And.intro hch hmv)); clear hrun hrow hch hmv HA1)
        | (go_at_call 203; refine (HA2.out _ _ _ H2.out.1).mono ?_; clear HA2; rintro e w3 ⟨ua, uc, rfl, hrow3, hb3, hi3⟩; have H3 := hide2 (And.intro hrow3 (And.intro hb3 hi3)); clear hrow3 hb3 hi3))
      go_ret
      obtain ⟨f1, f2⟩ := HX.out
      obtain ⟨r1, r2, r3⟩ := H2.out
      obtain ⟨t1, t2, t3⟩ := H3.out
      have d1 := below_row f2 r2 f1
      exact ⟨ua, uc, rfl, t1, below_go d1 t2, t3.of (fun b h => Nat.le_trans d1.size h)⟩
theorem parts_single (v : Int) (hv : Sg.validRune v = true) : Sg.partsOf [(v, v)] ≠ [] := by
  have h : (0 ≤ v ∧ v < 55296) ∨ (57343 < v ∧ v ≤ 1114111) := by unfold Sg.validRune at hv; simpa using hv
  have e : Sg.partsOf [(v, v)] = Sg.addRange (Sg.addRange [] v (min v 55295)) (max v 57344) v := rfl
  rw [e]
  rcases h with h | h
  · have e1 : Sg.addRange [] v (min v 55295) = [(v, min v 55295)] := by unfold Sg.addRange; rw [if_neg (by omega)]; rfl
    rw [e1]; unfold Sg.addRange; split <;> simp
  · unfold Sg.addRange
    rw [if_neg (show ¬ v < max v 57344 by omega)]; simp
theorem bnd_single (v : Int) (hv : Sg.validRune v = true) : Bnd [(v, v)] := by
  have h : (0 ≤ v ∧ v < 55296) ∨ (57343 < v ∧ v ≤ 1114111) := by unfold Sg.validRune at hv; simpa using hv
  intro x hx
  simp at hx; subst hx; dsimp only; omega
theorem joinGo_len : ∀ (l : List Sg.Rg) (o : Option Sg.Rg), (Sg.joinGo o l).length ≤ l.length + 1
  | [], none => by simp [Sg.joinGo]
  | [], some a => by simp [Sg.joinGo]
  | r :: l, none => by
    have := joinGo_len l (some r)
    show (Sg.joinGo (some r) l).length ≤ _
    rw [List.length_cons]; omega
  | r :: l, some a => by
    by_cases h : r.1 ≤ a.2 + 1
    · rw [joinGo_le h]; have := joinGo_len l (some (a.1, max a.2 r.2)); rw [List.length_cons]; omega
    · rw [joinGo_gt h]; have := joinGo_len l (some r); rw [List.length_cons, List.length_cons]; omega
theorem single_any (w : World) (v : Int) (hv : Sg.validRune v = true) :
    Calls Tryz.prog 205 #[.int .i32 v] w fun e w' => ∃ x, e = .returned x ∧ NodeAt (fun b => w.heap.size ≤ b) w' 1 x (Sg.single v) ∧ Below w.heap.size w w' := by
  have A1 := of_any _ _ 1 [(v, v)] (RowAt.two w (.int .i32 v) (.int .i32 v) 294) (by simp) (bnd_single v hv) (parts_single v hv)
  have hlen : (Sg.ofR [(v, v)]).length < 1000000 := by
    have h1 := joinGo_len (Sg.byLow (Sg.partsOf [(v, v)])) none
    rw [byLow_len] at h1
    have h2 : (Sg.partsOf [(v, v)]).length ≤ 2 := by
      have e : Sg.partsOf [(v, v)] = Sg.addRange (Sg.addRange [] v (min v 55295)) (max v 57344) v := rfl
      rw [e]
      have a := addRange_len (Sg.addRange [] v (min v 55295)) (max v 57344) v
      have b := addRange_len [] v (min v 55295)
      simp at b; omega
    have h3 : Sg.ofR [(v, v)] = Sg.joinGo none (Sg.byLow (Sg.partsOf [(v, v)])) := rfl
    rw [h3]; omega
  unfold Sg.single
  generalize Sg.ofR [(v, v)] = s at *
  have HA := hide2 A1
  have HL := hide2 hlen
  clear A1 hlen
  go_enter Tryz.func205, Tryz.ntmps205
  go_wp2_with (go_at_call 203; refine HA.out.mono ?_; clear HA; rintro e w1 ⟨ua, uc, rfl, hrow, hb, hi⟩; have H1 := hide2 (And.intro hrow (And.intro hb hi)); clear hrow hb hi)
  go_ret
  obtain ⟨r1, r2, r3⟩ := H1.out
  have hb := blw1' w (.cells #[.int .i32 v, .int .i32 v] 294)
  exact ⟨_, rfl, ⟨ua, uc, rfl, r1, r3.of (fun b h => Nat.le_trans hb.size h), HL.out⟩, below_go hb r2⟩
end Go.Proofs.YtlhokghgicgppaaGreatDoor
namespace Go.Proofs.YtlhokghgicgppaaGreatDoor
open Go.RowKit Go.Extern
theorem escape_st {w wx : World} {q : Nat} {r : Sg.Rd} (h : RdSt w q wx r) {x : Int} {r' : Sg.Rd} (hx : r.escape = .ok (x, r')) :
    Calls Tryz.prog 206 #[.pointer (some ⟨q, 0, none⟩)] wx fun e w' => e = .returned (.int .i32 x) ∧ RdSt w q w' r' :=
  (escape_any wx q r h.at_ x r' hx).mono fun _ _ ⟨he, hs⟩ => ⟨he, h.go hs⟩
theorem edge_any (w : World) (q : Nat) (r : Sg.Rd) (h : RdAt w q r) (x : Int) (r' : Sg.Rd) (hx : r.edge = .ok (x, r')) :
    Calls Tryz.prog 230 #[.pointer (some ⟨q, 0, none⟩)] w fun e w' => e = .returned (.int .i32 x) ∧ RdSt w q w' r' := by
  have S0 := RdSt.start h
  clear h
  have q0 := fldS0
  have HP := hide2 (peek_st S0)
  have HT := hide2 (fun wx (hx : RdSt w q wx r) => take_st hx)
  unfold Sg.Rd.edge at hx
  split at hx
  · rename_i hp
    have HE := hide2 (fun wx (hx' : RdSt w q wx r) => escape_st hx' hx)
    rw [hp] at HP
    clear HT hx
    generalize r.peek.2 = p2 at *
    go_enter Tryz.func230, Tryz.ntmps230
    go_wp2_with (first
      | (go_at_call 142; refine HP.out.mono ?_; clear HP; rintro e w1 ⟨rfl, S1⟩)
      | (go_at_call 206; refine (HE.out _ (RdSt.alloc (by assumption) _)).mono ?_; clear HE; rintro e w2 ⟨rfl, S2⟩))
    go_ret
    exact ⟨rfl, S2⟩
  · rename_i hp
    split at hx
    · cases hx
    · rename_i hn
      have ex : r.take.1.1 = r.peek.1 := rfl
      rw [ex] at hx
      clear ex
      have n1 : ¬ r.peek.1 = 91 := fun e => hn (.inl e)
      have n2 : ¬ r.peek.1 = 93 := fun e => hn (.inr (.inl e))
      have n3 : ¬ r.peek.1 = 45 := fun e => hn (.inr (.inr (.inl e)))
      have n4 : ¬ r.peek.1 = -1 := fun e => hn (.inr (.inr (.inr (.inl e))))
      have n5 : ¬ r.peek.1 = -2 := fun e => hn (.inr (.inr (.inr (.inr e))))
      clear hn
      simp only [Except.ok.injEq, Prod.mk.injEq] at hx
      obtain ⟨hx1, rfl⟩ := hx
      generalize r.peek.1 = p1 at *
      generalize r.peek.2 = p2 at *
      generalize r.take.2 = r2 at *
      subst hx1
      go_enter Tryz.func230, Tryz.ntmps230
      go_wp2_with (first
        | (go_at_call 142; refine HP.out.mono ?_; clear HP; rintro e w1 ⟨rfl, S1⟩)
        | (go_at_call 172; refine (HT.out _ (RdSt.alloc (by assumption) _)).mono ?_; clear HT; rintro e w2 ⟨rfl, S2⟩))
      go_ret
      exact ⟨rfl, S2⟩
theorem edge_st {w wx : World} {q : Nat} {r : Sg.Rd} (h : RdSt w q wx r) {x : Int} {r' : Sg.Rd} (hx : r.edge = .ok (x, r')) :
    Calls Tryz.prog 230 #[.pointer (some ⟨q, 0, none⟩)] wx fun e w' => e = .returned (.int .i32 x) ∧ RdSt w q w' r' :=
  (edge_any wx q r h.at_ x r' hx).mono fun _ _ ⟨he, hs⟩ => ⟨he, h.go hs⟩
def rgV (x : Int × Int) : Value := .agg #[.int .i32 x.1, .int .i32 x.2]
def Sg.Rd.itemOk (r : Sg.Rd) (x : Sg.Rg) (r' : Sg.Rd) : Prop := ∃ r1 : Sg.Rd, r.edge = .ok (x.1, r1) ∧ ((r1.peek.1 ≠ 45 ∧ x.2 = x.1 ∧ r' = r1) ∨ (r1.peek.1 = 45 ∧ x.1 ≤ x.2 ∧ r1.take.2.edge = .ok (x.2, r')))
theorem RdSt.newblk {w wx : World} {q : Nat} {r : Sg.Rd} {o : Obj} (h : RdSt (w.alloc o) q wx r) (hq : q < w.heap.size) : wx.heap[w.heap.size]? = some o :=
  (h.chg.block _ (by simp) (fun o t => by have := t.1; omega)).trans (heap_alloc_new w o)
theorem item_any (w : World) (q : Nat) (r : Sg.Rd) (h : RdAt w q r) (x : Sg.Rg) (r' : Sg.Rd) (hx : r.itemOk x r') :
    Calls Tryz.prog 219 #[.pointer (some ⟨q, 0, none⟩)] w fun e w' => e = .returned (rgV x) ∧ RdSt w q w' r' := by
  obtain ⟨lo, hi⟩ := x
  obtain ⟨r1, h1, h2⟩ := hx
  have S := hide2 ((RdSt.start h).alloc (.cells #[.int .i32 0, .int .i32 0] 294))
  have S0 := RdSt.start S.out.at_
  have hq := h.lt
  clear h
  unfold rgV
  dsimp only at h1 h2 ⊢
  have q1 := fldS1
  have HP := hide2 (peek_st S0)
  have HE := hide2 (fun wx (hx : RdSt (w.alloc (.cells #[.int .i32 0, .int .i32 0] 294)) q wx r) => edge_st hx h1)
  have HA := hide2 (fun wx (hx : RdSt (w.alloc (.cells #[.int .i32 0, .int .i32 0] 294)) q wx r1) => accept_st hx 45)
  clear h1
  generalize r.peek.1 = p1 at *
  generalize r.peek.2 = p2 at *
  rcases h2 with ⟨hn, rfl, rfl⟩ | ⟨hy, hle, he⟩
  · rw [accept_no hn] at HA
    clear hn
    go_enter Tryz.func219, Tryz.ntmps219
    go_wp2_with (first
      | (go_at_call 142; refine HP.out.mono ?_; clear HP; rintro e w1 ⟨rfl, S1⟩)
      | (go_at_call 230; refine (HE.out _ (by assumption)).mono ?_; clear HE; rintro e w2 ⟨rfl, S2⟩)
      | (go_at_call 140; refine (HA.out _ (by assumption)).mono ?_; clear HA; rintro e w3 ⟨rfl, S3⟩; have hb := S3.newblk hq; have c0 : w3.cell? ⟨w.heap.size, 0, none⟩ = some (.int .i32 0) := cell_of hb 0; have c1 : w3.cell? ⟨w.heap.size, 1, none⟩ = some (.int .i32 0) := cell_of hb 1; have z0 := frz_of hb 0; have z1 := frz_of hb 1; have HB := hide2 hb; clear hb))
    have e1 := set2_row HB.out (.int .i32 hi) (.int .i32 hi)
    refine bodyPost_ret (results_cell_row rfl _ _ w.heap.size 294 #[.int .i32 hi, .int .i32 hi] (0, 0) _ rfl e1 Tryz.underlying294 rfl (by kernel_rfl)) rfl ?_
    exact ⟨rfl, ((S.out.go S3).set (Nat.le_refl _) _ _).set (Nat.le_refl _) _ _⟩
  · rw [accept_yes hy] at HA
    have HE2 := hide2 (fun wx (hx : RdSt (w.alloc (.cells #[.int .i32 0, .int .i32 0] 294)) q wx r1.take.2) => edge_st hx he)
    have hle' : ¬ hi < lo := by omega
    clear hy he hle
    generalize r1.take.2 = r2 at *
    go_enter Tryz.func219, Tryz.ntmps219
    go_wp2_with (first
      | (go_at_call 142; refine HP.out.mono ?_; clear HP; rintro e w1 ⟨rfl, S1⟩)
      | (go_at_call 230; refine (HE.out _ (by assumption)).mono ?_; clear HE; rintro e w2 ⟨rfl, S2⟩)
      | (go_at_call 140; refine (HA.out _ (by assumption)).mono ?_; clear HA; rintro e w3 ⟨rfl, S3⟩)
      | (go_at_call 230; refine (HE2.out _ (by assumption)).mono ?_; clear HE2; rintro e w4 ⟨rfl, S4⟩; have hb := S4.newblk hq; have c0 : w4.cell? ⟨w.heap.size, 0, none⟩ = some (.int .i32 0) := cell_of hb 0; have c1 : w4.cell? ⟨w.heap.size, 1, none⟩ = some (.int .i32 0) := cell_of hb 1; have z0 := frz_of hb 0; have z1 := frz_of hb 1; have HB := hide2 hb; clear hb))
    have e1 := set2_row HB.out (.int .i32 lo) (.int .i32 hi)
    refine bodyPost_ret (results_cell_row rfl _ _ w.heap.size 294 #[.int .i32 lo, .int .i32 hi] (0, 0) _ rfl e1 Tryz.underlying294 rfl (by kernel_rfl)) rfl ?_
    exact ⟨rfl, ((S.out.go S4).set (Nat.le_refl _) _ _).set (Nat.le_refl _) _ _⟩
end Go.Proofs.YtlhokghgicgppaaGreatDoor
namespace Go.Proofs.YtlhokghgicgppaaGreatDoor
open Go.RowKit Go.Extern
theorem valid_iff (v : Int) : Sg.validRune v = true ↔ (0 ≤ v ∧ v < 55296) ∨ (57343 < v ∧ v ≤ 1114111) := by unfold Sg.validRune; simp
theorem self_valid : ∀ v ∈ Sg.themselves, Sg.validRune v = true := by decide
theorem escape_valid {r : Sg.Rd} {x : Int} {r' : Sg.Rd} (h : r.escape = .ok (x, r')) : Sg.validRune x = true := by
  unfold Sg.Rd.escape at h
  dsimp only at h
  split at h
  · cases h; rfl
  · split at h
    · cases h; rfl
    · split at h
      · cases h; rfl
      · split at h
        · split at h
          · rename_i v r3 hn
            cases h
            unfold Sg.Rd.numbered at hn
            dsimp only at hn
            split at hn
            case isFalse => cases hn
            split at hn
            case isFalse => cases hn
            split at hn
            case isFalse => cases hn
            rename_i hb
            rw [Bool.and_eq_true] at hb
            simp only [Prod.mk.injEq, Option.some.injEq] at hn
            rw [← hn.1]; exact hb.2
          · cases h
        · split at h
          · rename_i h1
            cases h; exact self_valid _ (by simpa using h1)
          · cases h
theorem edge_valid {r : Sg.Rd} (ho : Sg.RdOk r) {x : Int} {r' : Sg.Rd} (h : r.edge = .ok (x, r')) : Sg.validRune x = true := by
  unfold Sg.Rd.edge at h
  split at h
  · exact escape_valid h
  · split at h
    · cases h
    · rename_i hn
      have ex : r.take.1.1 = r.peek.1 := rfl
      rw [ex] at h
      cases h
      rcases ho.val r.next with h | h | h
      · exact absurd (.inr (.inr (.inr (.inl h)))) hn
      · exact absurd (.inr (.inr (.inr (.inr h)))) hn
      · exact h
theorem item_ok {r : Sg.Rd} {x : Sg.Rg} {r' : Sg.Rd} (h : r.item = .ok (x, r')) : r.itemOk x r' := by
  unfold Sg.Rd.item at h
  split at h
  · cases h
  · rename_i low r1 he
    dsimp only at h
    split at h
    · rename_i ha
      have hp : r1.peek.1 = 45 := by
        by_cases e : r1.peek.1 = 45
        · exact e
        · rw [accept_no e] at ha; cases ha
      rw [accept_yes hp] at h
      dsimp only at h
      split at h
      · cases h
      · rename_i high r2 he2
        split at h
        · cases h
        · rename_i hle
          cases h
          exact ⟨r1, he, .inr ⟨hp, by dsimp only; omega, he2⟩⟩
    · rename_i ha
      have hp : r1.peek.1 ≠ 45 := fun e => by rw [accept_yes e] at ha; exact ha rfl
      rw [accept_no hp] at h
      cases h
      exact ⟨r1, he, .inl ⟨hp, rfl, rfl⟩⟩
def ItemV (x : Int × Int) : Prop := Sg.validRune x.1 = true ∧ Sg.validRune x.2 = true ∧ x.1 ≤ x.2
theorem parts_grow (rs a : List (Int × Int)) (h : a ≠ []) : rs.foldl (fun l r => Sg.addRange (Sg.addRange l r.1 (min r.2 55295)) (max r.1 57344) r.2) a ≠ [] := by
  induction rs generalizing a with
  | nil => exact h
  | cons r rs ih =>
    rw [List.foldl_cons]
    apply ih
    have g : ∀ (l : List (Int × Int)) (x y : Int), l ≠ [] → Sg.addRange l x y ≠ [] := fun l x y hl => by
      unfold Sg.addRange; split
      · exact hl
      · simp
    exact g _ _ _ (g _ _ _ h)
theorem parts_ne {l : List (Int × Int)} (h : ∀ x ∈ l, ItemV x) (hl : l ≠ []) : Sg.partsOf l ≠ [] := by
  cases l with
  | nil => exact absurd rfl hl
  | cons x l =>
    obtain ⟨h1, h2, h3⟩ := h x (List.mem_cons_self ..)
    rw [valid_iff] at h1 h2
    unfold Sg.partsOf
    rw [List.foldl_cons]
    apply parts_grow
    by_cases hs : x.1 < 55296
    · have e1 : Sg.addRange [] x.1 (min x.2 55295) = [(x.1, min x.2 55295)] := by unfold Sg.addRange; rw [if_neg (by omega)]; rfl
      rw [e1]; unfold Sg.addRange; split <;> simp
    · unfold Sg.addRange
      rw [if_neg (show ¬ x.2 < max x.1 57344 by omega)]; simp
theorem items_bnd {l : List (Int × Int)} (h : ∀ x ∈ l, ItemV x) : Bnd l := fun x hx => by
  obtain ⟨h1, h2, _⟩ := h x hx
  rw [valid_iff] at h1 h2
  omega
theorem Bnd0.add {l : List (Int × Int)} (h : Bnd0 l) {a b : Int} (ha : 0 ≤ a) (hb : b ≤ 1114111) : Bnd0 (Sg.addRange l a b) := by
  unfold Sg.addRange
  split
  · exact h
  · intro x hx
    rcases List.mem_append.1 hx with hx | hx
    · exact h x hx
    · simp at hx; subst hx; dsimp only; omega
theorem parts_bnd0 {l : List (Int × Int)} (h : ∀ x ∈ l, ItemV x) : Bnd0 (Sg.partsOf l) := by
  have g : ∀ (l a : List (Int × Int)), (∀ x ∈ l, ItemV x) → Bnd0 a → Bnd0 (l.foldl (fun l r => Sg.addRange (Sg.addRange l r.1 (min r.2 55295)) (max r.1 57344) r.2) a) := fun l => by
    induction l with
    | nil => intro a _ ha; exact ha
    | cons x l ih =>
      intro a hl ha
      rw [List.foldl_cons]
      refine ih _ (fun y hy => hl y (List.mem_cons_of_mem _ hy)) ?_
      obtain ⟨h1, h2, _⟩ := hl x (List.mem_cons_self ..)
      rw [valid_iff] at h1 h2
      exact (ha.add (by omega) (by omega)).add (by omega) (by omega)
  exact g l [] h (fun x hx => by cases hx)
theorem joinGo_bnd0 : ∀ (l : List Sg.Rg) (o : Option Sg.Rg), Bnd0 l → (∀ a, o = some a → (0 ≤ a.1 ∧ a.1 ≤ 1114111) ∧ (0 ≤ a.2 ∧ a.2 ≤ 1114111)) → Bnd0 (Sg.joinGo o l)
  | [], none, _, _ => fun x hx => by simp [Sg.joinGo] at hx
  | [], some a, _, ho => fun x hx => by simp [Sg.joinGo] at hx; subst hx; exact ho _ rfl
  | r :: l, none, h, _ => joinGo_bnd0 l (some r) (fun x hx => h x (List.mem_cons_of_mem _ hx)) (fun a e => by cases e; exact h r (List.mem_cons_self ..))
  | r :: l, some a, h, ho => by
    have ha := ho a rfl
    have hr := h r (List.mem_cons_self ..)
    by_cases hle : r.1 ≤ a.2 + 1
    · rw [joinGo_le hle]
      exact joinGo_bnd0 l _ (fun x hx => h x (List.mem_cons_of_mem _ hx)) (fun b e => by cases e; dsimp only; omega)
    · rw [joinGo_gt hle]
      intro x hx
      rcases List.mem_cons.1 hx with rfl | hx
      · exact ha
      · exact joinGo_bnd0 l (some r) (fun x hx => h x (List.mem_cons_of_mem _ hx)) (fun b e => by cases e; exact hr) x hx
theorem ofR_bnd0 {l : List (Int × Int)} (h : ∀ x ∈ l, ItemV x) : Bnd0 (Sg.ofR l) := by
  unfold Sg.ofR
  exact joinGo_bnd0 _ none (fun x hx => parts_bnd0 h x (mem_byLow _ x hx)) (fun a e => by cases e)
theorem parts_of_ofR {l : List (Int × Int)} (h : Sg.ofR l ≠ []) : Sg.partsOf l ≠ [] := fun e => h (by unfold Sg.ofR; rw [e]; rfl)
theorem ofR_len (l : List (Int × Int)) : (Sg.ofR l).length ≤ 2 * l.length + 1 := by
  have h1 := joinGo_len (Sg.byLow (Sg.partsOf l)) none
  rw [byLow_len] at h1
  have g : ∀ (l a : List (Int × Int)), (l.foldl (fun l r => Sg.addRange (Sg.addRange l r.1 (min r.2 55295)) (max r.1 57344) r.2) a).length ≤ a.length + 2 * l.length := fun l => by
    induction l with
    | nil => intro a; simp
    | cons x l ih =>
      intro a
      rw [List.foldl_cons, List.length_cons]
      have h1 := ih (Sg.addRange (Sg.addRange a x.1 (min x.2 55295)) (max x.1 57344) x.2)
      have h2 := addRange_len (Sg.addRange a x.1 (min x.2 55295)) (max x.1 57344) x.2
      have h3 := addRange_len a x.1 (min x.2 55295)
      omega
  have h2 : (Sg.partsOf l).length ≤ 2 * l.length := by have := g l []; simpa [Sg.partsOf] using this
  unfold Sg.ofR; omega
theorem cls_ok {r : Sg.Rd} {x : Sg.Node} {r' : Sg.Rd} (h : r.cls = .ok (x, r')) : ∃ (y : Sg.Rg) (r1 : Sg.Rd) (l : List Sg.Rg), (r.take.2.accept 94).2.item = .ok (y, r1) ∧ Sg.itemsGo r.list.length [y] r1 = .ok (l, r') ∧ l.length ≤ 5 ∧ (Sg.ofR l).length ≤ 5 ∧
    (((r.take.2.accept 94).1 = true ∧ x = .cls (Sg.turnedR (Sg.ofR l)) ∧ Sg.turnedR (Sg.ofR l) ≠ []) ∨ ((r.take.2.accept 94).1 = false ∧ x = .cls (Sg.ofR l))) := by
  unfold Sg.Rd.cls at h
  dsimp only at h
  split at h
  · cases h
  · rename_i y r1 he
    split at h
    · cases h
    · rename_i l r2 hi
      split at h
      · cases h
      · rename_i hlen
        cases hb : (r.take.2.accept 94).1 with
        | true =>
          rw [hb] at h
          simp only [if_true, Bool.true_and] at h
          split at h
          · cases h
          · rename_i ht
            cases h
            exact ⟨y, r1, l, he, hi, by omega, by omega, .inl ⟨rfl, rfl, fun e => ht (by rw [e]; rfl)⟩⟩
        | false =>
          rw [hb] at h
          simp only [Bool.false_eq_true, if_false, Bool.false_and] at h
          cases h
          exact ⟨y, r1, l, he, hi, by omega, by omega, .inr ⟨rfl, rfl⟩⟩
end Go.Proofs.YtlhokghgicgppaaGreatDoor
namespace Go.Proofs.YtlhokghgicgppaaGreatDoor
open Go.RowKit Go.Extern
theorem number_any (w : World) (q : Nat) (r : Sg.Rd) (h : RdAt w q r) :
    Calls Tryz.prog 207 #[.pointer (some ⟨q, 0, none⟩)] w fun e w' => e = .returned (.tuple #[.int .i64 r.number.1.1, .bool r.number.1.2]) ∧ RdSt w q w' r.number.2 := by
  have S0 := RdSt.start h
  have q0 := fldS0
  clear h
  have HR := hide2 (show r.number = (((Sg.numGoR 2 0 0 r).1, decide (0 < (Sg.numGoR 2 0 0 r).2.1) && decide ((Sg.numGoR 2 0 0 r).1 ≤ 8)), (Sg.numGoR 2 0 0 r).2.2) from rfl)
  generalize r.number = res at *
  generalize hfin : Sg.numGoR 2 0 0 r = fin at *
  have H0 := hide2 hfin
  clear hfin
  go_enter Tryz.func207, Tryz.ntmps207
  go_wp2
  go_loopw [4, 5] (fun vv dv wr => ∃ (k d : Nat) (v : Int) (r1 : Sg.Rd), vv = .int .i64 v ∧ dv = .int .i64 d ∧ d + k = 2 ∧ 0 ≤ v ∧ ((d = 0 → v = 0) ∧ (d = 1 → v ≤ 9) ∧ v ≤ 99) ∧ RdSt w q wr r1 ∧ Hid (Sg.numGoR k v d r1 = fin)) (fun _ dv _ => 2 - (intOf dv).toNat)
  case atStart => exact ⟨2, 0, 0, r, rfl, rfl, rfl, by omega, by omega, S0, H0⟩
  case round =>
    obtain ⟨k, d, v, r1, rfl, rfl, hdk, hv0, hv1, S, H⟩ := hrel
    match k, hdk, H with
    | 0, hdk, H =>
      obtain rfl : d = 2 := by omega
      have hf := H.out
      unfold Sg.numGoR at hf
      have hr := HR.out
      rw [← hf] at hr
      have HRr := hide2 hr
      clear hr hf HR H H0
      by_cases h8 : v ≤ 8
      · go_wp2
        go_ret2
        rw [HRr.out]
        exact ⟨by simp [h8], S⟩
      · go_wp2
        go_ret2
        rw [HRr.out]
        exact ⟨by simp [h8], S⟩
    | k + 1, hdk, H =>
      have hf := H.out
      unfold Sg.numGoR at hf
      have HP := hide2 (fun wx (hx : RdSt w q wx r1) => peek_st hx)
      have HT := hide2 (fun wx (hx : RdSt w q wx r1) => take_st hx)
      have hd2 : (d : Int) < 2 := by omega
      generalize r1.peek.1 = p1 at *
      generalize r1.peek.2 = p2 at *
      generalize r1.take.2 = r2 at *
      by_cases h1 : 48 ≤ p1
      · by_cases h2 : p1 ≤ 57
        · rw [if_pos ⟨h1, h2⟩] at hf
          have Hf := hide2 hf
          clear hf H H0 HR
          go_wp2_with (first
            | (go_at_call 142; refine (HP.out _ (by assumption)).mono ?_; rintro e w1 ⟨rfl, S1⟩)
            | (go_at_call 172; refine (HT.out _ (by assumption)).mono ?_; rintro e w2 ⟨rfl, S2⟩))
          refine ⟨⟨k, d + 1, v * 10 + (p1 - 48), r2, by go_num, by go_num, by omega, by omega, by omega, S2, Hf⟩, by simp [intOf]; omega⟩
        · rw [if_neg (fun hh => h2 hh.2)] at hf
          have hr := HR.out
          rw [← hf] at hr
          have HRr := hide2 hr
          clear hr hf HR H H0
          by_cases h0 : d = 0
          · subst h0
            obtain rfl : v = 0 := by omega
            go_wp2_with (go_at_call 142; refine (HP.out _ (by assumption)).mono ?_; rintro e w1 ⟨rfl, S1⟩)
            go_ret2
            rw [HRr.out]
            exact ⟨rfl, by assumption⟩
          · have hd0 : 0 < (d : Int) := by omega
            have hd0' : 0 < d := by omega
            by_cases h8 : v ≤ 8
            · go_wp2_with (go_at_call 142; refine (HP.out _ (by assumption)).mono ?_; rintro e w1 ⟨rfl, S1⟩)
              go_ret2
              rw [HRr.out]
              exact ⟨by simp [h8, hd0'], by assumption⟩
            · go_wp2_with (go_at_call 142; refine (HP.out _ (by assumption)).mono ?_; rintro e w1 ⟨rfl, S1⟩)
              go_ret2
              rw [HRr.out]
              exact ⟨by simp [h8, hd0'], by assumption⟩
      · rw [if_neg (fun hh => h1 hh.1)] at hf
        have hr := HR.out
        rw [← hf] at hr
        have HRr := hide2 hr
        clear hr hf HR H H0
        by_cases h0 : d = 0
        · subst h0
          obtain rfl : v = 0 := by omega
          go_wp2_with (go_at_call 142; refine (HP.out _ (by assumption)).mono ?_; rintro e w1 ⟨rfl, S1⟩)
          go_ret2
          rw [HRr.out]
          exact ⟨rfl, by assumption⟩
        · have hd0 : 0 < (d : Int) := by omega
          have hd0' : 0 < d := by omega
          by_cases h8 : v ≤ 8
          · go_wp2_with (go_at_call 142; refine (HP.out _ (by assumption)).mono ?_; rintro e w1 ⟨rfl, S1⟩)
            go_ret2
            rw [HRr.out]
            exact ⟨by simp [h8, hd0'], by assumption⟩
          · go_wp2_with (go_at_call 142; refine (HP.out _ (by assumption)).mono ?_; rintro e w1 ⟨rfl, S1⟩)
            go_ret2
            rw [HRr.out]
            exact ⟨by simp [h8, hd0'], by assumption⟩
theorem number_st {w wx : World} {q : Nat} {r : Sg.Rd} (h : RdSt w q wx r) :
    Calls Tryz.prog 207 #[.pointer (some ⟨q, 0, none⟩)] wx fun e w' => e = .returned (.tuple #[.int .i64 r.number.1.1, .bool r.number.1.2]) ∧ RdSt w q w' r.number.2 :=
  (number_any wx q r h.at_).mono fun _ _ ⟨he, hs⟩ => ⟨he, h.go hs⟩
theorem most_any (w : World) (q : Nat) (r : Sg.Rd) (h : RdAt w q r) :
    Calls Tryz.prog 208 #[.pointer (some ⟨q, 0, none⟩)] w fun e w' => e = .returned (.tuple #[.int .i64 r.mostOf.1.1, .bool r.mostOf.1.2]) ∧ RdSt w q w' r.mostOf.2 := by
  have S0 := RdSt.start h
  have q0 := fldS0
  clear h
  have HP := hide2 (fun wx (hx : RdSt w q wx r) => peek_st hx)
  have HN := hide2 (fun wx (hx : RdSt w q wx r) => number_st hx)
  unfold Sg.Rd.mostOf
  generalize r.peek.1 = p1 at *
  generalize r.peek.2 = p2 at *
  by_cases h1 : p1 = 125
  · subst h1
    rw [if_pos rfl]
    go_enter Tryz.func208, Tryz.ntmps208
    go_wp2_with (go_at_call 142; refine (HP.out _ (by assumption)).mono ?_; rintro e w1 ⟨rfl, S1⟩)
    go_ret2
    exact ⟨rfl, S1⟩
  · rw [if_neg h1]
    generalize r.number.1.1 = n1 at *
    generalize r.number.1.2 = n2 at *
    generalize r.number.2 = r2 at *
    go_enter Tryz.func208, Tryz.ntmps208
    go_wp2_with (first
      | (go_at_call 142; refine (HP.out _ (by assumption)).mono ?_; rintro e w1 ⟨rfl, S1⟩)
      | (go_at_call 207; refine (HN.out _ (by assumption)).mono ?_; rintro e w2 ⟨rfl, S2⟩))
    go_ret2
    exact ⟨rfl, S2⟩
end Go.Proofs.YtlhokghgicgppaaGreatDoor
namespace Go.Proofs.YtlhokghgicgppaaGreatDoor
open Go.RowKit Go.Extern
def lenOf : Value → Nat
  | .slice _ n _ => n
  | _ => 0
theorem item_st {w wx : World} {q : Nat} {r : Sg.Rd} (h : RdSt w q wx r) {x : Sg.Rg} {r' : Sg.Rd} (hx : r.item = .ok (x, r')) :
    Calls Tryz.prog 219 #[.pointer (some ⟨q, 0, none⟩)] wx fun e w' => e = .returned (.agg #[.int .i32 x.1, .int .i32 x.2]) ∧ RdSt w q w' r' ∧ Chg (rulT q) wx w' :=
  (item_any wx q r h.at_ x r' (item_ok hx)).mono fun _ _ ⟨he, hs⟩ => ⟨he, h.go hs, hs.chg⟩
theorem Sg.RdOk.hexGo : ∀ (k : Nat) (v : Int) (d : Nat) (r : Sg.Rd), Sg.RdOk r → Sg.RdOk (Sg.hexGo k v d r).2.2
  | 0, _, _, _, h => h
  | k + 1, v, d, r, h => by
    unfold Sg.hexGo
    split
    · exact h
    · exact Sg.RdOk.hexGo k _ _ _ h.take
theorem Sg.RdOk.numbered {r : Sg.Rd} (h : Sg.RdOk r) : Sg.RdOk r.numbered.2 := by
  unfold Sg.Rd.numbered
  dsimp only
  split
  · split
    · split
      · exact (Sg.RdOk.hexGo 6 0 0 _ (h.accept _)).accept _
      · exact (Sg.RdOk.hexGo 6 0 0 _ (h.accept _)).accept _
    · exact Sg.RdOk.hexGo 6 0 0 _ (h.accept _)
  · exact h.accept _
theorem Sg.RdOk.escape {r : Sg.Rd} (h : Sg.RdOk r) {x : Int} {r' : Sg.Rd} (hx : r.escape = .ok (x, r')) : Sg.RdOk r' := by
  unfold Sg.Rd.escape at hx
  dsimp only at hx
  have ht := h.take.take
  split at hx
  · cases hx; exact ht
  · split at hx
    · cases hx; exact ht
    · split at hx
      · cases hx; exact ht
      · split at hx
        · split at hx
          · rename_i v r3 hn
            cases hx
            have := ht.numbered
            rw [hn] at this; exact this
          · cases hx
        · split at hx
          · cases hx; exact ht
          · cases hx
theorem Sg.RdOk.edge {r : Sg.Rd} (h : Sg.RdOk r) {x : Int} {r' : Sg.Rd} (hx : r.edge = .ok (x, r')) : Sg.RdOk r' := by
  unfold Sg.Rd.edge at hx
  split at hx
  · exact h.escape hx
  · split at hx
    · cases hx
    · cases hx; exact h.take
theorem item_valid {r : Sg.Rd} (ho : Sg.RdOk r) {x : Sg.Rg} {r' : Sg.Rd} (hx : r.item = .ok (x, r')) : ItemV x := by
  obtain ⟨r1, he, hc⟩ := item_ok hx
  have hv := edge_valid ho he
  rcases hc with ⟨_, e, _⟩ | ⟨hp, hle, he2⟩
  · exact ⟨hv, by rw [e]; exact hv, by omega⟩
  · exact ⟨hv, edge_valid (ho.edge he).take he2, hle⟩
theorem of_st {w wx : World} {q : Nat} {r : Sg.Rd} (h : RdSt w q wx r) {ra : Option Addr} {rc : Nat} {rs : List (Int × Int)} (hR : RowAt 2 wx ra rc rs.length (rs.flatMap rgCells)) (h6 : rs.length ≤ 6) (hB : Bnd rs) (hne : Sg.partsOf rs ≠ []) :
    Calls Tryz.prog 203 #[.slice ra rs.length rc] wx fun e w' => ∃ ra' rc', e = .returned (.slice ra' (Sg.ofR rs).length rc') ∧ (RowAt 2 w' ra' rc' (Sg.ofR rs).length ((Sg.ofR rs).flatMap rgCells) ∧ InD (fun b => w.heap.size ≤ b) ra') ∧ RdSt w q w' r :=
  (of_any wx ra rc rs hR h6 hB hne).mono fun _ _ ⟨ra', rc', he, h1, h2, h3⟩ => ⟨ra', rc', he, ⟨h1, h3.of (fun b hb => Nat.le_trans h.size hb)⟩, h.below h2⟩
theorem turned_st {w wx : World} {q : Nat} {r : Sg.Rd} (h : RdSt w q wx r) {ra : Option Addr} {rc : Nat} {rs : List (Int × Int)} (hR : RowAt 2 wx ra rc rs.length (rs.flatMap rgCells)) (h6 : rs.length ≤ 5) (hB : Bnd0 rs) (hne : Sg.partsOf (Sg.gapsGo 0 rs) ≠ []) :
    Calls Tryz.prog 204 #[.slice ra rs.length rc] wx fun e w' => ∃ ra' rc', e = .returned (.slice ra' (Sg.turnedR rs).length rc') ∧ (RowAt 2 w' ra' rc' (Sg.turnedR rs).length ((Sg.turnedR rs).flatMap rgCells) ∧ InD (fun b => w.heap.size ≤ b) ra') ∧ RdSt w q w' r :=
  (turned_any wx ra rc rs hR h6 hB hne).mono fun _ _ ⟨ra', rc', he, h1, h2, h3⟩ => ⟨ra', rc', he, ⟨h1, h3.of (fun b hb => Nat.le_trans h.size hb)⟩, h.below h2⟩
theorem accept_sc {w wx : World} {q : Nat} {r : Sg.Rd} (h : RdSt w q wx r) (v : Int) :
    Calls Tryz.prog 140 #[.pointer (some ⟨q, 0, none⟩), .int .i32 v] wx fun e w' => e = .returned (.bool (r.accept v).1) ∧ RdSt w q w' (r.accept v).2 ∧ Chg (rulT q) wx w' :=
  (accept_any wx q r h.at_ v).mono fun _ _ ⟨he, hs⟩ => ⟨he, h.go hs, hs.chg⟩
theorem rul_row {w : World} {q : Nat} (hq : q < w.heap.size) {ra : Option Addr} (hi : InD (fun b => w.heap.size ≤ b) ra) : ∀ rb ro j, ra = some ⟨rb, ro, none⟩ → ¬ rulT q rb j := fun rb ro j e t => by
  have := hi rb ro e
  have := t.1
  omega
theorem class_any (w : World) (q : Nat) (r : Sg.Rd) (h : RdAt w q r) (x : Sg.Node) (r' : Sg.Rd) (hx : r.cls = .ok (x, r')) :
    Calls Tryz.prog 202 #[.pointer (some ⟨q, 0, none⟩)] w fun e w' => ∃ v, e = .returned v ∧ NodeAt (fun b => w.heap.size ≤ b) w' 1 v x ∧ RdSt w q w' r' := by
  obtain ⟨y, r1, l, hi, hg, hn5, hm5, hc⟩ := cls_ok hx
  have S0 := RdSt.start h
  obtain ⟨tu, htu⟩ : ∃ tu, (r.take.2.accept 94).1 = tu := ⟨_, rfl⟩
  obtain ⟨s, hs, rfl⟩ : ∃ s, (s = if tu then Sg.turnedR (Sg.ofR l) else Sg.ofR l) ∧ x = .cls s := by
    rcases hc with ⟨h1, h2, _⟩ | ⟨h1, h2⟩
    · rw [← htu, h1]; exact ⟨_, rfl, h2⟩
    · rw [← htu, h1]; exact ⟨_, rfl, h2⟩
  have hst : tu = true → s ≠ [] := fun e => by
    rcases hc with ⟨_, _, h3⟩ | ⟨h1, _⟩
    · rw [hs, e]; exact h3
    · rw [← htu, h1] at e; cases e
  have hyv := item_valid ((h.ok.take).accept 94) hi
  have HT := hide2 (take_st S0)
  have HA := hide2 (fun wx (hx : RdSt w q wx r.take.2) => accept_st hx 94)
  have HI := hide2 (fun wx (hx : RdSt w q wx (r.take.2.accept 94).2) => item_st hx hi)
  rw [htu] at HA
  have HE : Hid (l.length ≤ 5 ∧ (Sg.ofR l).length ≤ 5 ∧ (s = if tu then Sg.turnedR (Sg.ofR l) else Sg.ofR l) ∧ (tu = true → s ≠ [])) := hide2 ⟨hn5, hm5, hs, hst⟩
  have HG := hide2 hg
  have HY := hide2 hyv
  have hq := h.lt
  have hK2 := h.ok.len
  clear hx hi hg hc hs hst hyv hn5 hm5 htu h
  generalize (r.take.2.accept 94).2 = r0 at *
  generalize r.take.2 = rt at *
  generalize r.peek.1 = p1 at *
  generalize r.peek.2 = p2 at *
  generalize hK : r.list.length = K at *
  obtain ⟨y1, y2⟩ := y
  go_enter Tryz.func202, Tryz.ntmps202
  go_wp2_with (first
    | (go_at_call 172; refine HT.out.mono ?_; clear HT; rintro e w1 ⟨rfl, S1⟩)
    | (go_at_call 140; refine (HA.out _ (RdSt.alloc (by assumption) _)).mono ?_; clear HA; rintro e w2 ⟨rfl, S2⟩)
    | (go_at_call 219; refine (HI.out _ (by assumption)).mono ?_; clear HI; rintro e w3 ⟨rfl, S3, _⟩))
  have hK1 : K ≤ 1000 := hK2
  go_loopw [5] (fun iv wr => ∃ (n k : Nat) (ia : Option Addr) (ic : Nat) (li : List Sg.Rg) (r2 : Sg.Rd), iv = .slice ia n ic ∧ k + n = K + 1 ∧ RdSt w q wr r2 ∧ Hid (n = li.length ∧ RowAt 2 wr ia ic n (li.flatMap rgCells) ∧ InD (fun b => w.heap.size ≤ b) ia ∧ Sg.itemsGo k li r2 = .ok (l, r') ∧ (∀ x ∈ li, ItemV x) ∧ li ≠ [])) (fun iv _ => K + 1 - lenOf iv)
  case atStart =>
    have hsz := S3.size
    exact ⟨1, K, _, 1, [(y1, y2)], r1, rfl, rfl, S3.alloc _, hide2 ⟨rfl, RowAt.two w3 _ _ _, (fun b o e => by cases e; exact hsz), HG.out, (fun x hx => by simp at hx; subst hx; exact HY.out), by simp⟩⟩
  case round =>
    obtain ⟨n, k, ia, ic, li, r2, rfl, hkn, S, H⟩ := hrel
    obtain ⟨g0, g1, g2, g3, g4, g5⟩ := H.out
    clear H HG HY S1 S2 S3 S0
    match k, hkn, g3 with
    | 0, _, g3 => cases g3
    | k + 1, hkn, g3 =>
      unfold Sg.itemsGo at g3
      dsimp only at g3
      have HA := hide2 (accept_sc S 93)
      by_cases hp : r2.peek.1 = 93
      · rw [accept_yes hp] at g3 HA
        simp only [if_true, Except.ok.injEq, Prod.mk.injEq] at g3
        obtain ⟨rfl, hr'⟩ := g3
        rw [hr'] at HA
        obtain ⟨e1, e2, e3, e4⟩ := HE.out
        subst g0
        have HO : Hid (∀ wx, Chg (rulT q) wr wx → RdSt w q wx r' → Calls Tryz.prog 203 #[.slice ia li.length ic] wx fun e w' => ∃ ra' rc', e = .returned (.slice ra' (Sg.ofR li).length rc') ∧ (RowAt 2 w' ra' rc' (Sg.ofR li).length ((Sg.ofR li).flatMap rgCells) ∧ InD (fun b => w.heap.size ≤ b) ra') ∧ RdSt w q w' r') := hide2 (fun wx hc hS => of_st hS (g1.of hc (rul_row hq g2)) (by omega) (items_bnd g4) (parts_ne g4 g5))
        cases tu with
        | false =>
          simp only [Bool.false_eq_true, if_false] at e3
          rw [← e3] at HO
          have hsl : s.length < 1000000 := by rw [e3]; omega
          have HL := hide2 hsl
          clear g1 g2 g4 g5 e1 e2 e4 hr' hp S e3 hsl HE
          generalize li.length = n at *
          go_wp2_with (first
            | (go_at_call 140; refine HA.out.mono ?_; clear HA; rintro e w4 ⟨rfl, S4, C4⟩)
            | (go_at_call 203; refine (HO.out _ C4 S4).mono ?_; clear HO; rintro e w5 ⟨ra5, rc5, rfl, H5, S5⟩; have c4 := S5.at_.e; have H5 := hide2 H5))
          go_ret
          exact ⟨_, rfl, ⟨ra5, rc5, rfl, H5.out.1, H5.out.2, HL.out⟩, S5⟩
        | true =>
          simp only [if_true] at e3
          have hne := e4 rfl
          have hsl : s.length < 1000000 := by
            have h1 := ofR_len (Sg.gapsGo 0 (Sg.ofR li))
            rw [gapsGo_len] at h1
            have h2 : Sg.turnedR (Sg.ofR li) = Sg.ofR (Sg.gapsGo 0 (Sg.ofR li)) := rfl
            rw [e3, h2]; omega
          have hsn : ¬ (s.length : Int) = 0 := fun e => hne (List.eq_nil_of_length_eq_zero (by omega))
          have HU : Hid (∀ wx ra rc, RowAt 2 wx ra rc (Sg.ofR li).length ((Sg.ofR li).flatMap rgCells) → RdSt w q wx r' → Calls Tryz.prog 204 #[.slice ra (Sg.ofR li).length rc] wx fun e w' => ∃ ra' rc', e = .returned (.slice ra' s.length rc') ∧ (RowAt 2 w' ra' rc' s.length (s.flatMap rgCells) ∧ InD (fun b => w.heap.size ≤ b) ra') ∧ RdSt w q w' r') := hide2 (fun wx ra rc hR hS => by
            have := turned_st hS hR e2 (ofR_bnd0 g4) (parts_of_ofR (by have h9 := hne; rw [e3] at h9; exact h9))
            rw [← e3] at this; exact this)
          have HL := hide2 hsl
          clear g1 g2 g4 g5 e1 e2 e4 hr' hp S e3 hsl HE hne
          generalize Sg.ofR li = os at *
          generalize li.length = n at *
          generalize os.length = m at *
          go_wp2_with (first
            | (go_at_call 140; refine HA.out.mono ?_; clear HA; rintro e w4 ⟨rfl, S4, C4⟩)
            | (go_at_call 203; refine (HO.out _ C4 S4).mono ?_; clear HO; rintro e w5 ⟨ra5, rc5, rfl, H5, S5⟩; have H5 := hide2 H5)
            | (go_at_call 204; refine (HU.out _ _ _ H5.out.1 S5).mono ?_; clear HU; rintro e w6 ⟨ra6, rc6, rfl, H6, S6⟩; have c4 := S6.at_.e; have H6 := hide2 H6))
          go_ret
          exact ⟨_, rfl, ⟨ra6, rc6, rfl, H6.out.1, H6.out.2, HL.out⟩, S6⟩
      · rw [accept_no hp] at g3 HA
        simp only [Bool.false_eq_true, if_false] at g3
        split at g3
        · cases g3
        · rename_i x r3 hi
          have hxv := item_valid S.at_.ok hi
          have HI := hide2 (fun wx (hx : RdSt w q wx r2) => item_st hx hi)
          obtain ⟨x1, x2⟩ := x
          have hnl : n < 2000000000 := by omega
          have HAp : Hid (∀ wx, Chg (rulT q) wr wx → RdSt w q wx r3 → ∃ ra' rc' w', (Builtin.append_ #[222, 222] 222 #[.slice ia n ic, .slice (some ⟨wx.heap.size, 0, none⟩) 1 1]).run Tryz.prog (wx.alloc (.cells #[.int .i32 x1, .int .i32 x2] 294)) = .ok (.slice ra' (n + 1) rc') w' ∧ RdSt w q w' r3 ∧ Hid (RowAt 2 w' ra' rc' (n + 1) ((li ++ [(x1, x2)]).flatMap rgCells) ∧ InD (fun b => w.heap.size ≤ b) ra')) := by
            refine hide2 (fun wx hc hS => ?_)
            obtain ⟨ra', rc', w', a1, a2, a3, a4⟩ := append_two (w := wx) 222 294 _ 8 info_rg rfl Tryz.underlying222 (by omega) (g1.of hc (rul_row hq g2)) (.int .i32 x1) (.int .i32 x2) rfl rfl hnl 222 294
            rw [rg_snoc] at a2
            exact ⟨ra', rc', w', a1, hS.mut a3 (fun i o ⟨o', e⟩ => g2 i o' e), hide2 ⟨a2, g2.moved hS.size a4⟩⟩
          have HX := hide2 (And.intro g0 (And.intro g3 (And.intro hxv g4)))
          clear g0 g1 g2 g3 g4 g5 hxv hi hp S HE
          go_wp2_with (first
            | (go_at_call 140; refine HA.out.mono ?_; clear HA; rintro e w4 ⟨rfl, S4, C4⟩)
            | (go_at_call 219; refine (HI.out _ S4).mono ?_; clear HI; rintro e w5 ⟨rfl, S5, C5⟩)
            | (at_builtin; obtain ⟨ra2, rc2, w6, hrun, S6, H6⟩ := HAp.out _ (C4.trans C5) S5; refine wpList_append_run rfl _ _ _ _ rfl _ _ _ rfl rfl hrun ?_; clear hrun HAp))
          obtain ⟨f0, f1, f2, f3⟩ := HX.out
          refine ⟨⟨n + 1, k, ra2, rc2, li ++ [(x1, x2)], r3, rfl, by omega, S6, hide2 ⟨by rw [List.length_append, ← f0]; rfl, H6.out.1, H6.out.2, f1, ?_, by simp⟩⟩, by simp [lenOf]; omega⟩
          intro z hz
          rcases List.mem_append.1 hz with hz | hz
          · exact f3 z hz
          · simp at hz; subst hz; exact f2
end Go.Proofs.YtlhokghgicgppaaGreatDoor
namespace Go.Proofs.YtlhokghgicgppaaGreatDoor
open Go.RowKit Go.Extern
theorem numGo_nonneg : ∀ (k : Nat) (v : Int) (d : Nat) (r : Sg.Rd), 0 ≤ v → 0 ≤ (Sg.numGoR k v d r).1
  | 0, _, _, _, h => h
  | k + 1, v, d, r, h => by
    unfold Sg.numGoR
    split
    · exact numGo_nonneg k _ _ _ (by omega)
    · exact h
theorem number_bnd {r : Sg.Rd} (h : r.number.1.2 = true) : 0 ≤ r.number.1.1 ∧ r.number.1.1 ≤ 8 := by
  have h0 := numGo_nonneg 2 0 0 r (by omega)
  unfold Sg.Rd.number at h ⊢
  dsimp only at h ⊢
  rw [Bool.and_eq_true] at h
  exact ⟨h0, of_decide_eq_true h.2⟩
theorem most_bnd {r : Sg.Rd} (h : r.mostOf.1.2 = true) : -1 ≤ r.mostOf.1.1 ∧ r.mostOf.1.1 ≤ 8 := by
  unfold Sg.Rd.mostOf at h ⊢
  split
  · simp
  · rename_i hp
    rw [if_neg hp] at h
    have := number_bnd h
    omega
theorem counted_ok {r : Sg.Rd} {a x : Sg.Node} {r' : Sg.Rd} {k : Nat} (h : r.counted a k = .ok (x, r')) : ∃ (rm : Sg.Rd) (most : Int), r.take.2.number.1.2 = true ∧ x = .times a r.take.2.number.1.1 most ∧ rm.peek.1 = 125 ∧ r' = rm.take.2 ∧ ¬ (most ≠ -1 ∧ most < r.take.2.number.1.1) ∧ Sg.placesN k a ≠ 0 ∧ Sg.plOk k a = true ∧ (-1 ≤ most ∧ most ≤ 8) ∧
    ((r.take.2.number.2.peek.1 = 44 ∧ r.take.2.number.2.take.2.mostOf = ((most, true), rm)) ∨ (r.take.2.number.2.peek.1 ≠ 44 ∧ most = r.take.2.number.1.1 ∧ rm = r.take.2.number.2)) := by
  unfold Sg.Rd.counted at h
  dsimp only at h
  cases hn : r.take.2.number.1.2 with
  | false =>
    rw [hn] at h
    simp at h
  | true =>
    have hb := number_bnd hn
    rw [hn] at h
    simp only [if_true] at h
    have fin : ∀ (m : (Int × Bool) × Sg.Rd), (if m.1.2 = true then
        if (!Sg.plOk k a) = true then Except.error (99, 0)
        else if (!(m.2.accept 125).1 || m.1.1 ≠ -1 && decide (m.1.1 < r.take.2.number.1.1) || decide (Sg.placesN k a = 0)) = true then Except.error ((m.2.accept 125).2.fault 4 r.take.1.2)
          else Except.ok (Sg.Node.times a r.take.2.number.1.1 m.1.1, (m.2.accept 125).2)
        else Except.error (m.2.fault 4 r.take.1.2)) = Except.ok (x, r') → m.1.2 = true ∧ x = .times a r.take.2.number.1.1 m.1.1 ∧ m.2.peek.1 = 125 ∧ r' = m.2.take.2 ∧ ¬ (m.1.1 ≠ -1 ∧ m.1.1 < r.take.2.number.1.1) ∧ Sg.placesN k a ≠ 0 ∧ Sg.plOk k a = true := by
      intro m hm
      split at hm
      · rename_i h1
        split at hm
        · cases hm
        · rename_i h2
          split at hm
          · cases hm
          · rename_i h3
            by_cases hp : m.2.peek.1 = 125
            · rw [accept_yes hp] at hm
              simp only [Except.ok.injEq, Prod.mk.injEq] at hm
              refine ⟨h1, hm.1.symm, hp, hm.2.symm, ?_, ?_, ?_⟩
              · rintro ⟨g1, g2⟩
                apply h3
                simp [g1, g2]
              · intro g
                apply h3
                simp [g]
              · cases hpl : Sg.plOk k a with
                | true => rfl
                | false => exact absurd (by rw [hpl]; rfl) h2
            · rw [accept_no hp] at h3
              simp at h3
      · cases hm
    by_cases hc : r.take.2.number.2.peek.1 = 44
    · rw [accept_yes hc] at h
      simp only [if_true] at h
      obtain ⟨g1, g2, g3, g4, g5, g6, g7⟩ := fin _ h
      have hm := most_bnd g1
      exact ⟨r.take.2.number.2.take.2.mostOf.2, r.take.2.number.2.take.2.mostOf.1.1, rfl, g2, g3, g4, g5, g6, g7, hm, .inl ⟨hc, by rw [← g1]⟩⟩
    · rw [accept_no hc] at h
      simp only [Bool.false_eq_true, if_false] at h
      obtain ⟨g1, g2, g3, g4, g5, g6, g7⟩ := fin ((r.take.2.number.1.1, true), r.take.2.number.2) (by simpa using h)
      exact ⟨r.take.2.number.2, r.take.2.number.1.1, rfl, g2, g3, g4, g5, g6, g7, by omega, .inr ⟨hc, rfl, rfl⟩⟩
end Go.Proofs.YtlhokghgicgppaaGreatDoor
