/- allMatch's closure, which calls itself. -/
import Derived.Test.YtlhokghgicgppaaDoorSoundA
set_option linter.unusedSimpArgs false
set_option linter.unusedVariables false
namespace Go.Proofs.YtlhokghgicgppaaDoor
open Go.RowKit Go.Extern

/-- Rows of states, one for each state. -/
structure BefAt (W : World) (ba n cnt : Nat) (f : Nat → Option Addr × Nat × List Int) : Prop where
  cell : ∀ j, j < n → W.cell? ⟨ba, j, none⟩ = some (.slice (f j).1 (f j).2.2.length (f j).2.1)
  row : ∀ j, j < n → RowAt 1 W (f j).1 (f j).2.1 (f j).2.2.length (intsV (f j).2.2)
  bd : ∀ j, j < n → ∀ x ∈ (f j).2.2, 0 ≤ x ∧ x < (n : Int)
  new : ∀ j, j < n → ∀ b o, (f j).1 = some ⟨b, o, none⟩ → ba < b
  apart : ∀ j j', j < n → j' < n → j ≠ j' → ∀ b o o', (f j).1 = some ⟨b, o, none⟩ → (f j').1 ≠ some ⟨b, o', none⟩
  le : ∀ j, j < n → (f j).2.2.length ≤ cnt
  free : ∀ j, W.frozen? ⟨ba, j, none⟩ = false
theorem BefAt.of {W W' : World} {ba n cnt : Nat} {f : Nat → Option Addr × Nat × List Int} (h : BefAt W ba n cnt f) {T : Nat → Nat → Prop} (hb : ba < W.heap.size) (hc : Chg T W W') (h1 : ∀ j, ¬ T ba j) (h2 : ∀ j, j < n → ∀ b o k, (f j).1 = some ⟨b, o, none⟩ → ¬ T b k) : BefAt W' ba n cnt f :=
  ⟨fun j hj => (hc.cell _ _ hb (h1 _)).trans (h.cell j hj), fun j hj => (h.row j hj).of hc (fun rb ro k e => h2 j hj rb ro k e), h.bd, h.new, h.apart, h.le, fun j => (hc.frz _ _ hb).trans (h.free j)⟩
/-- What the closure has caught. -/
structure Caught where
  mb : Nat
  ma : Nat
  mc : Nat
  cb : Nat
  bb : Nat
  ba : Nat
  bc : Nat
  kb : Nat
  n : Nat
  cnt : Nat
  f : Nat → Option Addr × Nat × List Int
def Caught.T (c : Caught) : Nat → Nat → Prop := fun i _ => i = c.ma ∨ i = c.cb
def trues (bs : List Bool) : Nat := bs.count true
structure Caught.At (c : Caught) (W : World) (bs : List Bool) : Prop where
  m : W.cell? ⟨c.mb, 0, none⟩ = some (.slice (some ⟨c.ma, 0, none⟩) c.n c.mc)
  ms : ∀ j, j < c.n → W.cell? ⟨c.ma, 0 + j, none⟩ = some (.bool (bs.getD j false))
  mf : ∀ j, W.frozen? ⟨c.ma, j, none⟩ = false
  ct : W.cell? ⟨c.cb, 0, none⟩ = some (.int .i64 (trues bs))
  cf : W.frozen? ⟨c.cb, 0, none⟩ = false
  b : W.cell? ⟨c.bb, 0, none⟩ = some (.slice (some ⟨c.ba, 0, none⟩) c.n c.bc)
  bf : BefAt W c.ba c.n c.cnt c.f
  k : W.cell? ⟨c.kb, 0, none⟩ = some (.func (.func 49) #[] #[.pointer (some ⟨c.mb, 0, none⟩), .pointer (some ⟨c.cb, 0, none⟩), .pointer (some ⟨c.bb, 0, none⟩), .pointer (some ⟨c.kb, 0, none⟩)])
  len : bs.length = c.n
structure Caught.Ok (c : Caught) : Prop where
  d1 : c.mb ≠ c.ma ∧ c.mb ≠ c.cb
  d2 : c.bb ≠ c.ma ∧ c.bb ≠ c.cb
  d3 : c.ba ≠ c.ma ∧ c.ba ≠ c.cb
  d4 : c.kb ≠ c.ma ∧ c.kb ≠ c.cb
  d5 : c.ma ≠ c.cb
  d6 : ∀ j, j < c.n → ∀ b o, (c.f j).1 = some ⟨b, o, none⟩ → b ≠ c.ma ∧ b ≠ c.cb
  n : c.n < 1000000
  cnt : c.cnt < 1000000000
theorem Caught.At.drewN {c : Caught} {W : World} {bs : List Bool} (h : c.At W bs) (k : Nat) : c.At (W.drewN k) bs :=
  ⟨h.m, h.ms, h.mf, h.ct, h.cf, h.b, ⟨h.bf.cell, fun j hj => (h.bf.row j hj).below ⟨rfl, rfl, rfl, Nat.le_refl _, fun _ _ => rfl⟩, h.bf.bd, h.bf.new, h.bf.apart, h.bf.le, h.bf.free⟩, h.k, h.len⟩
theorem trues_set (bs : List Bool) (s : Nat) (hs : s < bs.length) (h : bs.getD s false = false) : trues (bs.set s true) = trues bs + 1 := by
  unfold trues
  rw [List.getD_eq_getElem?_getD, List.getElem?_eq_getElem hs] at h
  rw [List.count_set hs]
  simp at h
  simp [h]
theorem trues_le (bs : List Bool) : trues bs ≤ bs.length := List.count_le_length
/-- A state is marked. -/
theorem Caught.At.mark {c : Caught} (hc : c.Ok) {W : World} {bs : List Bool} (h : c.At W bs) (s : Nat) (hs : s < c.n) (hf : bs.getD s false = false) :
    c.At ((W.setCell ⟨c.ma, 0 + s, none⟩ (.bool true)).setCell ⟨c.cb, 0, none⟩ (.int .i64 ((trues bs : Int) + 1))) (bs.set s true) ∧ Chg c.T W ((W.setCell ⟨c.ma, 0 + s, none⟩ (.bool true)).setCell ⟨c.cb, 0, none⟩ (.int .i64 ((trues bs : Int) + 1))) := by
  have hch : Chg c.T W ((W.setCell ⟨c.ma, 0 + s, none⟩ (.bool true)).setCell ⟨c.cb, 0, none⟩ (.int .i64 ((trues bs : Int) + 1))) := ((Chg.refl _ _).setCell (T := c.T) (.inl rfl) _).setCell (.inr rfl) _
  have o : ∀ b j, b ≠ c.ma ∧ b ≠ c.cb → ¬ c.T b j := fun b j hb t => by
    rcases t with t | t
    · exact hb.1 t
    · exact hb.2 t
  have hlen := h.len
  refine ⟨⟨(hch.cell _ _ (cell_lt h.m) (o _ _ hc.d1)).trans h.m, ?_, fun j => (hch.frz _ _ (cell_lt (h.ms s hs))).trans (h.mf j), ?_, (hch.frz _ _ (cell_lt h.ct)).trans h.cf, (hch.cell _ _ (cell_lt h.b) (o _ _ hc.d2)).trans h.b, h.bf.of (cell_lt (h.bf.cell s hs)) hch (fun j => o _ _ hc.d3) (fun j hj b o2 k e => o _ _ (hc.d6 j hj b o2 e)), (hch.cell _ _ (cell_lt h.k) (o _ _ hc.d4)).trans h.k, by rw [List.length_set]; exact hlen⟩, hch⟩
  · intro j hj
    rw [World.cell?_setCell_other _ _ _ _ (fun e => hc.d5 (congrArg Addr.block e).symm)]
    by_cases e : j = s
    · subst e
      rw [World.cell?_setCell_same _ _ _ (h.ms j hs), List.getD_eq_getElem?_getD, List.getElem?_set_self (by omega)]; rfl
    · rw [World.cell?_setCell_other _ _ _ _ (fun e2 => e (by have := congrArg Addr.off e2; simp at this; omega)), h.ms j hj, List.getD_eq_getElem?_getD, List.getD_eq_getElem?_getD, List.getElem?_set_ne (fun e2 => e e2.symm)]
  · rw [trues_set bs s (by omega) hf]
    exact World.cell?_setCell_same (u := .int .i64 (trues bs)) _ _ _ (by rw [World.cell?_setCell_other _ _ _ _ (fun e => hc.d5 (congrArg Addr.block e))]; exact h.ct)

set_option maxRecDepth 100000 in
set_option maxHeartbeats 4000000 in
theorem mark_any (c : Caught) (hc : c.Ok) : ∀ (u : Nat) (s : Nat) (W : World) (bs : List Bool), s < c.n → c.At W bs → c.n - trues bs < u →
    Calls Tryd.prog 49 #[.int .i64 s, .pointer (some ⟨c.mb, 0, none⟩), .pointer (some ⟨c.cb, 0, none⟩), .pointer (some ⟨c.bb, 0, none⟩), .pointer (some ⟨c.kb, 0, none⟩)] W fun e W' => (∃ v, e = .returned v) ∧ ∃ bs', c.At W' bs' ∧ trues bs ≤ trues bs' ∧ Chg c.T W W' := by
  intro u
  induction u with
  | zero =>
    intro s W bs hs h hu
    exact absurd hu (Nat.not_lt_zero _)
  | succ u ih =>
    intro s W bs hs h hu
    have IH := hide2 ih
    clear ih
    by_cases h0 : s = 0
    · subst h0
      have H := hide2 h
      clear h
      go_enter Tryd.func49, Tryd.ntmps49
      go_wp2
      refine bodyPost_ret (results_none rfl _ _ _) rfl ?_
      exact ⟨⟨_, rfl⟩, bs, H.out, Nat.le_refl _, Chg.refl _ _⟩
    · have hm := h.m
      have hms := h.ms s hs
      rw [Nat.zero_add] at hms
      have h0' : ((s : Int) == 0) = false := beq_eq_false_iff_ne.2 (by omega)
      have hn := hc.n
      cases hb : bs.getD s false with
      | true =>
        rw [hb] at hms
        have H := hide2 h
        clear h
        go_enter Tryd.func49, Tryd.ntmps49
        go_wp2
        refine bodyPost_ret (results_none rfl _ _ _) rfl ?_
        exact ⟨⟨_, rfl⟩, bs, H.out, Nat.le_refl _, Chg.refl _ _⟩
      | false =>
        rw [hb] at hms
        have hmf := h.mf s
        have hct := h.ct
        have hcf := h.cf
        obtain ⟨h2, hch2⟩ := h.mark hc s hs hb
        rw [Nat.zero_add] at h2 hch2
        have htr := trues_set bs s (by rw [h.len]; exact hs) hb
        have htl := trues_le bs
        rw [h.len] at htl
        obtain ⟨W2, hW2⟩ : ∃ W2, (W.setCell ⟨c.ma, s, none⟩ (.bool true)).setCell ⟨c.cb, 0, none⟩ (.int .i64 ((trues bs : Int) + 1)) = W2 := ⟨_, rfl⟩
        rw [hW2] at h2 hch2
        have hct2 : (W.setCell ⟨c.ma, s, none⟩ (.bool true)).cell? ⟨c.cb, 0, none⟩ = some (.int .i64 (trues bs)) := (World.cell?_setCell_other _ _ _ _ (fun e => hc.d5 (congrArg Addr.block e))).trans hct
        have hb2 := h2.b
        have hrow2 := h2.bf.cell s hs
        have H := hide2 h
        have H2 := hide2 h2
        have HC := hide2 hch2
        have hml := hc.d5
        have hll : (c.f s).2.2.length < 1000000000 := Nat.lt_of_le_of_lt (h2.bf.le s hs) hc.cnt
        clear h h2 hch2
        go_enter Tryd.func49, Tryd.ntmps49
        go_wp2
        go_loopw [26] (fun jv wr => ∃ (j : Nat) (bs' : List Bool), jv = .int .i64 j ∧ j ≤ (c.f s).2.2.length ∧ Hid (c.At wr bs' ∧ trues bs + 1 ≤ trues bs' ∧ Chg c.T W wr)) (fun jv _ => (c.f s).2.2.length - (intOf jv).toNat)
        case atStart => exact ⟨0, _, rfl, Nat.zero_le _, hide2 ⟨H2.out, by rw [htr]; omega, HC.out⟩⟩
        case round =>
          obtain ⟨j, bs', rfl, hj, HI⟩ := hrel
          by_cases hlj : j < (c.f s).2.2.length
          · obtain ⟨nb, no, hra, hcl⟩ := nx_cell (HI.out.1.bf.row s hs) j hlj
            have hbd := HI.out.1.bf.bd s hs (c.f s).2.2[j] (List.getElem_mem hlj)
            obtain ⟨y, hy⟩ := Int.eq_ofNat_of_zero_le hbd.1
            rw [hy] at hcl hbd
            have hk := HI.out.1.k
            have htl2 := trues_le bs'
            rw [HI.out.1.len] at htl2
            have HM := hide2 (IH.out y wr bs' (by omega) HI.out.1 (by have := HI.out.2.1; omega))
            rw [hra]
            clear hy IH
            go_wp2_with (go_at_call 49; refine HM.out.mono ?_; clear HM; rintro e w3 ⟨⟨v, rfl⟩, bs3, hA3, ht3, hc3⟩; have H3 := hide2 (And.intro hA3 (And.intro ht3 hc3)); clear hA3 ht3 hc3)
            go_roundw
            case rel => exact ⟨j + 1, bs3, by go_num, by omega, hide2 ⟨H3.out.1, by have := HI.out.2.1; have := H3.out.2.1; omega, HI.out.2.2.trans H3.out.2.2⟩⟩
            case measure => simp [intOf]; omega
          · go_wp2
            go_end0
            exact ⟨⟨_, rfl⟩, bs', HI.out.1, by have := HI.out.2.1; omega, HI.out.2.2⟩
end Go.Proofs.YtlhokghgicgppaaDoor
