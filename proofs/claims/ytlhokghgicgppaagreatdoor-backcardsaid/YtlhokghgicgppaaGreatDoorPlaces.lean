/- Copies, Places. -/
import Derived.Test.YtlhokghgicgppaaGreatDoorLtMem
import Derived.Test.YtlhokghgicgppaaGreatDoorRd1
set_option linter.unusedSimpArgs false
set_option linter.unusedVariables false
set_option maxRecDepth 100000
set_option maxHeartbeats 4000000
namespace Go.Proofs.YtlhokghgicgppaaGreatDoor
open Go.RowKit Go.Extern
theorem mCls (v : Value) (w : World) : (method 500 284 v "Places").run Tryz.prog w = .ok (286, v) w := by kernel_rfl
theorem mRow (v : Value) (w : World) : (method 500 290 v "Places").run Tryz.prog w = .ok (288, v) w := by kernel_rfl
theorem mAlt (v : Value) (w : World) : (method 500 279 v "Places").run Tryz.prog w = .ok (284, v) w := by kernel_rfl
theorem mTim (v : Value) (w : World) : (method 500 288 v "Places").run Tryz.prog w = .ok (287, v) w := by kernel_rfl
theorem copies_any (w : World) (u : Value) (hu : u.oneCell' = true) (least most : Int) (h1 : 0 ≤ least ∧ least ≤ 8) (h2 : -1 ≤ most ∧ most ≤ 8) :
    Calls Tryz.prog 173 #[.agg #[u, .int .i64 least, .int .i64 most]] w fun e w' => e = .returned (.int .i64 (Sg.copies least most)) ∧ Below w.heap.size w w' := by
  unfold Sg.copies
  by_cases hm : most = -1
  · subst hm
    rw [if_pos rfl]
    go_enter Tryz.func173, Tryz.ntmps173
    go_wp2
    go_ret
    exact ⟨rfl, (Below.refl _ _).alloc (Nat.le_refl _) _⟩
  · rw [if_neg hm]
    go_enter Tryz.func173, Tryz.ntmps173
    go_wp2
    go_ret
    exact ⟨rfl, (Below.refl _ _).alloc (Nat.le_refl _) _⟩
theorem wrap_id {z : Int} (h1 : -1000000000 ≤ z) (h2 : z ≤ 1000000000) : IntKind.i64.wrap z = z := by
  simp [IntKind.wrap, IntKind.signed, IntKind.bits]; omega
def PlacesAt (w : World) (v : Value) (n : Int) : Prop := ∃ (f : Nat) (u : Value) (t : TypeId), v = .iface t u ∧ (∀ wx, (method 500 t u "Places").run Tryz.prog wx = .ok (f, u) wx) ∧ (∀ args wx, (callFunc f args).run Tryz.prog wx = .ok (.enter f args) wx) ∧ ∀ wx, Below w.heap.size w wx → Calls Tryz.prog f #[u] wx fun e w' => e = .returned (.int .i64 n) ∧ Below wx.heap.size wx w'
theorem copies_nonneg {l m : Int} (h1 : 0 ≤ l ∧ l ≤ 8) (h2 : -1 ≤ m ∧ m ≤ 8) : 0 ≤ Sg.copies l m ∧ Sg.copies l m ≤ 8 := by
  unfold Sg.copies; split <;> omega
theorem sum_nonneg (k : Nat) (l : List Sg.Node) (h : ∀ x ∈ l, 0 ≤ Sg.placesN k x) : ∀ n : Int, n ≤ l.foldl (fun n x => n + Sg.placesN k x) n := by
  induction l with
  | nil => intro n; exact Int.le_refl _
  | cons x l ih =>
    intro n
    have h1 := h x (List.mem_cons_self ..)
    have h2 := ih (fun y hy => h y (List.mem_cons_of_mem _ hy)) (n + Sg.placesN k x)
    rw [List.foldl_cons]; omega
theorem places_nonneg {D : Nat → Prop} {w : World} : ∀ (k : Nat) (v : Value) (x : Sg.Node), NodeAt D w k v x → 0 ≤ Sg.placesN k x
  | 0, _, _, h => h.elim
  | k + 1, v, ⟨.inl s⟩, h => by show (0 : Int) ≤ 1; omega
  | k + 1, v, ⟨.inr (.inl l)⟩, h => by
    obtain ⟨ra, rc, vs, e, h1, h2, h3, h4⟩ := h
    refine sum_nonneg k l (fun x hx => ?_) 0
    obtain ⟨i, hi⟩ := List.getElem?_of_mem hx
    obtain ⟨u, _, hn⟩ := h4 i x hi
    exact places_nonneg k u x hn
  | k + 1, v, ⟨.inr (.inr (.inl l))⟩, h => by
    obtain ⟨ra, rc, vs, e, h1, h2, h3, h4⟩ := h
    refine sum_nonneg k l (fun x hx => ?_) 0
    obtain ⟨i, hi⟩ := List.getElem?_of_mem hx
    obtain ⟨u, _, hn⟩ := h4 i x hi
    exact places_nonneg k u x hn
  | k + 1, v, ⟨.inr (.inr (.inr (a, m, n)))⟩, h => by
    obtain ⟨u, e, h1, h2, h3⟩ := h
    exact Int.mul_nonneg (copies_nonneg h2 h3).1 (places_nonneg k u a h1)
theorem sum_any (w : World) (k : Nat) (ra : Option Addr) (rc : Nat) (l : List Sg.Node) (vs : List Value) (hR : RowAt 1 w ra rc l.length vs) (hl : l.length < 1000000) (hv : ∀ (i : Nat) (x : Sg.Node), l[i]? = some x → ∃ u, vs[i]? = some u ∧ PlacesAt w u (Sg.placesN k x)) (hp : ∀ x ∈ l, 0 ≤ Sg.placesN k x) (ht : l.foldl (fun n x => n + Sg.placesN k x) 0 ≤ 1000000) :
    Calls Tryz.prog 285 #[.slice ra l.length rc] w fun e w' => e = .returned (.int .i64 (l.foldl (fun n x => n + Sg.placesN k x) 0)) ∧ Below w.heap.size w w' := by
  have HR := hide2 hR
  have HV := hide2 hv
  have HP := hide2 hp
  clear hR hv hp
  generalize hfin : l.foldl (fun n x => n + Sg.placesN k x) 0 = fin at *
  have H0 := hide2 hfin
  clear hfin
  go_enter Tryz.func285, Tryz.ntmps285
  go_wp2
  go_loopw [3, 8] (fun nv iv wr => ∃ (j : Nat) (n : Int), nv = .int .i64 n ∧ iv = .int .i64 j ∧ j ≤ l.length ∧ 0 ≤ n ∧ n ≤ 1000000 ∧ Hid (Below w.heap.size w wr ∧ (l.drop j).foldl (fun n x => n + Sg.placesN k x) n = fin)) (fun _ iv _ => l.length - (intOf iv).toNat)
  case atStart => exact ⟨0, 0, rfl, rfl, Nat.zero_le _, by omega, by omega, hide2 ⟨Below.refl _ _, H0.out⟩⟩
  case round =>
    obtain ⟨j, n, rfl, rfl, hj, hn0, hn1, H⟩ := hrel
    obtain ⟨g1, g2⟩ := H.out
    by_cases hlt : j < l.length
    · rw [List.drop_eq_getElem_cons hlt, List.foldl_cons] at g2
      obtain ⟨v, hv1, f, u, t, rfl, hm, he, hc⟩ := HV.out j l[j] (List.getElem?_eq_getElem hlt)
      have hp1 := HP.out l[j] (List.getElem_mem _)
      have hs := sum_nonneg k (l.drop (j + 1)) (fun x hx => HP.out x (List.mem_of_mem_drop hx)) (n + Sg.placesN k l[j])
      rw [g2] at hs
      have HC := hide2 (hc wr g1)
      have hr := HR.out.below g1
      obtain ⟨rb, ro, rfl, k0⟩ : ∃ rb ro, ra = some ⟨rb, ro, none⟩ ∧ wr.cell? ⟨rb, ro + j, none⟩ = some (.iface t u) := by
        rcases hr.row with ⟨_, _, h⟩ | ⟨rb, ro, e, _, h2, _⟩
        · omega
        · exact ⟨rb, ro, e, h2 j _ hv1⟩
      generalize Sg.placesN k l[j] = y at *
      have HX := hide2 (And.intro g1 g2)
      clear g1 g2 hc hr H hv1
      go_wp2_with (go_at_fn f; refine HC.out.mono ?_; clear HC; rintro e w1 ⟨rfl, hb⟩)
      exact ⟨⟨j + 1, n + y, rfl, by go_num, by omega, by omega, by omega, hide2 ⟨below_go HX.out.1 hb, HX.out.2⟩⟩, by simp [intOf]; omega⟩
    · rw [List.drop_of_length_le (by omega)] at g2
      have g2' : n = fin := g2
      subst g2'
      have HX := hide2 g1
      clear g1 g2 H
      go_wp2
      go_ret
      exact ⟨rfl, HX.out⟩
theorem node_one {D : Nat → Prop} {w : World} {k : Nat} {v : Value} {x : Sg.Node} (h : NodeAt D w k v x) : v.oneCell' = true := by
  match k, x, h with
  | _ + 1, ⟨.inl _⟩, h => obtain ⟨_, _, rfl, _⟩ := h; rfl
  | _ + 1, ⟨.inr (.inl _)⟩, h => obtain ⟨_, _, _, rfl, _⟩ := h; rfl
  | _ + 1, ⟨.inr (.inr (.inl _))⟩, h => obtain ⟨_, _, _, rfl, _⟩ := h; rfl
  | _ + 1, ⟨.inr (.inr (.inr (_, _, _)))⟩, h => obtain ⟨_, rfl, _⟩ := h; rfl
theorem PlacesAt.below {w w' : World} {v : Value} {n : Int} (h : PlacesAt w v n) (hb : Below w.heap.size w w') : PlacesAt w' v n := by
  obtain ⟨f, u, t, e, h1, h2, h3⟩ := h
  exact ⟨f, u, t, e, h1, h2, fun wx hx => h3 wx (below_go hb hx)⟩
theorem places_any {D : Nat → Prop} : ∀ (k : Nat) (w : World) (v : Value) (x : Sg.Node), NodeAt D w k v x → Sg.plOk k x = true → PlacesAt w v (Sg.placesN k x)
  | 0, _, _, _, h, _ => h.elim
  | k + 1, w, v, ⟨.inl s⟩, h, _ => by
    obtain ⟨ra, rc, rfl, h1, h2, h3⟩ := h
    refine ⟨286, _, _, rfl, fun wx => mCls _ wx, enters_of Tryz.func286 (by kernel_rfl) rfl, fun wx _ => ?_⟩
    show Calls Tryz.prog 286 _ wx fun e w' => e = .returned (.int .i64 1) ∧ _
    go_enter Tryz.func286, Tryz.ntmps286
    go_wp2
    go_ret
    exact ⟨rfl, (Below.refl _ _).alloc (Nat.le_refl _) _⟩
  | k + 1, w, v, ⟨.inr (.inl l)⟩, h, hp => by
    have hnn := fun x (hx : x ∈ l) => (by
      obtain ⟨ra, rc, vs, e, h1, h2, h3, h4⟩ := h
      obtain ⟨i, hi⟩ := List.getElem?_of_mem hx
      obtain ⟨u, _, hn⟩ := h4 i x hi
      exact places_nonneg k u x hn : 0 ≤ Sg.placesN k x)
    obtain ⟨ra, rc, vs, rfl, h1, h2, h3, h4⟩ := h
    have hp' : l.all (Sg.plOk k) = true ∧ l.foldl (fun n x => n + Sg.placesN k x) 0 ≤ 1000000 := by
      unfold Sg.plOk at hp
      rw [Bool.and_eq_true] at hp
      exact ⟨hp.1, of_decide_eq_true hp.2⟩
    have hq : ∀ (i : Nat) (x : Sg.Node), l[i]? = some x → ∃ u, vs[i]? = some u ∧ PlacesAt w u (Sg.placesN k x) := fun i x hx => by
      obtain ⟨u, hu, hn⟩ := h4 i x hx
      exact ⟨u, hu, places_any k w u x hn (List.all_eq_true.1 hp'.1 x (List.mem_of_getElem? hx))⟩
    refine ⟨288, _, _, rfl, fun wx => mRow _ wx, enters_of Tryz.func288 (by kernel_rfl) rfl, fun wx hx => ?_⟩
    have HS := hide2 (sum_any wx k ra rc l vs (h1.below hx) h3 (fun i x hi => by obtain ⟨u, hu, hn⟩ := hq i x hi; exact ⟨u, hu, hn.below hx⟩) hnn hp'.2)
    show Calls Tryz.prog 288 _ wx fun e w' => e = .returned (.int .i64 (l.foldl (fun n x => n + Sg.placesN k x) 0)) ∧ _
    clear hq hp' hp h4 hnn
    generalize l.foldl (fun n x => n + Sg.placesN k x) 0 = y at *
    go_enter Tryz.func288, Tryz.ntmps288
    go_wp2_with (go_at_call 285; refine HS.out.mono ?_; rintro e w1 ⟨rfl, hb⟩)
    go_ret
    exact ⟨rfl, hb⟩
  | k + 1, w, v, ⟨.inr (.inr (.inl l))⟩, h, hp => by
    have hnn := fun x (hx : x ∈ l) => (by
      obtain ⟨ra, rc, vs, e, h1, h2, h3, h4⟩ := h
      obtain ⟨i, hi⟩ := List.getElem?_of_mem hx
      obtain ⟨u, _, hn⟩ := h4 i x hi
      exact places_nonneg k u x hn : 0 ≤ Sg.placesN k x)
    obtain ⟨ra, rc, vs, rfl, h1, h2, h3, h4⟩ := h
    have hp' : l.all (Sg.plOk k) = true ∧ l.foldl (fun n x => n + Sg.placesN k x) 0 ≤ 1000000 := by
      unfold Sg.plOk at hp
      rw [Bool.and_eq_true] at hp
      exact ⟨hp.1, of_decide_eq_true hp.2⟩
    have hq : ∀ (i : Nat) (x : Sg.Node), l[i]? = some x → ∃ u, vs[i]? = some u ∧ PlacesAt w u (Sg.placesN k x) := fun i x hx => by
      obtain ⟨u, hu, hn⟩ := h4 i x hx
      exact ⟨u, hu, places_any k w u x hn (List.all_eq_true.1 hp'.1 x (List.mem_of_getElem? hx))⟩
    refine ⟨284, _, _, rfl, fun wx => mAlt _ wx, enters_of Tryz.func284 (by kernel_rfl) rfl, fun wx hx => ?_⟩
    have HS := hide2 (sum_any wx k ra rc l vs (h1.below hx) h3 (fun i x hi => by obtain ⟨u, hu, hn⟩ := hq i x hi; exact ⟨u, hu, hn.below hx⟩) hnn hp'.2)
    show Calls Tryz.prog 284 _ wx fun e w' => e = .returned (.int .i64 (l.foldl (fun n x => n + Sg.placesN k x) 0)) ∧ _
    clear hq hp' hp h4 hnn
    generalize l.foldl (fun n x => n + Sg.placesN k x) 0 = y at *
    go_enter Tryz.func284, Tryz.ntmps284
    go_wp2_with (go_at_call 285; refine HS.out.mono ?_; rintro e w1 ⟨rfl, hb⟩)
    go_ret
    exact ⟨rfl, hb⟩
  | k + 1, w, v, ⟨.inr (.inr (.inr (a, m, n)))⟩, h, hp => by
    obtain ⟨u, rfl, h1, h2, h3⟩ := h
    have hp' : Sg.plOk k a = true ∧ Sg.copies m n * Sg.placesN k a ≤ 1000000 := by
      unfold Sg.plOk at hp
      rw [Bool.and_eq_true] at hp
      exact ⟨hp.1, of_decide_eq_true hp.2⟩
    have hn0 := places_nonneg k u a h1
    have hc0 := copies_nonneg h2 h3
    have hmul := Int.mul_nonneg hc0.1 hn0
    obtain ⟨f, u', t, rfl, hm, he, hc⟩ := places_any k w u a h1 hp'.1
    refine ⟨287, _, _, rfl, fun wx => mTim _ wx, enters_of Tryz.func287 (by kernel_rfl) rfl, fun wx hx => ?_⟩
    show Calls Tryz.prog 287 _ wx fun e w' => e = .returned (.int .i64 (Sg.copies m n * Sg.placesN k a)) ∧ _
    have hcp := fun wy => copies_any wy (.iface t u') rfl m n h2 h3
    have hle := hp'.2
    generalize Sg.copies m n = c at *
    generalize Sg.placesN k a = y at *
    have hwr : IntKind.i64.wrap (c * y) = c * y := wrap_id (by omega) (by omega)
    have hbl : Below wx.heap.size wx (wx.alloc (.cells #[.iface t u', .int .i64 m, .int .i64 n] 288)) := (Below.refl _ _).alloc (Nat.le_refl _) _
    have hnb := heap_alloc_new wx (.cells #[.iface t u', .int .i64 m, .int .i64 n] 288)
    go_enter Tryz.func287, Tryz.ntmps287
    go_wp2
    generalize wx.alloc (.cells #[.iface t u', .int .i64 m, .int .i64 n] 288) = W at *
    have HC : Hid (∀ wy, Below W.heap.size W wy → Calls Tryz.prog f #[u'] wy fun e w' => e = .returned (.int .i64 y) ∧ Below W.heap.size W w') := hide2 (fun wy hy => (hc wy (below_go (below_go hx hbl) hy)).mono fun e w' ⟨h1, h2⟩ => ⟨h1, below_go hy h2⟩)
    have HK : Hid (∀ wy, Below W.heap.size W wy → Calls Tryz.prog 173 #[.agg #[.iface t u', .int .i64 m, .int .i64 n]] wy fun e w' => e = .returned (.int .i64 c) ∧ Below W.heap.size W w') := hide2 (fun wy hy => (hcp wy).mono fun e w' ⟨h1, h2⟩ => ⟨h1, below_go hy h2⟩)
    have c0 : W.cell? ⟨wx.heap.size, 0, none⟩ = some (.iface t u') := by unfold World.cell?; simp only [hnb]; rfl
    have c1 : W.cell? ⟨wx.heap.size, 1, none⟩ = some (.int .i64 m) := by unfold World.cell?; simp only [hnb]; rfl
    have c2 : W.cell? ⟨wx.heap.size, 2, none⟩ = some (.int .i64 n) := by unfold World.cell?; simp only [hnb]; rfl
    have HB := hide2 hbl
    clear hc hp hp' h1 hx hbl hnb hcp
    go_region_with (first
      | (go_at_call 173; refine (HK.out _ ((Below.refl _ _).drew)).mono ?_; rintro e w1 ⟨rfl, hb1⟩; have d0 := below_keep hb1 c0; have d1 := below_keep hb1 c1; have d2 := below_keep hb1 c2)
      | (go_at_fn f; refine (HC.out _ (by assumption)).mono ?_; rintro e w2 ⟨rfl, hb2⟩))
    all_goals
      go_wp2
      go_ret
      exact ⟨by first | rfl | (show Ending.returned (.int .i64 (IntKind.i64.wrap (c * y))) = _; rw [hwr]), below_go HB.out hb2⟩
end Go.Proofs.YtlhokghgicgppaaGreatDoor
