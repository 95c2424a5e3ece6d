/- Rules, where they are right: atom, group, part, row, alt. -/
/- The layout of a tree, whole. -/
/- Rules, where they are right: part, row, alt. -/
import Derived.Test.YtlhokghgicgppaaGreatDoorCounted2
import Derived.Test.YtlhokghgicgppaaGreatDoorLay5
set_option linter.unusedSimpArgs false
set_option linter.unusedVariables false
set_option maxRecDepth 100000
set_option maxHeartbeats 4000000
namespace Go.Proofs.YtlhokghgicgppaaGreatDoor
open Go.RowKit Go.Extern
def Reads (f : Nat) (p : Sg.Rd → Sg.RM Sg.Node) (k : Nat) : Prop := ∀ (w : World) (q : Nat) (r : Sg.Rd), RdAt w q r → ∀ (x : Sg.Node) (r' : Sg.Rd), p r = .ok (x, r') →
  Calls Tryz.prog f #[.pointer (some ⟨q, 0, none⟩)] w fun e w' => ∃ v, e = .returned v ∧ NodeAt (fun b => w.heap.size ≤ b) w' k v x ∧ RdSt w q w' r'
theorem node_iface {D : Nat → Prop} {w : World} {k : Nat} {v : Value} {x : Sg.Node} (h : NodeAt D w k v x) : ∃ t u, v = .iface t u := by
  match k, x, h with
  | _ + 1, ⟨.inl _⟩, h => obtain ⟨_, _, rfl, _⟩ := h; exact ⟨_, _, rfl⟩
  | _ + 1, ⟨.inr (.inl _)⟩, h => obtain ⟨_, _, _, rfl, _⟩ := h; exact ⟨_, _, rfl⟩
  | _ + 1, ⟨.inr (.inr (.inl _))⟩, h => obtain ⟨_, _, _, rfl, _⟩ := h; exact ⟨_, _, rfl⟩
  | _ + 1, ⟨.inr (.inr (.inr (_, _, _)))⟩, h => obtain ⟨_, rfl, _⟩ := h; exact ⟨_, _, rfl⟩
theorem Reads.st {f : Nat} {p : Sg.Rd → Sg.RM Sg.Node} {k : Nat} (h : Reads f p k) {w wx : World} {q : Nat} {r : Sg.Rd} (hs : RdSt w q wx r) {x : Sg.Node} {r' : Sg.Rd} (hx : p r = .ok (x, r')) :
    Calls Tryz.prog f #[.pointer (some ⟨q, 0, none⟩)] wx fun e w' => ∃ t u, e = .returned (.iface t u) ∧ Hid (NodeAt (fun b => wx.heap.size ≤ b) w' k (.iface t u) x) ∧ RdSt w q w' r' ∧ Chg (rulT q) wx w' :=
  (h wx q r hs.at_ x r' hx).mono fun _ _ ⟨v, he, hn, hr⟩ => by
    obtain ⟨t, u, rfl⟩ := node_iface hn
    exact ⟨t, u, he, hide2 hn, hs.go hr, hr.chg⟩
theorem single_st {w wx : World} {q : Nat} {r : Sg.Rd} (h : RdSt w q wx r) {v : Int} (hv : Sg.validRune v = true) :
    Calls Tryz.prog 205 #[.int .i32 v] wx fun e w' => ∃ x, e = .returned x ∧ Hid (NodeAt (fun b => w.heap.size ≤ b) w' 1 x (Sg.single v)) ∧ RdSt w q w' r :=
  (single_any wx v hv).mono fun _ _ ⟨x, he, hn, hb⟩ => ⟨x, he, hide2 (NodeAt.inw (fun b _ hb => Nat.le_trans h.size hb) _ _ _ hn), h.below hb⟩
theorem NodeAt.rul {B q : Nat} {w w' : World} (hq : q < B) {k : Nat} {v : Value} {x : Sg.Node} (h : NodeAt (fun b => B ≤ b) w k v x) (hc : Chg (rulT q) w w') : NodeAt (fun b => B ≤ b) w' k v x :=
  NodeAt.of hc (fun b o hb t => by have := t.1; omega) k v x h
theorem group_any (k : Nat) (halt : Reads 102 (Sg.altN k) (3 * k + 1)) (w : World) (q : Nat) (r : Sg.Rd) (h : RdAt w q r) (hd : r.depth ≠ 8) (x : Sg.Node) (r1 : Sg.Rd) (hx : Sg.altN k { r.take.2 with depth := r.depth + 1 } = .ok (x, r1)) (hp : r1.peek.1 = 41) (hdd : r1.take.2.depth = r.depth + 1) :
    Calls Tryz.prog 201 #[.pointer (some ⟨q, 0, none⟩)] w fun e w' => ∃ v, e = .returned v ∧ NodeAt (fun b => w.heap.size ≤ b) w' (3 * k + 1) v x ∧ RdSt w q w' { r1.take.2 with depth := r.depth } := by
  have S0 := RdSt.start h
  have hdep := h.ok.dep
  have HT := hide2 (take_st S0)
  have HA := hide2 (fun wx (hx' : RdSt w q wx { r.take.2 with depth := r.depth + 1 }) => halt.st hx' hx)
  have HE := hide2 (fun wx (hx' : RdSt w q wx r1) => (expect_any wx q r1 hx'.at_ 41 hp).mono fun e w' ⟨he, hs⟩ => (⟨he, hx'.go hs, hs.chg⟩ : e = Ending.returned (.tuple #[]) ∧ RdSt w q w' r1.take.2 ∧ Chg (rulT q) wx w'))
  have hq := h.lt
  have htd := Sg.Rd.take_depth r
  clear h hx hp
  generalize r.take.2 = r2 at *
  generalize r1.take.2 = r3 at *
  generalize r.depth = d at *
  generalize r.peek.1 = p1 at *
  generalize r.peek.2 = p2 at *
  have hd8 : ¬ d = 8 := hd
  go_enter Tryz.func201, Tryz.ntmps201
  go_wp2_with (first
    | (go_at_call 172; refine HT.out.mono ?_; clear HT; rintro e w1 ⟨rfl, S1⟩; have c3 : ∀ o, (w1.alloc o).cell? ⟨q, 3, none⟩ = some (.int .i64 d) := fun o => (by have := (S1.alloc o).at_.d; rw [htd] at this; exact this); have z3 : ∀ o, (w1.alloc o).frozen? ⟨q, 3, none⟩ = false := fun o => (S1.alloc o).at_.z3)
    | (go_at_call 102; refine (HA.out _ (RdSt.dep (RdSt.alloc (by assumption) _) _ (by omega))).mono ?_; clear HA; rintro e w2 ⟨t2, u2, rfl, N2, S2, C2⟩)
    | (go_at_call 103; refine (HE.out _ (by assumption)).mono ?_; clear HE; rintro e w3 ⟨rfl, S3, C3⟩; have d3 : w3.cell? ⟨q, 3, none⟩ = some (.int .i64 (d + 1)) := (by have := S3.at_.d; rw [hdd] at this; exact this); have y3 := S3.at_.z3))
  go_ret
  have hsz := ((S1.alloc (.cells #[.int .i32 p1, .int .i64 p2] 278)).dep (d + 1) (by omega)).size
  have n1 := NodeAt.inw (E := fun b => w.heap.size ≤ b) (fun b _ hb => Nat.le_trans hsz hb) _ _ _ N2.out
  have n2 := NodeAt.rul hq n1 (C3.trans (Chg.setCell1 (w := w3) (k := q) (o := 3) ⟨rfl, .inr rfl⟩ (.int .i64 d)))
  exact ⟨_, rfl, n2, S3.dep d (by omega)⟩
theorem take_valid {r : Sg.Rd} (ho : Sg.RdOk r) (h1 : r.peek.1 ≠ -1) (h2 : r.peek.1 ≠ -2) : Sg.validRune r.peek.1 = true := by
  rcases ho.val r.next with h | h | h
  · exact absurd h h1
  · exact absurd h h2
  · exact h
theorem dot_of : Sg.ofR [(10, 10)] = [(10, 10)] := by decide
theorem dot_bnd : Bnd0 [(10, 10)] := fun x hx => by simp at hx; subst hx; decide
theorem dot_ne : Sg.partsOf (Sg.gapsGo 0 [(10, 10)]) ≠ [] := by decide
theorem dot_len : (Sg.turnedR [(10, 10)]).length < 1000000 := by decide
theorem atom_dot (w : World) (q : Nat) (r : Sg.Rd) (h : RdAt w q r) (hp : r.peek.1 = 46) :
    Calls Tryz.prog 184 #[.pointer (some ⟨q, 0, none⟩)] w fun e w' => ∃ v, e = .returned v ∧ NodeAt (fun b => w.heap.size ≤ b) w' 1 v (.cls (Sg.turnedR (Sg.ofR [(10, 10)]))) ∧ RdSt w q w' r.take.2 := by
  have S0 := RdSt.start h
  have HP := hide2 (peek_st S0)
  have HT := hide2 (fun wx (hx : RdSt w q wx r) => take_st hx)
  rw [hp] at HP HT
  clear hp h
  generalize r.take.2 = r2 at *
  have HO : Hid (∀ wx, RdSt w q wx r2 → Calls Tryz.prog 203 #[.slice (some ⟨wx.heap.size, 0, none⟩) 1 1] (wx.alloc (.cells #[.int .i32 10, .int .i32 10] 294)) fun e w' => ∃ ra' rc', e = .returned (.slice ra' 1 rc') ∧ Hid (RowAt 2 w' ra' rc' 1 ([((10 : Int), (10 : Int))].flatMap rgCells)) ∧ RdSt w q w' r2) := hide2 (fun wx hS => by
    have := of_st (hS.alloc (.cells #[.int .i32 10, .int .i32 10] 294)) (rs := [(10, 10)]) (RowAt.two wx _ _ _) (by decide) (bnd_single 10 (by decide)) (parts_single 10 (by decide))
    rw [dot_of] at this
    exact this.mono fun _ _ ⟨ra', rc', he, h1, h2⟩ => ⟨ra', rc', he, hide2 h1.1, h2⟩)
  have HU : Hid (∀ wx ra rc, Hid (RowAt 2 wx ra rc 1 ([((10 : Int), (10 : Int))].flatMap rgCells)) → RdSt w q wx r2 → Calls Tryz.prog 204 #[.slice ra 1 rc] wx fun e w' => ∃ ra' rc', e = .returned (.slice ra' (Sg.turnedR [(10, 10)]).length rc') ∧ Hid (RowAt 2 w' ra' rc' (Sg.turnedR [(10, 10)]).length ((Sg.turnedR [(10, 10)]).flatMap rgCells) ∧ InD (fun b => w.heap.size ≤ b) ra') ∧ RdSt w q w' r2) := hide2 (fun wx ra rc hR hS => by
    exact (turned_st hS (rs := [(10, 10)]) hR.out (by decide) dot_bnd dot_ne).mono fun _ _ ⟨ra', rc', he, h1, h2⟩ => ⟨ra', rc', he, hide2 h1, h2⟩)
  rw [dot_of]
  have HL := hide2 dot_len
  generalize r.peek.2 = p2 at *
  generalize Sg.turnedR [(10, 10)] = ts at *
  go_enter Tryz.func184, Tryz.ntmps184
  go_wp2_with (first
    | (go_at_call 142; refine HP.out.mono ?_; clear HP; rintro e w1 ⟨rfl, S1⟩)
    | (go_at_call 172; refine (HT.out _ (RdSt.alloc (by assumption) _)).mono ?_; clear HT; rintro e w2 ⟨rfl, S2⟩)
    | (go_at_call 203; refine (HO.out _ (by assumption)).mono ?_; clear HO; rintro e w3 ⟨ra3, rc3, rfl, R3, S3⟩)
    | (go_at_call 204; refine (HU.out _ _ _ (by assumption) (by assumption)).mono ?_; clear HU; rintro e w4 ⟨ra4, rc4, rfl, R4, S4⟩))
  go_ret
  exact ⟨_, rfl, ⟨ra4, rc4, rfl, R4.out.1, R4.out.2, HL.out⟩, S4⟩
theorem atom_esc (w : World) (q : Nat) (r : Sg.Rd) (h : RdAt w q r) (hp : r.peek.1 = 92) (x : Int) (r' : Sg.Rd) (hx : r.escape = .ok (x, r')) :
    Calls Tryz.prog 184 #[.pointer (some ⟨q, 0, none⟩)] w fun e w' => ∃ v, e = .returned v ∧ NodeAt (fun b => w.heap.size ≤ b) w' 1 v (Sg.single x) ∧ RdSt w q w' r' := by
  have S0 := RdSt.start h
  have HP := hide2 (peek_st S0)
  have HE := hide2 (fun wx (hx' : RdSt w q wx r) => escape_st hx' hx)
  have HS := hide2 (fun wx (hx' : RdSt w q wx r') => single_st hx' (escape_valid hx))
  rw [hp] at HP
  clear hp h hx
  generalize r.peek.2 = p2 at *
  generalize Sg.single x = sx at *
  go_enter Tryz.func184, Tryz.ntmps184
  go_wp2_with (first
    | (go_at_call 142; refine HP.out.mono ?_; clear HP; rintro e w1 ⟨rfl, S1⟩)
    | (go_at_call 206; refine (HE.out _ (RdSt.alloc (by assumption) _)).mono ?_; clear HE; rintro e w2 ⟨rfl, S2⟩)
    | (go_at_call 205; refine (HS.out _ (by assumption)).mono ?_; clear HS; rintro e w3 ⟨v3, rfl, N3, S3⟩))
  go_ret
  exact ⟨_, rfl, N3.out, S3⟩
theorem atom_one (w : World) (q : Nat) (r : Sg.Rd) (h : RdAt w q r) (n0 : ¬ r.peek.1 = 40) (n1 : ¬ r.peek.1 = 91) (n2 : ¬ r.peek.1 = 46) (n3 : ¬ r.peek.1 = 92) (n4 : ¬ r.peek.1 = 41) (n5 : ¬ r.peek.1 = 93) (n6 : ¬ r.peek.1 = 123) (n7 : ¬ r.peek.1 = 125) (n8 : ¬ r.peek.1 = 124) (n9 : ¬ r.peek.1 = 42) (n10 : ¬ r.peek.1 = 43) (n11 : ¬ r.peek.1 = 63) (n12 : ¬ r.peek.1 = -1) (n13 : ¬ r.peek.1 = -2) :
    Calls Tryz.prog 184 #[.pointer (some ⟨q, 0, none⟩)] w fun e w' => ∃ v, e = .returned v ∧ NodeAt (fun b => w.heap.size ≤ b) w' 1 v (Sg.single r.peek.1) ∧ RdSt w q w' r.take.2 := by
  have S0 := RdSt.start h
  have q0 := fldS0
  have HP := hide2 (peek_st S0)
  have HT := hide2 (fun wx (hx : RdSt w q wx r) => take_st hx)
  have HS := hide2 (fun wx (hx' : RdSt w q wx r.take.2) => single_st hx' (take_valid h.ok n12 n13))
  clear h
  generalize Sg.single r.peek.1 = sx at *
  generalize r.peek.1 = p1 at *
  generalize r.peek.2 = p2 at *
  generalize r.take.2 = r2 at *
  go_enter Tryz.func184, Tryz.ntmps184
  go_wp2_with (first
    | (go_at_call 142; refine HP.out.mono ?_; clear HP; rintro e w1 ⟨rfl, S1⟩)
    | (go_at_call 172; refine (HT.out _ (RdSt.alloc (by assumption) _)).mono ?_; clear HT; rintro e w2 ⟨rfl, S2⟩)
    | (go_at_call 205; refine (HS.out _ (by assumption)).mono ?_; clear HS; rintro e w3 ⟨v3, rfl, N3, S3⟩))
  go_ret
  exact ⟨_, rfl, N3.out, S3⟩
theorem atom_sub (w : World) (q : Nat) (r : Sg.Rd) (h : RdAt w q r) (c : Int) (f k : Nat) (hp : r.peek.1 = c) (hc : (c = 40 ∧ f = 201) ∨ (c = 91 ∧ f = 202)) (x : Sg.Node) (r' : Sg.Rd)
    (hf : ∀ wx, RdAt wx q r → Calls Tryz.prog f #[.pointer (some ⟨q, 0, none⟩)] wx fun e w' => ∃ v, e = .returned v ∧ NodeAt (fun b => wx.heap.size ≤ b) w' k v x ∧ RdSt wx q w' r') :
    Calls Tryz.prog 184 #[.pointer (some ⟨q, 0, none⟩)] w fun e w' => ∃ v, e = .returned v ∧ NodeAt (fun b => w.heap.size ≤ b) w' k v x ∧ RdSt w q w' r' := by
  have S0 := RdSt.start h
  have HP := hide2 (peek_st S0)
  have HF : Hid (∀ wx, RdSt w q wx r → Calls Tryz.prog f #[.pointer (some ⟨q, 0, none⟩)] wx fun e w' => ∃ v, e = .returned v ∧ Hid (NodeAt (fun b => w.heap.size ≤ b) w' k v x) ∧ RdSt w q w' r') := hide2 (fun wx hS => (hf wx hS.at_).mono fun _ _ ⟨v, he, hn, hr⟩ => ⟨v, he, hide2 (NodeAt.inw (fun b _ hb => Nat.le_trans hS.size hb) _ _ _ hn), hS.go hr⟩)
  rw [hp] at HP
  clear hp h hf
  generalize r.peek.2 = p2 at *
  rcases hc with ⟨rfl, rfl⟩ | ⟨rfl, rfl⟩
  · go_enter Tryz.func184, Tryz.ntmps184
    go_wp2_with (first
      | (go_at_call 142; refine HP.out.mono ?_; clear HP; rintro e w1 ⟨rfl, S1⟩)
      | (go_at_call 201; refine (HF.out _ (RdSt.alloc (by assumption) _)).mono ?_; clear HF; rintro e w2 ⟨v2, rfl, N2, S2⟩))
    go_ret
    exact ⟨_, rfl, N2.out, S2⟩
  · go_enter Tryz.func184, Tryz.ntmps184
    go_wp2_with (first
      | (go_at_call 142; refine HP.out.mono ?_; clear HP; rintro e w1 ⟨rfl, S1⟩)
      | (go_at_call 202; refine (HF.out _ (RdSt.alloc (by assumption) _)).mono ?_; clear HF; rintro e w2 ⟨v2, rfl, N2, S2⟩))
    go_ret
    exact ⟨_, rfl, N2.out, S2⟩
theorem atom_reads (k : Nat) (halt : Reads 102 (Sg.altN k) (3 * k + 1)) : Reads 184 (Sg.atomOf (Sg.altN k)) (3 * k + 1) := by
  intro w q r h x r' hx
  unfold Sg.atomOf at hx
  dsimp only at hx
  split at hx
  · rename_i hp
    split at hx
    · cases hx
    · rename_i hd
      split at hx
      · cases hx
      · rename_i y r1 ha
        split at hx
        · cases hx
        · rename_i u r2 he
          split at hx
          · rename_i hdd
            unfold Sg.Rd.expect at he
            split at he
            · rename_i hp1
              cases he
              cases hx
              exact atom_sub w q r h 40 _ _ hp (.inl ⟨rfl, rfl⟩) _ _ (fun wx hw => group_any k halt wx q r hw hd _ r1 ha hp1 hdd)
            · cases he
          · cases hx
  · rename_i n0
    split at hx
    · rename_i hp
      refine (atom_sub w q r h 91 _ 1 hp (.inr ⟨rfl, rfl⟩) x r' (fun wx hw => class_any wx q r hw x r' hx)).mono fun _ _ ⟨v, he, hn, hr⟩ => ⟨v, he, NodeAt.le (by omega) hn, hr⟩
    · rename_i n1
      split at hx
      · rename_i hp
        cases hx
        exact (atom_dot w q r h hp).mono fun _ _ ⟨v, he, hn, hr⟩ => ⟨v, he, NodeAt.le (by omega) hn, hr⟩
      · rename_i n2
        split at hx
        · rename_i hp
          split at hx
          · cases hx
          · rename_i y r1 he
            cases hx
            exact (atom_esc w q r h hp _ _ he).mono fun _ _ ⟨v, he, hn, hr⟩ => ⟨v, he, NodeAt.le (by omega) hn, hr⟩
        · rename_i n3
          split at hx
          · cases hx
          · rename_i hn
            cases hx
            exact (atom_one w q r h n0 n1 n2 n3 (fun e => hn (.inl e)) (fun e => hn (.inr (.inl e))) (fun e => hn (.inr (.inr (.inl e)))) (fun e => hn (.inr (.inr (.inr (.inl e))))) (fun e => hn (.inr (.inr (.inr (.inr (.inl e)))))) (fun e => hn (.inr (.inr (.inr (.inr (.inr (.inl e))))))) (fun e => hn (.inr (.inr (.inr (.inr (.inr (.inr (.inl e)))))))) (fun e => hn (.inr (.inr (.inr (.inr (.inr (.inr (.inr (.inl e))))))))) (fun e => hn (.inr (.inr (.inr (.inr (.inr (.inr (.inr (.inr (.inl e)))))))))) (fun e => hn (.inr (.inr (.inr (.inr (.inr (.inr (.inr (.inr (.inr e))))))))))).mono fun _ _ ⟨v, he, hn, hr⟩ => ⟨v, he, NodeAt.le (by omega) hn, hr⟩
end Go.Proofs.YtlhokghgicgppaaGreatDoor
namespace Go.Proofs.YtlhokghgicgppaaGreatDoor
open Go.RowKit Go.Extern
theorem joinP_empty (P Q : Sg.Pc2) : (joinP P Q).empty = (P.empty && Q.empty) := rfl
theorem row_empty (k : Nat) (h : ∀ x l, Sg.nul k x = false → (Sg.layN k x l).1.empty = false) : ∀ (ns : List Sg.Node) (a : Sg.Pc2 × Sg.Lt), (a.1.empty = false ∨ ns.all (Sg.nul k) = false) → (ns.foldl (rowStep k) a).1.empty = false
  | [], a, h0 => by
    rcases h0 with h0 | h0
    · exact h0
    · cases h0
  | x :: ns, a, h0 => by
    rw [List.foldl_cons]
    refine row_empty k h ns _ ?_
    rw [rowStep_eq]
    dsimp only
    rw [joinP_empty]
    rcases h0 with h0 | h0
    · rw [h0]; exact .inl rfl
    · rw [List.all_cons, Bool.and_eq_false_iff] at h0
      rcases h0 with h0 | h0
      · rw [h x a.2 h0, Bool.and_false]; exact .inl rfl
      · exact .inr h0
theorem alt_empty (k : Nat) (h : ∀ x l, Sg.nul k x = false → (Sg.layN k x l).1.empty = false) : ∀ (ns : List Sg.Node) (a : Sg.Pc2 × Sg.Lt), a.1.empty = false → ns.any (Sg.nul k) = false → (ns.foldl (altStep k) a).1.empty = false
  | [], a, h0, _ => h0
  | x :: ns, a, h0, h1 => by
    rw [List.any_cons, Bool.or_eq_false_iff] at h1
    rw [List.foldl_cons]
    refine alt_empty k h ns _ ?_ h1.2
    show (a.1.empty || (Sg.layN k x a.2).1.empty) = false
    rw [h0, h x a.2 h1.1]; rfl
theorem times_empty (lay : Sg.Lt → Sg.Pc2 × Sg.Lt) (hl : ∀ l, (lay l).1.empty = false) (least most n : Int) (hn : 0 < least) : ∀ (k : Nat) (i : Int) (P : Sg.Pc2) (l : Sg.Lt), (P.empty = false ∨ (0 < k ∧ i < least)) → (Sg.timesGo lay least most n k i P l).1.empty = false
  | 0, i, P, l, h => by
    rcases h with h | h
    · exact h
    · omega
  | k + 1, i, P, l, h => by
    unfold Sg.timesGo
    dsimp only
    refine times_empty lay hl least most n hn k _ _ _ (.inl ?_)
    show (P.empty && _) = false
    rcases h with h | ⟨_, h⟩
    · rw [h]; rfl
    · rw [if_neg (by omega), hl, Bool.and_false]
theorem nul_empty : ∀ (k : Nat) (x : Sg.Node) (l : Sg.Lt), Sg.nul k x = false → (Sg.layN k x l).1.empty = false
  | 0, x, l, _ => rfl
  | k + 1, ⟨.inl s⟩, l, _ => rfl
  | k + 1, ⟨.inr (.inl ns)⟩, l, h => by
    rw [layN_row]
    exact row_empty k (fun x l => nul_empty k x l) ns _ (.inr h)
  | k + 1, ⟨.inr (.inr (.inl ns))⟩, l, h => by
    rw [layN_alt]
    exact alt_empty k (fun x l => nul_empty k x l) ns _ rfl h
  | k + 1, ⟨.inr (.inr (.inr (a, least, most)))⟩, l, h => by
    unfold Sg.nul at h
    rw [Bool.or_eq_false_iff, Bool.or_eq_false_iff] at h
    have h1 := of_decide_eq_false h.1.1
    have h2 := of_decide_eq_false h.1.2
    show (Sg.timesGo (Sg.layN k a) least most (Sg.copies least most) (Sg.copies least most).toNat 0 ⟨0, 0, true⟩ l).1.empty = false
    exact times_empty _ (fun l => nul_empty k a l h.2) least most _ (by omega) _ _ _ _ (.inr ⟨by omega, by omega⟩)
theorem NodesAt.nonneg {D : Nat → Prop} {w : World} {k : Nat} {vs : List Value} {l : List Sg.Node} (h : NodesAt D w k vs l) : ∀ x ∈ l, 0 ≤ Sg.placesN k x := fun x hx => by
  obtain ⟨i, hi⟩ := List.getElem?_of_mem hx
  obtain ⟨u, _, hn⟩ := h i x hi
  exact places_nonneg k u x hn
theorem lay_any : ∀ (k : Nat), Lays k
  | 0 => fun B w p l v x ha _ _ _ => by cases ha
  | k + 1 => fun B w p l v x ha hL hN h64 => by
    have hp : p < w.heap.size := cell_lt hL.fn.c0
    have hB : B ≤ p := by have := hL.d; omega
    have ih := lay_any k
    match x, ha, hN, h64 with
    | ⟨.inl s⟩, _, hN, h64 =>
      obtain ⟨ra, rc, rfl, h1, h2, h3⟩ := hN
      have h64' : (l.cls.length : Int) + 1 ≤ 64 := h64
      exact lay_cls k B w p l ra rc s hL h1 h2 h3 (by omega)
    | ⟨.inr (.inl ns)⟩, ha, hN, h64 =>
      obtain ⟨ra, rc, vs, rfl, h1, h2, h3, h4⟩ := hN
      have h4' : NodesAt (fun b => b < B) w k vs ns := h4
      rw [layN_row]
      exact lay_row k ih B w p l ra rc ns vs hL h1 h2 h3 h4' h64 h4'.nonneg (fun x hx => List.all_eq_true.1 ha x hx)
    | ⟨.inr (.inr (.inl ns))⟩, ha, hN, h64 =>
      obtain ⟨ra, rc, vs, rfl, h1, h2, h3, h4⟩ := hN
      have h4' : NodesAt (fun b => b < B) w k vs ns := h4
      have ha' : ∀ x ∈ ns, Sg.altOk k x = true ∧ Sg.nul k x = false := fun x hx => by
        have := List.all_eq_true.1 ha x hx
        rw [Bool.and_eq_true] at this
        exact ⟨this.1, by simpa using this.2⟩
      rw [layN_alt]
      refine lay_alt B w p l hB hp ra rc ns.length _ _ _ (fun W hW => ?_)
      exact alt_any k ih B W p l ra rc ns vs (hL.below hW) (h1.below hW) h2 h3 (NodesAt.of (Chg.of_below (T := fun _ _ => False) hW) (fun _ _ _ t => t) h4') h64 h4'.nonneg (fun x hx => (ha' x hx).1) (fun x hx l => nul_empty k x l (ha' x hx).2)
    | ⟨.inr (.inr (.inr (a, least, most)))⟩, ha, hN, h64 =>
      obtain ⟨u, rfl, h1, h2, h3⟩ := hN
      obtain ⟨t, u', rfl⟩ := node_iface h1
      exact lay_times B w p l hB hp t u' least most _ _ _ (fun W hW => times_any k ih B W p l t u' a least most (hL.below hW) (NodeAt.below hW h1) h2 h3 h64 ha)
end Go.Proofs.YtlhokghgicgppaaGreatDoor
namespace Go.Proofs.YtlhokghgicgppaaGreatDoor
open Go.RowKit Go.Extern
theorem part_reads (k : Nat) (hk : k ≤ 99) (ap : Sg.Rd → Sg.RM Sg.Node) (hatom : Reads 184 ap k) : Reads 171 (Sg.partOf ap 100) (k + 1) := by
  intro w q r h x r' hx
  have S0 := RdSt.start h
  have hq := h.lt
  unfold Sg.partOf at hx
  split at hx
  · cases hx
  · rename_i a r1 ha
    have HA := hide2 (hatom.st S0 ha)
    have H42 := hide2 (fun wx (hx : RdSt w q wx r1) => accept_sc hx 42)
    have H43 := hide2 (fun wx (hx : RdSt w q wx r1) => accept_sc hx 43)
    have H63 := hide2 (fun wx (hx : RdSt w q wx r1) => accept_sc hx 63)
    have HP := hide2 (fun wx (hx : RdSt w q wx r1) => peek_sc hx)
    have q0 := fldS0
    clear h ha
    by_cases h42 : r1.peek.1 = 42
    · rw [if_pos h42] at hx
      cases hx
      rw [accept_yes h42] at H42
      generalize r1.take.2 = r2 at *
      clear H43 H63 HP h42
      go_enter Tryz.func171, Tryz.ntmps171
      go_wp2_with (first
        | (go_at_call 184; refine HA.out.mono ?_; clear HA; rintro e w1 ⟨t1, u1, rfl, N1, S1, C1⟩)
        | (go_at_call 140; refine (H42.out _ (by assumption)).mono ?_; clear H42; rintro e w2 ⟨rfl, S2, C2⟩))
      go_ret
      exact ⟨_, rfl, ⟨_, rfl, N1.out.rul hq C2, by decide, by decide⟩, S2⟩
    · rw [if_neg h42] at hx
      rw [accept_no h42] at H42
      by_cases h43 : r1.peek.1 = 43
      · rw [if_pos h43] at hx
        cases hx
        rw [accept_yes h43] at H43
        generalize r1.take.2 = r2 at *
        clear H63 HP h42 h43
        go_enter Tryz.func171, Tryz.ntmps171
        go_wp2_with (first
          | (go_at_call 184; refine HA.out.mono ?_; clear HA; rintro e w1 ⟨t1, u1, rfl, N1, S1, C1⟩)
          | (go_at_call 140; refine (H42.out _ (by assumption)).mono ?_; clear H42; rintro e w2 ⟨rfl, S2, C2⟩)
          | (go_at_call 140; refine (H43.out _ (by assumption)).mono ?_; clear H43; rintro e w3 ⟨rfl, S3, C3⟩))
        go_ret
        exact ⟨_, rfl, ⟨_, rfl, N1.out.rul hq (C2.trans C3), by decide, by decide⟩, S3⟩
      · rw [if_neg h43] at hx
        rw [accept_no h43] at H43
        by_cases h63 : r1.peek.1 = 63
        · rw [if_pos h63] at hx
          cases hx
          rw [accept_yes h63] at H63
          generalize r1.take.2 = r2 at *
          clear HP h42 h43 h63
          go_enter Tryz.func171, Tryz.ntmps171
          go_wp2_with (first
            | (go_at_call 184; refine HA.out.mono ?_; clear HA; rintro e w1 ⟨t1, u1, rfl, N1, S1, C1⟩)
            | (go_at_call 140; refine (H42.out _ (by assumption)).mono ?_; clear H42; rintro e w2 ⟨rfl, S2, C2⟩)
            | (go_at_call 140; refine (H43.out _ (by assumption)).mono ?_; clear H43; rintro e w3 ⟨rfl, S3, C3⟩)
            | (go_at_call 140; refine (H63.out _ (by assumption)).mono ?_; clear H63; rintro e w4 ⟨rfl, S4, C4⟩))
          go_ret
          exact ⟨_, rfl, ⟨_, rfl, N1.out.rul hq (C2.trans (C3.trans C4)), by decide, by decide⟩, S4⟩
        · rw [if_neg h63] at hx
          rw [accept_no h63] at H63
          by_cases h123 : r1.peek.1 = 123
          · rw [if_pos h123] at hx
            have HC : Hid (∀ wx v, Chg (rulT q) w wx → RdSt w q wx r1 → NodeAt (fun b => w.heap.size ≤ b) wx k v a → Calls Tryz.prog 185 #[.pointer (some ⟨q, 0, none⟩), v] wx fun e w' => ∃ u, e = .returned u ∧ Hid (NodeAt (fun b => w.heap.size ≤ b) w' (k + 1) u x) ∧ RdSt w q w' r') := hide2 (fun wx v hc hS hn => (counted_any wx q r1 hS.at_ w.heap.size k hq hS.size v a x (by omega) hn r' hx).mono fun _ _ ⟨u, he, g1, g2⟩ => ⟨u, he, hide2 g1, hS.go g2⟩)
            rw [h123] at HP
            generalize r1.peek.2 = p2 at *
            clear h42 h43 h63 h123 hx
            go_enter Tryz.func171, Tryz.ntmps171
            go_wp2_with (first
              | (go_at_call 184; refine HA.out.mono ?_; clear HA; rintro e w1 ⟨t1, u1, rfl, N1, S1, C1⟩)
              | (go_at_call 140; refine (H42.out _ (by assumption)).mono ?_; clear H42; rintro e w2 ⟨rfl, S2, C2⟩)
              | (go_at_call 140; refine (H43.out _ (by assumption)).mono ?_; clear H43; rintro e w3 ⟨rfl, S3, C3⟩)
              | (go_at_call 140; refine (H63.out _ (by assumption)).mono ?_; clear H63; rintro e w4 ⟨rfl, S4, C4⟩)
              | (go_at_call 142; refine (HP.out _ (by assumption)).mono ?_; clear HP; rintro e w5 ⟨rfl, S5, C5⟩)
              | (go_at_call 185; refine (HC.out _ _ S5.chg S5 (N1.out.rul hq (C2.trans (C3.trans (C4.trans C5))))).mono ?_; clear HC; rintro e w6 ⟨v6, rfl, N6, S6⟩))
            go_ret
            exact ⟨_, rfl, N6.out, S6⟩
          · rw [if_neg h123] at hx
            cases hx
            generalize r'.peek.1 = p1 at *
            generalize r'.peek.2 = p2 at *
            clear h42 h43 h63
            go_enter Tryz.func171, Tryz.ntmps171
            go_wp2_with (first
              | (go_at_call 184; refine HA.out.mono ?_; clear HA; rintro e w1 ⟨t1, u1, rfl, N1, S1, C1⟩)
              | (go_at_call 140; refine (H42.out _ (by assumption)).mono ?_; clear H42; rintro e w2 ⟨rfl, S2, C2⟩)
              | (go_at_call 140; refine (H43.out _ (by assumption)).mono ?_; clear H43; rintro e w3 ⟨rfl, S3, C3⟩)
              | (go_at_call 140; refine (H63.out _ (by assumption)).mono ?_; clear H63; rintro e w4 ⟨rfl, S4, C4⟩)
              | (go_at_call 142; refine (HP.out _ (by assumption)).mono ?_; clear HP; rintro e w5 ⟨rfl, S5, C5⟩))
            go_ret
            exact ⟨_, rfl, NodeAt.up _ _ _ (N1.out.rul hq (C2.trans (C3.trans (C4.trans C5)))), S5⟩
abbrev Dn (B : Nat) (ra : Option Addr) : Nat → Prop := fun b => B ≤ b ∧ ∀ o, ra ≠ some ⟨b, o, none⟩
theorem info_node : (Tryz.prog.info? 156).map (fun i => (i.zero, i.size, i.bytes)) = some (some .nilIface, 1, 16) := by kernel_rfl
theorem NodesAt.inw {D E : Nat → Prop} {w : World} {k : Nat} {vs : List Value} {l : List Sg.Node} (h : NodesAt D w k vs l) (hE : ∀ b, b < w.heap.size → D b → E b) : NodesAt E w k vs l := fun i x hx => by
  obtain ⟨u, hu, hn⟩ := h i x hx
  exact ⟨u, hu, NodeAt.inw hE k u x hn⟩
theorem nodes_append {B Bx kk n : Nat} {w : World} {ia : Option Addr} {ic : Nat} {vs : List Value} {li : List Sg.Node} {v : Value} {x : Sg.Node} (t : TypeId) (hu : Tryz.prog.underlying t = some (.slice 156)) (hR : RowAt 1 w ia ic n vs) (hi : InD (fun b => B ≤ b) ia) (hN : NodesAt (Dn B ia) w kk vs li) (hl : n = li.length) (hx : NodeAt (fun b => Bx ≤ b) w kk v x) (hBx : ∀ b o, ia = some ⟨b, o, none⟩ → b < Bx) (hB : B ≤ Bx) (hBw : B ≤ w.heap.size) (hn : n < 2000000000) :
    ∃ ra' rc' w', (Builtin.append_ #[t, t] t #[.slice ia n ic, .slice (some ⟨w.heap.size, 0, none⟩) 1 1]).run Tryz.prog (w.alloc (.cells #[v] 156)) = .ok (.slice ra' (n + 1) rc') w' ∧ Hid (RowAt 1 w' ra' rc' (n + 1) (vs ++ [v]) ∧ InD (fun b => B ≤ b) ra' ∧ NodesAt (Dn B ra') w' kk (vs ++ [v]) (li ++ [x])) ∧ Chg (rowT ia) w w' := by
  obtain ⟨ra', rc', w', a1, a2, a3, a4⟩ := append_one (w := w) t 156 .nilIface 16 info_node rfl hu (by omega) hR v (node_one hx) hn t 156
  have hlen : vs.length = li.length := by have := hR.len; omega
  have n1 : NodesAt (fun b => Dn B ia b ∧ b < w.heap.size) w kk vs li := hN.inw (fun b hb hd => ⟨hd, hb⟩)
  have n2 : NodeAt (fun b => Dn B ia b ∧ b < w.heap.size) w kk v x := NodeAt.inw (fun b hb hd => ⟨⟨Nat.le_trans hB hd, fun o e => by have := hBx b o e; omega⟩, hb⟩) _ _ _ hx
  have n3 := (n1.snoc hlen n2).of a3 (fun b o hd ⟨o', e⟩ => hd.1.2 o' e)
  refine ⟨ra', rc', w', a1, hide2 ⟨a2, hi.moved hBw a4, n3.inw (fun b _ hd => ⟨hd.1.1, fun o e => ?_⟩)⟩, a3⟩
  rcases a4 with a4 | ⟨rb, e2, g⟩
  · rw [a4] at e; exact hd.1.2 o e
  · rw [e2] at e; cases e; have := hd.2; omega
theorem RowAt.one (w : World) (a : Value) (t : TypeId) : RowAt 1 (w.alloc (.cells #[a] t)) (some ⟨w.heap.size, 0, none⟩) 1 1 [a] := by
  have hb := heap_alloc_new w (.cells #[a] t)
  have hc : ∀ o, (w.alloc (.cells #[a] t)).cell? ⟨w.heap.size, o, none⟩ = #[a][o]? := cell_of' hb
  refine ⟨rfl, .inr ⟨w.heap.size, 0, rfl, Nat.le_refl _, fun j v hj => ?_, fun j hj => ?_, by simp, fun j => ?_⟩⟩
  · rw [Nat.zero_add, hc, ← hj]; simp
  · rw [Nat.zero_add, hc]
    match j, hj with
    | 0, _ => rfl
  · unfold World.frozen?; simp only [hb]; simp
theorem row_reads (k : Nat) (pp : Sg.Rd → Sg.RM Sg.Node) (hpart : Reads 171 pp k) : Reads 139 (fun r => match Sg.rowGo pp r.list.length [] r with | .error e => Except.error e | .ok (l, r') => .ok (Sg.Node.row l, r')) (k + 1) := by
  intro w q r h x r' hx
  have S0 := RdSt.start h
  have hq := h.lt
  have hK1 := h.ok.len
  dsimp only at hx
  split at hx
  · cases hx
  · rename_i l r2 hg
    cases hx
    have HG := hide2 hg
    clear h hg
    generalize r.list.length = K at *
    go_enter Tryz.func139, Tryz.ntmps139
    go_wp2
    go_loopw [3] (fun iv wr => ∃ (n m : Nat) (ia : Option Addr) (ic : Nat) (vs : List Value) (li : List Sg.Node) (r2 : Sg.Rd), iv = .slice ia n ic ∧ m + n = K ∧ RdSt w q wr r2 ∧ Hid (n = li.length ∧ RowAt 1 wr ia ic n vs ∧ InD (fun b => w.heap.size ≤ b) ia ∧ NodesAt (Dn w.heap.size ia) wr k vs li ∧ Sg.rowGo pp m li r2 = .ok (l, r'))) (fun iv _ => K + 1 - lenOf iv)
    case atStart => exact ⟨0, K, none, 0, [], [], r, rfl, rfl, S0, hide2 ⟨rfl, RowAt.nil 1 w, (fun _ _ e => by cases e), (fun i x hx => by simp at hx), HG.out⟩⟩
    case round =>
      obtain ⟨n, m, ia, ic, vs, li, r2, rfl, hkn, S, H⟩ := hrel
      obtain ⟨g0, g1, g2, g3, g4⟩ := H.out
      clear H HG S0
      match m, hkn, g4 with
      | 0, _, g4 => cases g4
      | m + 1, hkn, g4 =>
        unfold Sg.rowGo at g4
        have HE : Hid (Calls Tryz.prog 170 #[.pointer (some ⟨q, 0, none⟩)] wr fun e w' => e = .returned (.bool (decide (r2.peek.1 = 124 ∨ r2.peek.1 = 41 ∨ r2.peek.1 = -1))) ∧ RdSt w q w' r2 ∧ Chg (rulT q) wr w') := hide2 ((rowEnds_any wr q r2 S.at_).mono fun _ _ ⟨he, hs⟩ => ⟨he, S.go hs, hs.chg⟩)
        by_cases hp : r2.peek.1 = 124 ∨ r2.peek.1 = 41 ∨ r2.peek.1 = -1
        · rw [if_pos hp] at g4
          rw [decide_eq_true hp] at HE
          simp only [Except.ok.injEq, Prod.mk.injEq] at g4
          obtain ⟨e1, e2⟩ := g4
          rw [e2] at HE
          rw [e1] at g0 g3
          have hll : l.length < 1000000 := by omega
          have HX := hide2 (And.intro g0 (And.intro g1 (And.intro g2 (And.intro g3 hll))))
          clear g0 g1 g2 g3 hp S hll e1 e2
          go_wp2_with (go_at_call 170; refine HE.out.mono ?_; clear HE; rintro e w1 ⟨rfl, S1, C1⟩)
          go_ret
          obtain ⟨f0, f1, f2, f3, f4⟩ := HX.out
          subst f0
          exact ⟨_, rfl, ⟨ia, ic, vs, rfl, f1.of C1 (rul_row hq f2), f2, f4, (f3.of C1 (fun b o hd t => by have := t.1; have := hd.1; omega)).inw (fun b _ hd => hd.1)⟩, S1⟩
        · rw [if_neg hp] at g4
          rw [decide_eq_false hp] at HE
          split at g4
          · cases g4
          · rename_i y r3 hy
            have HPt := hide2 (fun wx (hx : RdSt w q wx r2) => hpart.st hx hy)
            have HAp : Hid (∀ w1 w2 v, Chg (rulT q) wr w1 → Chg (rulT q) w1 w2 → RdSt w q w2 r3 → NodeAt (fun b => w1.heap.size ≤ b) w2 k v y → ∃ ra' rc' w', (Builtin.append_ #[290, 290] 290 #[.slice ia n ic, .slice (some ⟨w2.heap.size, 0, none⟩) 1 1]).run Tryz.prog (w2.alloc (.cells #[v] 156)) = .ok (.slice ra' (n + 1) rc') w' ∧ Hid (RowAt 1 w' ra' rc' (n + 1) (vs ++ [v]) ∧ InD (fun b => w.heap.size ≤ b) ra' ∧ NodesAt (Dn w.heap.size ra') w' k (vs ++ [v]) (li ++ [y])) ∧ RdSt w q w' r3) := by
              refine hide2 (fun w1 w2 v c1 c2 hS hn => ?_)
              have hc := c1.trans c2
              have hsz1 : w.heap.size ≤ wr.heap.size := S.size
              have hsz2 : wr.heap.size ≤ w1.heap.size := c1.size
              obtain ⟨ra', rc', w', a1, a2, a3⟩ := nodes_append (B := w.heap.size) (Bx := w1.heap.size) 290 Tryz.underlying290 (g1.of hc (rul_row hq g2)) g2 (g3.of hc (fun b o hd t => by have := t.1; have := hd.1; omega)) g0 hn (fun b o e => Nat.lt_of_lt_of_le (g1.lt e) hsz2) (Nat.le_trans hsz1 hsz2) hS.size (by omega)
              exact ⟨ra', rc', w', a1, a2, hS.mut a3 (fun i o ⟨o', e⟩ => g2 i o' e)⟩
            have HX := hide2 (And.intro g0 g4)
            clear g0 g1 g2 g3 g4 hp S hy
            go_wp2_with (first
              | (go_at_call 170; refine HE.out.mono ?_; clear HE; rintro e w1 ⟨rfl, S1, C1⟩)
              | (go_at_call 171; refine (HPt.out _ S1).mono ?_; clear HPt; rintro e w2 ⟨t2, u2, rfl, N2, S2, C2⟩)
              | (at_builtin; obtain ⟨ra2, rc2, w3, hrun, H3, S3⟩ := HAp.out _ _ _ C1 C2 S2 N2.out; refine wpList_append_run rfl _ _ _ _ rfl _ _ _ rfl rfl hrun ?_; clear hrun HAp))
            obtain ⟨f0, f1⟩ := HX.out
            exact ⟨⟨n + 1, m, ra2, rc2, vs ++ [.iface t2 u2], li ++ [y], r3, rfl, by omega, S3, hide2 ⟨by rw [List.length_append, ← f0]; rfl, H3.out.1, H3.out.2.1, H3.out.2.2, f1⟩⟩, by simp [lenOf]; omega⟩
end Go.Proofs.YtlhokghgicgppaaGreatDoor
