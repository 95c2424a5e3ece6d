/- stored.Write. -/
import Derived.Test.YtlhokghgicgppaaDoorAppNum
set_option linter.unusedSimpArgs false
set_option linter.unusedVariables false
namespace Go.Proofs.YtlhokghgicgppaaDoor
open Go.RowKit Go.Extern

theorem appendNumber_int (ra : Option Addr) (rc n : Nat) (l : Sg.Bs) (x : Int) (w : World) (hnl : l.length = n) (hR : RowAt 1 w ra rc n (bytesV l)) (h0 : 0 ≤ x) (hn : x < 100000000) (hl : n < 100000000) :
    Calls Tryd.prog 29 #[.slice ra n rc, .int .i64 x] w fun e w' => ∃ ra' rc', e = .returned (.slice ra' (n + (Sg.encN x.toNat).length) rc') ∧ RowAt 1 w' ra' rc' (n + (Sg.encN x.toNat).length) (bytesV (l ++ Sg.encN x.toNat)) ∧ Chg (rowT ra) w w' ∧ Moved w ra ra' := by
  obtain ⟨k, rfl⟩ := Int.eq_ofNat_of_zero_le h0
  subst hnl
  rw [Int.toNat_natCast, ← List.length_append]
  exact appendNumber_any ra rc l k w hR (by omega) hl

/-- Tables that can be written. -/
structure Sg.Mach.Enc (m : Sg.Mach) : Prop where
  low : ∀ i, i < m.cuts.length → 0 ≤ Sg.lowAt m.cuts i ∧ Sg.lowAt m.cuts i < 10000000
  kind : ∀ i, i < m.cuts.length → 0 ≤ Sg.kindAt m.cuts i ∧ Sg.kindAt m.cuts i < 10000000
  rule : ∀ i, i < m.states.length → -1 ≤ m.rule i ∧ m.rule i < 10000000
  next : ∀ i k, i < m.states.length → k < m.width i → -1 ≤ m.next i k ∧ m.next i k < 10000000
  size : (Sg.encM m).length < 10000000
def Sg.encTo (m : Sg.Mach) (i : Nat) : Sg.Bs := Sg.encN m.cuts.length ++ (m.cuts.take i).flatMap Sg.encCut
def Sg.encSt (m : Sg.Mach) (i : Nat) : Sg.Bs := Sg.encN m.cuts.length ++ m.cuts.flatMap Sg.encCut ++ (m.states.take i).flatMap Sg.encState
theorem Sg.encTo_succ (m : Sg.Mach) (i : Nat) (h : i < m.cuts.length) : Sg.encTo m (i + 1) = Sg.encTo m i ++ Sg.encN (Sg.lowAt m.cuts i).toNat ++ Sg.encN (Sg.kindAt m.cuts i).toNat := by
  unfold Sg.encTo Sg.lowAt Sg.kindAt
  rw [List.take_add_one, List.flatMap_append, List.getElem?_eq_getElem h]
  simp [Sg.encCut, List.getElem?_eq_getElem h]
theorem Sg.encSt_zero (m : Sg.Mach) : Sg.encSt m 0 = Sg.encTo m m.cuts.length := by
  unfold Sg.encSt Sg.encTo
  rw [List.take_length]; simp
theorem Sg.encSt_all (m : Sg.Mach) : Sg.encSt m m.states.length = Sg.encM m := by
  unfold Sg.encSt Sg.encM
  rw [List.take_length]
theorem Sg.flat_take_le {α : Type} (f : α → Sg.Bs) (l : List α) (i : Nat) : ((l.take i).flatMap f).length ≤ (l.flatMap f).length := by
  conv => rhs; rw [← List.take_append_drop i l, List.flatMap_append, List.length_append]
  omega
theorem Sg.encTo_le (m : Sg.Mach) (i : Nat) : (Sg.encTo m i).length ≤ (Sg.encM m).length := by
  unfold Sg.encTo Sg.encM
  have := Sg.flat_take_le Sg.encCut m.cuts i
  simp only [List.length_append]; omega
theorem Sg.encSt_le (m : Sg.Mach) (i : Nat) : (Sg.encSt m i).length ≤ (Sg.encM m).length := by
  unfold Sg.encSt Sg.encM
  have := Sg.flat_take_le Sg.encState m.states i
  simp only [List.length_append]; omega
theorem Sg.cuts_le (m : Sg.Mach) : m.cuts.length ≤ (Sg.encM m).length := by
  have : ∀ l : List (Int × Int), l.length ≤ (l.flatMap Sg.encCut).length := fun l => by
    induction l with
    | nil => simp
    | cons c r ih =>
      have h1 : 1 ≤ (Sg.encN c.1.toNat).length := by
        rw [Sg.encN_eq]; split <;> simp
      rw [List.flatMap_cons, List.length_append, List.length_cons]
      unfold Sg.encCut at *
      rw [List.length_append]; omega
  have := this m.cuts
  unfold Sg.encM
  simp only [List.length_append]; omega
def Sg.nextsOf (m : Sg.Mach) (j : Nat) : List Int := (m.states.getD j (0, [])).2
def Sg.encRow (m : Sg.Mach) (j k : Nat) : Sg.Bs := Sg.encSt m j ++ Sg.encN (m.rule j + 1).toNat ++ Sg.encNexts ((Sg.nextsOf m j).take k)
theorem Sg.encRow_zero (m : Sg.Mach) (j : Nat) : Sg.encRow m j 0 = Sg.encSt m j ++ Sg.encN (m.rule j + 1).toNat := by
  unfold Sg.encRow Sg.encNexts; simp
theorem Sg.encRow_succ (m : Sg.Mach) (j k : Nat) (h : k < m.width j) : Sg.encRow m j (k + 1) = Sg.encRow m j k ++ Sg.encN (m.next j k + 1).toNat := by
  unfold Sg.encRow Sg.encNexts Sg.nextsOf Sg.Mach.next
  have h' : k < (m.states.getD j (0, [])).2.length := h
  generalize (m.states.getD j (0, [])).2 = l at *
  rw [List.take_add_one, List.flatMap_append, List.getElem?_eq_getElem h']
  simp [List.getElem?_eq_getElem h']
theorem Sg.encRow_all (m : Sg.Mach) (j : Nat) (h : j < m.states.length) : Sg.encRow m j (m.width j) = Sg.encSt m (j + 1) := by
  unfold Sg.encRow Sg.encSt Sg.nextsOf Sg.Mach.width Sg.Mach.rule
  rw [List.take_length, List.take_add_one, List.flatMap_append, List.getElem?_eq_getElem h]
  simp [Sg.encState, List.getElem?_eq_getElem h]
theorem Sg.encRow_le (m : Sg.Mach) (j k : Nat) (h : j < m.states.length) : (Sg.encRow m j k).length ≤ (Sg.encM m).length := by
  refine Nat.le_trans ?_ (Sg.encSt_le m (j + 1))
  rw [← Sg.encRow_all m j h]
  have := Sg.flat_take_le (fun x : Int => Sg.encN (x + 1).toNat) (Sg.nextsOf m j) k
  have e : (Sg.nextsOf m j).take (m.width j) = Sg.nextsOf m j := List.take_of_length_le (Nat.le_refl _)
  unfold Sg.encRow Sg.encNexts
  rw [e]
  simp only [List.length_append]; omega
theorem Sg.encM_ne (m : Sg.Mach) : Sg.encM m ≠ [] := by
  unfold Sg.encM
  rw [Sg.encN_eq]
  split <;> simp
theorem conv_row (w : World) (ra : Option Addr) (rc : Nat) (l : Sg.Bs) (hne : l ≠ []) (h : RowAt 1 w ra rc l.length (bytesV l)) : (convert 84 9 (.slice ra l.length rc)).run Tryd.prog w = .ok (.string ⟨l.toArray⟩) w := by
  rcases h.row with ⟨rfl, rfl, hn⟩ | ⟨rb, ro, rfl, h1, h2, h3, h4, h5⟩
  · exact absurd (List.eq_nil_of_length_eq_zero hn) hne
  · exact run_convert_bytes_back (P := Tryd.prog) w 84 9 5 ⟨rb, ro, none⟩ rc l Tryd.underlying84 Tryd.underlying5 Tryd.underlying9 (fun j hj => by
      rw [Addr.add_lit, h2 j _ (bytesV_some l j hj), List.getD_eq_getElem?_getD, List.getElem?_eq_getElem hj]; rfl)
/-- A row that is not among the old blocks. -/
def NewRow (w : World) (ra : Option Addr) : Prop := ∀ b o, ra = some ⟨b, o, none⟩ → w.heap.size ≤ b
theorem NewRow.moved {w wr : World} {ra ra' : Option Addr} (h : NewRow w ra) (hs : w.heap.size ≤ wr.heap.size) (hm : Moved wr ra ra') : NewRow w ra' := fun b o e => by
  rcases hm with hm | ⟨rb, e2, g⟩
  · rw [hm] at e; exact h b o e
  · rw [e2] at e; cases e; omega
theorem below_rowT {w a b : World} {ra : Option Addr} (h : Chg (rowT ra) a b) (hn : NewRow w ra) (hs : w.heap.size ≤ a.heap.size) : Below w.heap.size a b := h.below hs (fun k o hk ⟨o2, e⟩ => by have := hn k o2 e; omega)

/-- An append beside a variable's own block. -/
theorem appendNumber_var (ra : Option Addr) (rc n : Nat) (l : Sg.Bs) (x : Int) (wr : World) (cs : Array Value) (t : TypeId) (hnl : l.length = n) (hR : RowAt 1 wr ra rc n (bytesV l)) (h0 : 0 ≤ x) (hn : x < 100000000) (hl : n < 100000000) :
    Calls Tryd.prog 29 #[.slice ra n rc, .int .i64 x] (wr.alloc (.cells cs t)) fun e w' => ∃ ra' rc', e = .returned (.slice ra' (n + (Sg.encN x.toNat).length) rc') ∧ (∀ j v, cs[j]? = some v → w'.cell? ⟨wr.heap.size, j, none⟩ = some v) ∧ Hid (RowAt 1 w' ra' rc' (n + (Sg.encN x.toNat).length) (bytesV (l ++ Sg.encN x.toNat)) ∧ Chg (rowT ra) wr w' ∧ Moved wr ra ra') := by
  have hbl : Below wr.heap.size wr (wr.alloc (.cells cs t)) := (Below.refl _ _).alloc (Nat.le_refl _) _
  have hsz : (wr.alloc (.cells cs t)).heap.size = wr.heap.size + 1 := by simp
  refine (appendNumber_int ra rc n l x _ hnl (hR.below hbl) h0 hn hl).mono ?_
  rintro e w' ⟨ra', rc', rfl, h1, h2, h3⟩
  refine ⟨ra', rc', rfl, fun j v hj => ?_, hide2 ⟨h1, (Chg.of_below hbl).trans h2, ?_⟩⟩
  · rw [h2.cell _ _ (by omega) (fun ⟨o, e⟩ => by have := hR.lt e; omega), World.cell?_alloc_at _ _ _ _ rfl]; exact hj
  · rcases h3 with h3 | ⟨rb, e1, e2⟩
    · exact .inl h3
    · exact .inr ⟨rb, e1, by omega⟩

set_option maxRecDepth 100000 in
set_option maxHeartbeats 1000000 in
theorem write_any (m : Sg.Mach) (hm : m.Ok) (he : m.Enc) (w : World) (p cb co cc sb so sc : Nat) (nb no nc : Nat → Nat) (M : MachAt w p m cb co cc sb so sc nb no nc) :
    Calls Tryd.prog 14 #[.pointer (some ⟨p, 0, none⟩)] w fun e w' => e = .returned (.string ⟨(Sg.encM m).toArray⟩) ∧ Below w.heap.size w w' := by
  have hc0 := M.c0
  have hcN := hm.cutsN
  have hsN := hm.statesN
  have HA := hide2 appendNumber_int
  have HV := hide2 appendNumber_var
  have hW : Hid (∀ i, (Sg.encTo m i).length < 10000000) := hide2 (fun i => Nat.lt_of_le_of_lt (Sg.encTo_le m i) he.size)
  have hW2 : Hid (∀ i, (Sg.encSt m i).length < 10000000) := hide2 (fun i => Nat.lt_of_le_of_lt (Sg.encSt_le m i) he.size)
  have hcl : m.cuts.length < 10000000 := Nat.lt_of_le_of_lt (Sg.cuts_le m) he.size
  have HM := hide2 M
  have He := hide2 he
  have Hm := hide2 hm
  clear M he hm
  go_enter Tryd.func14, Tryd.ntmps14
  go_wp2_with (go_at_call 29; refine (HA.out none 0 0 [] m.cuts.length w rfl (RowAt.nil 1 w) (by omega) (by omega) (by simp)).mono ?_; rintro e w1 ⟨ra1, rc1, rfl, hrow1, hch1, hmv1⟩; have H1 := hide2 (And.intro hrow1 (And.intro hch1 hmv1)); have hc0' : w1.cell? ⟨p, 0, none⟩ = some (.slice (some ⟨cb, co, none⟩) m.cuts.length cc) := (hch1.cell _ _ (cell_lt hc0) (fun ⟨o, e⟩ => by cases e)).trans hc0; clear hrow1 hch1 hmv1)
  go_loopw [3, 21] (fun o i wr => ∃ (j : Nat) (ra : Option Addr) (rc : Nat), j ≤ m.cuts.length ∧ i = .int .i64 j ∧ o = .slice ra (Sg.encTo m j).length rc ∧ Hid (RowAt 1 wr ra rc (Sg.encTo m j).length (bytesV (Sg.encTo m j)) ∧ NewRow w ra ∧ Below w.heap.size w wr)) (fun _ i _ => m.cuts.length - (intOf i).toNat)
  case atStart =>
    obtain ⟨g1, g2, g3⟩ := H1.out
    have e0 : Sg.encTo m 0 = [] ++ Sg.encN (m.cuts.length : Int).toNat := by unfold Sg.encTo; simp
    have e1 : (Sg.encTo m 0).length = 0 + (Sg.encN (m.cuts.length : Int).toNat).length := by rw [e0]; simp
    have hnew : NewRow w none := fun b o e => by cases e
    refine ⟨0, ra1, rc1, Nat.zero_le _, rfl, by rw [e1]; simp, hide2 ⟨by rw [e1, e0]; exact g1, hnew.moved (Nat.le_refl _) g3, below_rowT g2 hnew (Nat.le_refl _)⟩⟩
  case round =>
    obtain ⟨j, ra, rc, hj, rfl, rfl, H⟩ := hrel
    by_cases hlt : j < m.cuts.length
    · have hb : Below w.heap.size w wr := H.out.2.2
      have Mr := HM.out.below hb
      have hl := Mr.low j hlt
      have hk := Mr.kind j hlt
      have hsz := hb.size
      have hx := (He.out.low j hlt)
      have hy := (He.out.kind j hlt)
      have HE := hide2 (Sg.encTo_succ m j hlt)
      have hT := hW.out j
      have hT1 := hW.out (j + 1)
      rw [HE.out, List.length_append, List.length_append] at hT1
      generalize Sg.lowAt m.cuts j = lo at *
      generalize Sg.kindAt m.cuts j = ki at *
      have HV1 := hide2 (HV.out ra rc _ (Sg.encTo m j) lo wr #[.int .i32 lo, .int .i64 ki] 102 rfl H.out.1 (by omega) (by omega) (by omega))
      clear Mr hb
      go_wp2_with (first
        | (go_at_call 29; refine HV1.out.mono ?_; clear HV1; rintro e w2 ⟨ra2, rc2, rfl, hcs, H2⟩; have hck := hcs 1 _ rfl; clear hcs)
        | (go_at_call 29; refine (HA.out ra2 rc2 _ (Sg.encTo m j ++ Sg.encN lo.toNat) ki w2 (List.length_append ..) H2.out.1 (by omega) (by omega) (by omega)).mono ?_; rintro e w3 ⟨ra3, rc3, rfl, hrow3, hch3, hmv3⟩; have H3 := hide2 (And.intro hrow3 (And.intro hch3 hmv3)); clear hrow3 hch3 hmv3))
      go_roundw
      case rel =>
        obtain ⟨g1, g2, g3⟩ := H.out
        obtain ⟨k1, k2, k3⟩ := H2.out
        obtain ⟨y1, y2, y3⟩ := H3.out
        have hn2 := g2.moved g3.size k3
        have hs2 := k2.size
        have hs3 := g3.size
        have hlen : (Sg.encTo m (j + 1)).length = (Sg.encTo m j).length + (Sg.encN lo.toNat).length + (Sg.encN ki.toNat).length := by rw [HE.out, List.length_append, List.length_append]
        refine ⟨j + 1, ra3, rc3, by omega, by go_num, by rw [hlen], hide2 ⟨by rw [hlen, HE.out]; exact y1, hn2.moved (by omega) y3, ?_⟩⟩
        · exact (g3.trans (below_rowT k2 g2 g3.size)).trans (below_rowT y2 hn2 (by omega))
      case measure => simp [intOf]; omega
    · obtain rfl : j = m.cuts.length := by omega
      have hc1 : wr.cell? ⟨p, 1, none⟩ = some (.slice (some ⟨sb, so, none⟩) m.states.length sc) := (HM.out.below H.out.2.2).c1
      have HS := hide2 (Sg.encSt_zero m)
      go_wp2
      go_loopw [3, 40] (fun o i wr => ∃ (j : Nat) (ra : Option Addr) (rc : Nat), j ≤ m.states.length ∧ i = .int .i64 j ∧ o = .slice ra (Sg.encSt m j).length rc ∧ Hid (RowAt 1 wr ra rc (Sg.encSt m j).length (bytesV (Sg.encSt m j)) ∧ NewRow w ra ∧ Below w.heap.size w wr)) (fun _ i _ => m.states.length - (intOf i).toNat)
      case atStart => exact ⟨0, ra, rc, Nat.zero_le _, rfl, by rw [HS.out], by rw [HS.out]; exact H⟩
      case round =>
        obtain ⟨j, ra2, rc2, hj, rfl, rfl, H⟩ := hrel
        by_cases hlt : j < m.states.length
        · have hb : Below w.heap.size w wr := H.out.2.2
          have Mr := HM.out.below hb
          have hl := Mr.rule j hlt
          have hk := Mr.next j hlt
          have hwj := Hm.out.nextN j hlt
          have hx := (He.out.rule j hlt)
          have HE := hide2 (Sg.encRow_zero m j)
          have HR : Hid (∀ k, (Sg.encRow m j k).length < 10000000) := hide2 (fun k => Nat.lt_of_le_of_lt (Sg.encRow_le m j k hlt) He.out.size)
          have hT := hW2.out j
          have HV1 := hide2 (HV.out ra2 rc2 _ (Sg.encSt m j) (m.rule j + 1) wr #[.int .i64 (m.rule j), .slice (some ⟨nb j, no j, none⟩) (m.width j) (nc j)] 104 rfl H.out.1 (by omega) (by omega) (by omega))
          clear Mr hb
          go_wp2_with (go_at_call 29; refine HV1.out.mono ?_; clear HV1; rintro e w2 ⟨ra3, rc3, rfl, hcs, H2⟩; have hck := hcs 1 _ rfl; clear hcs)
          go_loopw [3, 52] (fun o i wr => ∃ (k : Nat) (ra : Option Addr) (rc : Nat), k ≤ m.width j ∧ i = .int .i64 k ∧ o = .slice ra (Sg.encRow m j k).length rc ∧ Hid (RowAt 1 wr ra rc (Sg.encRow m j k).length (bytesV (Sg.encRow m j k)) ∧ NewRow w ra ∧ Below w.heap.size w wr)) (fun _ i _ => m.width j - (intOf i).toNat)
          case atStart =>
            obtain ⟨g1, g2, g3⟩ := H.out
            obtain ⟨k1, k2, k3⟩ := H2.out
            have e1 : (Sg.encRow m j 0).length = (Sg.encSt m j).length + (Sg.encN (m.rule j + 1).toNat).length := by rw [HE.out, List.length_append]
            exact ⟨0, ra3, rc3, Nat.zero_le _, rfl, by rw [e1], hide2 ⟨by rw [e1, HE.out]; exact k1, g2.moved g3.size k3, g3.trans (below_rowT k2 g2 g3.size)⟩⟩
          case round =>
            obtain ⟨k, ra4, rc4, hkw, rfl, rfl, H4⟩ := hrel
            by_cases hlk : k < m.width j
            · have hb : Below w.heap.size w wr := H4.out.2.2
              have Mr := HM.out.below hb
              have ht := Mr.to j k hlt hlk
              have hy := He.out.next j k hlt hlk
              have hT3 := HR.out k
              have HE2 := hide2 (Sg.encRow_succ m j k hlk)
              have HV2 := hide2 (HA.out ra4 rc4 _ (Sg.encRow m j k) (m.next j k + 1) wr rfl H4.out.1 (by omega) (by omega) (by omega))
              clear Mr hb
              go_wp2_with (go_at_call 29; refine HV2.out.mono ?_; clear HV2; rintro e w5 ⟨ra5, rc5, rfl, hrow5, hch5, hmv5⟩; have H5 := hide2 (And.intro hrow5 (And.intro hch5 hmv5)); clear hrow5 hch5 hmv5)
              go_roundw
              case rel =>
                obtain ⟨g1, g2, g3⟩ := H4.out
                obtain ⟨k1, k2, k3⟩ := H5.out
                have e1 : (Sg.encRow m j (k + 1)).length = (Sg.encRow m j k).length + (Sg.encN (m.next j k + 1).toNat).length := by rw [HE2.out, List.length_append]
                exact ⟨k + 1, ra5, rc5, by omega, by go_num, by rw [e1], hide2 ⟨by rw [e1, HE2.out]; exact k1, g2.moved g3.size k3, g3.trans (below_rowT k2 g2 g3.size)⟩⟩
              case measure => simp [intOf]; omega
            · obtain rfl : k = m.width j := by omega
              have HE3 := hide2 (Sg.encRow_all m j hlt)
              go_wp2
              go_roundw
              case rel => exact ⟨j + 1, ra4, rc4, by omega, by go_num, by rw [HE3.out], by rw [← HE3.out]; exact H4⟩
              case measure => simp [intOf]; omega
        · obtain rfl : j = m.states.length := by omega
          have HS2 := hide2 (Sg.encSt_all m)
          have hcv := conv_row wr ra2 rc2 _ (by rw [HS2.out]; exact Sg.encM_ne m) H.out.1
          rw [HS2.out] at hcv
          rw [HS2.out]
          go_wp2
          go_ret
          exact ⟨rfl, H.out.2.2⟩
end Go.Proofs.YtlhokghgicgppaaDoor
