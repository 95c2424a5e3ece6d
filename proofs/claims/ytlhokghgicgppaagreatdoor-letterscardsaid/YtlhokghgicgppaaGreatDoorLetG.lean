/- Rules that are words of a, b, c: how they are read. -/
/- Rules that are words: how their places are laid out. -/
/- Rules that are words: the kinds of scalars. -/
/- Rules that are words: the sets of places that are reached. -/
/- Rules that are words: what a state knows. -/
/- Rules that are words: what their machine does. -/
/- Rules that are words: the tokens. -/
import Derived.Test.YtlhokghgicgppaaGreatDoorSets
import Derived.Test.YtlhokghgicgppaaGreatDoorKeepB
import Derived.Test.YtlhokghgicgppaaGreatDoorStates2
set_option linter.unusedSimpArgs false
set_option linter.unusedVariables false
namespace Go.Proofs.YtlhokghgicgppaaGreatDoor.Sg
open Go

/-- a, b or c. -/
def abc (b : UInt8) : Prop := b.toNat = 97 ∨ b.toNat = 98 ∨ b.toNat = 99
def Abc (s : Bs) : Prop := ∀ b ∈ s, abc b
theorem dec_abc {b : UInt8} (h : abc b) (r : Bs) : dec (b :: r) = (b.toNat, 1) := by
  unfold dec
  rw [if_neg (by simp)]
  have : ((b :: r).getD 0 0).toNat = b.toNat := rfl
  rw [this]
  unfold Lib.decodeN
  rw [if_pos (by unfold abc at h; omega)]
theorem full_abc {b : UInt8} (h : abc b) (r : Bs) : full (b :: r) = true := by
  unfold full
  rw [if_neg (by simp), if_pos]
  have : ((b :: r).getD 0 0).toNat = b.toNat := rfl
  rw [this]
  unfold abc at h
  have : Lib.firstT b.toNat = 240 := by unfold Lib.firstT; rw [if_pos (by omega)]
  rw [this]; simp
/-- The letters with their places. -/
def wl : Bs → Int → List (Int × Int)
  | [], at_ => [(-1, at_)]
  | b :: r, at_ => ((b.toNat : Int), at_) :: wl r (at_ + 1)
theorem split_abc : ∀ (s : Bs), Abc s → ∀ (f : Nat) (at_ : Int), s.length ≤ f → splitGo f at_ s = wl s at_
  | [], _, 0, _, _ => rfl
  | [], _, _ + 1, _, _ => rfl
  | _ :: _, _, 0, _, hf => absurd hf (by simp)
  | b :: r, h, f + 1, at_, hf => by
    have hb := h b List.mem_cons_self
    unfold splitGo wl
    dsimp only
    rw [dec_abc hb]
    have hne : ¬ (b.toNat = 65533 ∧ 1 ≤ 1) := by unfold abc at hb; omega
    simp only [List.drop_succ_cons, List.drop_zero]
    have ih := split_abc r (fun x hx => h x (List.mem_cons_of_mem _ hx)) f (at_ + 1) (by simpa using hf)
    rw [if_neg hne]
    exact congrArg _ ih
theorem splitR_abc {s : Bs} (h : Abc s) : splitR s = wl s 0 := split_abc s h _ _ (Nat.le_refl _)
theorem wl_len : ∀ (s : Bs) (a : Int), (wl s a).length = s.length + 1
  | [], _ => rfl
  | _ :: r, a => by simp [wl, wl_len r]
theorem wl_at : ∀ (s : Bs) (a : Int) (j : Nat) (h : j < s.length), ((wl s a).getD j (-1, 0)).1 = (s[j].toNat : Int)
  | [], _, _, h => absurd h (by simp)
  | _ :: _, _, 0, _ => rfl
  | _ :: r, a, j + 1, h => by
    have := wl_at r (a + 1) j (by simpa using h)
    simpa [wl] using this
theorem wl_end : ∀ (s : Bs) (a : Int), ((wl s a).getD s.length (-1, 0)).1 = -1
  | [], _ => rfl
  | _ :: r, a => by
    have := wl_end r (a + 1)
    simpa [wl] using this
theorem wl_clean {s : Bs} (h : Abc s) : ∀ x ∈ wl s 0, x.1 ≠ -2 ∧ x.1 ≠ 65533 := by
  have key : ∀ (s : Bs), Abc s → ∀ a, ∀ x ∈ wl s a, x.1 ≠ -2 ∧ x.1 ≠ 65533 := by
    intro s
    induction s with
    | nil => intro _ a x hx; simp only [wl, List.mem_singleton] at hx; subst hx; simp
    | cons b r ih =>
      intro h a x hx
      rcases List.mem_cons.1 hx with rfl | hx
      · have := h b List.mem_cons_self; unfold abc at this; simp only; omega
      · exact ih (fun y hy => h y (List.mem_cons_of_mem _ hy)) _ x hx
  exact key s h 0
theorem single_abc {b : UInt8} (h : abc b) : single (b.toNat : Int) = .cls [((b.toNat : Int), (b.toNat : Int))] := by
  unfold abc at h
  rcases h with h | h | h <;> rw [h] <;> rfl
/-- The tree of a letter, of a word. -/
def nd (b : UInt8) : Node := .cls [((b.toNat : Int), (b.toNat : Int))]
def tr (s : Bs) : Node := .alt [.row (s.map nd)]
theorem rowGo_abc (alt : Rd → RM Node) (k : Nat) (s : Bs) (h : Abc s) (dp : Int) : ∀ (f j : Nat) (l : List Node), j ≤ s.length → s.length - j < f →
    rowGo (partOf (atomOf alt) k) f l ⟨wl s 0, j, dp, none⟩ = .ok (l ++ (s.drop j).map nd, ⟨wl s 0, s.length, dp, none⟩)
  | 0, _, _, _, hf => absurd hf (Nat.not_lt_zero _)
  | f + 1, j, l, hj, hf => by
    unfold rowGo
    by_cases hlt : j < s.length
    · have hb := h s[j] (List.getElem_mem hlt)
      have hp : (Rd.peek ⟨wl s 0, j, dp, none⟩).1 = (s[j].toNat : Int) := wl_at s 0 j hlt
      have ht : (Rd.take ⟨wl s 0, j, dp, none⟩).2 = ⟨wl s 0, j + 1, dp, none⟩ := by
        unfold Rd.take; dsimp only; rw [hp, if_neg (by omega)]
      have hq : (Rd.peek ⟨wl s 0, j + 1, dp, none⟩).1 = -1 ∨ (97 ≤ (Rd.peek ⟨wl s 0, j + 1, dp, none⟩).1 ∧ (Rd.peek ⟨wl s 0, j + 1, dp, none⟩).1 ≤ 99) := by
        by_cases hj1 : j + 1 < s.length
        · right
          have e : (Rd.peek ⟨wl s 0, j + 1, dp, none⟩).1 = (s[j + 1].toNat : Int) := wl_at s 0 (j + 1) hj1
          have := h s[j + 1] (List.getElem_mem hj1)
          unfold abc at this; omega
        · left
          have e : j + 1 = s.length := by omega
          rw [e]; exact wl_end s 0
      have ha : atomOf alt ⟨wl s 0, j, dp, none⟩ = .ok (nd s[j], ⟨wl s 0, j + 1, dp, none⟩) := by
        unfold atomOf
        dsimp only
        rw [hp, ht, single_abc hb]
        unfold abc at hb
        rw [if_neg (by omega), if_neg (by omega), if_neg (by omega), if_neg (by omega), if_neg (by omega)]
        rfl
      have hpt : partOf (atomOf alt) k ⟨wl s 0, j, dp, none⟩ = .ok (nd s[j], ⟨wl s 0, j + 1, dp, none⟩) := by
        unfold partOf
        rw [ha]
        dsimp only
        rw [if_neg (by omega), if_neg (by omega), if_neg (by omega), if_neg (by omega)]
      rw [hp, if_neg (by unfold abc at hb; omega), hpt]
      dsimp only
      rw [rowGo_abc alt k s h dp f (j + 1) _ hlt (by omega), List.drop_eq_getElem_cons hlt, List.append_assoc]
      rfl
    · have e : j = s.length := by omega
      subst e
      have hp : (Rd.peek ⟨wl s 0, s.length, dp, none⟩).1 = -1 := wl_end s 0
      rw [hp, if_pos (.inr (.inr rfl)), List.drop_length]
      simp
theorem readR_abc {s : Bs} (h : Abc s) : readR s = .ok (tr s) := by
  have hp : (Rd.peek ⟨wl s 0, s.length, 0, none⟩).1 = -1 := wl_end s 0
  unfold readR
  rw [splitR_abc h]
  unfold altN
  dsimp only
  rw [rowGo_abc _ _ s h 0 _ 0 [] (Nat.zero_le _) (by rw [wl_len]; omega)]
  dsimp only
  rw [wl_len]
  unfold altGo Rd.accept
  dsimp only
  rw [if_neg (show ¬ (Rd.peek ⟨wl s 0, s.length, 0, none⟩).1 = 124 by rw [hp]; decide)]
  dsimp only
  rw [if_neg (by simp)]
  dsimp only
  unfold Rd.expect
  rw [hp, if_pos rfl]
  simp [tr]
theorem places_row (s : Bs) : ∀ (n : Int), (s.map nd).foldl (fun n x => n + placesN 98 x) n = n + s.length := by
  induction s with
  | nil => intro n; simp
  | cons b r ih =>
    intro n
    rw [List.map_cons, List.foldl_cons, ih]
    have : placesN 98 (nd b) = 1 := rfl
    rw [this]; simp only [List.length_cons]; omega
theorem places_tr (s : Bs) : placesN 100 (tr s) = s.length := by
  have h1 : placesN 99 (.row (s.map nd)) = s.length := by
    show (s.map nd).foldl (fun n x => n + placesN 98 x) 0 = _
    rw [places_row]; omega
  show (0 : Int) + placesN 99 (.row (s.map nd)) = _
  rw [h1]; omega
theorem plOk_tr (s : Bs) (h : s.length ≤ 60) : plOk 100 (tr s) = true := by
  have h1 : plOk 99 (.row (s.map nd)) = true := by
    show ((s.map nd).all (plOk 98) && decide (placesN 99 (.row (s.map nd)) ≤ 1000000)) = true
    rw [Bool.and_eq_true]
    refine ⟨List.all_eq_true.2 fun x hx => ?_, decide_eq_true ?_⟩
    · obtain ⟨b, _, rfl⟩ := List.mem_map.1 hx; rfl
    · show (s.map nd).foldl (fun n x => n + placesN 98 x) 0 ≤ _
      rw [places_row]; omega
  show (([Node.row (s.map nd)]).all (plOk 99) && decide (placesN 100 (tr s) ≤ 1000000)) = true
  rw [places_tr, Bool.and_eq_true]
  exact ⟨by simp [h1], decide_eq_true (by omega)⟩
def tot (ws : List Bs) : Nat := (ws.map List.length).foldr (· + ·) 0
theorem readAll_abc : ∀ (ws : List Bs), (∀ s ∈ ws, Abc s ∧ s.length ≤ 60) → ∀ (i n : Int) (l : List Node), n + tot ws ≤ 64 → readAllT ws i n l = .ok (l ++ ws.map tr)
  | [], _, i, n, l, _ => by simp [readAllT]
  | s :: r, h, i, n, l, hn => by
    have h0 := h s List.mem_cons_self
    have e : tot (s :: r) = s.length + tot r := rfl
    rw [e] at hn
    unfold readAllT
    rw [readR_abc h0.1]
    dsimp only
    rw [plOk_tr s h0.2, places_tr, if_neg (by simp), if_neg (by omega), readAll_abc r (fun x hx => h x (List.mem_cons_of_mem _ hx)) _ _ _ (by omega)]
    simp
end Go.Proofs.YtlhokghgicgppaaGreatDoor.Sg

namespace Go.Proofs.YtlhokghgicgppaaGreatDoor.Sg
open Go

def clOf (b : UInt8) : List Rg := [((b.toNat : Int), (b.toNat : Int))]
theorem connect_len (l : Lt) (a b : Ps) : (l.connect a b).follow.length = l.follow.length := by simp [Lt.connect]
theorem connect_at (l : Lt) (a b : Ps) (i : Nat) : (l.connect a b).follow.getD i 0 = if i < l.follow.length ∧ a.testBit i = true then l.follow.getD i 0 ||| b else l.follow.getD i 0 := by
  unfold Lt.connect
  simp only [List.getD_eq_getElem?_getD, List.getElem?_map]
  by_cases h : i < l.follow.length
  · rw [List.getElem?_eq_getElem (by simpa using h), List.getElem?_eq_getElem h]
    simp only [List.getElem_range, Option.map_some, Option.getD_some]
    by_cases ht : a.testBit i = true
    · rw [if_pos ht, if_pos ⟨h, ht⟩, List.getElem?_eq_getElem h]; rfl
    · rw [if_neg ht, if_neg (fun c => ht c.2), List.getElem?_eq_getElem h]; rfl
  · rw [if_neg (fun c => h c.1), List.getElem?_eq_none (by simpa using h), List.getElem?_eq_none (by omega)]
    rfl
theorem getD_snoc {α : Type} (l : List α) (x d : α) (i : Nat) : (l ++ [x]).getD i d = if i < l.length then l.getD i d else if i = l.length then x else d := by
  simp only [List.getD_eq_getElem?_getD]
  by_cases h : i < l.length
  · rw [if_pos h, List.getElem?_append_left h]
  · rw [if_neg h, List.getElem?_append_right (by omega)]
    by_cases h2 : i = l.length
    · rw [if_pos h2, h2, Nat.sub_self]; rfl
    · rw [if_neg h2, List.getElem?_eq_none (by simp; omega)]; rfl
/-- So many letters of a word are laid. -/
structure RowSt (l0 : Lt) (pre : Bs) (a : Pc2 × Lt) : Prop where
  len : a.2.follow.length = l0.cls.length + pre.length
  cls : a.2.cls = l0.cls ++ pre.map clOf
  pc : (pre = [] ∧ a.1 = ⟨0, 0, true⟩) ∨ (pre ≠ [] ∧ a.1 = ⟨2 ^ l0.cls.length, 2 ^ (l0.cls.length + pre.length - 1), false⟩)
  old : ∀ i, i < l0.cls.length → a.2.follow.getD i 0 = l0.follow.getD i 0
  new : ∀ i, i < pre.length → a.2.follow.getD (l0.cls.length + i) 0 = if i + 1 < pre.length then 2 ^ (l0.cls.length + i + 1) else 0
theorem RowSt.step {l0 : Lt} {pre : Bs} {a : Pc2 × Lt} (h : RowSt l0 pre a) (b : UInt8) : RowSt l0 (pre ++ [b]) ((layN 98 (nd b) a.2).2.join a.1 (layN 98 (nd b) a.2).1) := by
  have e : layN 98 (nd b) a.2 = (⟨2 ^ a.2.cls.length, 2 ^ a.2.cls.length, false⟩, ⟨a.2.cls ++ [clOf b], a.2.follow ++ [0]⟩) := rfl
  have hcl : a.2.cls.length = l0.cls.length + pre.length := by rw [h.cls]; simp
  rw [e, hcl]
  unfold Lt.join
  refine ⟨?_, ?_, .inr ⟨by simp, ?_⟩, fun i hi => ?_, fun i hi => ?_⟩
  · show (Lt.connect _ _ _).follow.length = _
    rw [connect_len]
    simp [h.len]; omega
  · show a.2.cls ++ [clOf b] = _
    rw [h.cls]; simp
  · rcases h.pc with ⟨rfl, hp⟩ | ⟨hne, hp⟩
    · rw [hp]; simp
    · rw [hp]; simp
  · rw [connect_at, getD_snoc, h.len]
    simp only [List.length_append, List.length_singleton, h.len]
    rw [if_pos (show i < l0.cls.length + pre.length by omega), h.old i hi]
    rw [if_neg]
    rintro ⟨_, ht⟩
    rcases h.pc with ⟨rfl, hp⟩ | ⟨hne, hp⟩
    · rw [hp] at ht; simp at ht
    · rw [hp] at ht
      have hl : 0 < pre.length := Nat.pos_of_ne_zero (fun c => hne (List.eq_nil_of_length_eq_zero c))
      simp only [Nat.testBit_two_pow] at ht
      have := of_decide_eq_true ht
      omega
  · rw [connect_at, getD_snoc, h.len]
    simp only [List.length_append, List.length_singleton, h.len] at hi ⊢
    by_cases hlt : i < pre.length
    · rw [if_pos (show l0.cls.length + i < l0.cls.length + pre.length by omega), h.new i hlt, if_pos (show i + 1 < pre.length + 1 by omega)]
      have hne : pre ≠ [] := fun c => by rw [c] at hlt; exact absurd hlt (by simp)
      rcases h.pc with ⟨hx, hp⟩ | ⟨_, hp⟩
      · exact absurd hx hne
      · rw [hp]
        simp only [Nat.testBit_two_pow, decide_eq_true_eq]
        by_cases hl : i + 1 < pre.length
        · rw [if_pos hl, if_neg (by omega)]
        · have e : i + 1 = pre.length := by omega
          rw [if_neg hl, if_pos (by omega), Nat.zero_or, Nat.add_assoc, e]
    · have e : i = pre.length := by omega
      subst e
      have hno : ¬ (l0.cls.length + pre.length < l0.cls.length + pre.length + 1 ∧ Nat.testBit a.1.last (l0.cls.length + pre.length) = true) := by
        rintro ⟨_, ht⟩
        rcases h.pc with ⟨rfl, hp⟩ | ⟨hne, hp⟩
        · rw [hp] at ht; simp at ht
        · rw [hp] at ht
          have hl : 0 < pre.length := Nat.pos_of_ne_zero (fun c => hne (List.eq_nil_of_length_eq_zero c))
          simp only [Nat.testBit_two_pow] at ht
          have := of_decide_eq_true ht
          omega
      rw [if_neg hno, if_neg (Nat.lt_irrefl _), if_pos rfl, if_neg (Nat.lt_irrefl _)]
theorem rowSt_all (l0 : Lt) : ∀ (suf pre : Bs) (a : Pc2 × Lt), RowSt l0 pre a → RowSt l0 (pre ++ suf) ((suf.map nd).foldl (fun a n => let q := layN 98 n a.2; q.2.join a.1 q.1) a)
  | [], pre, a, h => by simpa using h
  | b :: r, pre, a, h => by
    have := rowSt_all l0 r (pre ++ [b]) _ (h.step b)
    rw [List.append_assoc] at this
    exact this
theorem lay_word (l0 : Lt) (hl : l0.follow.length = l0.cls.length) (s : Bs) (hs : s ≠ []) : ∃ lt, layN 100 (tr s) l0 = (⟨2 ^ l0.cls.length, 2 ^ (l0.cls.length + s.length - 1), false⟩, lt) ∧
    lt.follow.length = l0.cls.length + s.length ∧ lt.cls = l0.cls ++ s.map clOf ∧ (∀ i, i < l0.cls.length → lt.follow.getD i 0 = l0.follow.getD i 0) ∧ (∀ i, i < s.length → lt.follow.getD (l0.cls.length + i) 0 = if i + 1 < s.length then 2 ^ (l0.cls.length + i + 1) else 0) := by
  have h0 : RowSt l0 [] (⟨0, 0, true⟩, l0) := ⟨by simp [hl], by simp, .inl ⟨rfl, rfl⟩, fun _ _ => rfl, fun _ h => absurd h (by simp)⟩
  have h := rowSt_all l0 s [] _ h0
  rw [List.nil_append] at h
  refine ⟨_, ?_, h.len, h.cls, h.old, h.new⟩
  rcases h.pc with ⟨hx, _⟩ | ⟨_, hp⟩
  · exact absurd hx hs
  · show (Pc2.mk (0 ||| (layN 99 (.row (s.map nd)) l0).1.first) (0 ||| (layN 99 (.row (s.map nd)) l0).1.last) (false || (layN 99 (.row (s.map nd)) l0).1.empty), (layN 99 (.row (s.map nd)) l0).2) = _
    have e : layN 99 (.row (s.map nd)) l0 = ((s.map nd).foldl (fun a n => let q := layN 98 n a.2; q.2.join a.1 q.1) (⟨0, 0, true⟩, l0)) := rfl
    rw [e, hp]
    simp
/-- Where a word begins. -/
def off (ws : List Bs) (i : Nat) : Nat := (ws.take i).flatten.length
theorem off_snoc (ws : List Bs) (s : Bs) (i : Nat) (h : i ≤ ws.length) : off (ws ++ [s]) i = off ws i := by
  unfold off; rw [List.take_append_of_le_length h]
theorem off_all (ws : List Bs) : off ws ws.length = ws.flatten.length := by unfold off; rw [List.take_length]
structure LoOk (ws : List Bs) (lo : Lo) : Prop where
  cls : lo.lt.cls = ws.flatten.map clOf
  flen : lo.lt.follow.length = ws.flatten.length
  llen : lo.last.length = ws.length
  last : ∀ i, i < ws.length → lo.last.getD i 0 = 2 ^ (off ws i + (ws.getD i []).length - 1)
  first : ∀ p, lo.first.testBit p = true ↔ ∃ i, i < ws.length ∧ p = off ws i
  fol : ∀ i j, i < ws.length → j < (ws.getD i []).length → lo.lt.follow.getD (off ws i + j) 0 = if j + 1 < (ws.getD i []).length then 2 ^ (off ws i + j + 1) else 0
theorem off_in (ws : List Bs) (i : Nat) (h : i < ws.length) : off ws i + (ws.getD i []).length ≤ ws.flatten.length := by
  have e : off ws (i + 1) = off ws i + (ws.getD i []).length := by
    unfold off
    rw [List.take_add_one, List.getElem?_eq_getElem h, List.flatten_append, List.length_append, List.getD_eq_getElem?_getD, List.getElem?_eq_getElem h]
    simp only [Option.toList_some, List.flatten_cons, List.flatten_nil, List.append_nil, Option.getD_some]
  rw [← e]
  unfold off
  conv => rhs; rw [← List.take_append_drop (i + 1) ws, List.flatten_append, List.length_append]
  omega
theorem LoOk.step {ws : List Bs} {lo : Lo} (h : LoOk ws lo) (s : Bs) (hs : s ≠ []) : LoOk (ws ++ [s]) (let q := layN 100 (tr s) lo.lt; ⟨q.2, lo.first ||| q.1.first, lo.last ++ [q.1.last]⟩) := by
  have hcl : lo.lt.cls.length = ws.flatten.length := by rw [h.cls, List.length_map]
  obtain ⟨lt, e, k1, k2, k3, k4⟩ := lay_word lo.lt (by rw [h.flen, hcl]) s hs
  rw [hcl] at e k1 k3 k4
  rw [e]
  have hof : off (ws ++ [s]) ws.length = ws.flatten.length := by rw [off_snoc _ _ _ (Nat.le_refl _), off_all]
  refine ⟨?_, ?_, ?_, fun i hi => ?_, fun p => ?_, fun i j hi hj => ?_⟩
  · show lt.cls = _
    rw [k2, h.cls]; simp
  · show lt.follow.length = _
    rw [k1]; simp
  · show (lo.last ++ _).length = _
    simp [h.llen]
  · show (lo.last ++ _).getD i 0 = _
    rw [getD_snoc, getD_snoc, h.llen]
    rw [List.length_append, List.length_singleton] at hi
    by_cases hlt : i < ws.length
    · rw [if_pos hlt, if_pos hlt, off_snoc _ _ _ (by omega), h.last i hlt]
    · have : i = ws.length := by omega
      subst this
      rw [if_neg hlt, if_pos rfl, if_neg hlt, if_pos rfl, hof]
  · show (lo.first ||| 2 ^ ws.flatten.length).testBit p = true ↔ _
    rw [Nat.testBit_or, Bool.or_eq_true, h.first, Nat.testBit_two_pow, decide_eq_true_eq]
    constructor
    · rintro (⟨i, h1, h2⟩ | h1)
      · exact ⟨i, by simp; omega, by rw [off_snoc _ _ _ (by omega)]; exact h2⟩
      · exact ⟨ws.length, by simp, by rw [hof]; exact h1.symm⟩
    · rintro ⟨i, h1, h2⟩
      rw [List.length_append, List.length_singleton] at h1
      by_cases hlt : i < ws.length
      · exact .inl ⟨i, hlt, by rw [off_snoc _ _ _ (by omega)] at h2; exact h2⟩
      · have : i = ws.length := by omega
        subst this
        exact .inr (by rw [h2, hof])
  · show lt.follow.getD _ 0 = _
    rw [List.length_append, List.length_singleton] at hi
    rw [getD_snoc] at hj ⊢
    by_cases hlt : i < ws.length
    · rw [if_pos hlt] at hj ⊢
      have := off_in ws i hlt
      rw [off_snoc _ _ _ (by omega), k3 _ (by omega), h.fol i j hlt hj]
    · have : i = ws.length := by omega
      subst this
      rw [if_neg hlt, if_pos rfl] at hj ⊢
      rw [hof, k4 j hj]
theorem loOk_all : ∀ (suf pre : List Bs) (lo : Lo), (∀ s ∈ suf, s ≠ []) → LoOk pre lo → LoOk (pre ++ suf) ((suf.map tr).foldl (fun a n => let q := layN 100 n a.lt; ⟨q.2, a.first ||| q.1.first, a.last ++ [q.1.last]⟩) lo)
  | [], pre, lo, _, h => by simpa using h
  | s :: r, pre, lo, hn, h => by
    have := loOk_all r (pre ++ [s]) _ (fun x hx => hn x (List.mem_cons_of_mem _ hx)) (h.step s (hn s List.mem_cons_self))
    rw [List.append_assoc] at this
    exact this
theorem layAll_abc (ws : List Bs) (hn : ∀ s ∈ ws, s ≠ []) : LoOk ws (layAll (ws.map tr)) := by
  have := loOk_all ws [] ⟨⟨[], []⟩, 0, []⟩ hn ⟨rfl, rfl, rfl, fun _ h => absurd h (by simp), fun p => by simp, fun i _ h => absurd h (by simp)⟩
  rw [List.nil_append] at this
  exact this
end Go.Proofs.YtlhokghgicgppaaGreatDoor.Sg

namespace Go.Proofs.YtlhokghgicgppaaGreatDoor.Sg
open Go

theorem foldl_or_bit (f : Nat → Bool) : ∀ (l : List Nat) (a p : Nat), (l.foldl (fun a i => if f i = true then a ||| 2 ^ i else a) a).testBit p = true ↔ a.testBit p = true ∨ (p ∈ l ∧ f p = true)
  | [], a, p => by simp
  | i :: l, a, p => by
    rw [List.foldl_cons, foldl_or_bit f l]
    by_cases hf : f i = true
    · rw [if_pos hf, Nat.testBit_or, Bool.or_eq_true, Nat.testBit_two_pow, decide_eq_true_eq, List.mem_cons]
      constructor
      · rintro ((h | rfl) | h)
        · exact .inl h
        · exact .inr ⟨.inl rfl, hf⟩
        · exact .inr ⟨.inr h.1, h.2⟩
      · rintro (h | ⟨rfl | h, h2⟩)
        · exact .inl (.inl h)
        · exact .inl (.inr rfl)
        · exact .inr ⟨h, h2⟩
    · rw [if_neg hf, List.mem_cons]
      constructor
      · rintro (h | h)
        · exact .inl h
        · exact .inr ⟨.inr h.1, h.2⟩
      · rintro (h | ⟨rfl | h, h2⟩)
        · exact .inl h
        · exact absurd h2 hf
        · exact .inr ⟨h, h2⟩
theorem hasR_cl (b : UInt8) (c : Int) : hasR (clOf b) c = decide (c = (b.toNat : Int)) := by
  unfold hasR clOf
  simp only [List.any_cons, List.any_nil, Bool.or_false]
  by_cases h : c = (b.toNat : Int)
  · subst h; simp
  · rw [decide_eq_false h, Bool.and_eq_false_iff]
    by_cases g : (b.toNat : Int) ≤ c
    · exact .inr (decide_eq_false (by omega))
    · exact .inl (decide_eq_false g)
theorem matchT_bit {ws : List Bs} {lo : Lo} (h : LoOk ws lo) (c : Int) (p : Nat) : (matchT lo c).testBit p = true ↔ ∃ b, ws.flatten[p]? = some b ∧ c = (b.toNat : Int) := by
  have e : matchT lo c = (List.range lo.lt.cls.length).foldl (fun a i => if hasR (lo.lt.cls.getD i []) c = true then a ||| 2 ^ i else a) 0 := rfl
  rw [e, foldl_or_bit (fun i => hasR (lo.lt.cls.getD i []) c), h.cls]
  simp only [Nat.zero_testBit, Bool.false_eq_true, false_or, List.mem_range, List.length_map]
  constructor
  · rintro ⟨h1, h2⟩
    refine ⟨ws.flatten[p], List.getElem?_eq_getElem h1, ?_⟩
    rw [List.getD_eq_getElem?_getD, List.getElem?_map, List.getElem?_eq_getElem h1] at h2
    simpa [hasR_cl] using h2
  · rintro ⟨b, h1, h2⟩
    obtain ⟨hp, h3⟩ := List.getElem?_eq_some_iff.1 h1
    refine ⟨hp, ?_⟩
    rw [List.getD_eq_getElem?_getD, List.getElem?_map, h1]
    simpa [hasR_cl] using h2
theorem matchT_zero {ws : List Bs} {lo : Lo} (h : LoOk ws lo) (c : Int) (hc : ∀ b ∈ ws.flatten, ¬ c = (b.toNat : Int)) : matchT lo c = 0 := by
  apply Nat.eq_of_testBit_eq
  intro p
  rw [Nat.zero_testBit]
  cases hx : (matchT lo c).testBit p
  · rfl
  · obtain ⟨b, h1, h2⟩ := (matchT_bit h c p).1 hx
    exact absurd h2 (hc b (List.mem_of_getElem? h1))
theorem matchT_ne {ws : List Bs} {lo : Lo} (h : LoOk ws lo) (c : Int) (hc : ∃ b ∈ ws.flatten, c = (b.toNat : Int)) : matchT lo c ≠ 0 := by
  obtain ⟨b, hb, e⟩ := hc
  obtain ⟨p, hp⟩ := List.getElem?_of_mem hb
  intro h0
  have := (matchT_bit h c p).2 ⟨b, hp, e⟩
  rw [h0] at this
  simp at this
theorem matchT_apart {ws : List Bs} {lo : Lo} (h : LoOk ws lo) (c d : Int) (hcd : c ≠ d) (hc : matchT lo c ≠ 0) : matchT lo c ≠ matchT lo d := by
  intro e
  obtain ⟨p, hp⟩ := Nat.exists_testBit_of_ne_zero hc
  obtain ⟨b, h1, h2⟩ := (matchT_bit h c p).1 hp
  rw [e] at hp
  obtain ⟨b', h3, h4⟩ := (matchT_bit h d p).1 hp
  rw [h1] at h3
  cases h3
  exact hcd (h2.trans h4.symm)
theorem lows_abc {ws : List Bs} {lo : Lo} (h : LoOk ws lo) : Inc (lowsOf lo) ∧ ∀ y, y ∈ lowsOf lo ↔ y = 0 ∨ ∃ b ∈ ws.flatten, y = (b.toNat : Int) ∨ y = (b.toNat : Int) + 1 := by
  have key : ∀ (C : Bs) (a : List Int) (y : Int), y ∈ (C.map clOf).foldl (fun a s => s.foldl (fun a r => a ++ [r.1, r.2 + 1]) a) a ↔ y ∈ a ∨ ∃ b ∈ C, y = (b.toNat : Int) ∨ y = (b.toNat : Int) + 1 := by
    intro C
    induction C with
    | nil => intro a y; simp
    | cons b r ih =>
      intro a y
      rw [List.map_cons, List.foldl_cons, ih]
      simp only [clOf, List.foldl_cons, List.foldl_nil, List.mem_append, List.mem_cons, List.not_mem_nil, or_false]
      constructor
      · rintro ((h | h) | ⟨x, h1, h2⟩)
        · exact .inl h
        · exact .inr ⟨b, .inl rfl, h⟩
        · exact .inr ⟨x, .inr h1, h2⟩
      · rintro (h | ⟨x, rfl | h1, h2⟩)
        · exact .inl (.inl h)
        · exact .inl (.inr h2)
        · exact .inr ⟨x, h1, h2⟩
  unfold lowsOf
  rw [h.cls]
  have hf := foldI_spec ((ws.flatten.map clOf).foldl (fun a s => s.foldl (fun a r => a ++ [r.1, r.2 + 1]) a) [0]) [] (by simp [Inc])
  refine ⟨hf.1, fun y => ?_⟩
  rw [hf.2, key]
  simp
/-- What is told of the kinds. -/
structure KindOk (lo : Lo) : Prop where
  up : (kindRows lo).1.Pairwise (fun a b => a.1 < b.1)
  z : lowAt (kindRows lo).1 0 = 0
  c0 : 0 < (kindRows lo).1.length
  cN : (kindRows lo).1.length < 1000
  kN : (kindRows lo).2.length < 1000
  k0 : ∀ x ∈ (kindRows lo).1, 0 ≤ x.2 ∧ x.2 < ((kindRows lo).2.length : Int)
  km : ∀ m ∈ (kindRows lo).2, m = 0 ∨ ∃ c : Int, (c = 97 ∨ c = 98 ∨ c = 99) ∧ m = matchT lo c
  hit : ∀ c : Int, c = 97 ∨ c = 98 ∨ c = 99 → (kindRows lo).2.getD (kindAt (kindRows lo).1 (cutIx (kindRows lo).1 c)).toNat 0 = matchT lo c
def krStep (a : List (Int × Int) × List Ps) (x : Int × Ps) : List (Int × Int) × List Ps :=
  let k := a.2.idxOf x.2
  let ks := if k < a.2.length then a.2 else a.2 ++ [x.2]
  (if a.1.isEmpty || (a.1.getLastD (0, 0)).2 ≠ (k : Int) then a.1 ++ [(x.1, (k : Int))] else a.1, ks)
theorem kindRows_eq (lo : Lo) (l : List Int) (h : lowsOf lo = l) : kindRows lo = (l.map fun x => (x, matchT lo x)).foldl krStep ([], []) := by
  unfold kindRows
  rw [h, List.foldl_map]
  rfl
theorem kindOk_of (lo : Lo) (cuts : List (Int × Int)) (kinds : List Ps) (e : kindRows lo = (cuts, kinds)) (h1 : cuts.Pairwise (fun a b => a.1 < b.1)) (h2 : lowAt cuts 0 = 0) (h3 : 0 < cuts.length ∧ cuts.length < 1000 ∧ kinds.length < 1000) (h4 : ∀ x ∈ cuts, 0 ≤ x.2 ∧ x.2 < (kinds.length : Int)) (h8 : ∀ m ∈ kinds, m = 0 ∨ ∃ c : Int, (c = 97 ∨ c = 98 ∨ c = 99) ∧ m = matchT lo c) (h5 : kinds.getD (kindAt cuts (cutIx cuts 97)).toNat 0 = matchT lo 97) (h6 : kinds.getD (kindAt cuts (cutIx cuts 98)).toNat 0 = matchT lo 98) (h7 : kinds.getD (kindAt cuts (cutIx cuts 99)).toNat 0 = matchT lo 99) : KindOk lo := by
  refine ⟨?_, ?_, ?_, ?_, ?_, ?_, ?_, ?_⟩
  all_goals rw [e]
  · exact h1
  · exact h2
  · exact h3.1
  · exact h3.2.1
  · exact h3.2.2
  · exact h4
  · exact h8
  · rintro c (rfl | rfl | rfl)
    · exact h5
    · exact h6
    · exact h7
theorem kr3 (x y z : Int) (A B C : Nat) (ha : A ≠ 0) (hb : B ≠ 0) (hc : C ≠ 0) (hab : A ≠ B) (hac : A ≠ C) (hbc : B ≠ C) : [(0, 0), (x, A), (y, B), (z, C), (z + 1, 0)].foldl krStep ([], []) = ([(0, 0), (x, 1), (y, 2), (z, 3), (z + 1, 0)], [0, A, B, C]) := by
  have a1 : (A == B) = false := beq_eq_false_iff_ne.2 hab
  have a2 : (A == C) = false := beq_eq_false_iff_ne.2 hac
  have a3 : (B == C) = false := beq_eq_false_iff_ne.2 hbc
  have a4 : (0 == A) = false := beq_eq_false_iff_ne.2 (Ne.symm ha)
  have a5 : (0 == B) = false := beq_eq_false_iff_ne.2 (Ne.symm hb)
  have a6 : (0 == C) = false := beq_eq_false_iff_ne.2 (Ne.symm hc)
  simp [krStep, List.idxOf_cons, List.idxOf_nil, a1, a2, a3, a4, a5, a6]
theorem kr2 (x y z : Int) (A B : Nat) (ha : A ≠ 0) (hb : B ≠ 0) (hab : A ≠ B) : [(0, 0), (x, A), (y, B), (z, 0)].foldl krStep ([], []) = ([(0, 0), (x, 1), (y, 2), (z, 0)], [0, A, B]) := by
  have a1 : (A == B) = false := beq_eq_false_iff_ne.2 hab
  have a4 : (0 == A) = false := beq_eq_false_iff_ne.2 (Ne.symm ha)
  have a5 : (0 == B) = false := beq_eq_false_iff_ne.2 (Ne.symm hb)
  simp [krStep, List.idxOf_cons, List.idxOf_nil, a1, a4, a5]
theorem kr2' (x y z u : Int) (A B : Nat) (ha : A ≠ 0) (hb : B ≠ 0) (hab : A ≠ B) : [(0, 0), (x, A), (y, 0), (z, B), (u, 0)].foldl krStep ([], []) = ([(0, 0), (x, 1), (y, 0), (z, 2), (u, 0)], [0, A, B]) := by
  have a1 : (A == B) = false := beq_eq_false_iff_ne.2 hab
  have a4 : (0 == A) = false := beq_eq_false_iff_ne.2 (Ne.symm ha)
  have a5 : (0 == B) = false := beq_eq_false_iff_ne.2 (Ne.symm hb)
  simp [krStep, List.idxOf_cons, List.idxOf_nil, a1, a4, a5]
theorem kr1 (x y : Int) (A : Nat) (ha : A ≠ 0) : [(0, 0), (x, A), (y, 0)].foldl krStep ([], []) = ([(0, 0), (x, 1), (y, 0)], [0, A]) := by
  have a4 : (0 == A) = false := beq_eq_false_iff_ne.2 (Ne.symm ha)
  simp [krStep, List.idxOf_cons, List.idxOf_nil, a4]
theorem kindOk_abc {ws : List Bs} {lo : Lo} (h : LoOk ws lo) (hA : Abc ws.flatten) (hne : ws.flatten ≠ []) : KindOk lo := by
  obtain ⟨l1, l2⟩ := lows_abc h
  have z0 : matchT lo 0 = 0 := matchT_zero h 0 (fun b hb e => by have := hA b hb; unfold abc at this; omega)
  have z100 : matchT lo 100 = 0 := matchT_zero h 100 (fun b hb e => by have := hA b hb; unfold abc at this; omega)
  have case3 : ∀ c : Int, (∃ b ∈ ws.flatten, c = (b.toNat : Int)) ∨ (∀ b ∈ ws.flatten, ¬ c = (b.toNat : Int)) := fun c => by
    by_cases g : ∃ b ∈ ws.flatten, c = (b.toNat : Int)
    · exact .inl g
    · exact .inr (fun b hb e => g ⟨b, hb, e⟩)
  have lows : ∀ l : List Int, Inc l → (∀ y, y ∈ l ↔ y = 0 ∨ ∃ c : Int, (c = 97 ∨ c = 98 ∨ c = 99) ∧ (∃ b ∈ ws.flatten, c = (b.toNat : Int)) ∧ (y = c ∨ y = c + 1)) → lowsOf lo = l := fun l hl hy => by
    refine inc_ext _ _ l1 hl (fun y => ?_)
    rw [l2, hy]
    constructor
    · rintro (g | ⟨b, hb, g⟩)
      · exact .inl g
      · have := hA b hb
        unfold abc at this
        exact .inr ⟨b.toNat, by omega, ⟨b, hb, rfl⟩, g⟩
    · rintro (g | ⟨c, _, ⟨b, hb, rfl⟩, g⟩)
      · exact .inl g
      · exact .inr ⟨b, hb, g⟩
  rcases case3 97 with ua | ua <;> rcases case3 98 with ub | ub <;> rcases case3 99 with uc | uc
  · have m97 := matchT_ne h 97 ua
    have m98 := matchT_ne h 98 ub
    have m99 := matchT_ne h 99 uc
    have n9798 := matchT_apart h 97 98 (by decide) m97
    have n9799 := matchT_apart h 97 99 (by decide) m97
    have n9899 := matchT_apart h 98 99 (by decide) m98
    have hl := lows [0, 97, 98, 99, 100] (by decide) (fun y => by
      simp only [List.mem_cons, List.not_mem_nil, or_false]
      constructor
      · rintro (rfl | rfl | rfl | rfl | rfl)
        · exact .inl rfl
        · exact .inr ⟨97, .inl rfl, ua, .inl rfl⟩
        · exact .inr ⟨98, .inr (.inl rfl), ub, .inl rfl⟩
        · exact .inr ⟨99, .inr (.inr rfl), uc, .inl rfl⟩
        · exact .inr ⟨99, .inr (.inr rfl), uc, .inr rfl⟩
      · rintro (g | ⟨c, hc, hu, g⟩)
        · exact .inl g
        · rcases hc with rfl | rfl | rfl
          · omega
          · omega
          · omega)
    have e := kindRows_eq lo _ hl
    simp only [List.map_cons, List.map_nil, z0, z100] at e
    have e2 : kindRows lo = ([(0, 0), (97, 1), (98, 2), (99, 3), (100, 0)], [0, matchT lo 97, matchT lo 98, matchT lo 99]) := e.trans (kr3 97 98 99 (matchT lo 97) (matchT lo 98) (matchT lo 99) m97 m98 m99 n9798 n9799 n9899)
    exact kindOk_of lo _ _ e2 (by decide) rfl (by simp) (by simp) (by simp) rfl rfl rfl
  · have m97 := matchT_ne h 97 ua
    have m98 := matchT_ne h 98 ub
    have m99 := matchT_zero h 99 uc
    have n9798 := matchT_apart h 97 98 (by decide) m97
    have hl := lows [0, 97, 98, 99] (by decide) (fun y => by
      simp only [List.mem_cons, List.not_mem_nil, or_false]
      constructor
      · rintro (rfl | rfl | rfl | rfl)
        · exact .inl rfl
        · exact .inr ⟨97, .inl rfl, ua, .inl rfl⟩
        · exact .inr ⟨98, .inr (.inl rfl), ub, .inl rfl⟩
        · exact .inr ⟨98, .inr (.inl rfl), ub, .inr rfl⟩
      · rintro (g | ⟨c, hc, hu, g⟩)
        · exact .inl g
        · rcases hc with rfl | rfl | rfl
          · omega
          · omega
          · obtain ⟨b, hb, e⟩ := hu; exact absurd e (uc b hb))
    have e := kindRows_eq lo _ hl
    simp only [List.map_cons, List.map_nil, z0, z100, m99] at e
    have e2 : kindRows lo = ([(0, 0), (97, 1), (98, 2), (99, 0)], [0, matchT lo 97, matchT lo 98]) := e.trans (kr2 97 98 99 (matchT lo 97) (matchT lo 98) m97 m98 n9798)
    exact kindOk_of lo _ _ e2 (by decide) rfl (by simp) (by simp) (by simp) rfl rfl (by rw [m99]; rfl)
  · have m97 := matchT_ne h 97 ua
    have m98 := matchT_zero h 98 ub
    have m99 := matchT_ne h 99 uc
    have n9799 := matchT_apart h 97 99 (by decide) m97
    have hl := lows [0, 97, 98, 99, 100] (by decide) (fun y => by
      simp only [List.mem_cons, List.not_mem_nil, or_false]
      constructor
      · rintro (rfl | rfl | rfl | rfl | rfl)
        · exact .inl rfl
        · exact .inr ⟨97, .inl rfl, ua, .inl rfl⟩
        · exact .inr ⟨97, .inl rfl, ua, .inr rfl⟩
        · exact .inr ⟨99, .inr (.inr rfl), uc, .inl rfl⟩
        · exact .inr ⟨99, .inr (.inr rfl), uc, .inr rfl⟩
      · rintro (g | ⟨c, hc, hu, g⟩)
        · exact .inl g
        · rcases hc with rfl | rfl | rfl
          · omega
          · obtain ⟨b, hb, e⟩ := hu; exact absurd e (ub b hb)
          · omega)
    have e := kindRows_eq lo _ hl
    simp only [List.map_cons, List.map_nil, z0, z100, m98] at e
    have e2 : kindRows lo = ([(0, 0), (97, 1), (98, 0), (99, 2), (100, 0)], [0, matchT lo 97, matchT lo 99]) := e.trans (kr2' 97 98 99 100 (matchT lo 97) (matchT lo 99) m97 m99 n9799)
    exact kindOk_of lo _ _ e2 (by decide) rfl (by simp) (by simp) (by simp) rfl (by rw [m98]; rfl) rfl
  · have m97 := matchT_ne h 97 ua
    have m98 := matchT_zero h 98 ub
    have m99 := matchT_zero h 99 uc
    have hl := lows [0, 97, 98] (by decide) (fun y => by
      simp only [List.mem_cons, List.not_mem_nil, or_false]
      constructor
      · rintro (rfl | rfl | rfl)
        · exact .inl rfl
        · exact .inr ⟨97, .inl rfl, ua, .inl rfl⟩
        · exact .inr ⟨97, .inl rfl, ua, .inr rfl⟩
      · rintro (g | ⟨c, hc, hu, g⟩)
        · exact .inl g
        · rcases hc with rfl | rfl | rfl
          · omega
          · obtain ⟨b, hb, e⟩ := hu; exact absurd e (ub b hb)
          · obtain ⟨b, hb, e⟩ := hu; exact absurd e (uc b hb))
    have e := kindRows_eq lo _ hl
    simp only [List.map_cons, List.map_nil, z0, z100, m98, m99] at e
    have e2 : kindRows lo = ([(0, 0), (97, 1), (98, 0)], [0, matchT lo 97]) := e.trans (kr1 97 98 (matchT lo 97) m97)
    exact kindOk_of lo _ _ e2 (by decide) rfl (by simp) (by simp) (by simp) rfl (by rw [m98]; rfl) (by rw [m99]; rfl)
  · have m97 := matchT_zero h 97 ua
    have m98 := matchT_ne h 98 ub
    have m99 := matchT_ne h 99 uc
    have n9899 := matchT_apart h 98 99 (by decide) m98
    have hl := lows [0, 98, 99, 100] (by decide) (fun y => by
      simp only [List.mem_cons, List.not_mem_nil, or_false]
      constructor
      · rintro (rfl | rfl | rfl | rfl)
        · exact .inl rfl
        · exact .inr ⟨98, .inr (.inl rfl), ub, .inl rfl⟩
        · exact .inr ⟨99, .inr (.inr rfl), uc, .inl rfl⟩
        · exact .inr ⟨99, .inr (.inr rfl), uc, .inr rfl⟩
      · rintro (g | ⟨c, hc, hu, g⟩)
        · exact .inl g
        · rcases hc with rfl | rfl | rfl
          · obtain ⟨b, hb, e⟩ := hu; exact absurd e (ua b hb)
          · omega
          · omega)
    have e := kindRows_eq lo _ hl
    simp only [List.map_cons, List.map_nil, z0, z100, m97] at e
    have e2 : kindRows lo = ([(0, 0), (98, 1), (99, 2), (100, 0)], [0, matchT lo 98, matchT lo 99]) := e.trans (kr2 98 99 100 (matchT lo 98) (matchT lo 99) m98 m99 n9899)
    exact kindOk_of lo _ _ e2 (by decide) rfl (by simp) (by simp) (by simp) (by rw [m97]; rfl) rfl rfl
  · have m97 := matchT_zero h 97 ua
    have m98 := matchT_ne h 98 ub
    have m99 := matchT_zero h 99 uc
    have hl := lows [0, 98, 99] (by decide) (fun y => by
      simp only [List.mem_cons, List.not_mem_nil, or_false]
      constructor
      · rintro (rfl | rfl | rfl)
        · exact .inl rfl
        · exact .inr ⟨98, .inr (.inl rfl), ub, .inl rfl⟩
        · exact .inr ⟨98, .inr (.inl rfl), ub, .inr rfl⟩
      · rintro (g | ⟨c, hc, hu, g⟩)
        · exact .inl g
        · rcases hc with rfl | rfl | rfl
          · obtain ⟨b, hb, e⟩ := hu; exact absurd e (ua b hb)
          · omega
          · obtain ⟨b, hb, e⟩ := hu; exact absurd e (uc b hb))
    have e := kindRows_eq lo _ hl
    simp only [List.map_cons, List.map_nil, z0, z100, m97, m99] at e
    have e2 : kindRows lo = ([(0, 0), (98, 1), (99, 0)], [0, matchT lo 98]) := e.trans (kr1 98 99 (matchT lo 98) m98)
    exact kindOk_of lo _ _ e2 (by decide) rfl (by simp) (by simp) (by simp) (by rw [m97]; rfl) rfl (by rw [m99]; rfl)
  · have m97 := matchT_zero h 97 ua
    have m98 := matchT_zero h 98 ub
    have m99 := matchT_ne h 99 uc
    have hl := lows [0, 99, 100] (by decide) (fun y => by
      simp only [List.mem_cons, List.not_mem_nil, or_false]
      constructor
      · rintro (rfl | rfl | rfl)
        · exact .inl rfl
        · exact .inr ⟨99, .inr (.inr rfl), uc, .inl rfl⟩
        · exact .inr ⟨99, .inr (.inr rfl), uc, .inr rfl⟩
      · rintro (g | ⟨c, hc, hu, g⟩)
        · exact .inl g
        · rcases hc with rfl | rfl | rfl
          · obtain ⟨b, hb, e⟩ := hu; exact absurd e (ua b hb)
          · obtain ⟨b, hb, e⟩ := hu; exact absurd e (ub b hb)
          · omega)
    have e := kindRows_eq lo _ hl
    simp only [List.map_cons, List.map_nil, z0, z100, m97, m98] at e
    have e2 : kindRows lo = ([(0, 0), (99, 1), (100, 0)], [0, matchT lo 99]) := e.trans (kr1 99 100 (matchT lo 99) m99)
    exact kindOk_of lo _ _ e2 (by decide) rfl (by simp) (by simp) (by simp) (by rw [m97]; rfl) (by rw [m98]; rfl) rfl
  · exfalso
    obtain ⟨b, hb⟩ := List.exists_mem_of_ne_nil _ hne
    have := hA b hb
    have h1 := ua b hb
    have h2 := ub b hb
    have h3 := uc b hb
    unfold abc at this
    omega
end Go.Proofs.YtlhokghgicgppaaGreatDoor.Sg

namespace Go.Proofs.YtlhokghgicgppaaGreatDoor.Sg
open Go

/-! ### rows of states, whatever the places are -/
/-- What a row says of the set that lies behind its state. -/
def RowOk (kinds sets : List Ps) (b : Ps) (row : List Int) : Prop := row.length = kinds.length ∧ ∀ k, k < kinds.length → (b &&& kinds.getD k 0 = 0 ∧ row.getD k 0 = -1) ∨ (b &&& kinds.getD k 0 ≠ 0 ∧ ∃ j : Nat, sets[j]? = some (b &&& kinds.getD k 0) ∧ row.getD k 0 = (j : Int) + 1)
theorem RowOk.ext {kinds sets : List Ps} {b : Ps} {row : List Int} (h : RowOk kinds sets b row) (x : List Ps) : RowOk kinds (sets ++ x) b row := by
  refine ⟨h.1, fun k hk => ?_⟩
  rcases h.2 k hk with g | ⟨g, j, g1, g2⟩
  · exact .inl g
  · exact .inr ⟨g, j, by rw [List.getElem?_append_left (List.getElem?_eq_some_iff.1 g1).1]; exact g1, g2⟩
theorem nextRow_spec (l : Lo) (b : Ps) (Good : Ps → Prop) (hN : ∀ x : List Ps, x.Nodup → (∀ s ∈ x, Good s) → x.length ≤ 64) : ∀ (r done sets : List Ps) (out : List Int), sets.Nodup → (∀ s ∈ sets, Good s) → (∀ m ∈ r, b &&& m ≠ 0 → Good (b &&& m)) → RowOk done sets b out →
    ∃ ext out', nextRow l b r sets out = some (sets ++ ext, out') ∧ (sets ++ ext).Nodup ∧ (∀ s ∈ sets ++ ext, Good s) ∧ RowOk (done ++ r) (sets ++ ext) b out'
  | [], done, sets, out, h1, h2, _, h4 => ⟨[], out, by simp [nextRow], by simpa using h1, by simpa using h2, by simpa using h4⟩
  | m :: r, done, sets, out, h1, h2, h3, h4 => by
    have h3' : ∀ m ∈ r, b &&& m ≠ 0 → Good (b &&& m) := fun x hx => h3 x (List.mem_cons_of_mem _ hx)
    have go : ∀ (x : List Ps) (v : Int), ((b &&& m = 0 ∧ v = -1) ∨ (b &&& m ≠ 0 ∧ ∃ j : Nat, (sets ++ x)[j]? = some (b &&& m) ∧ v = (j : Int) + 1)) → RowOk (done ++ [m]) (sets ++ x) b (out ++ [v]) := by
      intro x v hv
      have h5 := h4.ext x
      refine ⟨by simp [h4.1], fun k hk => ?_⟩
      rw [getD_snoc, getD_snoc, h4.1]
      rw [List.length_append, List.length_singleton] at hk
      by_cases hlt : k < done.length
      · rw [if_pos hlt, if_pos hlt]; exact h5.2 k hlt
      · have e : k = done.length := by omega
        rw [if_neg hlt, if_pos e, if_neg hlt, if_pos e]; exact hv
    unfold nextRow
    dsimp only
    by_cases h0 : b &&& m = 0
    · rw [if_pos h0]
      have h5 := go [] (-1) (.inl ⟨h0, rfl⟩)
      rw [List.append_nil] at h5
      obtain ⟨ext, out', g1, g2, g3, g4⟩ := nextRow_spec l b Good hN r (done ++ [m]) sets (out ++ [-1]) h1 h2 h3' h5
      exact ⟨ext, out', g1, g2, g3, by rw [List.append_assoc] at g4; exact g4⟩
    · rw [if_neg h0]
      have hg := h3 m List.mem_cons_self h0
      by_cases hi : sets.idxOf (b &&& m) < sets.length
      · rw [if_pos hi]
        have hget : sets[sets.idxOf (b &&& m)]? = some (b &&& m) := by
          rw [List.getElem?_eq_getElem hi, List.getElem_idxOf]
        have h5 := go [] ((sets.idxOf (b &&& m) : Int) + 1) (.inr ⟨h0, _, by rw [List.append_nil]; exact hget, rfl⟩)
        rw [List.append_nil] at h5
        obtain ⟨ext, out', g1, g2, g3, g4⟩ := nextRow_spec l b Good hN r (done ++ [m]) sets _ h1 h2 h3' h5
        exact ⟨ext, out', g1, g2, g3, by rw [List.append_assoc] at g4; exact g4⟩
      · rw [if_neg hi]
        have hnm : b &&& m ∉ sets := fun c => hi (List.idxOf_lt_length_of_mem c)
        have hle : sets.idxOf (b &&& m) = sets.length := by
          have := List.idxOf_le_length (a := b &&& m) (l := sets); omega
        have hl := hN sets h1 h2
        rw [if_neg (by omega), hle]
        have h5 := go [b &&& m] ((sets.length : Int) + 1) (.inr ⟨h0, sets.length, by simp, rfl⟩)
        obtain ⟨ext, out', g1, g2, g3, g4⟩ := nextRow_spec l b Good hN r (done ++ [m]) (sets ++ [b &&& m]) _ (by
          rw [List.nodup_append]
          refine ⟨h1, by simp, fun a ha c hc => ?_⟩
          rw [List.mem_singleton] at hc
          subst hc
          exact fun e => hnm (e ▸ ha)) (fun s hs => by
          rcases List.mem_append.1 hs with hs | hs
          · exact h2 s hs
          · rw [List.mem_singleton] at hs; subst hs; exact hg) h3' h5
        refine ⟨[b &&& m] ++ ext, out', ?_, ?_, ?_, ?_⟩
        · rw [← List.append_assoc]; exact g1
        · rw [← List.append_assoc]; exact g2
        · rw [← List.append_assoc]; exact g3
        · rw [← List.append_assoc]
          rw [List.append_assoc] at g4; exact g4
def bOf (l : Lo) (sets : List Ps) (i : Nat) : Ps := if i = 0 then l.first else behindT l (sets.getD (i - 1) 0)
theorem bOf_ext (l : Lo) (sets x : List Ps) (i : Nat) (h : i ≤ sets.length) : bOf l (sets ++ x) i = bOf l sets i := by
  unfold bOf
  by_cases h0 : i = 0
  · rw [if_pos h0, if_pos h0]
  · rw [if_neg h0, if_neg h0, List.getD_eq_getElem?_getD, List.getElem?_append_left (by omega), ← List.getD_eq_getElem?_getD]
theorem rowsGo_spec (l : Lo) (kinds : List Ps) (Good : Ps → Prop) (hN : ∀ x : List Ps, x.Nodup → (∀ s ∈ x, Good s) → x.length ≤ 64) (hF : ∀ m ∈ kinds, l.first &&& m ≠ 0 → Good (l.first &&& m)) (hB : ∀ s, Good s → ∀ m ∈ kinds, behindT l s &&& m ≠ 0 → Good (behindT l s &&& m)) :
    ∀ (f at_ : Nat) (sets : List Ps) (rows : List (List Int)), sets.Nodup → (∀ s ∈ sets, Good s) → rows.length = at_ → at_ ≤ sets.length + 1 → (∀ i, i < at_ → RowOk kinds sets (bOf l sets i) (rows.getD i [])) → 66 ≤ at_ + f →
      ∃ sets' rows', rowsGo l kinds f at_ sets rows = some (sets', rows') ∧ sets'.Nodup ∧ (∀ s ∈ sets', Good s) ∧ rows'.length = sets'.length + 1 ∧ ∀ i, i ≤ sets'.length → RowOk kinds sets' (bOf l sets' i) (rows'.getD i [])
  | 0, at_, sets, rows, h1, h2, _, h4, _, hf => by
    have := hN sets h1 h2; omega
  | f + 1, at_, sets, rows, h1, h2, h3, h4, h5, hf => by
    unfold rowsGo
    by_cases hle : at_ ≤ sets.length
    · rw [if_pos hle]
      have eb : (if at_ = 0 then l.first else behindT l (sets.getD (at_ - 1) 0)) = bOf l sets at_ := rfl
      rw [eb]
      have hgood : ∀ m ∈ kinds, bOf l sets at_ &&& m ≠ 0 → Good (bOf l sets at_ &&& m) := by
        unfold bOf
        by_cases h0 : at_ = 0
        · rw [if_pos h0]; exact hF
        · rw [if_neg h0]
          refine hB _ (h2 _ ?_)
          rw [List.getD_eq_getElem?_getD, List.getElem?_eq_getElem (by omega)]
          exact List.getElem_mem _
      obtain ⟨ext, out', g1, g2, g3, g4⟩ := nextRow_spec l (bOf l sets at_) Good hN kinds [] sets [] h1 h2 hgood ⟨rfl, fun k hk => absurd hk (by simp)⟩
      rw [g1]
      dsimp only
      rw [List.nil_append] at g4
      refine rowsGo_spec l kinds Good hN hF hB f (at_ + 1) (sets ++ ext) (rows ++ [out']) g2 g3 (by simp [h3]) (by simp; omega) (fun i hi => ?_) (by omega)
      rw [getD_snoc, h3, bOf_ext l sets ext i (by omega)]
      by_cases hlt : i < at_
      · rw [if_pos hlt]; exact (h5 i hlt).ext ext
      · have : i = at_ := by omega
        subst this
        rw [if_neg hlt, if_pos rfl]; exact g4
    · rw [if_neg hle]
      exact ⟨sets, rows, rfl, h1, h2, by omega, fun i hi => h5 i (by omega)⟩
/-- At most so many numbers below n. -/
theorem nodup_lt : ∀ (n : Nat) (l : List Nat), l.Nodup → (∀ x ∈ l, x < n) → l.length ≤ n
  | 0, l, _, h => by
    rcases l with _ | ⟨a, l⟩
    · simp
    · exact absurd (h a List.mem_cons_self) (Nat.not_lt_zero _)
  | n + 1, l, hd, h => by
    by_cases hm : n ∈ l
    · have := nodup_lt n (l.erase n) (hd.erase n) (fun x hx => by
        have h1 := (List.Nodup.mem_erase_iff hd).1 hx
        have := h x h1.2
        have := h1.1
        omega)
      rw [List.length_erase_of_mem hm] at this
      omega
    · have := nodup_lt n l hd (fun x hx => by
        have h1 := h x hx
        have : x ≠ n := fun e => hm (e ▸ hx)
        omega)
      omega
theorem nodup_map {α : Type} (f : α → Nat) : ∀ (l : List α), l.Nodup → (∀ x ∈ l, ∀ y ∈ l, f x = f y → x = y) → (l.map f).Nodup
  | [], _, _ => by simp
  | a :: l, hd, h => by
    rw [List.nodup_cons] at hd
    rw [List.map_cons, List.nodup_cons]
    refine ⟨fun hm => ?_, nodup_map f l hd.2 (fun x hx y hy => h x (List.mem_cons_of_mem _ hx) y (List.mem_cons_of_mem _ hy))⟩
    obtain ⟨b, hb, e⟩ := List.mem_map.1 hm
    exact hd.1 ((h a List.mem_cons_self b (List.mem_cons_of_mem _ hb) e.symm) ▸ hb)
end Go.Proofs.YtlhokghgicgppaaGreatDoor.Sg

namespace Go.Proofs.YtlhokghgicgppaaGreatDoor.Sg
open Go

theorem off_next (ws : List Bs) (i : Nat) (h : i < ws.length) : off ws (i + 1) = off ws i + (ws.getD i []).length := by
  unfold off
  rw [List.take_add_one, List.getElem?_eq_getElem h, List.flatten_append, List.length_append, List.getD_eq_getElem?_getD, List.getElem?_eq_getElem h]
  simp only [Option.toList_some, List.flatten_cons, List.flatten_nil, List.append_nil, Option.getD_some]
theorem off_mono (ws : List Bs) : ∀ (d i : Nat), off ws i ≤ off ws (i + d)
  | 0, _ => Nat.le_refl _
  | d + 1, i => by
    have h1 := off_mono ws d i
    rw [show i + (d + 1) = i + d + 1 by omega]
    by_cases h : i + d < ws.length
    · rw [off_next ws _ h]; omega
    · have : off ws (i + d + 1) = off ws (i + d) := by unfold off; rw [List.take_of_length_le (by omega), List.take_of_length_le (by omega)]
      omega
theorem off_inj {ws : List Bs} {i j i' j' : Nat} (hi : i < ws.length) (hi' : i' < ws.length) (hj : j < (ws.getD i []).length) (hj' : j' < (ws.getD i' []).length) (e : off ws i + j = off ws i' + j') : i = i' ∧ j = j' := by
  rcases Nat.lt_trichotomy i i' with h | h | h
  · have h1 := off_next ws i hi
    have h2 := off_mono ws (i' - (i + 1)) (i + 1)
    rw [show i + 1 + (i' - (i + 1)) = i' by omega] at h2
    omega
  · subst h; exact ⟨rfl, by omega⟩
  · have h1 := off_next ws i' hi'
    have h2 := off_mono ws (i - (i' + 1)) (i' + 1)
    rw [show i' + 1 + (i - (i' + 1)) = i by omega] at h2
    omega
theorem flat_off (ws : List Bs) (i j : Nat) (hi : i < ws.length) (hj : j < (ws.getD i []).length) : ws.flatten[off ws i + j]? = (ws.getD i [])[j]? := by
  have e : ws.flatten = (ws.take i).flatten ++ ((ws.getD i []) ++ (ws.drop (i + 1)).flatten) := by
    conv => lhs; rw [← List.take_append_drop i ws, List.flatten_append]
    rw [List.drop_eq_getElem_cons hi, List.flatten_cons, List.getD_eq_getElem?_getD, List.getElem?_eq_getElem hi]
    rfl
  rw [e, List.getElem?_append_right (by unfold off; omega)]
  unfold off
  rw [Nat.add_sub_cancel_left, List.getElem?_append_left hj]
/-- The places of the words that begin with u: those of u's last letter; those behind it. -/
def IsSet (ws : List Bs) (u : Bs) (s : Ps) : Prop := ∀ p, s.testBit p = true ↔ ∃ i, i < ws.length ∧ u <+: ws.getD i [] ∧ p + 1 = off ws i + u.length
def IsB (ws : List Bs) (u : Bs) (b : Ps) : Prop := ∀ p, b.testBit p = true ↔ ∃ i, i < ws.length ∧ u <+: ws.getD i [] ∧ u.length < (ws.getD i []).length ∧ p = off ws i + u.length
theorem first_isB {ws : List Bs} {lo : Lo} (h : LoOk ws lo) (hne : ∀ s ∈ ws, s ≠ []) : IsB ws [] lo.first := fun p => by
  rw [h.first]
  constructor
  · rintro ⟨i, hi, e⟩
    refine ⟨i, hi, List.nil_prefix, ?_, by simpa using e⟩
    rw [List.getD_eq_getElem?_getD, List.getElem?_eq_getElem hi]
    exact Nat.pos_of_ne_zero (fun c => hne _ (List.getElem_mem hi) (List.eq_nil_of_length_eq_zero c))
  · rintro ⟨i, hi, _, _, e⟩
    exact ⟨i, hi, by simpa using e⟩
theorem foldl_or_get (f : Nat → Bool) (g : Nat → Nat) : ∀ (l : List Nat) (a p : Nat), (l.foldl (fun a i => if f i = true then a ||| g i else a) a).testBit p = true ↔ a.testBit p = true ∨ ∃ i ∈ l, f i = true ∧ (g i).testBit p = true
  | [], a, p => by simp
  | i :: l, a, p => by
    rw [List.foldl_cons, foldl_or_get f g l]
    by_cases hf : f i = true
    · rw [if_pos hf, Nat.testBit_or, Bool.or_eq_true]
      constructor
      · rintro ((h | h) | ⟨x, h1, h2⟩)
        · exact .inl h
        · exact .inr ⟨i, List.mem_cons_self, hf, h⟩
        · exact .inr ⟨x, List.mem_cons_of_mem _ h1, h2⟩
      · rintro (h | ⟨x, h1, h2, h3⟩)
        · exact .inl (.inl h)
        · rcases List.mem_cons.1 h1 with rfl | h1
          · exact .inl (.inr h3)
          · exact .inr ⟨x, h1, h2, h3⟩
    · rw [if_neg hf]
      constructor
      · rintro (h | ⟨x, h1, h2⟩)
        · exact .inl h
        · exact .inr ⟨x, List.mem_cons_of_mem _ h1, h2⟩
      · rintro (h | ⟨x, h1, h2, h3⟩)
        · exact .inl h
        · rcases List.mem_cons.1 h1 with rfl | h1
          · exact absurd h2 hf
          · exact .inr ⟨x, h1, h2, h3⟩
theorem behind_isB {ws : List Bs} {lo : Lo} (h : LoOk ws lo) {u : Bs} (hu : u ≠ []) {s : Ps} (hs : IsSet ws u s) : IsB ws u (behindT lo s) := fun p => by
  have hul : 0 < u.length := Nat.pos_of_ne_zero (fun c => hu (List.eq_nil_of_length_eq_zero c))
  have e : behindT lo s = (List.range lo.lt.follow.length).foldl (fun a i => if s.testBit i = true then a ||| lo.lt.follow.getD i 0 else a) 0 := rfl
  rw [e, foldl_or_get (fun i => s.testBit i) (fun i => lo.lt.follow.getD i 0)]
  simp only [Nat.zero_testBit, Bool.false_eq_true, false_or, List.mem_range]
  constructor
  · rintro ⟨q, _, h2, h3⟩
    obtain ⟨i, hi, hp, hq⟩ := (hs q).1 h2
    have hle := hp.length_le
    have hq' : q = off ws i + (u.length - 1) := by omega
    rw [hq', h.fol i (u.length - 1) hi (by omega)] at h3
    by_cases hlt : u.length - 1 + 1 < (ws.getD i []).length
    · rw [if_pos hlt, Nat.testBit_two_pow, decide_eq_true_eq] at h3
      exact ⟨i, hi, hp, by omega, by omega⟩
    · rw [if_neg hlt] at h3; simp at h3
  · rintro ⟨i, hi, hp, hlt, rfl⟩
    have hin := off_in ws i hi
    refine ⟨off ws i + (u.length - 1), by rw [h.flen]; omega, (hs _).2 ⟨i, hi, hp, by omega⟩, ?_⟩
    rw [h.fol i (u.length - 1) hi (by omega), if_pos (by omega), Nat.testBit_two_pow, decide_eq_true_eq]
    omega
theorem prefix_snoc {u w : Bs} {x : UInt8} : u ++ [x] <+: w ↔ u <+: w ∧ u.length < w.length ∧ w[u.length]? = some x := by
  constructor
  · rintro ⟨r, rfl⟩
    refine ⟨⟨[x] ++ r, by simp⟩, by simp, ?_⟩
    rw [List.append_assoc, List.getElem?_append_right (Nat.le_refl _)]
    simp
  · rintro ⟨⟨r, rfl⟩, h1, h2⟩
    rw [List.getElem?_append_right (Nat.le_refl _), Nat.sub_self] at h2
    rcases r with _ | ⟨y, r⟩
    · simp at h2
    · simp at h2
      subst h2
      exact ⟨r, by simp⟩
theorem isB_step {ws : List Bs} {lo : Lo} (h : LoOk ws lo) {u : Bs} {b : Ps} (hb : IsB ws u b) (x : UInt8) : IsSet ws (u ++ [x]) (b &&& matchT lo (x.toNat : Int)) := fun p => by
  rw [Nat.testBit_and, Bool.and_eq_true, hb p, matchT_bit h]
  have hx : ∀ y : UInt8, ((x.toNat : Int) = (y.toNat : Int)) ↔ y = x := fun y => ⟨fun e => UInt8.toNat_inj.1 (by omega), fun e => by rw [e]⟩
  constructor
  · rintro ⟨⟨i, hi, hp, hlt, rfl⟩, ⟨y, h1, h2⟩⟩
    rw [flat_off ws i _ hi hlt] at h1
    have := (hx y).1 h2
    subst this
    exact ⟨i, hi, prefix_snoc.2 ⟨hp, hlt, h1⟩, by simp; omega⟩
  · rintro ⟨i, hi, hp, e⟩
    obtain ⟨h1, h2, h3⟩ := prefix_snoc.1 hp
    rw [List.length_append, List.length_singleton] at e
    have ep : p = off ws i + u.length := by omega
    subst ep
    exact ⟨⟨i, hi, h1, h2, rfl⟩, x, by rw [flat_off ws i _ hi h2]; exact h3, rfl⟩
theorem isSet_uniq {ws : List Bs} {u : Bs} {s t : Ps} (h1 : IsSet ws u s) (h2 : IsSet ws u t) : s = t := by
  apply Nat.eq_of_testBit_eq
  intro p
  have := (h1 p).trans (h2 p).symm
  cases hs : s.testBit p <;> cases ht : t.testBit p <;> simp_all
theorem isSet_same {ws : List Bs} {u v : Bs} {s t : Ps} (hu : u ≠ []) (hv : v ≠ []) (h1 : IsSet ws u s) (h2 : IsSet ws v t) (p : Nat) (hs : s.testBit p = true) (ht : t.testBit p = true) : u = v := by
  obtain ⟨i, hi, a1, a2⟩ := (h1 p).1 hs
  obtain ⟨j, hj, b1, b2⟩ := (h2 p).1 ht
  have hul : 0 < u.length := Nat.pos_of_ne_zero (fun c => hu (List.eq_nil_of_length_eq_zero c))
  have hvl : 0 < v.length := Nat.pos_of_ne_zero (fun c => hv (List.eq_nil_of_length_eq_zero c))
  have l1 := a1.length_le
  have l2 := b1.length_le
  obtain ⟨rfl, e⟩ := off_inj hi hj (j := u.length - 1) (j' := v.length - 1) (by omega) (by omega) (by omega)
  rw [List.prefix_iff_eq_take] at a1 b1
  rw [a1, b1, show u.length = v.length by omega]
/-- A set that is reached. -/
def Got1 (ws : List Bs) (s : Ps) : Prop := s ≠ 0 ∧ ∃ u, u ≠ [] ∧ IsSet ws u s
theorem got_few {ws : List Bs} (h64 : ws.flatten.length ≤ 64) : ∀ x : List Ps, x.Nodup → (∀ s ∈ x, Got1 ws s) → x.length ≤ 64 := by
  intro x hd hg
  have hch : ∀ s : Ps, ∃ p : Nat, Got1 ws s → s.testBit p = true := fun s => by
    by_cases g : Got1 ws s
    · obtain ⟨p, hp⟩ := Nat.exists_testBit_of_ne_zero g.1
      exact ⟨p, fun _ => hp⟩
    · exact ⟨0, fun c => absurd c g⟩
  obtain ⟨f, hf⟩ := Classical.axiomOfChoice hch
  have h1 : (x.map f).Nodup := nodup_map f x hd (fun s hs t ht e => by
    obtain ⟨_, u, hu, su⟩ := hg s hs
    obtain ⟨_, v, hv, sv⟩ := hg t ht
    have b1 := hf s (hg s hs)
    have b2 := hf t (hg t ht)
    rw [← e] at b2
    have := isSet_same hu hv su sv _ b1 b2
    subst this
    exact isSet_uniq su sv)
  have h2 := nodup_lt 64 (x.map f) h1 (fun y hy => by
    obtain ⟨s, hs, rfl⟩ := List.mem_map.1 hy
    obtain ⟨_, u, hu, su⟩ := hg s hs
    obtain ⟨i, hi, a1, a2⟩ := (su _).1 (hf s (hg s hs))
    have := off_in ws i hi
    have := a1.length_le
    omega)
  rwa [List.length_map] at h2
theorem rows_abc {ws : List Bs} {lo : Lo} (h : LoOk ws lo) (hk : KindOk lo) (hne : ∀ s ∈ ws, s ≠ []) (h64 : ws.flatten.length ≤ 64) : ∃ sets rows, rowsGo lo (kindRows lo).2 202 0 [] [] = some (sets, rows) ∧ (∀ s ∈ sets, Got1 ws s) ∧ sets.length ≤ 64 ∧ rows.length = sets.length + 1 ∧ ∀ i, i ≤ sets.length → RowOk (kindRows lo).2 sets (bOf lo sets i) (rows.getD i []) := by
  have key : ∀ (u : Bs) (b : Ps), IsB ws u b → ∀ m ∈ (kindRows lo).2, b &&& m ≠ 0 → Got1 ws (b &&& m) := fun u b hb m hm h0 => by
    rcases hk.km m hm with rfl | ⟨c, hc, rfl⟩
    · simp at h0
    · refine ⟨h0, ?_⟩
      obtain ⟨x, hx⟩ : ∃ x : UInt8, (x.toNat : Int) = c := by
        rcases hc with rfl | rfl | rfl
        · exact ⟨97, rfl⟩
        · exact ⟨98, rfl⟩
        · exact ⟨99, rfl⟩
      subst hx
      exact ⟨u ++ [x], by simp, isB_step h hb x⟩
  obtain ⟨sets, rows, g1, g2, g3, g4, g5⟩ := rowsGo_spec lo (kindRows lo).2 (Got1 ws) (got_few h64) (key [] _ (first_isB h hne)) (fun s ⟨_, u, hu, su⟩ => key u _ (behind_isB h hu su)) 202 0 [] [] (by simp) (by simp) rfl (by simp) (fun i hi => absurd hi (by simp)) (by omega)
  exact ⟨sets, rows, g1, g3, got_few h64 _ g2 g3, g4, g5⟩
end Go.Proofs.YtlhokghgicgppaaGreatDoor.Sg

namespace Go.Proofs.YtlhokghgicgppaaGreatDoor.Sg
open Go

/-- A machine that knows words. -/
structure Knows (ws : List Bs) (m : Mach) (St : Bs → Nat → Prop) : Prop where
  ok : m.Ok
  up : m.Up
  st0 : St [] 0
  go : ∀ u st x, St u st → abc x → (m.after st (x.toNat : Int) = -1 ∧ ∀ w ∈ ws, ¬ u ++ [x] <+: w) ∨ ∃ st' : Nat, m.after st (x.toNat : Int) = st' ∧ St (u ++ [x]) st'
  rl : ∀ u st, St u st → u ≠ [] → (m.rule st = -1 ∧ u ∉ ws) ∨ (u ∈ ws ∧ m.rule st = (ws.idxOf u : Int))
theorem ruleGo_spec (s : Ps) : ∀ (l : List Ps) (i : Nat), (ruleGo s l i = -1 ∧ ∀ j, j < l.length → s &&& l.getD j 0 = 0) ∨ ∃ j, j < l.length ∧ ruleGo s l i = ((i + j : Nat) : Int) ∧ s &&& l.getD j 0 ≠ 0 ∧ ∀ k, k < j → s &&& l.getD k 0 = 0
  | [], _ => .inl ⟨rfl, fun _ h => absurd h (by simp)⟩
  | x :: r, i => by
    unfold ruleGo
    by_cases h : s &&& x = 0
    · rw [if_pos h]
      rcases ruleGo_spec s r (i + 1) with ⟨h1, h2⟩ | ⟨j, h1, h2, h3, h4⟩
      · refine .inl ⟨h1, fun j hj => ?_⟩
        rcases j with _ | j
        · exact h
        · exact h2 j (by simpa using hj)
      · refine .inr ⟨j + 1, by simpa using h1, by rw [h2]; omega, h3, fun k hk => ?_⟩
        rcases k with _ | k
        · exact h
        · exact h4 k (by omega)
    · rw [if_neg h]
      exact .inr ⟨0, by simp, rfl, h, fun k hk => absurd hk (Nat.not_lt_zero _)⟩
theorem and_pow_zero (s q : Nat) : s &&& 2 ^ q = 0 ↔ ¬ s.testBit q = true := by
  constructor
  · intro h c
    have : (s &&& 2 ^ q).testBit q = true := by rw [Nat.testBit_and, c, Nat.testBit_two_pow_self]; rfl
    rw [h] at this; simp at this
  · intro h
    apply Nat.eq_of_testBit_eq
    intro p
    rw [Nat.testBit_and, Nat.testBit_two_pow, Nat.zero_testBit]
    by_cases e : q = p
    · subst e; simp at h; rw [h]; rfl
    · simp [e]
theorem idxOf_first (u : Bs) : ∀ (ws : List Bs) (j : Nat), j < ws.length → ws.getD j [] = u → (∀ k, k < j → ws.getD k [] ≠ u) → ws.idxOf u = j
  | [], _, h, _, _ => absurd h (by simp)
  | w :: ws, 0, _, h2, _ => by
    have : w = u := h2
    rw [List.idxOf_cons, this]; simp
  | w :: ws, j + 1, h1, h2, h3 => by
    have h0 : w ≠ u := h3 0 (by omega)
    rw [List.idxOf_cons, beq_eq_false_iff_ne.2 h0]
    simp only [cond_false]
    rw [idxOf_first u ws j (by simpa using h1) h2 (fun k hk => h3 (k + 1) (by omega))]
theorem getD_mem {ws : List Bs} {i : Nat} (h : i < ws.length) : ws.getD i [] ∈ ws := by
  rw [List.getD_eq_getElem?_getD, List.getElem?_eq_getElem h]; exact List.getElem_mem h
theorem mem_getD {ws : List Bs} {w : Bs} (h : w ∈ ws) : ∃ i, i < ws.length ∧ ws.getD i [] = w := by
  obtain ⟨i, hi, e⟩ := List.mem_iff_getElem.1 h
  exact ⟨i, hi, by rw [List.getD_eq_getElem?_getD, List.getElem?_eq_getElem hi]; exact e⟩
theorem ruleT_abc {ws : List Bs} {lo : Lo} (h : LoOk ws lo) (hne : ∀ s ∈ ws, s ≠ []) {u : Bs} (hu : u ≠ []) {s : Ps} (hs : IsSet ws u s) : (ruleT lo s = -1 ∧ u ∉ ws) ∨ (u ∈ ws ∧ ruleT lo s = (ws.idxOf u : Int)) := by
  have hul : 0 < u.length := Nat.pos_of_ne_zero (fun c => hu (List.eq_nil_of_length_eq_zero c))
  have key : ∀ i, i < ws.length → (s &&& lo.last.getD i 0 = 0 ↔ ¬ ws.getD i [] = u) := fun i hi => by
    have hwl : 0 < (ws.getD i []).length := Nat.pos_of_ne_zero (fun c => hne _ (getD_mem hi) (List.eq_nil_of_length_eq_zero c))
    rw [h.last i hi, and_pow_zero]
    refine not_congr ?_
    rw [hs]
    constructor
    · rintro ⟨j, hj, hp, e⟩
      have hle := hp.length_le
      obtain ⟨rfl, e2⟩ := off_inj hi hj (j := (ws.getD i []).length - 1) (j' := u.length - 1) (by omega) (by omega) (by omega)
      exact (hp.eq_of_length (by omega)).symm
    · intro e
      exact ⟨i, hi, by rw [e]; exact List.prefix_refl _, by rw [e]; omega⟩
  rcases ruleGo_spec s lo.last 0 with ⟨h1, h2⟩ | ⟨j, h1, h2, h3, h4⟩
  · refine .inl ⟨h1, fun c => ?_⟩
    obtain ⟨i, hi, e⟩ := mem_getD c
    exact (key i hi).1 (h2 i (by rw [h.llen]; exact hi)) e
  · rw [h.llen] at h1
    have hj : ws.getD j [] = u := by
      by_cases g : ws.getD j [] = u
      · exact g
      · exact absurd ((key j h1).2 g) h3
    refine .inr ⟨hj ▸ getD_mem h1, ?_⟩
    rw [idxOf_first u ws j h1 hj (fun k hk => (key k (by omega)).1 (h4 k hk))]
    show ruleGo s lo.last 0 = _
    rw [h2, Nat.zero_add]
theorem knows_abc {ws : List Bs} {lo : Lo} (h : LoOk ws lo) (hk : KindOk lo) (hne : ∀ s ∈ ws, s ≠ []) (sets : List Ps) (rows : List (List Int)) (hg : ∀ s ∈ sets, Got1 ws s) (h64 : sets.length ≤ 64) (hrl : rows.length = sets.length + 1) (hr : ∀ i, i ≤ sets.length → RowOk (kindRows lo).2 sets (bOf lo sets i) (rows.getD i [])) :
    ∃ St, Knows ws ⟨(kindRows lo).1, ((-1 :: sets.map (ruleT lo)).zip rows)⟩ St := by
  generalize hm : (⟨(kindRows lo).1, ((-1 :: sets.map (ruleT lo)).zip rows)⟩ : Mach) = m
  have hc : m.cuts = (kindRows lo).1 := by rw [← hm]
  have hsl : m.states.length = sets.length + 1 := by rw [← hm]; simp [hrl]
  have hst : ∀ i, i < sets.length + 1 → m.states.getD i (0, []) = ((-1 :: sets.map (ruleT lo)).getD i 0, rows.getD i []) := fun i hi => by
    rw [← hm]
    simp only [List.getD_eq_getElem?_getD]
    rw [List.getElem?_eq_getElem (l := ((-1 :: sets.map (ruleT lo)).zip rows)) (by simp [hrl]; omega), List.getElem_zip, List.getElem?_eq_getElem (l := (-1 :: sets.map (ruleT lo))) (by simp; omega), List.getElem?_eq_getElem (l := rows) (by omega)]
    rfl
  have hwd : ∀ i, i < sets.length + 1 → m.width i = (kindRows lo).2.length := fun i hi => by
    unfold Mach.width; rw [hst i hi]; exact (hr i (by omega)).1
  have hnx : ∀ i k, i < sets.length + 1 → m.next i k = (rows.getD i []).getD k 0 := fun i k hi => by
    unfold Mach.next; rw [hst i hi]
  have hru : ∀ j s, sets[j]? = some s → m.rule (j + 1) = ruleT lo s := fun j s hj => by
    have hjl := (List.getElem?_eq_some_iff.1 hj).1
    unfold Mach.rule; rw [hst (j + 1) (by omega)]
    show (-1 :: sets.map (ruleT lo)).getD (j + 1) 0 = _
    rw [List.getD_cons_succ, List.getD_eq_getElem?_getD, List.getElem?_map, hj]; rfl
  have hok : m.Ok := by
    refine ⟨by rw [hc]; exact hk.c0, by rw [hc]; have := hk.cN; omega, fun i hi => ?_, fun i hi s hs => ?_, fun s hs k hkk => ?_, by omega, by omega, fun s hs => ?_⟩
    · rw [kind_at hi]; have hx : m.cuts[i] ∈ (kindRows lo).1 := hc ▸ List.getElem_mem hi; exact (hk.k0 _ hx).1
    · rw [hsl] at hs
      have hx : m.cuts[i] ∈ (kindRows lo).1 := hc ▸ List.getElem_mem hi
      rw [kind_at hi, hwd s hs]; exact (hk.k0 _ hx).2
    · rw [hsl] at hs
      rw [hwd s hs] at hkk
      rw [hnx s k hs]
      rcases (hr s (by omega)).2 k hkk with ⟨_, e⟩ | ⟨_, j, e1, e2⟩
      · exact .inl e
      · have := (List.getElem?_eq_some_iff.1 e1).1
        exact .inr ⟨by omega, by omega⟩
    · rw [hsl] at hs
      rw [hwd s hs]; have := hk.kN; omega
  have hup : m.Up := ⟨by rw [hc]; exact hk.up, by rw [hc]; exact hk.z⟩
  refine ⟨fun u st => (u = [] ∧ st = 0) ∨ (u ≠ [] ∧ ∃ j s, st = j + 1 ∧ sets[j]? = some s ∧ IsSet ws u s), hok, hup, .inl ⟨rfl, rfl⟩, ?_, ?_⟩
  · intro u st x hu hx
    have hb : st < sets.length + 1 ∧ IsB ws u (bOf lo sets st) := by
      rcases hu with ⟨rfl, rfl⟩ | ⟨hne', j, s, rfl, h2, h3⟩
      · exact ⟨by omega, first_isB h hne⟩
      · refine ⟨by have := (List.getElem?_eq_some_iff.1 h2).1; omega, ?_⟩
        have e : bOf lo sets (j + 1) = behindT lo s := by
          unfold bOf
          rw [if_neg (by omega), Nat.add_sub_cancel, List.getD_eq_getElem?_getD, h2]; rfl
        rw [e]; exact behind_isB h hne' h3
    obtain ⟨hlt, hB⟩ := hb
    have hset := isB_step h hB x
    have hhit := hk.hit (x.toNat : Int) (by unfold abc at hx; omega)
    have hci := cutIx_lt (kindRows lo).1 (x.toNat : Int) hk.c0
    have haf : m.after st (x.toNat : Int) = (rows.getD st []).getD (kindAt (kindRows lo).1 (cutIx (kindRows lo).1 (x.toNat : Int))).toNat 0 := by
      unfold Mach.after Mach.kind
      rw [hnx _ _ hlt, hc]
    have hkl : (kindAt (kindRows lo).1 (cutIx (kindRows lo).1 (x.toNat : Int))).toNat < (kindRows lo).2.length := by
      rw [kind_at hci]
      have := hk.k0 _ (List.getElem_mem hci)
      omega
    rcases (hr st (by omega)).2 _ hkl with ⟨e1, e2⟩ | ⟨e1, j, e2, e3⟩
    · left
      refine ⟨by rw [haf]; exact e2, fun w hw hp => ?_⟩
      obtain ⟨i, hi, e⟩ := mem_getD hw
      rw [hhit] at e1
      rw [e1] at hset
      have := (hset (off ws i + u.length)).2 ⟨i, hi, by rw [e]; exact hp, by simp; omega⟩
      simp at this
    · right
      rw [hhit] at e2
      exact ⟨j + 1, by rw [haf, e3]; omega, .inr ⟨by simp, j, _, rfl, e2, hset⟩⟩
  · intro u st hu hne'
    rcases hu with ⟨rfl, _⟩ | ⟨_, j, s, rfl, h2, h3⟩
    · exact absurd rfl hne'
    · rw [hru j s h2]; exact ruleT_abc h hne hne' h3

/-! ### the walk -/
def BestAt (ws : List Bs) (t : Bs) (p : Nat) (rule : Int) (len : Nat) : Prop := (len = 0 ∧ rule = -1 ∧ ∀ n, 1 ≤ n → n ≤ p → t.take n ∉ ws) ∨ (1 ≤ len ∧ len ≤ p ∧ t.take len ∈ ws ∧ rule = (ws.idxOf (t.take len) : Int) ∧ ∀ n, len < n → n ≤ p → t.take n ∉ ws)
structure WkI (ws : List Bs) (St : Bs → Nat → Prop) (t : Bs) (k : Wk) : Prop where
  le : k.passed ≤ t.length
  best : BestAt ws t k.passed k.rule k.length
  dead : k.state = -1 → ∀ w ∈ ws, ¬ t.take k.passed <+: w
  live : k.state ≠ -1 → ∃ st : Nat, k.state = st ∧ St (t.take k.passed) st
theorem BestAt.miss {ws : List Bs} {t : Bs} {p : Nat} {rule : Int} {len : Nat} (h : BestAt ws t p rule len) (hn : t.take (p + 1) ∉ ws) : BestAt ws t (p + 1) rule len := by
  rcases h with ⟨h1, h2, h3⟩ | ⟨h1, h2, h3, h4, h5⟩
  · refine .inl ⟨h1, h2, fun n a b => ?_⟩
    by_cases e : n = p + 1
    · rw [e]; exact hn
    · exact h3 n a (by omega)
  · refine .inr ⟨h1, by omega, h3, h4, fun n a b => ?_⟩
    by_cases e : n = p + 1
    · rw [e]; exact hn
    · exact h5 n a (by omega)
theorem WkI.step {ws : List Bs} {m : Mach} {St : Bs → Nat → Prop} (hk : Knows ws m St) {t : Bs} (ht : Abc t) {k : Wk} (h : WkI ws St t k) (hs : k.state ≠ -1) (hf : full (t.drop k.passed) = true) : WkI ws St t (stepW m k (t.drop k.passed)) := by
  obtain ⟨st, e, hS⟩ := h.live hs
  have hlt : k.passed < t.length := by
    rcases Nat.lt_or_ge k.passed t.length with q | q
    · exact q
    · exact absurd (List.drop_of_length_le q) (full_ne hf)
  have hx := ht t[k.passed] (List.getElem_mem hlt)
  have htk : t.take (k.passed + 1) = t.take k.passed ++ [t[k.passed]] := by rw [List.take_add_one, List.getElem?_eq_getElem hlt]; rfl
  rw [List.drop_eq_getElem_cons hlt]
  unfold stepW
  rw [dec_abc hx, if_neg (by unfold abc at hx; show ¬ (t[k.passed].toNat = 65533 ∧ 1 = 1); omega), e]
  dsimp only
  rw [Int.toNat_natCast]
  rcases hk.go _ st _ hS hx with ⟨g1, g2⟩ | ⟨st', g1, g2⟩
  · rw [if_pos g1]
    rw [← htk] at g2
    exact ⟨hlt, h.best.miss (fun c => g2 _ c (List.prefix_refl _)), fun _ => g2, fun c => absurd rfl c⟩
  · rw [g1, if_neg (by omega), Int.toNat_natCast]
    rw [← htk] at g2
    have hne : t.take (k.passed + 1) ≠ [] := fun c => by rw [htk] at c; exact absurd (List.append_eq_nil_iff.1 c).2 (by simp)
    rcases hk.rl _ st' g2 hne with ⟨r1, r2⟩ | ⟨r1, r2⟩
    · rw [if_pos r1]
      exact ⟨hlt, h.best.miss r2, fun c => absurd c (by show ¬ (st' : Int) = -1; omega), fun _ => ⟨st', rfl, g2⟩⟩
    · rw [if_neg (by rw [r2]; omega)]
      refine ⟨hlt, .inr ⟨by show 1 ≤ k.passed + 1; omega, Nat.le_refl _, r1, r2, fun n a b => ?_⟩, fun c => absurd c (by show ¬ (st' : Int) = -1; omega), fun _ => ⟨st', rfl, g2⟩⟩
      have a' : k.passed + 1 < n := a
      have b' : n ≤ k.passed + 1 := b
      omega
theorem wkI_goes {ws : List Bs} {m : Mach} {St : Bs → Nat → Prop} (hk : Knows ws m St) {t : Bs} (ht : Abc t) : ∀ {n : Nat} {k k' : Wk}, WkI ws St t k → Goes m t n k k' → WkI ws St t k'
  | 0, k, k', hi, h => by cases h; exact hi
  | n + 1, k, k', hi, h => wkI_goes hk ht (hi.step hk ht h.1 h.2.1) h.2.2
theorem wkOf_best {ws : List Bs} {m : Mach} {St : Bs → Nat → Prop} (hk : Knows ws m St) {t : Bs} (ht : Abc t) : BestAt ws t t.length (wkOf m t).rule (wkOf m t).length := by
  obtain ⟨n, hn⟩ := wkOf_goes m t
  have hi := wkI_goes hk ht (k := Wk.zero) ⟨Nat.zero_le _, .inl ⟨rfl, rfl, fun n a b => by have b' : n ≤ 0 := b; omega⟩, fun c => absurd c (by show ¬ (0 : Int) = -1; omega), fun _ => ⟨0, rfl, hk.st0⟩⟩ hn
  have he := wkOf_end m hk.ok t
  generalize wkOf m t = k at *
  have more : ∀ n, k.passed < n → n ≤ t.length → t.take n ∉ ws := fun n a b c => by
    by_cases hs : k.state = -1
    · refine hi.dead hs _ c ?_
      rw [List.prefix_iff_eq_take, List.length_take, List.take_take]
      congr 1; omega
    · refine he ⟨hs, ?_⟩
      have hlt : k.passed < t.length := by omega
      rw [List.drop_eq_getElem_cons hlt]
      exact full_abc (ht _ (List.getElem_mem hlt)) _
  have hle := hi.le
  rcases hi.best with ⟨h1, h2, h3⟩ | ⟨h1, h2, h3, h4, h5⟩
  · refine .inl ⟨h1, h2, fun n a b => ?_⟩
    by_cases e : n ≤ k.passed
    · exact h3 n a e
    · exact more n (by omega) b
  · refine .inr ⟨h1, by omega, h3, h4, fun n a b => ?_⟩
    by_cases e : n ≤ k.passed
    · exact h5 n a e
    · exact more n (by omega) b

/-! ### the longest word that stands there -/
/-- Of the first K words, the longest that stands at the head of t; of those the first. -/
def BI (ws : List Bs) (t : Bs) (K : Nat) (best : Int) : Prop := (best = -1 ∧ ∀ k, k < K → ¬ ws.getD k [] <+: t) ∨ ∃ b : Nat, b < K ∧ best = b ∧ ws.getD b [] <+: t ∧ (∀ k, k < K → ws.getD k [] <+: t → (ws.getD k []).length ≤ (ws.getD b []).length) ∧ ∀ k, k < b → ws.getD k [] <+: t → (ws.getD k []).length < (ws.getD b []).length
theorem BI.skip {ws : List Bs} {t : Bs} {K : Nat} {best : Int} (h : BI ws t K best) (hn : ¬ ws.getD K [] <+: t) : BI ws t (K + 1) best := by
  rcases h with ⟨h1, h2⟩ | ⟨b, h1, h2, h3, h4, h5⟩
  · refine .inl ⟨h1, fun k hk => ?_⟩
    by_cases e : k = K
    · rw [e]; exact hn
    · exact h2 k (by omega)
  · refine .inr ⟨b, by omega, h2, h3, fun k hk hp => ?_, h5⟩
    by_cases e : k = K
    · rw [e] at hp; exact absurd hp hn
    · exact h4 k (by omega) hp
theorem BI.keep {ws : List Bs} {t : Bs} {K b : Nat} (h : BI ws t K (b : Int)) (hn : (ws.getD K []).length ≤ (ws.getD b []).length) : BI ws t (K + 1) (b : Int) := by
  rcases h with ⟨h1, _⟩ | ⟨b', h1, h2, h3, h4, h5⟩
  · omega
  · have : b' = b := by omega
    subst this
    refine .inr ⟨b', by omega, rfl, h3, fun k hk hp => ?_, h5⟩
    by_cases e : k = K
    · rw [e]; exact hn
    · exact h4 k (by omega) hp
theorem BI.take {ws : List Bs} {t : Bs} {K : Nat} {best : Int} (h : BI ws t K best) (hp : ws.getD K [] <+: t) (hn : best = -1 ∨ ∃ b : Nat, best = b ∧ (ws.getD b []).length < (ws.getD K []).length) : BI ws t (K + 1) (K : Int) := by
  rcases h with ⟨h1, h2⟩ | ⟨b, h1, h2, h3, h4, h5⟩
  · refine .inr ⟨K, by omega, rfl, hp, fun k hk g => ?_, fun k hk g => absurd g (h2 k hk)⟩
    by_cases e : k = K
    · rw [e]; exact Nat.le_refl _
    · exact absurd g (h2 k (by omega))
  · obtain ⟨b', e1, e2⟩ : ∃ b : Nat, best = b ∧ (ws.getD b []).length < (ws.getD K []).length := by
      rcases hn with hn | hn
      · omega
      · exact hn
    have : b' = b := by omega
    subst this
    refine .inr ⟨K, by omega, rfl, hp, fun k hk g => ?_, fun k hk g => by have := h4 k hk g; omega⟩
    by_cases e : k = K
    · rw [e]; exact Nat.le_refl _
    · have := h4 k (by omega) g; omega
theorem BI.tok {ws : List Bs} {m : Mach} {St : Bs → Nat → Prop} (hk : Knows ws m St) (hne : ∀ s ∈ ws, s ≠ []) {t : Bs} (ht : Abc t) (h0 : t ≠ []) {best : Int} (h : BI ws t ws.length best) : tokRl m t = best ∧ ((best = -1 ∧ tokSz m t = 1) ∨ ∃ b : Nat, b < ws.length ∧ best = b ∧ t.take (tokSz m t) = ws.getD b [] ∧ tokSz m t = (ws.getD b []).length ∧ 1 ≤ (ws.getD b []).length) := by
  have hb := wkOf_best hk ht
  unfold tokRl tokSz
  generalize wkOf m t = k at *
  have hd : (dec t).2 = 1 := by
    rcases t with _ | ⟨x, r⟩
    · exact absurd rfl h0
    · rw [dec_abc (ht x List.mem_cons_self)]
  have stand : ∀ n, t.take n ∈ ws → ∃ i, i < ws.length ∧ ws.getD i [] = t.take n ∧ ws.getD i [] <+: t := fun n hm => by
    obtain ⟨i, hi, e⟩ := mem_getD hm
    exact ⟨i, hi, e, by rw [e]; exact List.take_prefix _ _⟩
  rcases h with ⟨h1, h2⟩ | ⟨b, h1, h2, h3, h4, h5⟩
  · rcases hb with ⟨b1, b2, _⟩ | ⟨_, _, b3, _⟩
    · exact ⟨b2.trans h1.symm, .inl ⟨h1, by rw [if_pos b1]; exact hd⟩⟩
    · obtain ⟨i, hi, _, g⟩ := stand _ b3
      exact absurd g (h2 i hi)
  · have hw := getD_mem h1
    have hwl : 1 ≤ (ws.getD b []).length := Nat.pos_of_ne_zero (fun c => hne _ hw (List.eq_nil_of_length_eq_zero c))
    have htk : t.take (ws.getD b []).length = ws.getD b [] := (List.prefix_iff_eq_take.1 h3).symm
    have hle := h3.length_le
    have hin : t.take (ws.getD b []).length ∈ ws := by rw [htk]; exact hw
    rcases hb with ⟨b1, b2, b3⟩ | ⟨b1, b2, b3, b4, b5⟩
    · exact absurd hin (b3 _ hwl hle)
    · obtain ⟨i, hi, e, g⟩ := stand _ b3
      have hi2 := h4 i hi g
      rw [e, List.length_take] at hi2
      have hge : (ws.getD b []).length ≤ k.length := by
        rcases Nat.lt_or_ge k.length (ws.getD b []).length with q | q
        · exact absurd hin (b5 _ q hle)
        · exact q
      have heq : k.length = (ws.getD b []).length := by omega
      refine ⟨?_, .inr ⟨b, h1, h2, ?_, ?_, hwl⟩⟩
      · rw [b4, heq, htk, h2, idxOf_first _ ws b h1 rfl (fun j hj e => by
          have := h5 j hj (by rw [e]; exact h3)
          rw [e] at this; omega)]
      · rw [if_neg (by omega), heq, htk]
      · rw [if_neg (by omega)]; exact heq
end Go.Proofs.YtlhokghgicgppaaGreatDoor.Sg

namespace Go.Proofs.YtlhokghgicgppaaGreatDoor.Sg
open Go

/-- Tokens, from 'at' on, each the longest word that stands there, or one letter. -/
def LetT (ws : List Bs) (x : Bs) : Nat → List Tok → Prop
  | at_, [] => at_ = x.length
  | at_, t :: l => at_ < x.length ∧ (∀ best : Int, BI ws (x.drop at_) ws.length best → t.rule = best ∧ ((best = -1 ∧ t.text = (x.drop at_).take 1) ∨ ∃ b : Nat, b < ws.length ∧ best = b ∧ t.text = ws.getD b [])) ∧ 1 ≤ t.text.length ∧ at_ + t.text.length ≤ x.length ∧ LetT ws x (at_ + t.text.length) l
theorem letT_canon {ws : List Bs} {m : Mach} {St : Bs → Nat → Prop} (hk : Knows ws m St) (hne : ∀ s ∈ ws, s ≠ []) {x : Bs} (hx : Abc x) : ∀ (n : Nat) (p : Pos) (at_ : Nat), at_ ≤ x.length → x.length - at_ < n → LetT ws x at_ (canonT m n p (x.drop at_))
  | 0, _, _, _, h => absurd h (Nat.not_lt_zero _)
  | n + 1, p, at_, h2, h4 => by
    unfold canonT
    split
    · rename_i h
      have := congrArg List.length h
      rw [List.length_drop, List.length_nil] at this
      show at_ = x.length
      omega
    · rename_i hn
      have hlt : at_ < x.length := by
        rcases Nat.lt_or_ge at_ x.length with q | q
        · exact q
        · exact absurd (List.drop_of_length_le q) hn
      have hp := tokSz_pos m _ hn
      have hle := tokSz_le m hk.ok (x.drop at_)
      have hl := List.length_drop (i := at_) (l := x)
      have ht : (tokAt m p (x.drop at_)).text = (x.drop at_).take (tokSz m (x.drop at_)) := rfl
      have htl : ((x.drop at_).take (tokSz m (x.drop at_))).length = tokSz m (x.drop at_) := by rw [List.length_take]; omega
      have hxd : Abc (x.drop at_) := fun b hb => hx b (List.mem_of_mem_drop hb)
      refine ⟨hlt, fun best hb => ?_, ?_, ?_, ?_⟩
      · obtain ⟨g1, g2⟩ := hb.tok hk hne hxd hn
        refine ⟨g1, ?_⟩
        rcases g2 with ⟨e1, e2⟩ | ⟨b, e1, e2, e3, _, _⟩
        · exact .inl ⟨e1, by rw [ht, e2]⟩
        · exact .inr ⟨b, e1, e2, by rw [ht, e3]⟩
      · rw [ht, htl]; exact hp
      · rw [ht, htl]; omega
      · rw [ht, htl]
        have := letT_canon hk hne hx n (passP p ((x.drop at_).take (tokSz m (x.drop at_)))) (at_ + tokSz m (x.drop at_)) (by omega) (by omega)
        rw [List.drop_drop]
        exact this
theorem BI.zero (ws : List Bs) (t : Bs) : BI ws t 0 (-1) := .inl ⟨rfl, fun k hk => absurd hk (Nat.not_lt_zero _)⟩
theorem BI.val {ws : List Bs} {t : Bs} {K : Nat} {best : Int} (h : BI ws t K best) : best = -1 ∨ ∃ b : Nat, b < K ∧ best = b := by
  rcases h with ⟨h1, _⟩ | ⟨b, h1, h2, _⟩
  · exact .inl h1
  · exact .inr ⟨b, h1, h2⟩
end Go.Proofs.YtlhokghgicgppaaGreatDoor.Sg
