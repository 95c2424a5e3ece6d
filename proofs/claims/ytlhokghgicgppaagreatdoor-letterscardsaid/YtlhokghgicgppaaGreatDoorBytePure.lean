/- The scanner, plainly: what Next does, as a function. Nothing of the program is named here. -/
/- Plain laws of the walk. -/
/- Next, plainly. -/
/- Plain laws of Next. -/
/- Plain laws of bytes: what is decided by a beginning stays so. -/
import Derived.Lib.DecodeN
import Derived.Lib.RuneCount
import Derived.Lib.LastIndexByte
import Derived.Lib.Bytealg
set_option linter.unusedSimpArgs false
set_option linter.unusedVariables false
namespace Go.Proofs.YtlhokghgicgppaaGreatDoor.Sg
open Go
abbrev Bs := List UInt8

structure Mach where
  cuts : List (Int × Int)
  states : List (Int × List Int)

def lowAt (cuts : List (Int × Int)) (i : Nat) : Int := (cuts.getD i (0, 0)).1
def kindAt (cuts : List (Int × Int)) (i : Nat) : Int := (cuts.getD i (0, 0)).2
def cutGo (cuts : List (Int × Int)) (c : Int) : Nat → Nat → Nat → Nat
  | 0, low, _ => low
  | f + 1, low, high =>
    if 1 < high - low then
      if lowAt cuts ((low + high) / 2) ≤ c then cutGo cuts c f ((low + high) / 2) high
      else cutGo cuts c f low ((low + high) / 2)
    else low
def cutIx (cuts : List (Int × Int)) (c : Int) : Nat := cutGo cuts c cuts.length 0 cuts.length

def Mach.next (m : Mach) (s : Nat) (k : Nat) : Int := (m.states.getD s (0, [])).2.getD k 0
def Mach.rule (m : Mach) (s : Nat) : Int := (m.states.getD s (0, [])).1
def Mach.width (m : Mach) (s : Nat) : Nat := (m.states.getD s (0, [])).2.length
def Mach.kind (m : Mach) (i : Nat) : Nat := (kindAt m.cuts i).toNat
def Mach.after (m : Mach) (s : Nat) (c : Int) : Int := m.next s (m.kind (cutIx m.cuts c))

def Mach.goesGo (m : Mach) (s : Nat) (high : Int) : List (Int × Int) → Bool
  | [] => false
  | c :: r => if high < c.1 then false else if m.next s c.2.toNat = -1 then m.goesGo s high r else true
def Mach.goesOn (m : Mach) (s : Nat) (low high : Int) : Bool := m.goesGo s high (m.cuts.drop (cutIx m.cuts low))

/-- Tables that can be walked through. -/
structure Mach.Ok (m : Mach) : Prop where
  cuts0 : 0 < m.cuts.length
  cutsN : m.cuts.length < 1000000000
  kind0 : ∀ i, i < m.cuts.length → 0 ≤ kindAt m.cuts i
  kinds : ∀ i, i < m.cuts.length → ∀ s, s < m.states.length → kindAt m.cuts i < m.width s
  nexts : ∀ s, s < m.states.length → ∀ k, k < m.width s → m.next s k = -1 ∨ (0 ≤ m.next s k ∧ m.next s k < m.states.length)
  states0 : 0 < m.states.length
  statesN : m.states.length < 1000000000
  nextN : ∀ s, s < m.states.length → m.width s < 1000000000

theorem cutGo_lt (cuts : List (Int × Int)) (c : Int) : ∀ (f low high : Nat), low < high → cutGo cuts c f low high < high ∧ low ≤ cutGo cuts c f low high
  | 0, low, high, h => by simp [cutGo, h]
  | f + 1, low, high, h => by
    unfold cutGo
    by_cases h1 : 1 < high - low
    · simp only [h1, if_true]
      split
      · have := cutGo_lt cuts c f ((low + high) / 2) high (by omega)
        omega
      · have := cutGo_lt cuts c f low ((low + high) / 2) (by omega)
        omega
    · simp only [h1, if_false]; omega
theorem cutIx_lt (cuts : List (Int × Int)) (c : Int) (h : 0 < cuts.length) : cutIx cuts c < cuts.length := (cutGo_lt cuts c _ 0 _ h).1
/-- More rounds than it takes change nothing. -/
theorem cutGo_fuel (cuts : List (Int × Int)) (c : Int) : ∀ (f g low high : Nat), high - low ≤ f → high - low ≤ g → cutGo cuts c f low high = cutGo cuts c g low high
  | 0, 0, _, _, _, _ => rfl
  | 0, g + 1, low, high, h, _ => by
    have h1 : ¬ 1 < high - low := by omega
    simp [cutGo, h1]
  | f + 1, 0, low, high, _, h => by
    have h1 : ¬ 1 < high - low := by omega
    simp [cutGo, h1]
  | f + 1, g + 1, low, high, hf, hg => by
    unfold cutGo
    by_cases h1 : 1 < high - low
    · simp only [h1, if_true]
      split
      · exact cutGo_fuel cuts c f g _ _ (by omega) (by omega)
      · exact cutGo_fuel cuts c f g _ _ (by omega) (by omega)
    · simp only [h1, if_false]
theorem cutGo_step (cuts : List (Int × Int)) (c : Int) (low high : Nat) (h : 1 < high - low) :
    cutGo cuts c (high - low) low high = if lowAt cuts ((low + high) / 2) ≤ c then cutGo cuts c (high - (low + high) / 2) ((low + high) / 2) high else cutGo cuts c ((low + high) / 2 - low) low ((low + high) / 2) := by
  obtain ⟨f, hf⟩ : ∃ f, high - low = f + 1 := ⟨high - low - 1, by omega⟩
  rw [hf]
  conv => lhs; unfold cutGo
  simp only [show 1 < high - low from h, if_true]
  split
  · exact cutGo_fuel cuts c _ _ _ _ (by omega) (by omega)
  · exact cutGo_fuel cuts c _ _ _ _ (by omega) (by omega)
theorem cutGo_end (cuts : List (Int × Int)) (c : Int) (f low high : Nat) (h : ¬ 1 < high - low) : cutGo cuts c f low high = low := by
  cases f <;> simp [cutGo, h]

/-! ### bytes and scalars -/
def dec (l : Bs) : Nat × Nat := if l = [] then (65533, 0) else Lib.decodeN l.length (l.getD 0 0).toNat (l.getD 1 0).toNat (l.getD 2 0).toNat (l.getD 3 0).toNat
def full (l : Bs) : Bool :=
  if l = [] then false
  else if Lib.firstT (l.getD 0 0).toNat % 8 ≤ l.length then true
  else if 1 < l.length ∧ ((l.getD 1 0).toNat < Lib.accLo (Lib.firstT (l.getD 0 0).toNat / 16) ∨ Lib.accHi (Lib.firstT (l.getD 0 0).toNat / 16) < (l.getD 1 0).toNat) then true
  else if 2 < l.length ∧ ((l.getD 2 0).toNat < 128 ∨ 191 < (l.getD 2 0).toNat) then true
  else false

/-- How far a walk has come. -/
structure Wk where
  state : Int
  passed : Nat
  rule : Int
  length : Nat

def Wk.zero : Wk := ⟨0, 0, -1, 0⟩
def stepW (m : Mach) (k : Wk) (text : Bs) : Wk :=
  if (dec text).1 = 65533 ∧ (dec text).2 = 1 then { k with state := -1 }
  else
    let s := m.after k.state.toNat (dec text).1
    let p := k.passed + (dec text).2
    if s = -1 then { k with state := -1, passed := p }
    else if m.rule s.toNat = -1 then { k with state := s, passed := p }
    else ⟨s, p, m.rule s.toNat, p⟩
def walkTo (m : Mach) (text : Bs) : Nat → Wk → Wk
  | 0, k => k
  | f + 1, k => if k.state ≠ -1 ∧ full (text.drop k.passed) = true then walkTo m text f (stepW m k (text.drop k.passed)) else k
/-- The least and the greatest scalar that a beginning of one may become. -/
def reach (p : Bs) : Int × Int :=
  let b0 := (p.getD 0 0).toNat
  let size := if 240 ≤ b0 then 4 else if 224 ≤ b0 then 3 else 2
  let least := if 240 ≤ b0 then 65536 else if 224 ≤ b0 then 2048 else 0
  let low := (p.drop 1).foldl (fun a b => a * 64 + b.toNat % 64) (b0 % (if 240 ≤ b0 then 8 else if 224 ≤ b0 then 16 else 32))
  let up := 64 ^ (size - p.length)
  (max (low * up) least, min (low * up + (up - 1)) 1114111)
def aliveW (m : Mach) (text : Bs) (k : Wk) : Bool :=
  if k.state = -1 then false
  else if text.drop k.passed = [] then true
  else m.goesOn k.state.toNat (reach (text.drop k.passed)).1 (reach (text.drop k.passed)).2

/-! ### a reader of pieces -/
structure Pc where
  text : Bs
  n : Int
  kind : Int
structure Src where
  l : List Pc
  at_ : Nat
  empty : Nat
/-- What a Read of a source comes to. -/
-- on the left what it gave; on the right a count below nought, one above the room, a panic
abbrev Got := Sum (Bs × Option Int) (Option Bool)
def srcGo (most : Nat) : List Pc → Nat → Nat → Got × Src
  | [], a, e => (.inl ([], some 13), ⟨[], a, e⟩)
  | c :: r, a, e =>
    if a < c.text.length then
      (.inl ((c.text.drop a).take most, if c.kind = 5 ∧ a + min most (c.text.length - a) = c.text.length then some 14 else none), ⟨c :: r, a + min most (c.text.length - a), e⟩)
    else if (e : Int) < c.n then (.inl ([], none), ⟨c :: r, a, e + 1⟩)
    else if c.kind = 1 ∨ c.kind = 5 then (.inl ([], some 14), ⟨c :: r, a, e⟩)
    else if c.kind = 2 then (.inr none, ⟨c :: r, a, e⟩)
    else if c.kind = 3 then (.inr (some false), ⟨c :: r, a, e⟩)
    else if c.kind = 4 then (.inr (some true), ⟨c :: r, a, e⟩)
    else srcGo most r 0 0
def srcRead (most : Nat) (s : Src) : Got × Src := srcGo most s.l s.at_ s.empty
theorem srcRead_nil (most a e : Nat) : srcRead most ⟨[], a, e⟩ = (.inl ([], some 13), ⟨[], a, e⟩) := rfl
theorem srcRead_cons (most : Nat) (c : Pc) (r : List Pc) (a e : Nat) : srcRead most ⟨c :: r, a, e⟩ =
    if a < c.text.length then
      (.inl ((c.text.drop a).take most, if c.kind = 5 ∧ a + min most (c.text.length - a) = c.text.length then some 14 else none), ⟨c :: r, a + min most (c.text.length - a), e⟩)
    else if (e : Int) < c.n then (.inl ([], none), ⟨c :: r, a, e + 1⟩)
    else if c.kind = 1 ∨ c.kind = 5 then (.inl ([], some 14), ⟨c :: r, a, e⟩)
    else if c.kind = 2 then (.inr none, ⟨c :: r, a, e⟩)
    else if c.kind = 3 then (.inr (some false), ⟨c :: r, a, e⟩)
    else if c.kind = 4 then (.inr (some true), ⟨c :: r, a, e⟩)
    else srcRead most ⟨r, 0, 0⟩ := rfl

/-- One question of the scanner's: what counts, and why there is no more. -/
def ask1 (most : Nat) (s : Src) : (Bs × Option Int) × Src :=
  match srcRead most s with
  | (.inl (b, e), s') => ((b, e), s')
  | (_, s') => (([], some 11), s')
/-- Up to k questions. -/
def askN (most : Nat) : Nat → Src → (Bs × Option Int) × Src
  | 0, s => (([], some 12), s)
  | k + 1, s =>
    let r := ask1 most s
    if r.1.1 ≠ [] ∨ r.1.2 ≠ none then r else askN most k r.2

/-! ### the scanner -/
structure Live where
  cap : Nat
  rest : Bs
  stop : Option Int
  wk : Wk
  at_ : Int
  line : Int
  col : Int
  src : Src
-- on the left a scanner that goes on; on the right one that told its error
abbrev Sc := Sum Live Int
structure Tok where
  rule : Int
  at_ : Int
  line : Int
  col : Int
  text : Bs
def Live.size (s : Live) : Nat := if s.wk.length = 0 then (dec s.rest).2 else s.wk.length
def Live.more (s : Live) : Live :=
  let r := askN (s.cap - s.rest.length) 8 s.src
  { s with rest := s.rest ++ r.1.1, stop := r.1.2, src := r.2 }
def Live.walked (m : Mach) (s : Live) : Live := { s with wk := walkTo m s.rest (s.rest.length + 1) s.wk }
end Go.Proofs.YtlhokghgicgppaaGreatDoor.Sg

namespace Go.Proofs.YtlhokghgicgppaaGreatDoor.Sg
open Go

theorem dec_le (l : Bs) : (dec l).2 ≤ l.length := by
  unfold dec
  split
  · simp
  · rename_i h
    have hn : 1 ≤ l.length := by rcases l with _ | _; exact absurd rfl h; simp
    generalize l.length = n at *
    unfold Lib.decodeN
    repeat' split
    all_goals (simp; try omega)
theorem dec_pos (l : Bs) (h : l ≠ []) : 1 ≤ (dec l).2 := by
  unfold dec Lib.decodeN
  rw [if_neg h]
  repeat' split
  all_goals simp

/-- Where a walk can stand. -/
def Wk.Ok (m : Mach) (l : Bs) (k : Wk) : Prop := k.passed ≤ l.length ∧ k.length ≤ k.passed ∧ (k.state = -1 ∨ ∃ s : Nat, k.state = s ∧ s < m.states.length)
theorem after_ok (m : Mach) (hm : m.Ok) (s : Nat) (c : Int) (hs : s < m.states.length) : m.after s c = -1 ∨ ∃ t : Nat, m.after s c = t ∧ t < m.states.length := by
  have hi := cutIx_lt m.cuts c hm.cuts0
  have h0 := hm.kind0 _ hi
  have h1 := hm.kinds _ hi s hs
  have := hm.nexts s hs (m.kind (cutIx m.cuts c)) (by unfold Mach.kind; omega)
  rcases this with h | ⟨h2, h3⟩
  · exact .inl h
  · exact .inr ⟨(m.after s c).toNat, by unfold Mach.after; omega, by unfold Mach.after; omega⟩

def need (l : Bs) (k : Wk) : Nat := if k.state = -1 then 0 else l.length - k.passed + 1
theorem full_nil : full [] = false := rfl
theorem full_ne {l : Bs} (h : full l = true) : l ≠ [] := by rintro rfl; cases h

theorem stepW_ok (m : Mach) (hm : m.Ok) (l : Bs) (k : Wk) (hk : k.Ok m l) (hs : k.state ≠ -1) (hf : full (l.drop k.passed) = true) :
    (stepW m k (l.drop k.passed)).Ok m l ∧ need l (stepW m k (l.drop k.passed)) < need l k := by
  obtain ⟨hp, hle, hst⟩ := hk
  rcases hst with h | ⟨s, hs', hsl⟩
  · exact absurd h hs
  have hne := full_ne hf
  have h1 := dec_pos _ hne
  have h2 := dec_le (l.drop k.passed)
  rw [List.length_drop] at h2
  have hpl : k.passed < l.length := by
    rcases Nat.lt_or_ge k.passed l.length with q | q
    · exact q
    · exact absurd (List.drop_of_length_le q) hne
  have hn : need l k = l.length - k.passed + 1 := by unfold need; rw [if_neg hs]
  have key : ∀ (st : Int) (p : Nat) (ru : Int) (ln : Nat), p ≤ l.length → ln ≤ p → (st = -1 ∨ ((∃ t : Nat, st = t ∧ t < m.states.length) ∧ k.passed < p)) → Wk.Ok m l ⟨st, p, ru, ln⟩ ∧ need l ⟨st, p, ru, ln⟩ < need l k := by
    intro st p ru ln h3 h4 h5
    refine ⟨⟨h3, h4, ?_⟩, ?_⟩
    · rcases h5 with h5 | h5
      · exact .inl h5
      · exact .inr h5.1
    · rw [hn]
      unfold need
      rcases h5 with h5 | ⟨-, h5⟩
      · simp only [h5, if_true]; omega
      · split
        · omega
        · simp only; omega
  have b1 : k.passed + (dec (l.drop k.passed)).2 ≤ l.length := by omega
  have b2 : k.length ≤ k.passed + (dec (l.drop k.passed)).2 := by omega
  have b3 : k.passed < k.passed + (dec (l.drop k.passed)).2 := by omega
  have ha := after_ok m hm s ((dec (l.drop k.passed)).1 : Nat) hsl
  unfold stepW
  rw [hs']
  simp only [Int.toNat_natCast]
  split
  · exact key _ _ _ _ hp hle (.inl rfl)
  · split
    · exact key _ _ _ _ b1 b2 (.inl rfl)
    · rename_i hx
      rcases ha with ha | ha
      · exact absurd ha hx
      · split
        · exact key _ _ _ _ b1 b2 (.inr ⟨ha, b3⟩)
        · exact key _ _ _ _ b1 (Nat.le_refl _) (.inr ⟨ha, b3⟩)

theorem walkTo_stay (m : Mach) (l : Bs) (f : Nat) (k : Wk) (h : ¬ (k.state ≠ -1 ∧ full (l.drop k.passed) = true)) : walkTo m l f k = k := by
  cases f with
  | zero => rfl
  | succ f => unfold walkTo; rw [if_neg h]
theorem walkTo_fuel (m : Mach) (hm : m.Ok) (l : Bs) : ∀ (f g : Nat) (k : Wk), k.Ok m l → need l k ≤ f → need l k ≤ g → walkTo m l f k = walkTo m l g k
  | 0, g, k, hk, hf, _ => by
    have : k.state = -1 := by
      unfold need at hf
      by_cases h : k.state = -1
      · exact h
      · rw [if_neg h] at hf; omega
    rw [walkTo_stay m l 0 k (fun c => c.1 this), walkTo_stay m l g k (fun c => c.1 this)]
  | f + 1, 0, k, hk, _, hg => by
    have : k.state = -1 := by
      unfold need at hg
      by_cases h : k.state = -1
      · exact h
      · rw [if_neg h] at hg; omega
    rw [walkTo_stay m l (f + 1) k (fun c => c.1 this), walkTo_stay m l 0 k (fun c => c.1 this)]
  | f + 1, g + 1, k, hk, hf, hg => by
    unfold walkTo
    by_cases h : k.state ≠ -1 ∧ full (l.drop k.passed) = true
    · rw [if_pos h, if_pos h]
      obtain ⟨ho, hn⟩ := stepW_ok m hm l k hk h.1 h.2
      exact walkTo_fuel m hm l f g _ ho (by omega) (by omega)
    · rw [if_neg h, if_neg h]
theorem walkTo_go (m : Mach) (hm : m.Ok) (l : Bs) (f : Nat) (k : Wk) (hk : k.Ok m l) (hf : need l k ≤ f) (h : k.state ≠ -1 ∧ full (l.drop k.passed) = true) :
    walkTo m l f k = walkTo m l f (stepW m k (l.drop k.passed)) := by
  obtain ⟨ho, hn⟩ := stepW_ok m hm l k hk h.1 h.2
  cases f with
  | zero => omega
  | succ f =>
    conv => lhs; unfold walkTo
    rw [if_pos h]
    exact walkTo_fuel m hm l _ _ _ ho (by omega) (by omega)
theorem need_le (l : Bs) (k : Wk) : need l k ≤ l.length + 1 := by unfold need; split <;> omega
end Go.Proofs.YtlhokghgicgppaaGreatDoor.Sg

namespace Go.Proofs.YtlhokghgicgppaaGreatDoor.Sg
open Go

def Live.passT (s : Live) (t : Bs) : Live :=
  if 0 < Lib.countByte t 10 then { s with at_ := s.at_ + t.length, line := s.line + Lib.countByte t 10, col := 1 + Lib.runeCountL (t.drop (Lib.lastIndexByte ⟨t.toArray⟩ 10 + 1).toNat) }
  else { s with at_ := s.at_ + t.length, col := s.col + Lib.runeCountL t }
def Live.tok (s : Live) : Tok := ⟨s.wk.rule, s.at_, s.line, s.col, s.rest.take s.size⟩
def Live.cutT (s : Live) : Live := { s.passT (s.rest.take s.size) with rest := s.rest.drop s.size, wk := Wk.zero }
def Live.alive (m : Mach) (s : Live) : Bool := aliveW m s.rest s.wk
def Live.unsure (m : Mach) (s : Live) : Bool := s.alive m || !full s.rest
/-- Next, behind the walk through what is there. -/
def nextT (m : Mach) : Nat → Live → (Except Int Tok) × Sc
  | 0, s => (.error 0, .inl s)
  | f + 1, s0 =>
    if (s0.walked m).alive m = true ∧ (s0.walked m).cap ≤ (s0.walked m).rest.length then (.error 10, .inr 10)
    else if (s0.walked m).unsure m = true ∧ (s0.walked m).stop = none then nextT m f (s0.walked m).more
    else if ((s0.walked m).unsure m = true ∧ (s0.walked m).stop ≠ some 13) ∨ (s0.walked m).rest = [] then (.error ((s0.walked m).stop.getD 0), .inr ((s0.walked m).stop.getD 0))
    else (.ok (s0.walked m).tok, .inl (s0.walked m).cutT)
end Go.Proofs.YtlhokghgicgppaaGreatDoor.Sg

namespace Go.Proofs.YtlhokghgicgppaaGreatDoor.Sg
open Go

theorem walkTo_ok (m : Mach) (hm : m.Ok) (l : Bs) : ∀ (f : Nat) (k : Wk), k.Ok m l → (walkTo m l f k).Ok m l
  | 0, k, h => h
  | f + 1, k, h => by
    unfold walkTo
    split
    · rename_i hc
      exact walkTo_ok m hm l f _ (stepW_ok m hm l k h hc.1 hc.2).1
    · exact h
theorem askN_some (most : Nat) : ∀ (k : Nat) (s : Src), (askN most k s).1.1 ≠ [] ∨ (askN most k s).1.2 ≠ none
  | 0, s => .inr (by simp [askN])
  | k + 1, s => by
    unfold askN
    dsimp only
    split
    · assumption
    · exact askN_some most k _
/-- How many more readings there may be. -/
def Live.nf (L : Live) : Nat := L.cap - L.rest.length + (if L.stop = none then 1 else 0)
theorem nf_more (L : Live) (hs : L.stop = none) (hl : L.rest.length < L.cap) (hb : (askN (L.cap - L.rest.length) 8 L.src).1.1.length ≤ L.cap - L.rest.length) : L.more.nf < L.nf := by
  have h := askN_some (L.cap - L.rest.length) 8 L.src
  unfold Live.nf Live.more
  dsimp only
  rw [if_pos hs, List.length_append]
  rcases h with h | h
  · have : 1 ≤ (askN (L.cap - L.rest.length) 8 L.src).1.1.length := by
      rcases hx : (askN (L.cap - L.rest.length) 8 L.src).1.1 with _ | _
      · exact absurd hx h
      · simp
    split <;> omega
  · rw [if_neg h]; omega
theorem full_short {l : Bs} (h : full l = false) : l.length < 4 := by
  unfold full at h
  split at h
  · rename_i e; rw [e]; simp
  · rename_i hne
    split at h
    · cases h
    · rename_i hb
      have hx : Lib.firstT (l.getD 0 0).toNat % 8 ≤ 4 := by
        generalize (l.getD 0 0).toNat = k
        unfold Lib.firstT
        repeat' split
        all_goals decide
      omega
theorem Wk.zero_ok (m : Mach) (hm : m.Ok) (l : Bs) : Wk.zero.Ok m l := ⟨Nat.zero_le _, Nat.le_refl _, .inr ⟨0, rfl, hm.states0⟩⟩
theorem Wk.Ok.more {m : Mach} {l : Bs} {k : Wk} (h : k.Ok m l) (g : Bs) : k.Ok m (l ++ g) := ⟨by rw [List.length_append]; exact Nat.le_trans h.1 (Nat.le_add_right _ _), h.2.1, h.2.2⟩

/-- What stays as it is in a scanner that goes on. -/
structure Live.Fit (m : Mach) (L : Live) : Prop where
  wk : L.wk.Ok m L.rest
  le : L.rest.length ≤ L.cap
  cap4 : 4 ≤ L.cap
  ask : ∀ s : Src, (askN (L.cap - L.rest.length) 8 s).1.1.length ≤ L.cap - L.rest.length
theorem unsure_lt {m : Mach} {L : Live} (hc : 4 ≤ L.cap) (h1 : ¬ (L.alive m = true ∧ L.cap ≤ L.rest.length)) (h2 : L.unsure m = true) : L.rest.length < L.cap := by
  unfold Live.unsure at h2
  rcases Nat.lt_or_ge L.rest.length L.cap with h | h
  · exact h
  · exfalso
    by_cases ha : L.alive m = true
    · exact h1 ⟨ha, h⟩
    · have hf : full L.rest = false := by
        cases hx : full L.rest
        · rfl
        · simp [hx] at h2; exact absurd h2 ha
      have := full_short hf
      omega

theorem walked_nf (m : Mach) (L : Live) : (L.walked m).nf = L.nf := rfl
theorem more_cap (L : Live) : L.more.cap = L.cap := rfl
theorem more_le (L : Live) (h : L.rest.length ≤ L.cap) (hal : ∀ most k s, (askN most k s).1.1.length ≤ most) : L.more.rest.length ≤ L.more.cap := by
  show (L.rest ++ (askN (L.cap - L.rest.length) 8 L.src).1.1).length ≤ L.cap
  have := hal (L.cap - L.rest.length) 8 L.src
  rw [List.length_append]; omega
theorem nextT_fuel (m : Mach) (hal : ∀ most k s, (askN most k s).1.1.length ≤ most) : ∀ (f g : Nat) (L : Live), 4 ≤ L.cap → L.rest.length ≤ L.cap → L.nf < f → L.nf < g → nextT m f L = nextT m g L
  | 0, _, L, _, _, h, _ => absurd h (Nat.not_lt_zero _)
  | _ + 1, 0, L, _, _, _, h => absurd h (Nat.not_lt_zero _)
  | f + 1, g + 1, L, hc, hl, hf, hg => by
    unfold nextT
    by_cases c1 : (L.walked m).alive m = true ∧ (L.walked m).cap ≤ (L.walked m).rest.length
    · rw [if_pos c1, if_pos c1]
    · rw [if_neg c1, if_neg c1]
      by_cases c2 : (L.walked m).unsure m = true ∧ (L.walked m).stop = none
      · rw [if_pos c2, if_pos c2]
        have hlt : (L.walked m).rest.length < (L.walked m).cap := unsure_lt (m := m) hc c1 c2.1
        have hn := nf_more (L.walked m) c2.2 hlt (hal _ _ _)
        rw [walked_nf] at hn
        exact nextT_fuel m hal f g _ hc (more_le _ (Nat.le_of_lt hlt) hal) (by omega) (by omega)
      · rw [if_neg c2, if_neg c2]
/-- One more reading. -/
theorem nextT_more (m : Mach) (hal : ∀ most k s, (askN most k s).1.1.length ≤ most) (L : Live) (hc : 4 ≤ L.cap) (c1 : ¬ ((L.walked m).alive m = true ∧ (L.walked m).cap ≤ (L.walked m).rest.length)) (c2 : (L.walked m).unsure m = true ∧ (L.walked m).stop = none) :
    nextT m (L.nf + 1) L = nextT m ((L.walked m).more.nf + 1) (L.walked m).more ∧ (L.walked m).more.nf < L.nf := by
  have hlt : (L.walked m).rest.length < (L.walked m).cap := unsure_lt (m := m) hc c1 c2.1
  have hn := nf_more (L.walked m) c2.2 hlt (hal _ _ _)
  rw [walked_nf] at hn
  refine ⟨?_, hn⟩
  conv => lhs; unfold nextT
  rw [if_neg c1, if_pos c2]
  exact nextT_fuel m hal _ _ _ hc (more_le _ (Nat.le_of_lt hlt) hal) (by omega) (by omega)
end Go.Proofs.YtlhokghgicgppaaGreatDoor.Sg

namespace Go.Proofs.YtlhokghgicgppaaGreatDoor.Sg
open Go

def szT (b : Nat) : Nat := Lib.firstT b % 8
def loT (b : Nat) : Nat := Lib.accLo (Lib.firstT b / 16)
def hiT (b : Nat) : Nat := Lib.accHi (Lib.firstT b / 16)
/-- The classes of first bytes. -/
theorem first_cls (b : Nat) (hb : b < 256) : (szT b = 0 ∧ b < 128) ∨ (szT b = 1 ∧ 128 ≤ b ∧ (b < 194 ∨ 244 < b)) ∨ (szT b = 2 ∧ loT b = 128 ∧ hiT b = 191 ∧ 194 ≤ b ∧ b < 224) ∨
    (szT b = 3 ∧ 224 ≤ b ∧ b < 240 ∧ ((loT b = 160 ∧ hiT b = 191 ∧ b = 224) ∨ (loT b = 128 ∧ hiT b = 159 ∧ b = 237) ∨ (loT b = 128 ∧ hiT b = 191 ∧ b ≠ 224 ∧ b ≠ 237))) ∨
    (szT b = 4 ∧ 240 ≤ b ∧ b < 245 ∧ ((loT b = 144 ∧ hiT b = 191 ∧ b = 240) ∨ (loT b = 128 ∧ hiT b = 143 ∧ b = 244) ∨ (loT b = 128 ∧ hiT b = 191 ∧ b ≠ 240 ∧ b ≠ 244))) := by
  unfold szT loT hiT Lib.firstT
  repeat' split
  all_goals simp [Lib.accLo, Lib.accHi]
  all_goals omega
theorem decodeN_slow (n b0 b1 b2 b3 : Nat) (hn : 1 ≤ n) (h1 : b1 < 256) (h2 : b2 < 256) (h3 : b3 < 256) (hb : b0 < 256) (hs : 2 ≤ szT b0) : Lib.decodeN n b0 b1 b2 b3 = Lib.slowN n b0 b1 b2 b3 (szT b0) (loT b0) (hiT b0) := by
  rcases first_cls b0 hb with h | h | h | h | h
  · omega
  · omega
  · rw [h.1, h.2.1, h.2.2.1, Lib.slow_C2 n b0 b1 b2 b3 hn h1 h2 h3 h.2.2.2]
  · obtain ⟨h0, ha, hc, h | h | h⟩ := h
    · rw [h0, h.1, h.2.1, Lib.slow_E0 n b0 b1 b2 b3 hn h1 h2 h3 h.2.2]
    · rw [h0, h.1, h.2.1, Lib.slow_ED n b0 b1 b2 b3 hn h1 h2 h3 h.2.2]
    · rw [h0, h.1, h.2.1, Lib.slow_E1 n b0 b1 b2 b3 hn h1 h2 h3 (by omega)]
  · obtain ⟨h0, ha, hc, h | h | h⟩ := h
    · rw [h0, h.1, h.2.1, Lib.slow_F0 n b0 b1 b2 b3 hn h1 h2 h3 h.2.2]
    · rw [h0, h.1, h.2.1, Lib.slow_F4 n b0 b1 b2 b3 hn h1 h2 h3 h.2.2]
    · rw [h0, h.1, h.2.1, Lib.slow_F1 n b0 b1 b2 b3 hn h1 h2 h3 (by omega)]
theorem decodeN_one (n b0 b1 b2 b3 : Nat) (h1 : b1 < 256) (hb : b0 < 256) (hs : szT b0 < 2) : Lib.decodeN n b0 b1 b2 b3 = if b0 < 128 then (b0, 1) else (65533, 1) := by
  have hc := first_cls b0 hb
  unfold Lib.decodeN
  by_cases h : b0 < 128
  · rw [if_pos h, if_pos h]
  · rw [if_neg h, if_neg h]
    have hr : 128 ≤ b0 ∧ (b0 < 194 ∨ 244 < b0) := by omega
    repeat' split
    all_goals first | rfl | (exfalso; omega)
/-- What a beginning decides. -/
theorem slow_ext (n m b0 b1 b2 b3 c1 c2 c3 sz lo hi : Nat) (hsz : 2 ≤ sz ∧ sz ≤ 4) (hn : n ≤ m) (e1 : 1 < n → c1 = b1) (e2 : 2 < n → c2 = b2) (e3 : 3 < n → c3 = b3)
    (h : sz ≤ n ∨ (1 < n ∧ (b1 < lo ∨ hi < b1)) ∨ (2 < n ∧ (b2 < 128 ∨ 191 < b2))) : Lib.slowN m b0 c1 c2 c3 sz lo hi = Lib.slowN n b0 b1 b2 b3 sz lo hi := by
  by_cases h1 : 1 < n
  · obtain rfl := e1 h1
    by_cases h2 : 2 < n
    · obtain rfl := e2 h2
      by_cases h3 : 3 < n
      · obtain rfl := e3 h3
        unfold Lib.slowN
        rw [if_neg (by omega : ¬ m < sz), if_neg (by omega : ¬ n < sz)]
      · unfold Lib.slowN
        repeat' split
        all_goals first | rfl | (exfalso; omega)
    · unfold Lib.slowN
      repeat' split
      all_goals first | rfl | (exfalso; omega)
  · exfalso; omega
theorem gd_lt (l : Bs) (i : Nat) : (l.getD i 0).toNat < 256 := (l.getD i 0).toNat_lt
theorem gd_app (p g : Bs) (i : Nat) (h : i < p.length) : ((p ++ g).getD i 0) = p.getD i 0 := by
  rw [List.getD_eq_getElem?_getD, List.getD_eq_getElem?_getD, List.getElem?_append_left h]
theorem dec_ne {l : Bs} (h : l ≠ []) : dec l = Lib.decodeN l.length (l.getD 0 0).toNat (l.getD 1 0).toNat (l.getD 2 0).toNat (l.getD 3 0).toNat := by unfold dec; rw [if_neg h]
theorem len_pos {l : Bs} (h : l ≠ []) : 1 ≤ l.length := by rcases l with _ | _; exact absurd rfl h; simp
/-- Whether a beginning is decided. -/
theorem full_iff {l : Bs} (h : l ≠ []) : full l = true ↔ szT (l.getD 0 0).toNat ≤ l.length ∨ (1 < l.length ∧ ((l.getD 1 0).toNat < loT (l.getD 0 0).toNat ∨ hiT (l.getD 0 0).toNat < (l.getD 1 0).toNat)) ∨ (2 < l.length ∧ ((l.getD 2 0).toNat < 128 ∨ 191 < (l.getD 2 0).toNat)) := by
  unfold full
  rw [if_neg h]
  show (if szT (l.getD 0 0).toNat ≤ l.length then true else if 1 < l.length ∧ ((l.getD 1 0).toNat < loT (l.getD 0 0).toNat ∨ hiT (l.getD 0 0).toNat < (l.getD 1 0).toNat) then true else if 2 < l.length ∧ ((l.getD 2 0).toNat < 128 ∨ 191 < (l.getD 2 0).toNat) then true else false) = true ↔ _
  by_cases a : szT (l.getD 0 0).toNat ≤ l.length
  · simp [a]
  · by_cases b : 1 < l.length ∧ ((l.getD 1 0).toNat < loT (l.getD 0 0).toNat ∨ hiT (l.getD 0 0).toNat < (l.getD 1 0).toNat)
    · rw [if_neg a, if_pos b]; exact ⟨fun _ => .inr (.inl b), fun _ => rfl⟩
    · by_cases c : 2 < l.length ∧ ((l.getD 2 0).toNat < 128 ∨ 191 < (l.getD 2 0).toNat)
      · rw [if_neg a, if_neg b, if_pos c]; exact ⟨fun _ => .inr (.inr c), fun _ => rfl⟩
      · rw [if_neg a, if_neg b, if_neg c]
        exact ⟨fun h => by (cases h), fun h => by rcases h with h | h | h; exact absurd h a; exact absurd h b; exact absurd h c⟩
theorem dec_ext {p : Bs} (h : full p = true) (g : Bs) : dec (p ++ g) = dec p := by
  have hne := full_ne h
  have hl := len_pos hne
  have hne2 : p ++ g ≠ [] := fun e => hne (List.append_eq_nil_iff.1 e).1
  rw [dec_ne hne, dec_ne hne2, gd_app p g 0 hl]
  have hb := gd_lt p 0
  by_cases hs : 2 ≤ szT (p.getD 0 0).toNat
  · rw [decodeN_slow _ _ _ _ _ (by rw [List.length_append]; omega) (gd_lt _ _) (gd_lt _ _) (gd_lt _ _) hb hs, decodeN_slow _ _ _ _ _ hl (gd_lt _ _) (gd_lt _ _) (gd_lt _ _) hb hs]
    have h4 : szT (p.getD 0 0).toNat ≤ 4 := by rcases first_cls _ hb with h | h | h | h | h <;> omega
    exact slow_ext _ _ _ _ _ _ _ _ _ _ _ _ ⟨hs, h4⟩ (by rw [List.length_append]; omega) (fun i => by rw [gd_app p g 1 i]) (fun i => by rw [gd_app p g 2 i]) (fun i => by rw [gd_app p g 3 i]) ((full_iff hne).1 h)
  · rw [decodeN_one _ _ _ _ _ (gd_lt _ _) hb (by omega), decodeN_one _ _ _ _ _ (gd_lt _ _) hb (by omega)]
theorem full_ext {p : Bs} (h : full p = true) (g : Bs) : full (p ++ g) = true := by
  have hne := full_ne h
  have hl := len_pos hne
  have hne2 : p ++ g ≠ [] := fun e => hne (List.append_eq_nil_iff.1 e).1
  rw [full_iff hne] at h
  rw [full_iff hne2, gd_app p g 0 hl, List.length_append]
  rcases h with h | ⟨h, k⟩ | ⟨h, k⟩
  · exact .inl (by omega)
  · exact .inr (.inl ⟨by omega, by rw [gd_app p g 1 h]; exact k⟩)
  · exact .inr (.inr ⟨by omega, by rw [gd_app p g 2 h]; exact k⟩)

/-- A beginning of a scalar that is not decided: of what shape. -/
structure Part (p : Bs) (sz : Nat) : Prop where
  ne : p ≠ []
  lt : p.length < sz
  sz0 : sz = szT (p.getD 0 0).toNat
  b1 : 1 < p.length → loT (p.getD 0 0).toNat ≤ (p.getD 1 0).toNat ∧ (p.getD 1 0).toNat ≤ hiT (p.getD 0 0).toNat
  b2 : 2 < p.length → 128 ≤ (p.getD 2 0).toNat ∧ (p.getD 2 0).toNat ≤ 191
theorem part_of {p : Bs} (hne : p ≠ []) (h : full p = false) : Part p (szT (p.getD 0 0).toNat) := by
  have hn : ¬ full p = true := by rw [h]; simp
  rw [full_iff hne] at hn
  exact ⟨hne, by omega, rfl, fun h1 => by omega, fun h2 => by omega⟩
def scLen (c : Int) : Nat := if c < 128 then 1 else if c < 2048 then 2 else if c < 65536 then 3 else 4
theorem part_three {p : Bs} {sz : Nat} (h : Part p sz) : (∃ a, p = [a] ∧ 2 ≤ sz ∧ sz ≤ 4) ∨ (∃ a b, p = [a, b] ∧ 3 ≤ sz ∧ sz ≤ 4) ∨ ∃ a b c, p = [a, b, c] ∧ sz = 4 := by
  have h4 : sz ≤ 4 := by
    rw [h.sz0]
    rcases first_cls _ (gd_lt p 0) with h | h | h | h | h <;> omega
  have hl := h.lt
  match p, h.ne with
  | [a], _ => exact .inl ⟨a, rfl, by simp at hl; omega, h4⟩
  | [a, b], _ => exact .inr (.inl ⟨a, b, rfl, by simp at hl; omega, h4⟩)
  | [a, b, c], _ => exact .inr (.inr ⟨a, b, c, rfl, by simp at hl; omega⟩)
  | a :: b :: c :: d :: t, _ => simp at hl; omega
set_option maxHeartbeats 1000000 in
/-- The least scalar that it may become takes as many bytes. -/
theorem reach_low {p : Bs} {sz : Nat} (h : Part p sz) : p.length < scLen (reach p).1 := by
  have hsz := h.sz0
  have hb1 := h.b1
  rcases part_three h with ⟨a, rfl, _⟩ | ⟨a, b, rfl, _⟩ | ⟨a, b, c, rfl, _⟩
  · have hc := first_cls a.toNat a.toNat_lt
    simp at hsz
    simp [reach, scLen]
    generalize a.toNat = x at *
    repeat' split
    all_goals first | omega | (simp at *; omega)
  · have hc := first_cls a.toNat a.toNat_lt
    simp at hsz hb1
    simp [reach, scLen]
    generalize a.toNat = x at *
    generalize b.toNat = y at *
    repeat' split
    all_goals first | omega | (simp at *; omega)
  · have hc := first_cls a.toNat a.toNat_lt
    simp at hsz hb1
    simp [reach, scLen]
    generalize a.toNat = x at *
    generalize b.toNat = y at *
    generalize c.toNat = z at *
    repeat' split
    all_goals first | omega | (simp at *; omega)
theorem reach_max {p : Bs} {sz : Nat} (h : Part p sz) : (reach p).1 ≤ 1114111 := by
  have hsz := h.sz0
  have hb1 := h.b1
  rcases part_three h with ⟨a, rfl, _⟩ | ⟨a, b, rfl, _⟩ | ⟨a, b, c, rfl, _⟩
  · have hc := first_cls a.toNat a.toNat_lt
    simp at hsz
    simp [reach]
    generalize a.toNat = x at *
    repeat' split
    all_goals first | omega | (simp at *; omega)
  · have hc := first_cls a.toNat a.toNat_lt
    simp at hsz hb1
    simp [reach]
    generalize a.toNat = x at *
    generalize b.toNat = y at *
    repeat' split
    all_goals first | omega | (simp at *; omega)
  · have hc := first_cls a.toNat a.toNat_lt
    simp at hsz hb1
    simp [reach]
    generalize a.toNat = x at *
    generalize b.toNat = y at *
    generalize c.toNat = z at *
    repeat' split
    all_goals first | omega | (simp at *; omega)
/-- A scalar, and in how many bytes it is written. -/
theorem slow_len (n b0 b1 b2 b3 : Nat) (hb : b0 < 256) (hs : 2 ≤ szT b0) (h : Lib.slowN n b0 b1 b2 b3 (szT b0) (loT b0) (hiT b0) ≠ (65533, 1)) :
    (Lib.slowN n b0 b1 b2 b3 (szT b0) (loT b0) (hiT b0)).2 = scLen (Lib.slowN n b0 b1 b2 b3 (szT b0) (loT b0) (hiT b0)).1 := by
  have hc := first_cls b0 hb
  revert h
  generalize szT b0 = sz at *
  generalize loT b0 = lo at *
  generalize hiT b0 = hi at *
  unfold Lib.slowN scLen
  repeat' split
  all_goals intro h
  all_goals first | exact absurd rfl h | (simp at *; done) | (simp at *; omega)
theorem dec_len {l : Bs} (hne : l ≠ []) (h : ¬ ((dec l).1 = 65533 ∧ (dec l).2 = 1)) : (dec l).2 = scLen (dec l).1 := by
  have h' : dec l ≠ (65533, 1) := fun e => h (by rw [e]; exact ⟨rfl, rfl⟩)
  rw [dec_ne hne] at h' ⊢
  have hb := gd_lt l 0
  by_cases hs : 2 ≤ szT (l.getD 0 0).toNat
  · rw [decodeN_slow _ _ _ _ _ (len_pos hne) (gd_lt _ _) (gd_lt _ _) (gd_lt _ _) hb hs] at h' ⊢
    exact slow_len _ _ _ _ _ hb hs h'
  · rw [decodeN_one _ _ _ _ _ (gd_lt _ _) hb (by omega)] at h' ⊢
    split at h'
    · rename_i h1
      rw [if_pos h1]
      unfold scLen
      rw [if_pos (by show (((l.getD 0 0).toNat : Nat) : Int) < 128; omega)]
    · exact absurd rfl h'

theorem four1 (x c1 c2 c3 : Nat) (h1 : 240 ≤ x) (h2 : x < 245) (ha : x = 240 → 144 ≤ c1) (hb : x = 244 → c1 ≤ 143) (hc : 128 ≤ c1) (hd : c1 ≤ 191) (_he : 128 ≤ c2 ∧ c2 ≤ 191) (_hf : 128 ≤ c3 ∧ c3 ≤ 191) :
    max ((x : Int) % 8 * 262144) 65536 ≤ (x : Int) % 8 * 262144 + (c1 : Int) % 64 * 4096 + (c2 : Int) % 64 * 64 + (c3 : Int) % 64 ∧ (x : Int) % 8 * 262144 + (c1 : Int) % 64 * 4096 + (c2 : Int) % 64 * 64 + (c3 : Int) % 64 ≤ min ((x : Int) % 8 * 262144 + 262143) 1114111 := by
  omega
theorem four2 (x c1 c2 c3 : Nat) (h1 : 240 ≤ x) (h2 : x < 245) (ha : x = 240 → 144 ≤ c1) (hb : x = 244 → c1 ≤ 143) (hc : 128 ≤ c1) (hd : c1 ≤ 191) (_he : 128 ≤ c2 ∧ c2 ≤ 191) (_hf : 128 ≤ c3 ∧ c3 ≤ 191) :
    max (((x : Int) % 8 * 64 + (c1 : Int) % 64) * 4096) 65536 ≤ (x : Int) % 8 * 262144 + (c1 : Int) % 64 * 4096 + (c2 : Int) % 64 * 64 + (c3 : Int) % 64 ∧ (x : Int) % 8 * 262144 + (c1 : Int) % 64 * 4096 + (c2 : Int) % 64 * 64 + (c3 : Int) % 64 ≤ min (((x : Int) % 8 * 64 + (c1 : Int) % 64) * 4096 + 4095) 1114111 := by
  omega
theorem four3 (x c1 c2 c3 : Nat) (h1 : 240 ≤ x) (h2 : x < 245) (ha : x = 240 → 144 ≤ c1) (hb : x = 244 → c1 ≤ 143) (hc : 128 ≤ c1) (hd : c1 ≤ 191) (_he : 128 ≤ c2 ∧ c2 ≤ 191) (_hf : 128 ≤ c3 ∧ c3 ≤ 191) :
    max ((((x : Int) % 8 * 64 + (c1 : Int) % 64) * 64 + (c2 : Int) % 64) * 64) 65536 ≤ (x : Int) % 8 * 262144 + (c1 : Int) % 64 * 4096 + (c2 : Int) % 64 * 64 + (c3 : Int) % 64 ∧ (x : Int) % 8 * 262144 + (c1 : Int) % 64 * 4096 + (c2 : Int) % 64 * 64 + (c3 : Int) % 64 ≤ min ((((x : Int) % 8 * 64 + (c1 : Int) % 64) * 64 + (c2 : Int) % 64) * 64 + 63) 1114111 := by
  omega
set_option maxHeartbeats 4000000 in
theorem slow_reach {p : Bs} {sz : Nat} (h : Part p sz) (m c1 c2 c3 : Nat) (h1 : c1 < 256) (e1 : 1 < p.length → c1 = (p.getD 1 0).toNat) (e2 : 2 < p.length → c2 = (p.getD 2 0).toNat)
    (hd : Lib.slowN m (p.getD 0 0).toNat c1 c2 c3 sz (loT (p.getD 0 0).toNat) (hiT (p.getD 0 0).toNat) ≠ (65533, 1)) :
    (reach p).1 ≤ ((Lib.slowN m (p.getD 0 0).toNat c1 c2 c3 sz (loT (p.getD 0 0).toNat) (hiT (p.getD 0 0).toNat)).1 : Nat) ∧ ((Lib.slowN m (p.getD 0 0).toNat c1 c2 c3 sz (loT (p.getD 0 0).toNat) (hiT (p.getD 0 0).toNat)).1 : Nat) ≤ (reach p).2 := by
  have hsz := h.sz0
  have hb1 := h.b1
  have hb2 := h.b2
  have hc := first_cls (p.getD 0 0).toNat (gd_lt p 0)
  rw [← hsz] at hc
  rcases part_three h with ⟨a, rfl, _⟩ | ⟨a, b, rfl, _⟩ | ⟨a, b, c, rfl, _⟩
  · simp at hsz hb1 hb2 hc hd e1 e2
    simp [reach]
    clear hsz h
    generalize loT a.toNat = lo at *
    generalize hiT a.toNat = hi at *
    generalize a.toNat = x at *
    revert hd
    unfold Lib.slowN
    rcases hc with hc | hc | hc | hc | hc
    · omega
    · omega
    · obtain ⟨rfl, hc⟩ := hc
      repeat' split
      all_goals intro hd
      all_goals first | exact absurd rfl hd | (clear hd; exfalso; omega) | (clear hd; simp; omega)
    · obtain ⟨rfl, hc⟩ := hc
      repeat' split
      all_goals intro hd
      all_goals first | exact absurd rfl hd | (clear hd; exfalso; omega) | (clear hd; simp; omega)
    · obtain ⟨rfl, hc⟩ := hc
      repeat' split
      all_goals intro hd
      all_goals first | exact absurd rfl hd | (clear hd; exfalso; omega) | (clear hd; simp; exact four1 x c1 c2 c3 (by omega) (by omega) (by omega) (by omega) (by omega) (by omega) (by omega) (by omega))
  · simp at hsz hb1 hb2 hc hd e1 e2
    simp [reach]
    clear hsz h
    generalize loT a.toNat = lo at *
    generalize hiT a.toNat = hi at *
    generalize a.toNat = x at *
    generalize b.toNat = y at *
    subst e1
    revert hd
    unfold Lib.slowN
    rcases hc with hc | hc | hc | hc | hc
    · omega
    · omega
    · omega
    · obtain ⟨rfl, hc⟩ := hc
      repeat' split
      all_goals intro hd
      all_goals first | exact absurd rfl hd | (clear hd; exfalso; omega) | (clear hd; simp; omega)
    · obtain ⟨rfl, hc⟩ := hc
      repeat' split
      all_goals intro hd
      all_goals first | exact absurd rfl hd | (clear hd; exfalso; omega) | (clear hd; simp; exact four2 x c1 c2 c3 (by omega) (by omega) (by omega) (by omega) (by omega) (by omega) (by omega) (by omega))
  · simp at hsz hb1 hb2 hc hd e1 e2
    simp [reach]
    clear hsz h
    generalize loT a.toNat = lo at *
    generalize hiT a.toNat = hi at *
    generalize a.toNat = x at *
    generalize b.toNat = y at *
    generalize c.toNat = z at *
    subst e1
    subst e2
    revert hd
    unfold Lib.slowN
    rcases hc with hc | hc | hc | hc | hc
    · omega
    · omega
    · omega
    · omega
    · obtain ⟨rfl, hc⟩ := hc
      repeat' split
      all_goals intro hd
      all_goals first | exact absurd rfl hd | (clear hd; exfalso; omega) | (clear hd; simp; exact four3 x c1 c2 c3 (by omega) (by omega) (by omega) (by omega) (by omega) (by omega) (by omega) (by omega))
theorem reach_in {p : Bs} (hne : p ≠ []) (hf : full p = false) (g : Bs) (hd : ¬ ((dec (p ++ g)).1 = 65533 ∧ (dec (p ++ g)).2 = 1)) : (reach p).1 ≤ ((dec (p ++ g)).1 : Nat) ∧ ((dec (p ++ g)).1 : Nat) ≤ (reach p).2 := by
  have hp := part_of hne hf
  have hl := len_pos hne
  have hne2 : p ++ g ≠ [] := fun e => hne (List.append_eq_nil_iff.1 e).1
  have hs : 2 ≤ szT (p.getD 0 0).toNat := by have := hp.lt; omega
  have h' : dec (p ++ g) ≠ (65533, 1) := fun e => hd (by rw [e]; exact ⟨rfl, rfl⟩)
  rw [dec_ne hne2, gd_app p g 0 hl, decodeN_slow _ _ _ _ _ (len_pos hne2) (gd_lt _ _) (gd_lt _ _) (gd_lt _ _) (gd_lt _ _) hs] at h' ⊢
  exact slow_reach hp _ _ _ _ (gd_lt _ _) (fun i => by rw [gd_app p g 1 i]) (fun i => by rw [gd_app p g 2 i]) h'
end Go.Proofs.YtlhokghgicgppaaGreatDoor.Sg
