/- The scanner, plainly: what Next does, as a function. Nothing of the program is named here. -/
/- Plain laws of the walk. -/
/- Next, plainly. -/
/- Plain laws of Next. -/
/- Plain laws of bytes: what is decided by a beginning stays so. -/
import Derived.Lib.DecodeN
import Derived.Lib.RuneCount
import Derived.Lib.LastIndexByte
import Derived.Lib.Bytealg
set_option linter.unusedSimpArgs false
set_option linter.unusedVariables false
set_option maxRecDepth 100000
set_option maxHeartbeats 4000000
namespace Go.Proofs.YtlhokghgicgppaaGreatDoor.Sg
open Go
abbrev Bs := List UInt8
structure Mach where
  cuts : List (Int × Int)
  states : List (Int × List Int)
def lowAt (cuts : List (Int × Int)) (i : Nat) : Int := (cuts.getD i (0, 0)).1
def kindAt (cuts : List (Int × Int)) (i : Nat) : Int := (cuts.getD i (0, 0)).2
def cutGo (cuts : List (Int × Int)) (c : Int) : Nat → Nat → Nat → Nat
  | 0, low, _ => low
  | f + 1, low, high =>
    if 1 < high - low then
      if lowAt cuts ((low + high) / 2) ≤ c then cutGo cuts c f ((low + high) / 2) high
      else cutGo cuts c f low ((low + high) / 2)
    else low
def cutIx (cuts : List (Int × Int)) (c : Int) : Nat := cutGo cuts c cuts.length 0 cuts.length
def Mach.next (m : Mach) (s : Nat) (k : Nat) : Int := (m.states.getD s (0, [])).2.getD k 0
def Mach.rule (m : Mach) (s : Nat) : Int := (m.states.getD s (0, [])).1
def Mach.width (m : Mach) (s : Nat) : Nat := (m.states.getD s (0, [])).2.length
def Mach.kind (m : Mach) (i : Nat) : Nat := (kindAt m.cuts i).toNat
def Mach.after (m : Mach) (s : Nat) (c : Int) : Int := m.next s (m.kind (cutIx m.cuts c))
def Mach.goesGo (m : Mach) (s : Nat) (high : Int) : List (Int × Int) → Bool
  | [] => false
  | c :: r => if high < c.1 then false else if m.next s c.2.toNat = -1 then m.goesGo s high r else true
def Mach.goesOn (m : Mach) (s : Nat) (low high : Int) : Bool := m.goesGo s high (m.cuts.drop (cutIx m.cuts low))
structure Mach.Ok (m : Mach) : Prop where
  cuts0 : 0 < m.cuts.length
  cutsN : m.cuts.length < 1000000000
  kind0 : ∀ i, i < m.cuts.length → 0 ≤ kindAt m.cuts i
  kinds : ∀ i, i < m.cuts.length → ∀ s, s < m.states.length → kindAt m.cuts i < m.width s
  nexts : ∀ s, s < m.states.length → ∀ k, k < m.width s → m.next s k = -1 ∨ (0 ≤ m.next s k ∧ m.next s k < m.states.length)
  states0 : 0 < m.states.length
  statesN : m.states.length < 1000000000
  nextN : ∀ s, s < m.states.length → m.width s < 1000000000
theorem cutGo_lt (cuts : List (Int × Int)) (c : Int) : ∀ (f low high : Nat), low < high → cutGo cuts c f low high < high ∧ low ≤ cutGo cuts c f low high
  | 0, low, high, h => by simp [cutGo, h]
  | f + 1, low, high, h => by
    unfold cutGo
    by_cases h1 : 1 < high - low
    · simp only [h1, if_true]
      split
      · have := cutGo_lt cuts c f ((low + high) / 2) high (by omega)
        omega
      · have := cutGo_lt cuts c f low ((low + high) / 2) (by omega)
        omega
    · simp only [h1, if_false]; omega
theorem cutIx_lt (cuts : List (Int × Int)) (c : Int) (h : 0 < cuts.length) : cutIx cuts c < cuts.length := (cutGo_lt cuts c _ 0 _ h).1
theorem cutGo_fuel (cuts : List (Int × Int)) (c : Int) : ∀ (f g low high : Nat), high - low ≤ f → high - low ≤ g → cutGo cuts c f low high = cutGo cuts c g low high
  | 0, 0, _, _, _, _ => rfl
  | 0, g + 1, low, high, h, _ => by
    have h1 : ¬ 1 < high - low := by omega
    simp [cutGo, h1]
  | f + 1, 0, low, high, _, h => by
    have h1 : ¬ 1 < high - low := by omega
    simp [cutGo, h1]
  | f + 1, g + 1, low, high, hf, hg => by
    unfold cutGo
    by_cases h1 : 1 < high - low
    · simp only [h1, if_true]
      split
      · exact cutGo_fuel cuts c f g _ _ (by omega) (by omega)
      · exact cutGo_fuel cuts c f g _ _ (by omega) (by omega)
    · simp only [h1, if_false]
theorem cutGo_step (cuts : List (Int × Int)) (c : Int) (low high : Nat) (h : 1 < high - low) :
    cutGo cuts c (high - low) low high = if lowAt cuts ((low + high) / 2) ≤ c then cutGo cuts c (high - (low + high) / 2) ((low + high) / 2) high else cutGo cuts c ((low + high) / 2 - low) low ((low + high) / 2) := by
  obtain ⟨f, hf⟩ : ∃ f, high - low = f + 1 := ⟨high - low - 1, by omega⟩
  rw [hf]
  conv => lhs; unfold cutGo
  simp only [show 1 < high - low from h, if_true]
  split
  · exact cutGo_fuel cuts c _ _ _ _ (by omega) (by omega)
  · exact cutGo_fuel cuts c _ _ _ _ (by omega) (by omega)
theorem cutGo_end (cuts : List (Int × Int)) (c : Int) (f low high : Nat) (h : ¬ 1 < high - low) : cutGo cuts c f low high = low := by
  cases f <;> simp [cutGo, h]
def dec (l : Bs) : Nat × Nat := if l = [] then (65533, 0) else Lib.decodeN l.length (l.getD 0 0).toNat (l.getD 1 0).toNat (l.getD 2 0).toNat (l.getD 3 0).toNat
def full (l : Bs) : Bool :=
  if l = [] then false
  else if Lib.firstT (l.getD 0 0).toNat % 8 ≤ l.length then true
  else if 1 < l.length ∧ ((l.getD 1 0).toNat < Lib.accLo (Lib.firstT (l.getD 0 0).toNat / 16) ∨ Lib.accHi (Lib.firstT (l.getD 0 0).toNat / 16) < (l.getD 1 0).toNat) then true
  else if 2 < l.length ∧ ((l.getD 2 0).toNat < 128 ∨ 191 < (l.getD 2 0).toNat) then true
  else false
structure Wk where
  state : Int
  passed : Nat
  rule : Int
  length : Nat
def Wk.zero : Wk := ⟨0, 0, -1, 0⟩
def stepW (m : Mach) (k : Wk) (text : Bs) : Wk :=
  if (dec text).1 = 65533 ∧ (dec text).2 = 1 then { k with state := -1 }
  else
    let s := m.after k.state.toNat (dec text).1
    let p := k.passed + (dec text).2
    if s = -1 then { k with state := -1, passed := p }
    else if m.rule s.toNat = -1 then { k with state := s, passed := p }
    else ⟨s, p, m.rule s.toNat, p⟩
def walkTo (m : Mach) (text : Bs) : Nat → Wk → Wk
  | 0, k => k
  | f + 1, k => if k.state ≠ -1 ∧ full (text.drop k.passed) = true then walkTo m text f (stepW m k (text.drop k.passed)) else k
def reach (p : Bs) : Int × Int :=
  let b0 := (p.getD 0 0).toNat
  let size := if 240 ≤ b0 then 4 else if 224 ≤ b0 then 3 else 2
  let least := if 240 ≤ b0 then 65536 else if 224 ≤ b0 then 2048 else 0
  let low := (p.drop 1).foldl (fun a b => a * 64 + b.toNat % 64) (b0 % (if 240 ≤ b0 then 8 else if 224 ≤ b0 then 16 else 32))
  let up := 64 ^ (size - p.length)
  (max (low * up) least, min (low * up + (up - 1)) 1114111)
def aliveW (m : Mach) (text : Bs) (k : Wk) : Bool :=
  if k.state = -1 then false
  else if text.drop k.passed = [] then true
  else m.goesOn k.state.toNat (reach (text.drop k.passed)).1 (reach (text.drop k.passed)).2
structure Pc where
  text : Bs
  n : Int
  kind : Int
structure Src where
  l : List Pc
  at_ : Nat
  empty : Nat
-- on the left what it gave; on the right a count below nought, one above the room, a panic
abbrev Got := Sum (Bs × Option Int) (Option Bool)
def srcGo (most : Nat) : List Pc → Nat → Nat → Got × Src
  | [], a, e => (.inl ([], some 13), ⟨[], a, e⟩)
  | c :: r, a, e =>
    if a < c.text.length then
      (.inl ((c.text.drop a).take most, if c.kind = 5 ∧ a + min most (c.text.length - a) = c.text.length then some 14 else none), ⟨c :: r, a + min most (c.text.length - a), e⟩)
    else if (e : Int) < c.n then (.inl ([], none), ⟨c :: r, a, e + 1⟩)
    else if c.kind = 1 ∨ c.kind = 5 then (.inl ([], some 14), ⟨c :: r, a, e⟩)
    else if c.kind = 2 then (.inr none, ⟨c :: r, a, e⟩)
    else if c.kind = 3 then (.inr (some false), ⟨c :: r, a, e⟩)
    else if c.kind = 4 then (.inr (some true), ⟨c :: r, a, e⟩)
    else srcGo most r 0 0
def srcRead (most : Nat) (s : Src) : Got × Src := srcGo most s.l s.at_ s.empty
theorem srcRead_nil (most a e : Nat) : srcRead most ⟨[], a, e⟩ = (.inl ([], some 13), ⟨[], a, e⟩) := rfl
theorem srcRead_cons (most : Nat) (c : Pc) (r : List Pc) (a e : Nat) : srcRead most ⟨c :: r, a, e⟩ =
    if a < c.text.length then
      (.inl ((c.text.drop a).take most, if c.kind = 5 ∧ a + min most (c.text.length - a) = c.text.length then some 14 else none), ⟨c :: r, a + min most (c.text.length - a), e⟩)
    else if (e : Int) < c.n then (.inl ([], none), ⟨c :: r, a, e + 1⟩)
    else if c.kind = 1 ∨ c.kind = 5 then (.inl ([], some 14), ⟨c :: r, a, e⟩)
    else if c.kind = 2 then (.inr none, ⟨c :: r, a, e⟩)
    else if c.kind = 3 then (.inr (some false), ⟨c :: r, a, e⟩)
    else if c.kind = 4 then (.inr (some true), ⟨c :: r, a, e⟩)
    else srcRead most ⟨r, 0, 0⟩ := rfl
def ask1 (most : Nat) (s : Src) : (Bs × Option Int) × Src :=
  match srcRead most s with
  | (.inl (b, e), s') => ((b, e), s')
  | (_, s') => (([], some 11), s')
def askN (most : Nat) : Nat → Src → (Bs × Option Int) × Src
  | 0, s => (([], some 12), s)
  | k + 1, s =>
    let r := ask1 most s
    if r.1.1 ≠ [] ∨ r.1.2 ≠ none then r else askN most k r.2
structure Live where
  cap : Nat
  rest : Bs
  stop : Option Int
  wk : Wk
  at_ : Int
  line : Int
  col : Int
  src : Src
-- on the left a scanner that goes on; on the right one that told its error
abbrev Sc := Sum Live Int
structure Tok where
  rule : Int
  at_ : Int
  line : Int
  col : Int
  text : Bs
def Live.size (s : Live) : Nat := if s.wk.length = 0 then (dec s.rest).2 else s.wk.length
def Live.more (s : Live) : Live :=
  let r := askN (s.cap - s.rest.length) 8 s.src
  { s with rest := s.rest ++ r.1.1, stop := r.1.2, src := r.2 }
def Live.walked (m : Mach) (s : Live) : Live := { s with wk := walkTo m s.rest (s.rest.length + 1) s.wk }
end Go.Proofs.YtlhokghgicgppaaGreatDoor.Sg
namespace Go.Proofs.YtlhokghgicgppaaGreatDoor.Sg
open Go
theorem dec_le (l : Bs) : (dec l).2 ≤ l.length := by
  unfold dec
  split
  · simp
  · rename_i h
    have hn : 1 ≤ l.length := by rcases l with _ | _; exact absurd rfl h; simp
    generalize l.length = n at *
    unfold Lib.decodeN
    repeat' split
    all_goals (simp; try omega)
theorem dec_pos (l : Bs) (h : l ≠ []) : 1 ≤ (dec l).2 := by
  unfold dec Lib.decodeN
  rw [if_neg h]
  repeat' split
  all_goals simp
def Wk.Ok (m : Mach) (l : Bs) (k : Wk) : Prop := k.passed ≤ l.length ∧ k.length ≤ k.passed ∧ (k.state = -1 ∨ ∃ s : Nat, k.state = s ∧ s < m.states.length)
theorem after_ok (m : Mach) (hm : m.Ok) (s : Nat) (c : Int) (hs : s < m.states.length) : m.after s c = -1 ∨ ∃ t : Nat, m.after s c = t ∧ t < m.states.length := by
  have hi := cutIx_lt m.cuts c hm.cuts0
  have h0 := hm.kind0 _ hi
  have h1 := hm.kinds _ hi s hs
  have := hm.nexts s hs (m.kind (cutIx m.cuts c)) (by unfold Mach.kind; omega)
  rcases this with h | ⟨h2, h3⟩
  · exact .inl h
  · exact .inr ⟨(m.after s c).toNat, by unfold Mach.after; omega, by unfold Mach.after; omega⟩
def need (l : Bs) (k : Wk) : Nat := if k.state = -1 then 0 else l.length - k.passed + 1
theorem full_nil : full [] = false := rfl
theorem full_ne {l : Bs} (h : full l = true) : l ≠ [] := by rintro rfl; cases h
theorem stepW_ok (m : Mach) (hm : m.Ok) (l : Bs) (k : Wk) (hk : k.Ok m l) (hs : k.state ≠ -1) (hf : full (l.drop k.passed) = true) :
    (stepW m k (l.drop k.passed)).Ok m l ∧ need l (stepW m k (l.drop k.passed)) < need l k := by
  obtain ⟨hp, hle, hst⟩ := hk
  rcases hst with h | ⟨s, hs', hsl⟩
  · exact absurd h hs
  have hne := full_ne hf
  have h1 := dec_pos _ hne
  have h2 := dec_le (l.drop k.passed)
  rw [List.length_drop] at h2
  have hpl : k.passed < l.length := by
    rcases Nat.lt_or_ge k.passed l.length with q | q
    · exact q
    · exact absurd (List.drop_of_length_le q) hne
  have hn : need l k = l.length - k.passed + 1 := by unfold need; rw [if_neg hs]
  have key : ∀ (st : Int) (p : Nat) (ru : Int) (ln : Nat), p ≤ l.length → ln ≤ p → (st = -1 ∨ ((∃ t : Nat, st = t ∧ t < m.states.length) ∧ k.passed < p)) → Wk.Ok m l ⟨st, p, ru, ln⟩ ∧ need l ⟨st, p, ru, ln⟩ < need l k := by
    intro st p ru ln h3 h4 h5
    refine ⟨⟨h3, h4, ?_⟩, ?_⟩
    · rcases h5 with h5 | h5
      · exact .inl h5
      · exact .inr h5.1
    · rw [hn]
      unfold need
      rcases h5 with h5 | ⟨-, h5⟩
      · simp only [h5, if_true]; omega
      · split
        · omega
        · simp only; omega
  have b1 : k.passed + (dec (l.drop k.passed)).2 ≤ l.length := by omega
  have b2 : k.length ≤ k.passed + (dec (l.drop k.passed)).2 := by omega
  have b3 : k.passed < k.passed + (dec (l.drop k.passed)).2 := by omega
  have ha := after_ok m hm s ((dec (l.drop k.passed)).1 : Nat) hsl
  unfold stepW
  rw [hs']
  simp only [Int.toNat_natCast]
  split
  · exact key _ _ _ _ hp hle (.inl rfl)
  · split
    · exact key _ _ _ _ b1 b2 (.inl rfl)
    · rename_i hx
      rcases ha with ha | ha
      · exact absurd ha hx
      · split
        · exact key _ _ _ _ b1 b2 (.inr ⟨ha, b3⟩)
        · exact key _ _ _ _ b1 (Nat.le_refl _) (.inr ⟨ha, b3⟩)
theorem walkTo_stay (m : Mach) (l : Bs) (f : Nat) (k : Wk) (h : ¬ (k.state ≠ -1 ∧ full (l.drop k.passed) = true)) : walkTo m l f k = k := by
  cases f with
  | zero => rfl
  | succ f => unfold walkTo; rw [if_neg h]
theorem walkTo_fuel (m : Mach) (hm : m.Ok) (l : Bs) : ∀ (f g : Nat) (k : Wk), k.Ok m l → need l k ≤ f → need l k ≤ g → walkTo m l f k = walkTo m l g k
  | 0, g, k, hk, hf, _ => by
    have : k.state = -1 := by
      unfold need at hf
      by_cases h : k.state = -1
      · exact h
      · rw [if_neg h] at hf; omega
    rw [walkTo_stay m l 0 k (fun c => c.1 this), walkTo_stay m l g k (fun c => c.1 this)]
  | f + 1, 0, k, hk, _, hg => by
    have : k.state = -1 := by
      unfold need at hg
      by_cases h : k.state = -1
      · exact h
      · rw [if_neg h] at hg; omega
    rw [walkTo_stay m l (f + 1) k (fun c => c.1 this), walkTo_stay m l 0 k (fun c => c.1 this)]
  | f + 1, g + 1, k, hk, hf, hg => by
    unfold walkTo
    by_cases h : k.state ≠ -1 ∧ full (l.drop k.passed) = true
    · rw [if_pos h, if_pos h]
      obtain ⟨ho, hn⟩ := stepW_ok m hm l k hk h.1 h.2
      exact walkTo_fuel m hm l f g _ ho (by omega) (by omega)
    · rw [if_neg h, if_neg h]
theorem walkTo_go (m : Mach) (hm : m.Ok) (l : Bs) (f : Nat) (k : Wk) (hk : k.Ok m l) (hf : need l k ≤ f) (h : k.state ≠ -1 ∧ full (l.drop k.passed) = true) :
    walkTo m l f k = walkTo m l f (stepW m k (l.drop k.passed)) := by
  obtain ⟨ho, hn⟩ := stepW_ok m hm l k hk h.1 h.2
  cases f with
  | zero => omega
  | succ f =>
    conv => lhs; unfold walkTo
    rw [if_pos h]
    exact walkTo_fuel m hm l _ _ _ ho (by omega) (by omega)
theorem need_le (l : Bs) (k : Wk) : need l k ≤ l.length + 1 := by unfold need; split <;> omega
end Go.Proofs.YtlhokghgicgppaaGreatDoor.Sg
namespace Go.Proofs.YtlhokghgicgppaaGreatDoor.Sg
open Go
def Live.passT (s : Live) (t : Bs) : Live :=
  if 0 < Lib.countByte t 10 then { s with at_ := s.at_ + t.length, line := s.line + Lib.countByte t 10, col := 1 + Lib.runeCountL (t.drop (Lib.lastIndexByte ⟨t.toArray⟩ 10 + 1).toNat) }
  else { s with at_ := s.at_ + t.length, col := s.col + Lib.runeCountL t }
def Live.tok (s : Live) : Tok := ⟨s.wk.rule, s.at_, s.line, s.col, s.rest.take s.size⟩
def Live.cutT (s : Live) : Live := { s.passT (s.rest.take s.size) with rest := s.rest.drop s.size, wk := Wk.zero }
def Live.alive (m : Mach) (s : Live) : Bool := aliveW m s.rest s.wk
def Live.unsure (m : Mach) (s : Live) : Bool := s.alive m || !full s.rest
def nextT (m : Mach) : Nat → Live → (Except Int Tok) × Sc
  | 0, s => (.error 0, .inl s)
  | f + 1, s0 =>
    if (s0.walked m).alive m = true ∧ (s0.walked m).cap ≤ (s0.walked m).rest.length then (.error 10, .inr 10)
    else if (s0.walked m).unsure m = true ∧ (s0.walked m).stop = none then nextT m f (s0.walked m).more
    else if ((s0.walked m).unsure m = true ∧ (s0.walked m).stop ≠ some 13) ∨ (s0.walked m).rest = [] then (.error ((s0.walked m).stop.getD 0), .inr ((s0.walked m).stop.getD 0))
    else (.ok (s0.walked m).tok, .inl (s0.walked m).cutT)
end Go.Proofs.YtlhokghgicgppaaGreatDoor.Sg
namespace Go.Proofs.YtlhokghgicgppaaGreatDoor.Sg
open Go
theorem walkTo_ok (m : Mach) (hm : m.Ok) (l : Bs) : ∀ (f : Nat) (k : Wk), k.Ok m l → (walkTo m l f k).Ok m l
  | 0, k, h => h
  | f + 1, k, h => by
    unfold walkTo
    split
    · rename_i hc
      exact walkTo_ok m hm l f _ (stepW_ok m hm l k h hc.1 hc.2).1
    · exact h
theorem askN_some (most : Nat) : ∀ (k : Nat) (s : Src), (askN most k s).1.1 ≠ [] ∨ (askN most k s).1.2 ≠ none
  | 0, s => .inr (by simp [askN])
  | k + 1, s => by
    unfold askN
    dsimp only
    split
    · assumption
    · exact askN_some most k _
def Live.nf (L : Live) : Nat := L.cap - L.rest.length + (if L.stop = none then 1 else 0)
theorem nf_more (L : Live) (hs : L.stop = none) (hl : L.rest.length < L.cap) (hb : (askN (L.cap - L.rest.length) 8 L.src).1.1.length ≤ L.cap - L.rest.length) : L.more.nf < L.nf := by
  have h := askN_some (L.cap - L.rest.length) 8 L.src
  unfold Live.nf Live.more
  dsimp only
  rw [if_pos hs, List.length_append]
  rcases h with h | h
  · have : 1 ≤ (askN (L.cap - L.rest.length) 8 L.src).1.1.length := by
      rcases hx : (askN (L.cap - L.rest.length) 8 L.src).1.1 with _ | _
      · exact absurd hx h
      · simp
    split <;> omega
  · rw [if_neg h]; omega
theorem full_short {l : Bs} (h : full l = false) : l.length < 4 := by
  unfold full at h
  split at h
  · rename_i e; rw [e]; simp
  · rename_i hne
    split at h
    · cases h
    · rename_i hb
      have hx : Lib.firstT (l.getD 0 0).toNat % 8 ≤ 4 := by
        generalize (l.getD 0 0).toNat = k
        unfold Lib.firstT
        repeat' split
        all_goals decide
      omega
theorem Wk.zero_ok (m : Mach) (hm : m.Ok) (l : Bs) : Wk.zero.Ok m l := ⟨Nat.zero_le _, Nat.le_refl _, .inr ⟨0, rfl, hm.states0⟩⟩
theorem Wk.Ok.more {m : Mach} {l : Bs} {k : Wk} (h : k.Ok m l) (g : Bs) : k.Ok m (l ++ g) := ⟨by rw [List.length_append]; exact Nat.le_trans h.1 (Nat.le_add_right _ _), h.2.1, h.2.2⟩
theorem unsure_lt {m : Mach} {L : Live} (hc : 4 ≤ L.cap) (h1 : ¬ (L.alive m = true ∧ L.cap ≤ L.rest.length)) (h2 : L.unsure m = true) : L.rest.length < L.cap := by
  unfold Live.unsure at h2
  rcases Nat.lt_or_ge L.rest.length L.cap with h | h
  · exact h
  · exfalso
    by_cases ha : L.alive m = true
    · exact h1 ⟨ha, h⟩
    · have hf : full L.rest = false := by
        cases hx : full L.rest
        · rfl
        · simp [hx] at h2; exact absurd h2 ha
      have := full_short hf
      omega
theorem walked_nf (m : Mach) (L : Live) : (L.walked m).nf = L.nf := rfl
theorem more_le (L : Live) (h : L.rest.length ≤ L.cap) (hal : ∀ most k s, (askN most k s).1.1.length ≤ most) : L.more.rest.length ≤ L.more.cap := by
  show (L.rest ++ (askN (L.cap - L.rest.length) 8 L.src).1.1).length ≤ L.cap
  have := hal (L.cap - L.rest.length) 8 L.src
  rw [List.length_append]; omega
theorem nextT_fuel (m : Mach) (hal : ∀ most k s, (askN most k s).1.1.length ≤ most) : ∀ (f g : Nat) (L : Live), 4 ≤ L.cap → L.rest.length ≤ L.cap → L.nf < f → L.nf < g → nextT m f L = nextT m g L
  | 0, _, L, _, _, h, _ => absurd h (Nat.not_lt_zero _)
  | _ + 1, 0, L, _, _, _, h => absurd h (Nat.not_lt_zero _)
  | f + 1, g + 1, L, hc, hl, hf, hg => by
    unfold nextT
    by_cases c1 : (L.walked m).alive m = true ∧ (L.walked m).cap ≤ (L.walked m).rest.length
    · rw [if_pos c1, if_pos c1]
    · rw [if_neg c1, if_neg c1]
      by_cases c2 : (L.walked m).unsure m = true ∧ (L.walked m).stop = none
      · rw [if_pos c2, if_pos c2]
        have hlt : (L.walked m).rest.length < (L.walked m).cap := unsure_lt (m := m) hc c1 c2.1
        have hn := nf_more (L.walked m) c2.2 hlt (hal _ _ _)
        rw [walked_nf] at hn
        exact nextT_fuel m hal f g _ hc (more_le _ (Nat.le_of_lt hlt) hal) (by omega) (by omega)
      · rw [if_neg c2, if_neg c2]
theorem nextT_more (m : Mach) (hal : ∀ most k s, (askN most k s).1.1.length ≤ most) (L : Live) (hc : 4 ≤ L.cap) (c1 : ¬ ((L.walked m).alive m = true ∧ (L.walked m).cap ≤ (L.walked m).rest.length)) (c2 : (L.walked m).unsure m = true ∧ (L.walked m).stop = none) :
    nextT m (L.nf + 1) L = nextT m ((L.walked m).more.nf + 1) (L.walked m).more ∧ (L.walked m).more.nf < L.nf := by
  have hlt : (L.walked m).rest.length < (L.walked m).cap := unsure_lt (m := m) hc c1 c2.1
  have hn := nf_more (L.walked m) c2.2 hlt (hal _ _ _)
  rw [walked_nf] at hn
  refine ⟨?_, hn⟩
  conv => lhs; unfold nextT
  rw [if_neg c1, if_pos c2]
  exact nextT_fuel m hal _ _ _ hc (more_le _ (Nat.le_of_lt hlt) hal) (by omega) (by omega)
end Go.Proofs.YtlhokghgicgppaaGreatDoor.Sg
namespace Go.Proofs.YtlhokghgicgppaaGreatDoor.Sg
open Go
def hiT (b : Nat) : Nat := Lib.accHi (Lib.firstT b / 16)
def scLen (c : Int) : Nat := if c < 128 then 1 else if c < 2048 then 2 else if c < 65536 then 3 else 4
end Go.Proofs.YtlhokghgicgppaaGreatDoor.Sg
