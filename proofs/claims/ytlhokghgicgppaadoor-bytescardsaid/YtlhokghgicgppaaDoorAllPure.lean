/- Plain laws of scanners whose readers do not fail: the tokens make up the text. -/
/- All the tokens of a scanner, plainly. -/
import Derived.Test.YtlhokghgicgppaaDoorNextPure
set_option linter.unusedSimpArgs false
set_option linter.unusedVariables false
namespace Go.Proofs.YtlhokghgicgppaaDoor.Sg
open Go

/-- What a source has yet to give. -/
def Src.bytes : Src → Bs
  | ⟨[], _, _⟩ => []
  | ⟨c :: r, a, _⟩ => c.text.drop a ++ r.flatMap (·.text)
theorem bytes_cons (c : Pc) (r : List Pc) (a e : Nat) : (⟨c :: r, a, e⟩ : Src).bytes = c.text.drop a ++ r.flatMap (·.text) := rfl
theorem bytes_fresh (r : List Pc) : (⟨r, 0, 0⟩ : Src).bytes = r.flatMap (·.text) := by
  cases r <;> simp [Src.bytes]
def Pc.Good (c : Pc) : Prop := c.kind = 0 ∧ c.n ≤ 1 ∧ (c.text ≠ [] ∨ c.n ≤ 0)
def Src.Good (s : Src) : Prop := ∀ c ∈ s.l, c.Good

theorem drop_ne {l : Bs} {a : Nat} (h : a < l.length) : l.drop a ≠ [] := fun e => by
  have := congrArg List.length e
  simp at this; omega
theorem take_drop_split (l : Bs) (a most : Nat) (h : a < l.length) : l.drop a = (l.drop a).take most ++ l.drop (a + min most (l.length - a)) := by
  have e : l.drop (a + min most (l.length - a)) = (l.drop a).drop most := by
    rw [List.drop_drop]
    by_cases h1 : most ≤ l.length - a
    · rw [Nat.min_eq_left h1]
    · rw [Nat.min_eq_right (by omega), List.drop_of_length_le (by omega), List.drop_of_length_le (by omega)]
  rw [e, List.take_append_drop]

/-- A Read of bytes. -/
theorem srcRead_text (most : Nat) (c : Pc) (r : List Pc) (a e : Nat) (hk : c.kind = 0) (h : a < c.text.length) :
    srcRead most ⟨c :: r, a, e⟩ = (.inl ((c.text.drop a).take most, none), ⟨c :: r, a + min most (c.text.length - a), e⟩) := by
  rw [srcRead_cons, if_pos h, if_neg (by rw [hk]; intro t; exact absurd t.1 (by decide))]
theorem srcRead_idle (most : Nat) (c : Pc) (r : List Pc) (a e : Nat) (h : ¬ a < c.text.length) (he : (e : Int) < c.n) :
    srcRead most ⟨c :: r, a, e⟩ = (.inl ([], none), ⟨c :: r, a, e + 1⟩) := by
  rw [srcRead_cons, if_neg h, if_pos he]
theorem srcRead_pass (most : Nat) (c : Pc) (r : List Pc) (a e : Nat) (hk : c.kind = 0) (h : ¬ a < c.text.length) (he : ¬ (e : Int) < c.n) :
    srcRead most ⟨c :: r, a, e⟩ = srcRead most ⟨r, 0, 0⟩ := by
  rw [srcRead_cons, if_neg h, if_neg he, hk]
  simp

/-- How a question may end. -/
def Gave (most : Nat) (s : Src) (x : (Bs × Option Int) × Src) : Prop :=
  (∃ b s', x = ((b, none), s') ∧ b ≠ [] ∧ s'.Good ∧ s.bytes = b ++ s'.bytes) ∨ (∃ s', x = (([], some 13), s') ∧ s.bytes = [])
theorem ask1_fresh (most : Nat) (hm : 1 ≤ most) : ∀ (l : List Pc), (∀ c ∈ l, c.Good) → Gave most ⟨l, 0, 0⟩ (ask1 most ⟨l, 0, 0⟩)
  | [], _ => by
    refine .inr ⟨⟨[], 0, 0⟩, ?_, rfl⟩
    unfold ask1
    rw [srcRead_nil]
  | c :: r, h => by
    have hc := h c (by simp)
    by_cases ht : 0 < c.text.length
    · refine .inl ⟨(c.text.drop 0).take most, ⟨c :: r, 0 + min most (c.text.length - 0), 0⟩, ?_, ?_, h, ?_⟩
      · unfold ask1
        rw [srcRead_text most c r 0 0 hc.1 ht]
      · intro e
        have := congrArg List.length e
        rw [List.length_take, List.length_drop, List.length_nil] at this; omega
      · show c.text.drop 0 ++ _ = _ ++ (c.text.drop (0 + min most (c.text.length - 0)) ++ _)
        rw [← List.append_assoc, ← take_drop_split _ _ _ ht]
    · have he : c.text = [] := List.eq_nil_of_length_eq_zero (by omega)
      have hn : c.n ≤ 0 := by rcases hc.2.2 with g | g; exact absurd he g; exact g
      have e1 : ask1 most ⟨c :: r, 0, 0⟩ = ask1 most ⟨r, 0, 0⟩ := by
        unfold ask1
        rw [srcRead_pass most c r 0 0 hc.1 ht (by omega)]
      have e2 : (⟨c :: r, 0, 0⟩ : Src).bytes = (⟨r, 0, 0⟩ : Src).bytes := by
        rw [bytes_cons, bytes_fresh, he]; simp
      have := ask1_fresh most hm r (fun d hd => h d (by simp [hd]))
      rw [e1]
      unfold Gave at this ⊢
      rw [e2]; exact this
theorem ask1_good (most : Nat) (hm : 1 ≤ most) (s : Src) (h : s.Good) : Gave most s (ask1 most s) ∨ ∃ s', ask1 most s = (([], none), s') ∧ s'.Good ∧ s.bytes = s'.bytes ∧ Gave most s' (ask1 most s') := by
  match s, h with
  | ⟨[], a, e⟩, _ =>
    refine .inl (.inr ⟨⟨[], a, e⟩, ?_, rfl⟩)
    unfold ask1
    rw [srcRead_nil]
  | ⟨c :: r, a, e⟩, h =>
    have hc := h c (by simp)
    by_cases ht : a < c.text.length
    · refine .inl (.inl ⟨(c.text.drop a).take most, ⟨c :: r, a + min most (c.text.length - a), e⟩, ?_, ?_, h, ?_⟩)
      · unfold ask1
        rw [srcRead_text most c r a e hc.1 ht]
      · intro e2
        have := congrArg List.length e2
        rw [List.length_take, List.length_drop, List.length_nil] at this; omega
      · show c.text.drop a ++ _ = _ ++ (c.text.drop (a + min most (c.text.length - a)) ++ _)
        rw [← List.append_assoc, ← take_drop_split _ _ _ ht]
    · have pass : ∀ e : Nat, ¬ (e : Int) < c.n → Gave most ⟨c :: r, a, e⟩ (ask1 most ⟨c :: r, a, e⟩) := fun e he => by
        have e1 : ask1 most ⟨c :: r, a, e⟩ = ask1 most ⟨r, 0, 0⟩ := by
          unfold ask1
          rw [srcRead_pass most c r a e hc.1 ht he]
        have e2 : (⟨c :: r, a, e⟩ : Src).bytes = (⟨r, 0, 0⟩ : Src).bytes := by
          rw [bytes_cons, bytes_fresh, List.drop_of_length_le (Nat.le_of_not_lt ht)]; simp
        have := ask1_fresh most hm r (fun d hd => h d (by simp [hd]))
        rw [e1]
        unfold Gave at this ⊢
        rw [e2]; exact this
      by_cases he : (e : Int) < c.n
      · refine .inr ⟨⟨c :: r, a, e + 1⟩, ?_, h, rfl, pass (e + 1) (by have := hc.2.1; omega)⟩
        unfold ask1
        rw [srcRead_idle most c r a e ht he]
      · exact .inl (pass e he)
theorem gave_some {most : Nat} {s : Src} {x : (Bs × Option Int) × Src} (h : Gave most s x) : x.1.1 ≠ [] ∨ x.1.2 ≠ none := by
  rcases h with ⟨b, s', rfl, h1, _⟩ | ⟨s', rfl, _⟩
  · exact .inl h1
  · exact .inr (by simp)
theorem askN_good (most : Nat) (hm : 1 ≤ most) (s : Src) (h : s.Good) : Gave most s (askN most 8 s) := by
  rcases ask1_good most hm s h with g | ⟨s', e1, _, e2, g⟩
  · unfold askN
    dsimp only
    rw [if_pos (gave_some g)]; exact g
  · unfold askN
    dsimp only
    rw [e1, if_neg (by simp)]
    unfold askN
    dsimp only
    rw [if_pos (gave_some g)]
    unfold Gave at g ⊢
    rw [e2]; exact g

/-- A scanner whose reader has r yet to give, with what is read. -/
def Live.Has (L : Live) (r : Bs) : Prop := (L.stop = none ∧ L.src.Good ∧ r = L.rest ++ L.src.bytes) ∨ (L.stop = some 13 ∧ r = L.rest)
theorem Live.Has.le {L : Live} {r : Bs} (h : L.Has r) : L.rest.length ≤ r.length := by
  rcases h with ⟨_, _, rfl⟩ | ⟨_, rfl⟩
  · rw [List.length_append]; omega
  · exact Nat.le_refl _
theorem more_has {L : Live} {r : Bs} (h : L.Has r) (hs : L.stop = none) (hlt : L.rest.length < L.cap) : L.more.Has r := by
  rcases h with ⟨_, hg, hr⟩ | ⟨h, _⟩
  · have := askN_good (L.cap - L.rest.length) (by omega) L.src hg
    unfold Live.more
    rcases this with ⟨b, s', e, h1, h2, h3⟩ | ⟨s', e, h3⟩
    · rw [e]
      exact .inl ⟨rfl, h2, by rw [hr, h3, List.append_assoc]⟩
    · rw [e]
      exact .inr ⟨rfl, by rw [hr, h3]⟩
  · rw [hs] at h; cases h

/-- What a token takes off. -/
structure TokOf (L : Live) (r : Bs) (t : Tok) (L' : Live) : Prop where
  has : L'.Has (r.drop t.text.length)
  take : t.text = r.take t.text.length
  ne : t.text ≠ []
  cap : L'.cap = L.cap
  wk : L'.wk = Wk.zero
  at0 : t.at_ = L.at_
  line0 : t.line = L.line
  col0 : t.col = L.col
  at1 : L'.at_ = L.at_ + t.text.length
  line1 : L'.line = L.line + Lib.countByte t.text 10
  col1 : 0 ≤ L.col → 0 ≤ L'.col ∧ L'.col ≤ L.col + 1 + t.text.length
theorem runes_le (t : Bs) : Lib.runeCountL t ≤ t.length := by
  have := Lib.runeCount_le ⟨t.toArray⟩
  unfold Lib.runeCountL
  simpa [ByteArray.size] using this

theorem runes_drop (t : Bs) (z : Nat) : Lib.runeCountL (t.drop z) ≤ t.length := by
  have := runes_le (t.drop z)
  rw [List.length_drop] at this; omega
theorem pass_col (L : Live) (t : Bs) (h : 0 ≤ L.col) : 0 ≤ (L.passT t).col ∧ (L.passT t).col ≤ L.col + 1 + t.length := by
  have h1 := runes_le t
  have h2 := runes_drop t (Lib.lastIndexByte ⟨t.toArray⟩ 10 + 1).toNat
  unfold Live.passT
  split
  · show 0 ≤ (1 : Int) + (Lib.runeCountL (t.drop (Lib.lastIndexByte ⟨t.toArray⟩ 10 + 1).toNat) : Nat) ∧ _
    generalize Lib.runeCountL (t.drop (Lib.lastIndexByte ⟨t.toArray⟩ 10 + 1).toNat) = x at *
    dsimp only
    omega
  · dsimp only
    omega
theorem nextT_has (m : Mach) (hal : ∀ most k s, (askN most k s).1.1.length ≤ most) : ∀ (f : Nat) (L : Live) (r : Bs), L.Has r → r.length < L.cap → 4 ≤ L.cap → L.nf < f →
    (r = [] ∧ nextT m f L = (.error 13, .inr 13)) ∨ ∃ t L', nextT m f L = (.ok t, .inl L') ∧ TokOf L r t L'
  | 0, L, _, _, _, _, h => absurd h (Nat.not_lt_zero _)
  | f + 1, L, r, h, hc, hc4, hf => by
    have hW : (L.walked m).Has r := h
    have hle : (L.walked m).rest.length ≤ r.length := hW.le
    have hcap : (L.walked m).cap = L.cap := rfl
    have c1 : ¬ ((L.walked m).alive m = true ∧ (L.walked m).cap ≤ (L.walked m).rest.length) := fun t => by have := t.2; omega
    unfold nextT
    rw [if_neg c1]
    by_cases c2 : (L.walked m).unsure m = true ∧ (L.walked m).stop = none
    · rw [if_pos c2]
      have hlt : (L.walked m).rest.length < (L.walked m).cap := by omega
      have hn := nf_more (L.walked m) c2.2 hlt (hal _ _ _)
      rw [walked_nf] at hn
      rcases nextT_has m hal f _ r (more_has hW c2.2 hlt) hc hc4 (by omega) with g | ⟨t, L', g1, g2⟩
      · exact .inl g
      · exact .inr ⟨t, L', g1, ⟨g2.has, g2.take, g2.ne, g2.cap, g2.wk, g2.at0, g2.line0, g2.col0, g2.at1, g2.line1, g2.col1⟩⟩
    · rw [if_neg c2]
      by_cases c3 : ((L.walked m).unsure m = true ∧ (L.walked m).stop ≠ some 13) ∨ (L.walked m).rest = []
      · rw [if_pos c3]
        have hun : (L.walked m).unsure m = true := by
          rcases c3 with c3 | c3
          · exact c3.1
          · unfold Live.unsure
            rw [c3, full_nil]; simp
        have hst : (L.walked m).stop = some 13 := by
          rcases hW with ⟨g, _⟩ | ⟨g, _⟩
          · exact absurd ⟨hun, g⟩ c2
          · exact g
        have hre : (L.walked m).rest = [] := by
          rcases c3 with c3 | c3
          · exact absurd hst c3.2
          · exact c3
        refine .inl ⟨?_, by rw [hst]; rfl⟩
        rcases hW with ⟨g, _⟩ | ⟨_, g⟩
        · rw [hst] at g; cases g
        · rw [g, hre]
      · rw [if_neg c3]
        have hne : (L.walked m).rest ≠ [] := fun e => c3 (.inr e)
        refine .inr ⟨_, _, rfl, ?_⟩
        have hat : (L.walked m).at_ = L.at_ := rfl
        have hli : (L.walked m).line = L.line := rfl
        have hco : (L.walked m).col = L.col := rfl
        clear hf
        generalize L.walked m = W at *
        have hsz : 1 ≤ W.size := by
          unfold Live.size
          split
          · exact dec_pos _ hne
          · omega
        have hlen : (W.rest.take W.size).length = min W.size W.rest.length := List.length_take ..
        have hl1 : 1 ≤ W.rest.length := by
          rcases hx : W.rest with _ | _
          · exact absurd hx hne
          · simp
        have hpre : r = W.rest ++ r.drop W.rest.length := by
          rcases hW with ⟨_, _, rfl⟩ | ⟨_, rfl⟩
          · simp
          · simp
        have htk : W.rest.take W.size = r.take (W.rest.take W.size).length := by
          rw [hlen]
          conv => rhs; rw [hpre]
          rw [List.take_append_of_le_length (by omega)]
          by_cases g : W.size ≤ W.rest.length
          · rw [Nat.min_eq_left g]
          · rw [Nat.min_eq_right (by omega), List.take_of_length_le (by omega), List.take_of_length_le (by omega)]
        have hdr : W.rest.drop W.size = W.rest.drop (W.rest.take W.size).length := by
          rw [hlen]
          by_cases g : W.size ≤ W.rest.length
          · rw [Nat.min_eq_left g]
          · rw [Nat.min_eq_right (by omega), List.drop_of_length_le (by omega), List.drop_of_length_le (by omega)]
        have hW' : W.cutT.Has (r.drop (W.rest.take W.size).length) := by
          have e0 : W.cutT.rest = W.rest.drop W.size := rfl
          have e1 : W.cutT.src = W.src := by
            unfold Live.cutT Live.passT; dsimp only; split <;> rfl
          have e2 : W.cutT.stop = W.stop := by
            unfold Live.cutT Live.passT; dsimp only; split <;> rfl
          unfold Live.Has
          rw [e0, e1, e2, hdr]
          rcases hW with ⟨g1, g2, rfl⟩ | ⟨g1, rfl⟩
          · exact .inl ⟨g1, g2, by rw [List.drop_append_of_le_length (by omega)]⟩
          · exact .inr ⟨g1, rfl⟩
        have hq1 := runes_le (W.rest.take W.size)
        have hx0 : (W.tok).text = W.rest.take W.size := rfl
        refine ⟨by rw [hx0]; exact hW', by rw [hx0]; exact htk, ?_, ?_, rfl, ?_, ?_, ?_, ?_, ?_, ?_⟩
        · rw [hx0]; intro e; have := congrArg List.length e; rw [hlen, List.length_nil] at this; omega
        · rw [← hcap]; unfold Live.cutT Live.passT; dsimp only; split <;> rfl
        · exact hat
        · exact hli
        · exact hco
        · rw [hx0, ← hat]; unfold Live.cutT Live.passT; dsimp only; split <;> rfl
        · rw [hx0, ← hli]; unfold Live.cutT Live.passT; dsimp only; split
          · rfl
          · rename_i g
            have : Lib.countByte (W.rest.take W.size) 10 = 0 := by omega
            rw [this]; simp
        · rw [hx0, ← hco]; intro g; exact pass_col W _ g
end Go.Proofs.YtlhokghgicgppaaDoor.Sg

namespace Go.Proofs.YtlhokghgicgppaaDoor.Sg
open Go

def nextL (m : Mach) (L : Live) : (Except Int Tok) × Sc := nextT m (L.nf + 1) L
/-- At most so many tokens, and the error behind them (none: there were as many). -/
def allT (m : Mach) : Nat → Live → List Tok × Option Int
  | 0, _ => ([], none)
  | n + 1, L =>
    match nextL m L with
    | (.ok t, .inl L') => (t :: (allT m n L').1, (allT m n L').2)
    | (.error e, _) => ([], some e)
    | (.ok _, .inr e) => ([], some e)
theorem nextT_no (m : Mach) : ∀ (f : Nat) (L : Live) (t : Tok) (e : Int), nextT m f L ≠ (.ok t, .inr e)
  | 0, L, t, e => by simp [nextT]
  | f + 1, L, t, e => by
    unfold nextT
    split
    · simp
    · split
      · exact nextT_no m f _ t e
      · split
        · simp
        · simp
theorem nextL_no (m : Mach) (L : Live) (t : Tok) (e : Int) : nextL m L ≠ (.ok t, .inr e) := nextT_no m _ L t e
theorem allT_tok {m : Mach} {n : Nat} {L L' : Live} {t : Tok} (h : nextL m L = (.ok t, .inl L')) : allT m (n + 1) L = (t :: (allT m n L').1, (allT m n L').2) := by
  simp only [allT, h]
theorem allT_err {m : Mach} {n : Nat} {L : Live} {e : Int} {s : Sc} (h : nextL m L = (.error e, s)) : allT m (n + 1) L = ([], some e) := by
  simp only [allT, h]
theorem allT_has (m : Mach) (hal : ∀ most k s, (askN most k s).1.1.length ≤ most) : ∀ (n : Nat) (L : Live) (r : Bs), L.Has r → r.length < L.cap → 4 ≤ L.cap → r.length < n →
    ∃ ts, allT m n L = (ts, some 13) ∧ ts.flatMap (·.text) = r ∧ (∀ t ∈ ts, t.text ≠ []) ∧ ts.length ≤ r.length
  | 0, _, _, _, _, _, h => absurd h (Nat.not_lt_zero _)
  | n + 1, L, r, h, hc, hc4, hn => by
    rcases nextT_has m hal (L.nf + 1) L r h hc hc4 (Nat.lt_succ_self _) with ⟨rfl, g⟩ | ⟨t, L', g, k⟩
    · exact ⟨[], allT_err g, rfl, fun t ht => absurd ht (by simp), by simp⟩
    · have hl : 1 ≤ t.text.length := by
        rcases hx : t.text with _ | _
        · exact absurd hx k.ne
        · simp
      have hl2 : t.text.length ≤ r.length := by
        have := congrArg List.length k.take
        rw [List.length_take] at this; omega
      obtain ⟨ts, e1, e2, e3, e4⟩ := allT_has m hal n L' (r.drop t.text.length) k.has (by rw [List.length_drop, k.cap]; omega) (by rw [k.cap]; exact hc4) (by rw [List.length_drop]; omega)
      refine ⟨t :: ts, by rw [allT_tok g, e1], ?_, ?_, ?_⟩
      · rw [List.flatMap_cons, e2]
        conv => rhs; rw [← List.take_append_drop t.text.length r]
        rw [← k.take]
      · intro u hu
        rcases List.mem_cons.1 hu with rfl | hu
        · exact k.ne
        · exact e3 u hu
      · rw [List.length_cons]; rw [List.length_drop] at e4; omega
end Go.Proofs.YtlhokghgicgppaaDoor.Sg
