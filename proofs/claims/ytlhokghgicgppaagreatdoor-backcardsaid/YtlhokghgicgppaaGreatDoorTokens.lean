/- Plain laws of scanners whose readers do not fail: the tokens make up the text. -/
/- All the tokens of a scanner, plainly. -/
/- Next of a scanner that has failed; a scanner behind a token. -/
/- A range over a function whose iterator turns cells of its own between two rounds. -/
/- A scanner that goes on, as its callers see it. -/
/- What a scanner is made of abides where cells abide. -/
/- Tokens; the iterator that it gives. -/
import Derived.Test.YtlhokghgicgppaaGreatDoorBytePure
import Derived.Test.YtlhokghgicgppaaGreatDoorNext2
import Derived.RangeFuncNested
import Derived.RangeFuncBound
import Derived.RangeFuncCalls
import Derived.RangeFuncLeaves
import Derived.Test.YtlhokghgicgppaaGreatDoorSortA
import Derived.OwnWalkIn
import Derived.TacticsInMore
import Derived.LoopIn
import Derived.RangeFuncBox
set_option linter.unusedSimpArgs false
set_option linter.unusedVariables false
set_option maxRecDepth 100000
set_option maxHeartbeats 4000000
namespace Go.Proofs.YtlhokghgicgppaaGreatDoor.Sg
open Go
def Src.bytes : Src → Bs
  | ⟨[], _, _⟩ => []
  | ⟨c :: r, a, _⟩ => c.text.drop a ++ r.flatMap (·.text)
theorem bytes_cons (c : Pc) (r : List Pc) (a e : Nat) : (⟨c :: r, a, e⟩ : Src).bytes = c.text.drop a ++ r.flatMap (·.text) := rfl
theorem bytes_fresh (r : List Pc) : (⟨r, 0, 0⟩ : Src).bytes = r.flatMap (·.text) := by
  cases r <;> simp [Src.bytes]
def Pc.Good (c : Pc) : Prop := c.kind = 0 ∧ c.n ≤ 1 ∧ (c.text ≠ [] ∨ c.n ≤ 0)
def Src.Good (s : Src) : Prop := ∀ c ∈ s.l, c.Good
theorem take_drop_split (l : Bs) (a most : Nat) (h : a < l.length) : l.drop a = (l.drop a).take most ++ l.drop (a + min most (l.length - a)) := by
  have e : l.drop (a + min most (l.length - a)) = (l.drop a).drop most := by
    rw [List.drop_drop]
    by_cases h1 : most ≤ l.length - a
    · rw [Nat.min_eq_left h1]
    · rw [Nat.min_eq_right (by omega), List.drop_of_length_le (by omega), List.drop_of_length_le (by omega)]
  rw [e, List.take_append_drop]
theorem srcRead_text (most : Nat) (c : Pc) (r : List Pc) (a e : Nat) (hk : c.kind = 0) (h : a < c.text.length) :
    srcRead most ⟨c :: r, a, e⟩ = (.inl ((c.text.drop a).take most, none), ⟨c :: r, a + min most (c.text.length - a), e⟩) := by
  rw [srcRead_cons, if_pos h, if_neg (by rw [hk]; intro t; exact absurd t.1 (by decide))]
theorem srcRead_idle (most : Nat) (c : Pc) (r : List Pc) (a e : Nat) (h : ¬ a < c.text.length) (he : (e : Int) < c.n) :
    srcRead most ⟨c :: r, a, e⟩ = (.inl ([], none), ⟨c :: r, a, e + 1⟩) := by
  rw [srcRead_cons, if_neg h, if_pos he]
theorem srcRead_pass (most : Nat) (c : Pc) (r : List Pc) (a e : Nat) (hk : c.kind = 0) (h : ¬ a < c.text.length) (he : ¬ (e : Int) < c.n) :
    srcRead most ⟨c :: r, a, e⟩ = srcRead most ⟨r, 0, 0⟩ := by
  rw [srcRead_cons, if_neg h, if_neg he, hk]
  simp
def Gave (most : Nat) (s : Src) (x : (Bs × Option Int) × Src) : Prop :=
  (∃ b s', x = ((b, none), s') ∧ b ≠ [] ∧ s'.Good ∧ s.bytes = b ++ s'.bytes) ∨ (∃ s', x = (([], some 13), s') ∧ s.bytes = [])
theorem ask1_fresh (most : Nat) (hm : 1 ≤ most) : ∀ (l : List Pc), (∀ c ∈ l, c.Good) → Gave most ⟨l, 0, 0⟩ (ask1 most ⟨l, 0, 0⟩)
  | [], _ => by
    refine .inr ⟨⟨[], 0, 0⟩, ?_, rfl⟩
    unfold ask1
    rw [srcRead_nil]
  | c :: r, h => by
    have hc := h c (by simp)
    by_cases ht : 0 < c.text.length
    · refine .inl ⟨(c.text.drop 0).take most, ⟨c :: r, 0 + min most (c.text.length - 0), 0⟩, ?_, ?_, h, ?_⟩
      · unfold ask1
        rw [srcRead_text most c r 0 0 hc.1 ht]
      · intro e
        have := congrArg List.length e
        rw [List.length_take, List.length_drop, List.length_nil] at this; omega
      · show c.text.drop 0 ++ _ = _ ++ (c.text.drop (0 + min most (c.text.length - 0)) ++ _)
        rw [← List.append_assoc, ← take_drop_split _ _ _ ht]
    · have he : c.text = [] := List.eq_nil_of_length_eq_zero (by omega)
      have hn : c.n ≤ 0 := by rcases hc.2.2 with g | g; exact absurd he g; exact g
      have e1 : ask1 most ⟨c :: r, 0, 0⟩ = ask1 most ⟨r, 0, 0⟩ := by
        unfold ask1
        rw [srcRead_pass most c r 0 0 hc.1 ht (by omega)]
      have e2 : (⟨c :: r, 0, 0⟩ : Src).bytes = (⟨r, 0, 0⟩ : Src).bytes := by
        rw [bytes_cons, bytes_fresh, he]; simp
      have := ask1_fresh most hm r (fun d hd => h d (by simp [hd]))
      rw [e1]
      unfold Gave at this ⊢
      rw [e2]; exact this
theorem ask1_good (most : Nat) (hm : 1 ≤ most) (s : Src) (h : s.Good) : Gave most s (ask1 most s) ∨ ∃ s', ask1 most s = (([], none), s') ∧ s'.Good ∧ s.bytes = s'.bytes ∧ Gave most s' (ask1 most s') := by
  match s, h with
  | ⟨[], a, e⟩, _ =>
    refine .inl (.inr ⟨⟨[], a, e⟩, ?_, rfl⟩)
    unfold ask1
    rw [srcRead_nil]
  | ⟨c :: r, a, e⟩, h =>
    have hc := h c (by simp)
    by_cases ht : a < c.text.length
    · refine .inl (.inl ⟨(c.text.drop a).take most, ⟨c :: r, a + min most (c.text.length - a), e⟩, ?_, ?_, h, ?_⟩)
      · unfold ask1
        rw [srcRead_text most c r a e hc.1 ht]
      · intro e2
        have := congrArg List.length e2
        rw [List.length_take, List.length_drop, List.length_nil] at this; omega
      · show c.text.drop a ++ _ = _ ++ (c.text.drop (a + min most (c.text.length - a)) ++ _)
        rw [← List.append_assoc, ← take_drop_split _ _ _ ht]
    · have pass : ∀ e : Nat, ¬ (e : Int) < c.n → Gave most ⟨c :: r, a, e⟩ (ask1 most ⟨c :: r, a, e⟩) := fun e he => by
        have e1 : ask1 most ⟨c :: r, a, e⟩ = ask1 most ⟨r, 0, 0⟩ := by
          unfold ask1
          rw [srcRead_pass most c r a e hc.1 ht he]
        have e2 : (⟨c :: r, a, e⟩ : Src).bytes = (⟨r, 0, 0⟩ : Src).bytes := by
          rw [bytes_cons, bytes_fresh, List.drop_of_length_le (Nat.le_of_not_lt ht)]; simp
        have := ask1_fresh most hm r (fun d hd => h d (by simp [hd]))
        rw [e1]
        unfold Gave at this ⊢
        rw [e2]; exact this
      by_cases he : (e : Int) < c.n
      · refine .inr ⟨⟨c :: r, a, e + 1⟩, ?_, h, rfl, pass (e + 1) (by have := hc.2.1; omega)⟩
        unfold ask1
        rw [srcRead_idle most c r a e ht he]
      · exact .inl (pass e he)
theorem gave_some {most : Nat} {s : Src} {x : (Bs × Option Int) × Src} (h : Gave most s x) : x.1.1 ≠ [] ∨ x.1.2 ≠ none := by
  rcases h with ⟨b, s', rfl, h1, _⟩ | ⟨s', rfl, _⟩
  · exact .inl h1
  · exact .inr (by simp)
theorem askN_good (most : Nat) (hm : 1 ≤ most) (s : Src) (h : s.Good) : Gave most s (askN most 8 s) := by
  rcases ask1_good most hm s h with g | ⟨s', e1, _, e2, g⟩
  · unfold askN
    dsimp only
    rw [if_pos (gave_some g)]; exact g
  · unfold askN
    dsimp only
    rw [e1, if_neg (by simp)]
    unfold askN
    dsimp only
    rw [if_pos (gave_some g)]
    unfold Gave at g ⊢
    rw [e2]; exact g
def Live.Has (L : Live) (r : Bs) : Prop := (L.stop = none ∧ L.src.Good ∧ r = L.rest ++ L.src.bytes) ∨ (L.stop = some 13 ∧ r = L.rest)
theorem Live.Has.le {L : Live} {r : Bs} (h : L.Has r) : L.rest.length ≤ r.length := by
  rcases h with ⟨_, _, rfl⟩ | ⟨_, rfl⟩
  · rw [List.length_append]; omega
  · exact Nat.le_refl _
theorem more_has {L : Live} {r : Bs} (h : L.Has r) (hs : L.stop = none) (hlt : L.rest.length < L.cap) : L.more.Has r := by
  rcases h with ⟨_, hg, hr⟩ | ⟨h, _⟩
  · have := askN_good (L.cap - L.rest.length) (by omega) L.src hg
    unfold Live.more
    rcases this with ⟨b, s', e, h1, h2, h3⟩ | ⟨s', e, h3⟩
    · rw [e]
      exact .inl ⟨rfl, h2, by rw [hr, h3, List.append_assoc]⟩
    · rw [e]
      exact .inr ⟨rfl, by rw [hr, h3]⟩
  · rw [hs] at h; cases h
structure TokOf (L : Live) (r : Bs) (t : Tok) (L' : Live) : Prop where
  has : L'.Has (r.drop t.text.length)
  take : t.text = r.take t.text.length
  ne : t.text ≠ []
  cap : L'.cap = L.cap
  wk : L'.wk = Wk.zero
  at0 : t.at_ = L.at_
  line0 : t.line = L.line
  col0 : t.col = L.col
  at1 : L'.at_ = L.at_ + t.text.length
  line1 : L'.line = L.line + Lib.countByte t.text 10
  col1 : 0 ≤ L.col → 0 ≤ L'.col ∧ L'.col ≤ L.col + 1 + t.text.length
theorem runes_le (t : Bs) : Lib.runeCountL t ≤ t.length := by
  have := Lib.runeCount_le ⟨t.toArray⟩
  unfold Lib.runeCountL
  simpa [ByteArray.size] using this
theorem runes_drop (t : Bs) (z : Nat) : Lib.runeCountL (t.drop z) ≤ t.length := by
  have := runes_le (t.drop z)
  rw [List.length_drop] at this; omega
theorem pass_col (L : Live) (t : Bs) (h : 0 ≤ L.col) : 0 ≤ (L.passT t).col ∧ (L.passT t).col ≤ L.col + 1 + t.length := by
  have h1 := runes_le t
  have h2 := runes_drop t (Lib.lastIndexByte ⟨t.toArray⟩ 10 + 1).toNat
  unfold Live.passT
  split
  · show 0 ≤ (1 : Int) + (Lib.runeCountL (t.drop (Lib.lastIndexByte ⟨t.toArray⟩ 10 + 1).toNat) : Nat) ∧ _
    generalize Lib.runeCountL (t.drop (Lib.lastIndexByte ⟨t.toArray⟩ 10 + 1).toNat) = x at *
    dsimp only
    omega
  · dsimp only
    omega
theorem nextT_has (m : Mach) (hal : ∀ most k s, (askN most k s).1.1.length ≤ most) : ∀ (f : Nat) (L : Live) (r : Bs), L.Has r → r.length < L.cap → 4 ≤ L.cap → L.nf < f →
    (r = [] ∧ nextT m f L = (.error 13, .inr 13)) ∨ ∃ t L', nextT m f L = (.ok t, .inl L') ∧ TokOf L r t L'
  | 0, L, _, _, _, _, h => absurd h (Nat.not_lt_zero _)
  | f + 1, L, r, h, hc, hc4, hf => by
    have hW : (L.walked m).Has r := h
    have hle : (L.walked m).rest.length ≤ r.length := hW.le
    have hcap : (L.walked m).cap = L.cap := rfl
    have c1 : ¬ ((L.walked m).alive m = true ∧ (L.walked m).cap ≤ (L.walked m).rest.length) := fun t => by have := t.2; omega
    unfold nextT
    rw [if_neg c1]
    by_cases c2 : (L.walked m).unsure m = true ∧ (L.walked m).stop = none
    · rw [if_pos c2]
      have hlt : (L.walked m).rest.length < (L.walked m).cap := by omega
      have hn := nf_more (L.walked m) c2.2 hlt (hal _ _ _)
      rw [walked_nf] at hn
      rcases nextT_has m hal f _ r (more_has hW c2.2 hlt) hc hc4 (by omega) with g | ⟨t, L', g1, g2⟩
      · exact .inl g
      · exact .inr ⟨t, L', g1, ⟨g2.has, g2.take, g2.ne, g2.cap, g2.wk, g2.at0, g2.line0, g2.col0, g2.at1, g2.line1, g2.col1⟩⟩
    · rw [if_neg c2]
      by_cases c3 : ((L.walked m).unsure m = true ∧ (L.walked m).stop ≠ some 13) ∨ (L.walked m).rest = []
      · rw [if_pos c3]
        have hun : (L.walked m).unsure m = true := by
          rcases c3 with c3 | c3
          · exact c3.1
          · unfold Live.unsure
            rw [c3, full_nil]; simp
        have hst : (L.walked m).stop = some 13 := by
          rcases hW with ⟨g, _⟩ | ⟨g, _⟩
          · exact absurd ⟨hun, g⟩ c2
          · exact g
        have hre : (L.walked m).rest = [] := by
          rcases c3 with c3 | c3
          · exact absurd hst c3.2
          · exact c3
        refine .inl ⟨?_, by rw [hst]; rfl⟩
        rcases hW with ⟨g, _⟩ | ⟨_, g⟩
        · rw [hst] at g; cases g
        · rw [g, hre]
      · rw [if_neg c3]
        have hne : (L.walked m).rest ≠ [] := fun e => c3 (.inr e)
        refine .inr ⟨_, _, rfl, ?_⟩
        have hat : (L.walked m).at_ = L.at_ := rfl
        have hli : (L.walked m).line = L.line := rfl
        have hco : (L.walked m).col = L.col := rfl
        clear hf
        generalize L.walked m = W at *
        have hsz : 1 ≤ W.size := by
          unfold Live.size
          split
          · exact dec_pos _ hne
          · omega
        have hlen : (W.rest.take W.size).length = min W.size W.rest.length := List.length_take ..
        have hl1 : 1 ≤ W.rest.length := by
          rcases hx : W.rest with _ | _
          · exact absurd hx hne
          · simp
        have hpre : r = W.rest ++ r.drop W.rest.length := by
          rcases hW with ⟨_, _, rfl⟩ | ⟨_, rfl⟩
          · simp
          · simp
        have htk : W.rest.take W.size = r.take (W.rest.take W.size).length := by
          rw [hlen]
          conv => rhs; rw [hpre]
          rw [List.take_append_of_le_length (by omega)]
          by_cases g : W.size ≤ W.rest.length
          · rw [Nat.min_eq_left g]
          · rw [Nat.min_eq_right (by omega), List.take_of_length_le (by omega), List.take_of_length_le (by omega)]
        have hdr : W.rest.drop W.size = W.rest.drop (W.rest.take W.size).length := by
          rw [hlen]
          by_cases g : W.size ≤ W.rest.length
          · rw [Nat.min_eq_left g]
          · rw [Nat.min_eq_right (by omega), List.drop_of_length_le (by omega), List.drop_of_length_le (by omega)]
        have hW' : W.cutT.Has (r.drop (W.rest.take W.size).length) := by
          have e0 : W.cutT.rest = W.rest.drop W.size := rfl
          have e1 : W.cutT.src = W.src := by
            unfold Live.cutT Live.passT; dsimp only; split <;> rfl
          have e2 : W.cutT.stop = W.stop := by
            unfold Live.cutT Live.passT; dsimp only; split <;> rfl
          unfold Live.Has
          rw [e0, e1, e2, hdr]
          rcases hW with ⟨g1, g2, rfl⟩ | ⟨g1, rfl⟩
          · exact .inl ⟨g1, g2, by rw [List.drop_append_of_le_length (by omega)]⟩
          · exact .inr ⟨g1, rfl⟩
        have hq1 := runes_le (W.rest.take W.size)
        have hx0 : (W.tok).text = W.rest.take W.size := rfl
        refine ⟨by rw [hx0]; exact hW', by rw [hx0]; exact htk, ?_, ?_, rfl, ?_, ?_, ?_, ?_, ?_, ?_⟩
        · rw [hx0]; intro e; have := congrArg List.length e; rw [hlen, List.length_nil] at this; omega
        · rw [← hcap]; unfold Live.cutT Live.passT; dsimp only; split <;> rfl
        · exact hat
        · exact hli
        · exact hco
        · rw [hx0, ← hat]; unfold Live.cutT Live.passT; dsimp only; split <;> rfl
        · rw [hx0, ← hli]; unfold Live.cutT Live.passT; dsimp only; split
          · rfl
          · rename_i g
            have : Lib.countByte (W.rest.take W.size) 10 = 0 := by omega
            rw [this]; simp
        · rw [hx0, ← hco]; intro g; exact pass_col W _ g
end Go.Proofs.YtlhokghgicgppaaGreatDoor.Sg
namespace Go.Proofs.YtlhokghgicgppaaGreatDoor.Sg
open Go
def nextL (m : Mach) (L : Live) : (Except Int Tok) × Sc := nextT m (L.nf + 1) L
def allT (m : Mach) : Nat → Live → List Tok × Option Int
  | 0, _ => ([], none)
  | n + 1, L =>
    match nextL m L with
    | (.ok t, .inl L') => (t :: (allT m n L').1, (allT m n L').2)
    | (.error e, _) => ([], some e)
    | (.ok _, .inr e) => ([], some e)
theorem nextT_no (m : Mach) : ∀ (f : Nat) (L : Live) (t : Tok) (e : Int), nextT m f L ≠ (.ok t, .inr e)
  | 0, L, t, e => by simp [nextT]
  | f + 1, L, t, e => by
    unfold nextT
    split
    · simp
    · split
      · exact nextT_no m f _ t e
      · split
        · simp
        · simp
theorem nextL_no (m : Mach) (L : Live) (t : Tok) (e : Int) : nextL m L ≠ (.ok t, .inr e) := nextT_no m _ L t e
theorem allT_tok {m : Mach} {n : Nat} {L L' : Live} {t : Tok} (h : nextL m L = (.ok t, .inl L')) : allT m (n + 1) L = (t :: (allT m n L').1, (allT m n L').2) := by
  simp only [allT, h]
theorem allT_err {m : Mach} {n : Nat} {L : Live} {e : Int} {s : Sc} (h : nextL m L = (.error e, s)) : allT m (n + 1) L = ([], some e) := by
  simp only [allT, h]
theorem allT_has (m : Mach) (hal : ∀ most k s, (askN most k s).1.1.length ≤ most) : ∀ (n : Nat) (L : Live) (r : Bs), L.Has r → r.length < L.cap → 4 ≤ L.cap → r.length < n →
    ∃ ts, allT m n L = (ts, some 13) ∧ ts.flatMap (·.text) = r ∧ (∀ t ∈ ts, t.text ≠ []) ∧ ts.length ≤ r.length
  | 0, _, _, _, _, _, h => absurd h (Nat.not_lt_zero _)
  | n + 1, L, r, h, hc, hc4, hn => by
    rcases nextT_has m hal (L.nf + 1) L r h hc hc4 (Nat.lt_succ_self _) with ⟨rfl, g⟩ | ⟨t, L', g, k⟩
    · exact ⟨[], allT_err g, rfl, fun t ht => absurd ht (by simp), by simp⟩
    · have hl : 1 ≤ t.text.length := by
        rcases hx : t.text with _ | _
        · exact absurd hx k.ne
        · simp
      have hl2 : t.text.length ≤ r.length := by
        have := congrArg List.length k.take
        rw [List.length_take] at this; omega
      obtain ⟨ts, e1, e2, e3, e4⟩ := allT_has m hal n L' (r.drop t.text.length) k.has (by rw [List.length_drop, k.cap]; omega) (by rw [k.cap]; exact hc4) (by rw [List.length_drop]; omega)
      refine ⟨t :: ts, by rw [allT_tok g, e1], ?_, ?_, ?_⟩
      · rw [List.flatMap_cons, e2]
        conv => rhs; rw [← List.take_append_drop t.text.length r]
        rw [← k.take]
      · intro u hu
        rcases List.mem_cons.1 hu with rfl | hu
        · exact k.ne
        · exact e3 u hu
      · rw [List.length_cons]; rw [List.length_drop] at e4; omega
end Go.Proofs.YtlhokghgicgppaaGreatDoor.Sg
namespace Go.Proofs.YtlhokghgicgppaaGreatDoor
open Go.RowKit Go.Extern
theorem wp_scope_once {P : Program} {a : Act} {w : World} {Q : Exit → Act → World → Prop} {R : Code} (l : Nat) (rest : Code) (hf : findLabel ((Code.label l).seq R) l = some rest) (hr : rest = Code.skip.seq R ∨ rest = R ∨ rest = (Code.label l).seq R)
    (pass : R.wp P (Exit.jump l (fun _ _ => False) Q) a w) : (Code.scope ((Code.label l).seq R)).wp P Q a w := by
  refine wp_scope_loop l (fun a' w' => a' = a ∧ w' = w) (fun _ _ => 0) rest hf hr ⟨rfl, rfl⟩ ?_
  rintro _ _ ⟨rfl, rfl⟩
  refine wp_mono pass (fun e a' w' hq => ?_)
  cases e <;> first | exact hq | exact ⟨hq.1, hq.2.elim⟩
theorem next_dead (sq : Nat) (e : Int) (w : World) (h14 : w.cell? ⟨sq, 14, none⟩ = some (errV (some e))) :
    Calls Tryz.prog 26 #[.pointer (some ⟨sq, 0, none⟩)] w fun en w' => en = .returned (.tuple #[tok0, errV (some e)]) ∧ Below w.heap.size w w' := by
  have hs := cell_lt h14
  have h14' : (w.alloc tokZ).cell? ⟨sq, 14, none⟩ = some (errV (some e)) := by
    rw [World.cell?_alloc_lt _ _ ⟨sq, 14, none⟩ hs]; exact h14
  have n1 : ¬ sq = w.heap.size := by omega
  have n2 : ¬ w.heap.size = sq := by omega
  unfold errV at *
  go_enter Tryz.func26, Tryz.ntmps26
  go_wp2
  refine wp_scope_once 0 _ rfl (by first | exact .inl rfl | exact .inr (.inl rfl) | exact .inr (.inr rfl)) ?_
  go_wp2
  go_region
  all_goals go_wp2
  all_goals simp only [Exit.jump]
  all_goals refine bodyPost_ret (v := .tuple #[tok0, .iface 50 (.int .i64 e)]) (by simp [results, Tryz.results26, go_sem, tok0]) rfl ⟨rfl, ?_⟩
  all_goals exact below_drewN ((Below.refl _ _).alloc (Nat.le_refl _) _) 1
end Go.Proofs.YtlhokghgicgppaaGreatDoor
namespace Go.Proofs.YtlhokghgicgppaaGreatDoor
open Go.RowKit
variable {F : Fence} {n : Nat} {P : Program}
def RecAt (l D : Nat) (ready : Loop) (W : World) : Prop := W.heap[l]? = some (.loop ready) ∧ W.heap[D]? = some (.deferred (some []))
theorem RecAt.keep {l D : Nat} {r : Loop} {A B : World} (h : RecAt l D r A) (k : KeepsOthers A B) : RecAt l D r B :=
  ⟨k.same _ _ h.1 rfl, k.same _ _ h.2 rfl⟩
def stPost {α : Type} (B : Nat) (I : List α → World → Prop) (Ix : Code → List α → World → Prop) (xs : List α) (W : World) : Exit → Act → World → Prop
  | .normal, _, W' => KeepsFrom B W W' ∧ I xs W'
  | .ret, _, W' => KeepsFrom B W W' ∧ Ix .ret xs W'
  | .exit id, _, W' => KeepsFrom B W W' ∧ Ix (.exit id) xs W'
  | .goto t, _, W' => KeepsFrom B W W' ∧ Ix (.goto t) xs W'
  | .panic _, _, _ => False
  | .outgrown, _, _ => False
theorem wpIn_rangeFunc_st {α : Type} {g : Operand} {ps : Array Tmp} {assign body : Code} {Q : Exit → Act → World → Prop} {a : Act} {w : World}
    (hro : F.round = none) (h1 : 1 ≤ n) {gf : Nat} {lb : Array Value} (hg : a.eval g = .func (.func gf) #[] lb) (hFg : F.fn gf) (eg : ∀ args w, (callFunc gf args).run P w = .ok (.enter gf args) w)
    {encs : α → Array Value} {S Sp : List α → Prop} (hps : ∀ x, (encs x).size = ps.size)
    (I : List α → World → Prop) (Iy : List α × α → World → Prop) (Ix : Code → List α → World → Prop) (hI : OwnFrom w.heap.size I) (hIy : OwnFrom w.heap.size Iy) (hIx : ∀ c, OwnFrom w.heap.size (Ix c)) (h0 : I [] w)
    (hseq : ∀ (l D : Nat) (ready : Loop) (dn : Code → Loop),
      (∀ (pre : List α) (x : α) (W : World), Iy (pre, x) W → RecAt l D ready W → YieldAt F (n - 1 - 1) P l (encs x) W fun e W' =>
        (e = .returned (.bool true) ∧ I (pre ++ [x]) W' ∧ RecAt l D ready W') ∨ (e = .returned (.bool false) ∧ ∃ c, Ix c (pre ++ [x]) W' ∧ RecAt l D (dn c) W')) →
      ∀ W, I [] W → RecAt l D ready W → CallsIn F (n - 1) P gf (#[.func (.yield l) #[] #[]] ++ lb) W fun e W' => (∃ v, e = .returned v) ∧
        ((∃ xs, S xs ∧ I xs W' ∧ RecAt l D ready W') ∨ (∃ pre c, Sp pre ∧ Ix c pre W' ∧ RecAt l D (dn c) W')))
    (a₁ : α → Act)
    (hassign : ∀ (l : Nat) (x : α) (W : World) (K : Act → World → Prop), K (a₁ x) W →
      assign.wpIn (F.inRound l) (n - 1 - 1) P (Exit.then K (fun _ _ _ => False)) { tmps := (ps.zip (encs x)).foldl (fun t (p, v) => t.setIfInBounds p v) a.tmps, defers := [] } W)
    (hbody : ∀ (l : Nat) (pre : List α) (x : α) (W : World), Iy (pre, x) W → body.wpIn (F.inRound l) (n - 1 - 1) P (stPost w.heap.size I Ix (pre ++ [x]) W) (a₁ x) W)
    (hdone : ∀ (D : Nat) (xs : List α) (W : World), w.heap.size ≤ D → S xs → I xs W → W.heap[D]? = some (.deferred (some [])) → Q .normal { a with defers := { target := .collected D, args := #[] } :: a.defers } W)
    (hstop : ∀ (D : Nat) (c : Code) (pre : List α) (W : World), w.heap.size ≤ D → Sp pre → Ix c pre W → W.heap[D]? = some (.deferred (some [])) → c.wpIn F n P Q { a with defers := { target := .collected D, args := #[] } :: a.defers } W) :
    (Code.rangeFunc g ps assign body).wpIn F n P Q a w := by
  refine wpIn_rangeFunc ?_
  intro fn hfn
  rw [hro]
  obtain ⟨rec, hrec⟩ : ∃ rec : LoopState → Option Code → Loop, rec = fun st pe => { state := st, pending := pe, fn, tmps := a.tmps, params := ps, assign, body, defers := w.heap.size } := ⟨_, rfl⟩
  obtain ⟨W1, hW1⟩ : ∃ W1, (w.alloc (.deferred (some []))).alloc (.loop (rec .ready none)) = W1 := ⟨_, rfl⟩
  have hL1 : W1.heap[w.heap.size + 1]? = some (.loop (rec .ready none)) := by
    rw [← hW1]; have := World.alloc_heap_new (w.alloc (.deferred (some []))) (.loop (rec .ready none)); rwa [World.size_alloc] at this
  have hK1 : W1.heap[w.heap.size]? = some (.deferred (some [])) := by
    rw [← hW1]; exact (Below.heap_alloc _ _ _ (by simp)).trans (World.alloc_heap_new w _)
  have hI1 : I [] W1 := by rw [← hW1]; exact hI.alloc _ (hI.alloc _ h0)
  refine ⟨w.heap.size + 1, [{ target := .collected w.heap.size, args := #[] }], W1, { target := .fn (.func gf) lb, args := #[.func (.yield (w.heap.size + 1)) #[] #[]] }, W1, gf,
    #[.func (.yield (w.heap.size + 1)) #[] #[]] ++ lb, W1, ?_, ?_, ?_, ?_, fun _ => h1, ?_⟩
  · rw [← hW1, hrec]; exact run_enterLoop_outer _ _ _ _ _
  · simp only [resolve, hg]
    simp [go_sem]
  · intro f' hf'; simp [Target.leads] at hf'; subst hf'; exact hFg
  · simp [invoke, go_sem, eg]
  · refine (hseq (w.heap.size + 1) w.heap.size (rec .ready none) (fun c => rec .done (some c)) ?_ W1 hI1 ⟨hL1, hK1⟩).mono ?_
    · rintro pre x W hi ⟨hl, hk⟩
      have hlt : w.heap.size + 1 < W.heap.size := (Array.getElem?_eq_some_iff.1 hl).1
      have hy := run_yield (P := P) (args := encs x) hl (by rw [hrec]; exact hps x)
      rw [hrec] at hy
      refine ⟨fn, _, assign, body, hy, roundIn_of_wpIn hfn (hassign _ x W _ ⟨_, run_beginRound hl (by rw [hrec]), ?_⟩)⟩
      have hl2 : (W.putObj (w.heap.size + 1) (.loop { rec .ready none with state := .busy })).heap[w.heap.size + 1]? = some (.loop { rec .ready none with state := .busy }) := World.putObj_heap_same hlt
      have hk2 : (W.putObj (w.heap.size + 1) (.loop { rec .ready none with state := .busy })).heap[w.heap.size]? = some (.deferred (some [])) := (World.putObj_heap_other (by omega)).trans hk
      refine wpIn_mono (hbody _ pre x _ (hIy.putObj _ hi (by omega) hl rfl)) ?_
      have fin : ∀ (jump : Option Code) (W3 : World), KeepsFrom w.heap.size (W.putObj (w.heap.size + 1) (.loop { rec .ready none with state := .busy })) W3 →
          (Instr.endRound (w.heap.size + 1) jump).run P W3 = .ok (.bool jump.isNone) (W3.putObj (w.heap.size + 1) (.loop (rec (if jump.isNone then .ready else .done) jump))) ∧
          W3.heap[w.heap.size + 1]? = some (.loop { rec .ready none with state := .busy }) ∧
          (W3.putObj (w.heap.size + 1) (.loop (rec (if jump.isNone then .ready else .done) jump))).heap[w.heap.size + 1]? = some (.loop (rec (if jump.isNone then .ready else .done) jump)) ∧
          (W3.putObj (w.heap.size + 1) (.loop (rec (if jump.isNone then .ready else .done) jump))).heap[w.heap.size]? = some (.deferred (some [])) := fun jump W3 hk3 => by
        have hl3 := hk3.same _ _ (by omega) hl2 rfl
        have := run_endRound (P := P) jump hl3
        rw [hrec] at this ⊢
        exact ⟨this, by rw [hrec] at hl3; exact hl3, World.putObj_heap_same (Array.getElem?_eq_some_iff.1 hl3).1, (World.putObj_heap_other (by omega)).trans (hk3.same _ _ (Nat.le_refl _) hk2 rfl)⟩
      rintro e a3 W3 hp
      cases e with
      | normal =>
        obtain ⟨hk3, hi3⟩ := hp
        obtain ⟨hr, hl3, hl4, hk4⟩ := fin none W3 hk3
        exact ⟨_, _, hr, .inl ⟨rfl, hI.putObj _ hi3 (by omega) hl3 rfl, hl4, hk4⟩⟩
      | ret =>
        obtain ⟨hk3, hi3⟩ := hp
        obtain ⟨hr, hl3, hl4, hk4⟩ := fin (some .ret) W3 hk3
        exact ⟨_, _, hr, .inr ⟨rfl, .ret, (hIx _).putObj _ hi3 (by omega) hl3 rfl, hl4, hk4⟩⟩
      | exit id =>
        obtain ⟨hk3, hi3⟩ := hp
        obtain ⟨hr, hl3, hl4, hk4⟩ := fin (some (.exit id)) W3 hk3
        exact ⟨_, _, hr, .inr ⟨rfl, .exit id, (hIx _).putObj _ hi3 (by omega) hl3 rfl, hl4, hk4⟩⟩
      | goto t =>
        obtain ⟨hk3, hi3⟩ := hp
        obtain ⟨hr, hl3, hl4, hk4⟩ := fin (some (.goto t)) W3 hk3
        exact ⟨_, _, hr, .inr ⟨rfl, .goto t, (hIx _).putObj _ hi3 (by omega) hl3 rfl, hl4, hk4⟩⟩
      | panic ch => exact hp.elim
      | outgrown => exact hp.elim
    · rintro e W2 ⟨⟨v, rfl⟩, (⟨xs, hS, hi, hl, hk⟩ | ⟨pre, c, hSp, hi, hl, hk⟩)⟩
      · exact ⟨none, _, by have := run_endLoop (P := P) hl (by rw [hrec]; simp); rw [hrec] at this; exact this, hdone _ xs _ (Nat.le_refl _) hS (hI.putObj _ hi (by omega) hl rfl) ((World.putObj_heap_other (by omega)).trans hk)⟩
      · exact ⟨some c, _, by have := run_endLoop (P := P) hl (by rw [hrec]; simp); rw [hrec] at this; exact this, hstop _ c pre _ (Nat.le_refl _) hSp ((hIx c).putObj _ hi (by omega) hl rfl) ((World.putObj_heap_other (by omega)).trans hk)⟩
structure OwnSt {β : Type} (B : Nat) (I : β → World → Prop) : Prop where
  alloc' : ∀ s W (o : Obj), I s W → o.isCells = false → I s (W.alloc o)
  put' : ∀ s W l (r r' : Loop), I s W → B ≤ l → W.heap[l]? = some (.loop r) → I s (W.putObj l (.loop r'))
theorem OwnSt.putObj {β : Type} {B : Nat} {I : β → World → Prop} (h : OwnSt B I) {s : β} {W : World} {l : Nat} {r r' : Loop} (hs : I s W) (hB : B ≤ l) (hl : W.heap[l]? = some (.loop r)) : I s (W.putObj l (.loop r')) := h.put' s W l r r' hs hB hl
theorem wpIn_rangeFunc_st2 {α : Type} {g : Operand} {ps : Array Tmp} {assign body : Code} {Q : Exit → Act → World → Prop} {a : Act} {w : World}
    (hro : F.round = none) (h1 : 1 ≤ n) {gf : Nat} {lb : Array Value} (hg : a.eval g = .func (.func gf) #[] lb) (hFg : F.fn gf) (eg : ∀ args w, (callFunc gf args).run P w = .ok (.enter gf args) w)
    {encs : α → Array Value} {S Sp : List α → Prop} (hps : ∀ x, (encs x).size = ps.size)
    (I : List α → World → Prop) (Iy : List α × α → World → Prop) (Ix : Code → List α → World → Prop) (Iz : List α × α × Act → World → Prop) (hIz : OwnSt w.heap.size Iz) (hI : OwnSt w.heap.size I) (hIy : OwnSt w.heap.size Iy) (hIx : ∀ c, OwnSt w.heap.size (Ix c)) (h0 : I [] w)
    (hseq : ∀ (l D : Nat) (ready : Loop) (dn : Code → Loop),
      (∀ (pre : List α) (x : α) (W : World), Iy (pre, x) W → RecAt l D ready W → YieldAt F (n - 1 - 1) P l (encs x) W fun e W' =>
        (e = .returned (.bool true) ∧ I (pre ++ [x]) W' ∧ RecAt l D ready W') ∨ (e = .returned (.bool false) ∧ ∃ c, Ix c (pre ++ [x]) W' ∧ RecAt l D (dn c) W')) →
      ∀ W, I [] W → RecAt l D ready W → CallsIn F (n - 1) P gf (#[.func (.yield l) #[] #[]] ++ lb) W fun e W' => (∃ v, e = .returned v) ∧
        ((∃ xs, S xs ∧ I xs W' ∧ RecAt l D ready W') ∨ (∃ pre c, Sp pre ∧ Ix c pre W' ∧ RecAt l D (dn c) W')))
    (hassign : ∀ (l : Nat) (pre : List α) (x : α) (W : World), Iy (pre, x) W →
      assign.wpIn (F.inRound l) (n - 1 - 1) P (Exit.then (fun a' W1 => KeepsFrom w.heap.size W W1 ∧ Iz (pre, x, a') W1) (fun _ _ _ => False)) { tmps := (ps.zip (encs x)).foldl (fun t (p, v) => t.setIfInBounds p v) a.tmps, defers := [] } W)
    (hbody : ∀ (l : Nat) (pre : List α) (x : α) (a' : Act) (W : World), Iz (pre, x, a') W → body.wpIn (F.inRound l) (n - 1 - 1) P (stPost w.heap.size I Ix (pre ++ [x]) W) a' W)
    (hdone : ∀ (D : Nat) (xs : List α) (W : World), w.heap.size ≤ D → S xs → I xs W → W.heap[D]? = some (.deferred (some [])) → Q .normal { a with defers := { target := .collected D, args := #[] } :: a.defers } W)
    (hstop : ∀ (D : Nat) (c : Code) (pre : List α) (W : World), w.heap.size ≤ D → Sp pre → Ix c pre W → W.heap[D]? = some (.deferred (some [])) → c.wpIn F n P Q { a with defers := { target := .collected D, args := #[] } :: a.defers } W) :
    (Code.rangeFunc g ps assign body).wpIn F n P Q a w := by
  refine wpIn_rangeFunc ?_
  intro fn hfn
  rw [hro]
  obtain ⟨rec, hrec⟩ : ∃ rec : LoopState → Option Code → Loop, rec = fun st pe => { state := st, pending := pe, fn, tmps := a.tmps, params := ps, assign, body, defers := w.heap.size } := ⟨_, rfl⟩
  obtain ⟨W1, hW1⟩ : ∃ W1, (w.alloc (.deferred (some []))).alloc (.loop (rec .ready none)) = W1 := ⟨_, rfl⟩
  have hL1 : W1.heap[w.heap.size + 1]? = some (.loop (rec .ready none)) := by
    rw [← hW1]; have := World.alloc_heap_new (w.alloc (.deferred (some []))) (.loop (rec .ready none)); rwa [World.size_alloc] at this
  have hK1 : W1.heap[w.heap.size]? = some (.deferred (some [])) := by
    rw [← hW1]; exact (Below.heap_alloc _ _ _ (by simp)).trans (World.alloc_heap_new w _)
  have hI1 : I [] W1 := by rw [← hW1]; exact hI.alloc' _ _ _ (hI.alloc' _ _ _ h0 rfl) rfl
  refine ⟨w.heap.size + 1, [{ target := .collected w.heap.size, args := #[] }], W1, { target := .fn (.func gf) lb, args := #[.func (.yield (w.heap.size + 1)) #[] #[]] }, W1, gf,
    #[.func (.yield (w.heap.size + 1)) #[] #[]] ++ lb, W1, ?_, ?_, ?_, ?_, fun _ => h1, ?_⟩
  · rw [← hW1, hrec]; exact run_enterLoop_outer _ _ _ _ _
  · simp only [resolve, hg]
    simp [go_sem]
  · intro f' hf'; simp [Target.leads] at hf'; subst hf'; exact hFg
  · simp [invoke, go_sem, eg]
  · refine (hseq (w.heap.size + 1) w.heap.size (rec .ready none) (fun c => rec .done (some c)) ?_ W1 hI1 ⟨hL1, hK1⟩).mono ?_
    · rintro pre x W hi ⟨hl, hk⟩
      have hlt : w.heap.size + 1 < W.heap.size := (Array.getElem?_eq_some_iff.1 hl).1
      have hy := run_yield (P := P) (args := encs x) hl (by rw [hrec]; exact hps x)
      rw [hrec] at hy
      refine ⟨fn, _, assign, body, hy, roundIn_of_wpIn hfn (wpIn_mono (hassign _ pre x W hi) ?_)⟩
      intro e0 a0 Wb hq0
      cases e0 <;> first | exact hq0 | skip
      obtain ⟨hkb, hzb⟩ := hq0
      have hlb := hkb.same _ _ (by omega) hl rfl
      have hltb : w.heap.size + 1 < Wb.heap.size := (Array.getElem?_eq_some_iff.1 hlb).1
      have hkb2 := hkb.same _ _ (Nat.le_refl _) hk rfl
      refine ⟨_, run_beginRound hlb (by rw [hrec]), ?_⟩
      have hl2 : (Wb.putObj (w.heap.size + 1) (.loop { rec .ready none with state := .busy })).heap[w.heap.size + 1]? = some (.loop { rec .ready none with state := .busy }) := World.putObj_heap_same hltb
      have hk2 : (Wb.putObj (w.heap.size + 1) (.loop { rec .ready none with state := .busy })).heap[w.heap.size]? = some (.deferred (some [])) := (World.putObj_heap_other (by omega)).trans hkb2
      refine wpIn_mono (hbody _ pre x a0 _ (hIz.putObj hzb (by omega) hlb)) ?_
      have fin : ∀ (jump : Option Code) (W3 : World), KeepsFrom w.heap.size (Wb.putObj (w.heap.size + 1) (.loop { rec .ready none with state := .busy })) W3 →
          (Instr.endRound (w.heap.size + 1) jump).run P W3 = .ok (.bool jump.isNone) (W3.putObj (w.heap.size + 1) (.loop (rec (if jump.isNone then .ready else .done) jump))) ∧
          W3.heap[w.heap.size + 1]? = some (.loop { rec .ready none with state := .busy }) ∧
          (W3.putObj (w.heap.size + 1) (.loop (rec (if jump.isNone then .ready else .done) jump))).heap[w.heap.size + 1]? = some (.loop (rec (if jump.isNone then .ready else .done) jump)) ∧
          (W3.putObj (w.heap.size + 1) (.loop (rec (if jump.isNone then .ready else .done) jump))).heap[w.heap.size]? = some (.deferred (some [])) := fun jump W3 hk3 => by
        have hl3 := hk3.same _ _ (by omega) hl2 rfl
        have := run_endRound (P := P) jump hl3
        rw [hrec] at this ⊢
        exact ⟨this, by rw [hrec] at hl3; exact hl3, World.putObj_heap_same (Array.getElem?_eq_some_iff.1 hl3).1, (World.putObj_heap_other (by omega)).trans (hk3.same _ _ (Nat.le_refl _) hk2 rfl)⟩
      rintro e a3 W3 hp
      cases e with
      | normal =>
        obtain ⟨hk3, hi3⟩ := hp
        obtain ⟨hr, hl3, hl4, hk4⟩ := fin none W3 hk3
        exact ⟨_, _, hr, .inl ⟨rfl, hI.putObj hi3 (by omega) hl3, hl4, hk4⟩⟩
      | ret =>
        obtain ⟨hk3, hi3⟩ := hp
        obtain ⟨hr, hl3, hl4, hk4⟩ := fin (some .ret) W3 hk3
        exact ⟨_, _, hr, .inr ⟨rfl, .ret, (hIx _).putObj hi3 (by omega) hl3, hl4, hk4⟩⟩
      | exit id =>
        obtain ⟨hk3, hi3⟩ := hp
        obtain ⟨hr, hl3, hl4, hk4⟩ := fin (some (.exit id)) W3 hk3
        exact ⟨_, _, hr, .inr ⟨rfl, .exit id, (hIx _).putObj hi3 (by omega) hl3, hl4, hk4⟩⟩
      | goto t =>
        obtain ⟨hk3, hi3⟩ := hp
        obtain ⟨hr, hl3, hl4, hk4⟩ := fin (some (.goto t)) W3 hk3
        exact ⟨_, _, hr, .inr ⟨rfl, .goto t, (hIx _).putObj hi3 (by omega) hl3, hl4, hk4⟩⟩
      | panic ch => exact hp.elim
      | outgrown => exact hp.elim
    · rintro e W2 ⟨⟨v, rfl⟩, (⟨xs, hS, hi, hl, hk⟩ | ⟨pre, c, hSp, hi, hl, hk⟩)⟩
      · exact ⟨none, _, by have := run_endLoop (P := P) hl (by rw [hrec]; simp); rw [hrec] at this; exact this, hdone _ xs _ (Nat.le_refl _) hS (hI.putObj hi (by omega) hl) ((World.putObj_heap_other (by omega)).trans hk)⟩
      · exact ⟨some c, _, by have := run_endLoop (P := P) hl (by rw [hrec]; simp); rw [hrec] at this; exact this, hstop _ c pre _ (Nat.le_refl _) hSp ((hIx c).putObj hi (by omega) hl) ((World.putObj_heap_other (by omega)).trans hk)⟩
end Go.Proofs.YtlhokghgicgppaaGreatDoor
namespace Go.Proofs.YtlhokghgicgppaaGreatDoor
open Go.RowKit Go.Extern
def Sg.Live.SpotLe (L : Sg.Live) (B : Int) : Prop := (0 ≤ L.at_ ∧ L.at_ ≤ B) ∧ (0 ≤ L.line ∧ L.line ≤ B) ∧ (0 ≤ L.col ∧ L.col ≤ B)
theorem Sg.count_le (t : Sg.Bs) : Lib.countByte t 10 ≤ t.length := List.count_le_length
theorem Sg.pass_spot (L : Sg.Live) (t : Sg.Bs) (B : Int) (h : L.SpotLe B) : (L.passT t).SpotLe (B + 1 + t.length) := by
  obtain ⟨h1, h2, h3⟩ := h
  have hc := Sg.pass_col L t h3.1
  have hk := Sg.count_le t
  refine ⟨?_, ?_, by omega⟩
  · unfold Sg.Live.passT
    split <;> dsimp only <;> omega
  · unfold Sg.Live.passT
    split <;> dsimp only <;> omega
theorem Sg.nextT_live (m : Sg.Mach) : ∀ (f : Nat) (L : Sg.Live) (B : Int) (t : Sg.Tok) (L' : Sg.Live), L.SpotLe B → L.rest.length ≤ L.cap → 4 ≤ L.cap → Sg.nextT m f L = (.ok t, .inl L') → L'.SpotLe (B + 1 + L.cap) ∧ L'.wk = Sg.Wk.zero ∧ L'.cap = L.cap
  | 0, _, _, _, _, _, _, _, h => by simp [Sg.nextT] at h
  | f + 1, L, B, t, L', hB, hle, hc4, h => by
    unfold Sg.nextT at h
    by_cases c1 : (L.walked m).alive m = true ∧ (L.walked m).cap ≤ (L.walked m).rest.length
    · rw [if_pos c1] at h; cases h
    · rw [if_neg c1] at h
      by_cases c2 : (L.walked m).unsure m = true ∧ (L.walked m).stop = none
      · rw [if_pos c2] at h
        have hlt : (L.walked m).rest.length < (L.walked m).cap := Sg.unsure_lt (m := m) hc4 c1 c2.1
        exact Sg.nextT_live m f (L.walked m).more B t L' hB (Sg.more_le _ (Nat.le_of_lt hlt) askN_len) hc4 h
      · rw [if_neg c2] at h
        by_cases c3 : ((L.walked m).unsure m = true ∧ (L.walked m).stop ≠ some 13) ∨ (L.walked m).rest = []
        · rw [if_pos c3] at h; cases h
        · rw [if_neg c3] at h
          simp only [Prod.mk.injEq, Except.ok.injEq, Sum.inl.injEq] at h
          obtain ⟨_, rfl⟩ := h
          have hB' : (L.walked m).SpotLe B := hB
          have hle' : (L.walked m).rest.length ≤ L.cap := hle
          have hcap : (L.walked m).cap = L.cap := rfl
          generalize L.walked m = W at *
          have hp := Sg.pass_spot W (W.rest.take W.size) B hB'
          have hl : (W.rest.take W.size).length ≤ W.rest.length := by rw [List.length_take]; omega
          refine ⟨?_, rfl, ?_⟩
          · obtain ⟨p1, p2, p3⟩ := hp
            have e1 : W.cutT.at_ = (W.passT (W.rest.take W.size)).at_ := rfl
            have e2 : W.cutT.line = (W.passT (W.rest.take W.size)).line := rfl
            have e3 : W.cutT.col = (W.passT (W.rest.take W.size)).col := rfl
            unfold Sg.Live.SpotLe
            rw [e1, e2, e3]
            omega
          · rw [← hcap]; unfold Sg.Live.cutT Sg.Live.passT; dsimp only; split <;> rfl
theorem NInv.fp {w : World} {sq p q nn bm : Nat} {m : Sg.Mach} {pb n c : Nat} {ra : Option Addr} {rc : Nat} {L : Sg.Live} (h : NInv w sq p q nn bm m pb n c ra rc L) : ∀ i, FP sq q pb n ra i → bm ≤ i ∧ i < w.heap.size := fun i t => by
  have hq := h.sc.sp.hq
  have hn1 := h.sc.sp.nn1
  have hbq := h.bq
  rcases t with t | t | ⟨t1, t2⟩ | ⟨o, t⟩
  · have := cell_lt h.sc.c0; subst t; exact ⟨by omega, this⟩
  · obtain ⟨la, lc, r, hx, _⟩ := h.sc.sp.src
    have := cell_lt hx.c0
    subst t; exact ⟨by omega, this⟩
  · rcases h.sc.sp.sp with ⟨g, _⟩ | ⟨_, _, _, g4, _, g6, _⟩
    · omega
    · obtain ⟨v, hv⟩ := Option.isSome_iff_exists.1 (g6 0 (by omega))
      have := cell_lt hv
      subst t2; exact ⟨by omega, this⟩
  · have := (h.sc.own i o t).1
    rcases h.sc.rest with ⟨e, _⟩ | ⟨rb2, ro2, e2, _, _, _, g, _⟩
    · rw [e] at t; cases t
    · rw [e2] at t; cases t; exact ⟨by omega, g⟩
def ScanAt (w : World) (sq bm nn : Nat) (m : Sg.Mach) (L : Sg.Live) (F : Nat → Prop) (B : Int) : Prop :=
  (∃ p q pb n c ra rc, NInv w sq p q nn bm m pb n c ra rc L ∧ F = FP sq q pb n ra) ∧ L.SpotLe B
theorem ScanAt.lt {w : World} {sq bm nn : Nat} {m : Sg.Mach} {L : Sg.Live} {F : Nat → Prop} {B : Int} (h : ScanAt w sq bm nn m L F B) : ∀ i, F i → bm ≤ i ∧ i < w.heap.size := by
  obtain ⟨⟨p, q, pb, n, c, ra, rc, h, rfl⟩, _⟩ := h
  exact h.fp
theorem ScanAt.self {w : World} {sq bm nn : Nat} {m : Sg.Mach} {L : Sg.Live} {F : Nat → Prop} {B : Int} (h : ScanAt w sq bm nn m L F B) : F sq := by
  obtain ⟨⟨p, q, pb, n, c, ra, rc, h, rfl⟩, _⟩ := h
  exact .inl rfl
theorem ScAt.chgT {w w' : World} {sq p q nn pb n c : Nat} {ra : Option Addr} {rc : Nat} {L : Sg.Live} {T : Nat → Nat → Prop} (h : ScAt w sq p q nn pb n c ra rc L) (hc : Chg T w w') (hT : ∀ i o, T i o → nn ≤ i ∧ ¬ FP sq q pb n ra i) : ScAt w' sq p q nn pb n c ra rc L := by
  have hs := cell_lt h.c0
  have hsr : ∀ j, ¬ T sq j := fun j t => (hT _ _ t).2 (.inl rfl)
  refine ⟨(hc.cell _ _ hs (hsr _)).trans h.c0, ?_, (hc.cell _ _ hs (hsr _)).trans h.c3, (hc.cell _ _ hs (hsr _)).trans h.c4, (hc.cell _ _ hs (hsr _)).trans h.c5, h.wk.of hc (fun _ _ _ => hsr _), (hc.cell _ _ hs (hsr _)).trans h.c11, (hc.cell _ _ hs (hsr _)).trans h.c12, (hc.cell _ _ hs (hsr _)).trans h.c13, (hc.cell _ _ hs (hsr _)).trans h.c14, h.rest.of hc (fun rb ro j e t => (hT _ _ t).2 (.inr (.inr (.inr ⟨ro, e⟩)))), h.own, h.cap4, h.capN, h.le⟩
  refine h.sp.of hc (fun j t => (hT _ _ t).2 (.inr (.inl rfl))) (fun j => ?_) (hsr _) (hsr _) (fun b j hb _ t => by have := (hT _ _ t).1; omega)
  rcases Nat.eq_zero_or_pos n with g | g
  · exact .inr g
  · exact .inl (fun t => (hT _ _ t).2 (.inr (.inr (.inl ⟨g, rfl⟩))))
theorem ScanAt.chg {w w' : World} {sq bm nn : Nat} {m : Sg.Mach} {L : Sg.Live} {F : Nat → Prop} {B : Int} {T : Nat → Nat → Prop} (hm : m.Ok) (h : ScanAt w sq bm nn m L F B) (hc : Chg T w w') (hT : ∀ i o, T i o → nn ≤ i ∧ ¬ F i) : ScanAt w' sq bm nn m L F B := by
  obtain ⟨⟨p, q, pb, n, c, ra, rc, h, rfl⟩, hs⟩ := h
  have hq := h.bq
  have hn := h.sc.sp.hq
  have hT' : ∀ i o, T i o → bm ≤ i := fun i o t => by have := (hT i o t).1; omega
  exact ⟨⟨p, q, pb, n, c, ra, rc, ⟨h.sc.chgT hc hT, h.ma.chg hm hc hT', h.bq, h.tb.chg hc h.g hT', h.so, h.wk, h.g⟩, rfl⟩, hs⟩
theorem ScanAt.nn {w : World} {sq bm nn : Nat} {m : Sg.Mach} {L : Sg.Live} {F : Nat → Prop} {B : Int} (h : ScanAt w sq bm nn m L F B) : nn ≤ w.heap.size := by
  obtain ⟨⟨p, q, pb, n, c, ra, rc, h, rfl⟩, _⟩ := h
  exact h.sc.sp.nn2
def onPost (w : World) (sq bm nn : Nat) (m : Sg.Mach) (F : Nat → Prop) (B : Int) (x : (Except Int Sg.Tok) × Sg.Sc) (en : Ending) (w' : World) : Prop :=
  Chg (fun i _ => F i) w w' ∧
  match x with
  | (.ok t, .inl L') => en = .returned (.tuple #[tokV t, errV none]) ∧ ∃ F', ScanAt w' sq bm nn m L' F' (B + 100001) ∧ ∀ i, i < w.heap.size → F' i → F i
  | (.error e, .inr e') => e = e' ∧ en = .returned (.tuple #[tok0, errV (some e)]) ∧ w'.cell? ⟨sq, 14, none⟩ = some (errV (some e))
  | _ => False
theorem scan_next (m : Sg.Mach) (hm : m.Ok) (sq bm nn : Nat) (L : Sg.Live) (F : Nat → Prop) (B : Int) (w : World) (h : ScanAt w sq bm nn m L F B) (hB : B < 900000000000) :
    Calls Tryz.prog 26 #[.pointer (some ⟨sq, 0, none⟩)] w (onPost w sq bm nn m F B (Sg.nextL m L)) := by
  obtain ⟨⟨p, q, pb, n, c, ra, rc, h, rfl⟩, hsp⟩ := h
  have hfp := h.fp
  refine (next_any m hm sq p q nn bm pb n c ra rc L w h).mono ?_
  rintro en w' ⟨h1, h2⟩
  refine ⟨h1, ?_⟩
  have hliv := Sg.nextT_live m (L.nf + 1) L B
  unfold Sg.nextL
  revert h2 hliv
  generalize Sg.nextT m (L.nf + 1) L = x
  intro h2 hliv
  match x, h2, hliv with
  | (.ok t, .inl L'), h2, hliv =>
    obtain ⟨h3, pb', n', c', ra', rc', h4, h5⟩ := h2
    obtain ⟨k1, k2, k3⟩ := hliv t L' hsp h.sc.le h.sc.cap4 rfl
    have hcN := h.sc.capN
    have hT : ∀ i (j : Nat), FP sq q pb n ra i → bm ≤ i := fun i _ t => (hfp i t).1
    obtain ⟨a1, a2, a3⟩ := k1
    refine ⟨h3, _, ⟨⟨p, q, pb', n', c', ra', rc', ⟨h4, h.ma.chg hm h1 hT, h.bq, h.tb.chg h1 h.g hT, ?_, ?_, h.g⟩, rfl⟩, ?_⟩, h5⟩
    · exact ⟨⟨a1.1, by omega⟩, ⟨a2.1, by omega⟩, ⟨a3.1, by omega⟩⟩
    · rw [k2]; exact Sg.Wk.zero_ok m hm _
    · exact ⟨⟨a1.1, by omega⟩, ⟨a2.1, by omega⟩, ⟨a3.1, by omega⟩⟩
  | (.error e, .inr e'), h2, _ => exact h2
  | (.ok _, .inr _), h2, _ => exact h2
  | (.error _, .inl _), h2, _ => exact h2
end Go.Proofs.YtlhokghgicgppaaGreatDoor
namespace Go.Proofs.YtlhokghgicgppaaGreatDoor
open Go.RowKit Go.Extern
structure Kept (w w' : World) : Prop where
  size : w.heap.size ≤ w'.heap.size
  cell : ∀ (k o : Nat) (v : Value), w.cell? ⟨k, o, none⟩ = some v → w'.cell? ⟨k, o, none⟩ = some v
  frz : ∀ (k j : Nat), k < w.heap.size → w'.frozen? ⟨k, j, none⟩ = w.frozen? ⟨k, j, none⟩
theorem Kept.of_below {w w' : World} (h : Below w.heap.size w w') : Kept w w' :=
  ⟨h.size, fun _ _ _ hv => (cell_block (h.block _ (cell_lt hv))).trans hv, fun _ _ hk => frozen_block (h.block _ hk)⟩
theorem Kept.alloc (w : World) (o : Obj) : Kept w (w.alloc o) := Kept.of_below ((Below.refl _ _).alloc (Nat.le_refl _) _)
theorem Kept.loop {w : World} {l : Nat} {r r' : Loop} (hl : w.heap[l]? = some (.loop r)) : Kept w (w.putObj l (.loop r')) := by
  have hlt : l < w.heap.size := (Array.getElem?_eq_some_iff.1 hl).1
  have hnew : (w.putObj l (.loop r')).heap[l]? = some (.loop r') := World.putObj_heap_same hlt
  have hoth : ∀ k, k ≠ l → (w.putObj l (.loop r')).heap[k]? = w.heap[k]? := fun k hk => World.putObj_heap_other (fun e => hk (by first | exact e | exact e.symm))
  refine ⟨by simp, fun k o v hv => ?_, fun k j hk => ?_⟩
  · by_cases e : k = l
    · subst e; unfold World.cell? at hv; simp [hl] at hv
    · exact (cell_block (hoth k e)).trans hv
  · by_cases e : k = l
    · subst e; unfold World.frozen?; simp [hl, hnew]
    · exact frozen_block (hoth k e)
theorem Kept.some {w w' : World} (hk : Kept w w') {k o : Nat} (h : (w.cell? ⟨k, o, none⟩).isSome = true) : (w'.cell? ⟨k, o, none⟩).isSome = true := by
  obtain ⟨v, hv⟩ := Option.isSome_iff_exists.1 h
  rw [hk.cell _ _ _ hv]; rfl
theorem RestAt.kept {w w' : World} {ra : Option Addr} {rc : Nat} {l : Sg.Bs} (h : RestAt w ra rc l) (hk : Kept w w') : RestAt w' ra rc l := by
  rcases h with h | ⟨rb, ro, rfl, h1, h2, h3, h4, h5⟩
  · exact .inl h
  · exact .inr ⟨rb, ro, rfl, h1, fun j hj => hk.cell _ _ _ (h2 j hj), fun j hj => hk.some (h3 j hj), Nat.lt_of_lt_of_le h4 hk.size, fun j => (hk.frz _ j h4).trans (h5 j)⟩
theorem SpAt.kept {w w' : World} {sq so q nn pb n c : Nat} {s : Sg.Src} (h : SpAt w sq so q nn pb n c s) (hk : Kept w w') : SpAt w' sq so q nn pb n c s := by
  refine ⟨hk.cell _ _ _ h.rd, ?_, ?_, h.hq, h.nn1, Nat.le_trans h.nn2 hk.size, fun j => (hk.frz _ j (cell_lt h.rd)).trans (h.fr j), h.small, h.cN⟩
  · rcases h.sp with ⟨g0, g1⟩ | ⟨g1, g2, g3, g4, g5, g6, g7⟩
    · exact .inl ⟨g0, hk.cell _ _ _ g1⟩
    · obtain ⟨v, hv⟩ := Option.isSome_iff_exists.1 (g6 0 (by omega))
      exact .inr ⟨g1, hk.cell _ _ _ g2, g3, g4, g5, fun j hj => hk.some (g6 j hj), fun j => (hk.frz _ j (cell_lt hv)).trans (g7 j)⟩
  · obtain ⟨la, lc, r, hx, hy⟩ := h.src
    exact ⟨la, lc, r, hx.of (fun b j v _ hv => hk.cell _ _ _ hv) (fun j => hk.frz _ j (cell_lt hx.c0)), hy⟩
theorem WkAt.kept {w w' : World} {q o p : Nat} {k : Sg.Wk} (h : WkAt w q o p k) (hk : Kept w w') : WkAt w' q o p k :=
  ⟨hk.cell _ _ _ h.c0, hk.cell _ _ _ h.c1, hk.cell _ _ _ h.c2, hk.cell _ _ _ h.c3, hk.cell _ _ _ h.c4, fun j => (hk.frz _ j (cell_lt h.c0)).trans (h.fr j)⟩
theorem ScAt.kept {w w' : World} {sq p q nn pb n c : Nat} {ra : Option Addr} {rc : Nat} {L : Sg.Live} (h : ScAt w sq p q nn pb n c ra rc L) (hk : Kept w w') : ScAt w' sq p q nn pb n c ra rc L :=
  ⟨hk.cell _ _ _ h.c0, h.sp.kept hk, hk.cell _ _ _ h.c3, hk.cell _ _ _ h.c4, hk.cell _ _ _ h.c5, h.wk.kept hk, hk.cell _ _ _ h.c11, hk.cell _ _ _ h.c12, hk.cell _ _ _ h.c13, hk.cell _ _ _ h.c14, h.rest.kept hk, h.own, h.cap4, h.capN, h.le⟩
theorem Tabs.kept {w w' : World} (h : Tabs w) (hk : Kept w w') : Tabs w' :=
  ⟨fun c hc => hk.cell _ _ _ (h.1 c hc), fun i hi => ⟨hk.cell _ _ _ (h.2 i hi).1, hk.cell _ _ _ (h.2 i hi).2⟩⟩
theorem ScanAt.kept {w w' : World} {sq bm nn : Nat} {m : Sg.Mach} {L : Sg.Live} {F : Nat → Prop} {B : Int} (hm : m.Ok) (h : ScanAt w sq bm nn m L F B) (hk : Kept w w') : ScanAt w' sq bm nn m L F B := by
  obtain ⟨⟨p, q, pb, n, c, ra, rc, h, rfl⟩, hs⟩ := h
  exact ⟨⟨p, q, pb, n, c, ra, rc, ⟨h.sc.kept hk, h.ma.of hm (fun b o v _ hv => hk.cell _ _ _ hv), h.bq, h.tb.kept hk, h.so, h.wk, h.g⟩, rfl⟩, hs⟩
end Go.Proofs.YtlhokghgicgppaaGreatDoor
namespace Go.Proofs.YtlhokghgicgppaaGreatDoor
open Go.RowKit Go.Extern
attribute [local go_sem] Oper.semAt_some
abbrev tyTok : TypeId := 33
def tokCells (t : Sg.Tok) : List Value := [.int .i64 t.rule, .int .i64 t.at_, .int .i64 t.line, .int .i64 t.col, strV t.text]
def encY : Except Int Sg.Tok → Array Value
  | .ok t => #[tokV t, errV none]
  | .error e => #[tok0, errV (some e)]
structure AC where
  sq : Nat
  bm : Nat
  nn : Nat
  m : Sg.Mach
  ts : List Sg.Tok
  e0 : Int
  most : Nat
  F0 : Nat → Prop
  B0 : Int
  ob : Nat
  tb : Nat
  r4 : Nat
  r5 : Nat
  w0 : World
structure AC.Ok (c : AC) : Prop where
  hm : c.m.Ok
  b0 : 0 ≤ c.B0
  b1 : c.B0 < 500000000000
  lt : c.ts.length < c.most
  le : c.most ≤ 3000
  nob : ¬ c.F0 c.ob
  ntb : ¬ c.F0 c.tb
  lob : c.ob < c.w0.heap.size
  ltb : c.tb < c.w0.heap.size
  nn : c.nn ≤ c.ob
  ne : c.tb ≠ c.ob
  box : c.w0.cell? ⟨c.tb, 0, none⟩ = some (.pointer (some ⟨c.sq, 0, none⟩))
def AC.T (c : AC) : Nat → Nat → Prop := fun i _ => c.F0 i ∨ i = c.ob
structure AC.St (c : AC) (k : Nat) (L : Sg.Live) (F : Nat → Prop) (W : World) : Prop where
  scan : ScanAt W c.sq c.bm c.nn c.m L F (c.B0 + k * 100001)
  fp : ∀ i, i < c.w0.heap.size → F i → c.F0 i
  all : Sg.allT c.m (c.most - k) L = (c.ts.drop k, some c.e0)
  le : k ≤ c.ts.length
structure AC.Out (c : AC) (j : Nat) (F : Nat → Prop) (ra : Option Addr) (rc : Nat) (W : World) : Prop where
  cell : W.cell? ⟨c.ob, 0, none⟩ = some (.slice ra j rc)
  free : W.frozen? ⟨c.ob, 0, none⟩ = false
  row : RowAt 5 W ra rc j ((c.ts.take j).flatMap tokCells)
  nf : ∀ b o, ra = some ⟨b, o, none⟩ → ¬ F b ∧ c.w0.heap.size ≤ b
  chg : Chg c.T c.w0 W
def AC.I (c : AC) (xs : List (Except Int Sg.Tok)) (W : World) : Prop :=
  ∃ k L F ra rc, xs = (c.ts.take k).map .ok ∧ c.St k L F W ∧ c.Out k F ra rc W
def AC.Iy (c : AC) (x : List (Except Int Sg.Tok) × Except Int Sg.Tok) (W : World) : Prop :=
  (∃ k L F ra rc t, x = ((c.ts.take k).map .ok, .ok t) ∧ c.ts.drop k = t :: c.ts.drop (k + 1) ∧ c.St (k + 1) L F W ∧ c.Out k F ra rc W) ∨
  (∃ ra rc, x = (c.ts.map .ok, .error c.e0) ∧ c.Out c.ts.length (fun _ => False) ra rc W ∧ W.cell? ⟨c.sq, 14, none⟩ = some (errV (some c.e0)))
def AC.Ix (c : AC) (code : Code) (xs : List (Except Int Sg.Tok)) (W : World) : Prop :=
  code = .ret ∧ xs = c.ts.map .ok ++ [.error c.e0] ∧ ∃ ra rc, W.cell? ⟨c.r4, 0, none⟩ = some (.slice ra c.ts.length rc) ∧ W.cell? ⟨c.r5, 0, none⟩ = some (errV (some c.e0)) ∧
    (RowAt 5 W ra rc c.ts.length (c.ts.flatMap tokCells) ∧ ∀ b o, ra = some ⟨b, o, none⟩ → c.w0.heap.size ≤ b) ∧ W.cell? ⟨c.sq, 14, none⟩ = some (errV (some c.e0)) ∧ Chg (fun i _ => c.F0 i ∨ i = c.ob ∨ i = c.r4 ∨ i = c.r5) c.w0 W
theorem Chg.loop {T : Nat → Nat → Prop} {a w : World} (h : Chg T a w) {l : Nat} (hl : a.heap.size ≤ l) (o : Obj) : Chg T a (w.putObj l o) := by
  have hoth : ∀ k, k < a.heap.size → (w.putObj l o).heap[k]? = w.heap[k]? := fun k hk => World.putObj_heap_other (by omega)
  refine ⟨h.os, h.tape, h.output, by have := h.size; simp; omega, fun k hk ht => (hoth k hk).trans (h.block k hk ht), fun k j hk ht => (cell_block (hoth k hk)).trans (h.cell k j hk ht), fun k j hk ht => (frozen_block (hoth k hk)).trans (h.frozen k j hk ht), ⟨by have := h.size; simp; omega, fun k o' hk hc => ?_⟩, fun k j hk => (frozen_block (hoth k hk)).trans (h.frz k j hk), fun k j hk => by rw [cell_block (hoth k hk)]; exact h.live k j hk⟩
  exact (hoth k (Array.getElem?_eq_some_iff.1 hk).1).trans (h.others.same k o' hk hc)
theorem RowAt.kept {sz : Nat} {w w' : World} {ra : Option Addr} {rc n : Nat} {l : List Value} (h : RowAt sz w ra rc n l) (hk : Kept w w') : RowAt sz w' ra rc n l := by
  refine ⟨h.len, ?_⟩
  rcases h.row with h | ⟨rb, ro, rfl, h1, h2, h3, h4, h5⟩
  · exact .inl h
  · exact .inr ⟨rb, ro, rfl, h1, fun j v hj => hk.cell _ _ _ (h2 j v hj), fun j hj => hk.some (h3 j hj), Nat.lt_of_lt_of_le h4 hk.size, fun j => (hk.frz _ j h4).trans (h5 j)⟩
theorem AC.St.kept {c : AC} (hc : c.Ok) {k : Nat} {L : Sg.Live} {F : Nat → Prop} {W W' : World} (h : c.St k L F W) (hk : Kept W W') : c.St k L F W' := ⟨h.scan.kept hc.hm hk, h.fp, h.all, h.le⟩
theorem AC.Out.kept {c : AC} {j : Nat} {F : Nat → Prop} {ra : Option Addr} {rc : Nat} {W W' : World} (h : c.Out j F ra rc W) (hk : Kept W W') (hc : Chg c.T c.w0 W') : c.Out j F ra rc W' :=
  ⟨hk.cell _ _ _ h.cell, (hk.frz _ _ (cell_lt h.cell)).trans h.free, h.row.kept hk, h.nf, hc⟩
theorem AC.Out.alloc {c : AC} {j : Nat} {F : Nat → Prop} {ra : Option Addr} {rc : Nat} {W : World} (h : c.Out j F ra rc W) (o : Obj) : c.Out j F ra rc (W.alloc o) := h.kept (Kept.alloc W o) (h.chg.alloc o)
theorem AC.Out.loop {c : AC} {j : Nat} {F : Nat → Prop} {ra : Option Addr} {rc : Nat} {W : World} (h : c.Out j F ra rc W) {l : Nat} {r : Loop} (hB : c.w0.heap.size ≤ l) (hl : W.heap[l]? = some (.loop r)) (r' : Loop) : c.Out j F ra rc (W.putObj l (.loop r')) := h.kept (Kept.loop hl) (h.chg.loop hB _)
theorem AC.Out.below {c : AC} {j : Nat} {F : Nat → Prop} {ra : Option Addr} {rc : Nat} {W W' : World} (h : c.Out j F ra rc W) (hb : Below W.heap.size W W') : c.Out j F ra rc W' := h.kept (Kept.of_below hb) (h.chg.trans_new (Chg.of_below (T := fun _ _ => False) hb) (fun _ _ _ t => t.elim))
theorem AC.I_own {c : AC} (hc : c.Ok) : OwnSt c.w0.heap.size c.I :=
  ⟨fun _ W o ⟨k, L, F, ra, rc, e, h1, h2⟩ _ => ⟨k, L, F, ra, rc, e, h1.kept hc (Kept.alloc W o), h2.alloc o⟩,
   fun _ W l r r' ⟨k, L, F, ra, rc, e, h1, h2⟩ hB hl => ⟨k, L, F, ra, rc, e, h1.kept hc (Kept.loop hl), h2.loop hB hl r'⟩⟩
theorem AC.Iy_kept {c : AC} (hc : c.Ok) {x : List (Except Int Sg.Tok) × Except Int Sg.Tok} {W W' : World} (h : c.Iy x W) (hk : Kept W W') (hg : Chg c.T c.w0 W → Chg c.T c.w0 W') : c.Iy x W' := by
  rcases h with ⟨k, L, F, ra, rc, t, e, e2, h1, h2⟩ | ⟨ra, rc, e, h1, h2⟩
  · exact .inl ⟨k, L, F, ra, rc, t, e, e2, h1.kept hc hk, h2.kept hk (hg h2.chg)⟩
  · exact .inr ⟨ra, rc, e, h1.kept hk (hg h1.chg), hk.cell _ _ _ h2⟩
theorem AC.Iy_own {c : AC} (hc : c.Ok) : OwnSt c.w0.heap.size c.Iy :=
  ⟨fun _ W o h _ => AC.Iy_kept hc h (Kept.alloc W o) (fun g => g.alloc o), fun _ W l r r' h hB hl => AC.Iy_kept hc h (Kept.loop hl) (fun g => g.loop hB _)⟩
theorem AC.Iy_below {c : AC} (hc : c.Ok) {x : List (Except Int Sg.Tok) × Except Int Sg.Tok} {W W' : World} (h : c.Iy x W) (hb : Below W.heap.size W W') : c.Iy x W' :=
  AC.Iy_kept hc h (Kept.of_below hb) (fun g => g.trans_new (Chg.of_below (T := fun _ _ => False) hb) (fun _ _ _ t => t.elim))
theorem AC.Ix_own {c : AC} (code : Code) : OwnSt c.w0.heap.size (c.Ix code) :=
  ⟨fun _ W o ⟨e1, e2, ra, rc, h1, h2, h3, h4, h5⟩ _ => ⟨e1, e2, ra, rc, (Kept.alloc W o).cell _ _ _ h1, (Kept.alloc W o).cell _ _ _ h2, ⟨h3.1.kept (Kept.alloc W o), h3.2⟩, (Kept.alloc W o).cell _ _ _ h4, h5.alloc o⟩,
   fun _ W l r r' ⟨e1, e2, ra, rc, h1, h2, h3, h4, h5⟩ hB hl => ⟨e1, e2, ra, rc, (Kept.loop hl).cell _ _ _ h1, (Kept.loop hl).cell _ _ _ h2, ⟨h3.1.kept (Kept.loop hl), h3.2⟩, (Kept.loop hl).cell _ _ _ h4, h5.loop hB _⟩⟩
def outLen (ob : Nat) (W : World) : Nat :=
  match W.cell? ⟨ob, 0, none⟩ with
  | some (.slice _ n _) => n
  | _ => 0
theorem AC.Out.len {c : AC} {j : Nat} {F : Nat → Prop} {ra : Option Addr} {rc : Nat} {W : World} (h : c.Out j F ra rc W) : outLen c.ob W = j := by
  unfold outLen
  rw [h.cell]
theorem AC.St.step {c : AC} (hc : c.Ok) {k : Nat} {L : Sg.Live} {F : Nat → Prop} {W : World} (h : c.St k L F W) :
    (∃ t L', Sg.nextL c.m L = (.ok t, .inl L') ∧ c.ts.drop k = t :: c.ts.drop (k + 1) ∧ Sg.allT c.m (c.most - (k + 1)) L' = (c.ts.drop (k + 1), some c.e0) ∧ k < c.ts.length) ∨
    ((∃ s, Sg.nextL c.m L = (.error c.e0, s)) ∧ k = c.ts.length) := by
  have h1 := hc.lt
  have h2 := h.le
  obtain ⟨n, hn⟩ : ∃ n, c.most - k = n + 1 := ⟨c.most - k - 1, by omega⟩
  have ha := h.all
  rw [hn] at ha
  unfold Sg.allT at ha
  revert ha
  generalize hx : Sg.nextL c.m L = x
  intro ha
  match x, hx, ha with
  | (.ok t, .inl L'), hx, ha =>
    simp only [Prod.mk.injEq] at ha
    have hlt : k < c.ts.length := by
      rcases Nat.lt_or_ge k c.ts.length with g | g
      · exact g
      · rw [List.drop_of_length_le g] at ha; cases ha.1
    have hd := List.drop_eq_getElem_cons hlt
    rw [hd] at ha
    simp only [List.cons.injEq] at ha
    refine .inl ⟨t, L', rfl, by rw [hd, ha.1.1], ?_, hlt⟩
    rw [show c.most - (k + 1) = n by omega, ← ha.1.2, ← ha.2]
  | (.error e, s), hx, ha =>
    simp only [Prod.mk.injEq, Option.some.injEq] at ha
    refine .inr ⟨⟨s, by rw [ha.2]⟩, ?_⟩
    have := congrArg List.length ha.1
    rw [List.length_nil, List.length_drop] at this
    omega
  | (.ok t, .inr e), hx, ha =>
    exact absurd hx (Sg.nextL_no c.m L t e)
end Go.Proofs.YtlhokghgicgppaaGreatDoor
