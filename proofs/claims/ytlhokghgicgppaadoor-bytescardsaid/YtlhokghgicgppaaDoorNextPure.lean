/- Plain laws of Next. -/
import Derived.Test.YtlhokghgicgppaaDoorSpec2
set_option linter.unusedSimpArgs false
set_option linter.unusedVariables false
namespace Go.Proofs.YtlhokghgicgppaaDoor.Sg
open Go

theorem walkTo_ok (m : Mach) (hm : m.Ok) (l : Bs) : ∀ (f : Nat) (k : Wk), k.Ok m l → (walkTo m l f k).Ok m l
  | 0, k, h => h
  | f + 1, k, h => by
    unfold walkTo
    split
    · rename_i hc
      exact walkTo_ok m hm l f _ (stepW_ok m hm l k h hc.1 hc.2).1
    · exact h
theorem askN_some (most : Nat) : ∀ (k : Nat) (s : Src), (askN most k s).1.1 ≠ [] ∨ (askN most k s).1.2 ≠ none
  | 0, s => .inr (by simp [askN])
  | k + 1, s => by
    unfold askN
    dsimp only
    split
    · assumption
    · exact askN_some most k _
/-- How many more readings there may be. -/
def Live.nf (L : Live) : Nat := L.cap - L.rest.length + (if L.stop = none then 1 else 0)
theorem nf_more (L : Live) (hs : L.stop = none) (hl : L.rest.length < L.cap) (hb : (askN (L.cap - L.rest.length) 8 L.src).1.1.length ≤ L.cap - L.rest.length) : L.more.nf < L.nf := by
  have h := askN_some (L.cap - L.rest.length) 8 L.src
  unfold Live.nf Live.more
  dsimp only
  rw [if_pos hs, List.length_append]
  rcases h with h | h
  · have : 1 ≤ (askN (L.cap - L.rest.length) 8 L.src).1.1.length := by
      rcases hx : (askN (L.cap - L.rest.length) 8 L.src).1.1 with _ | _
      · exact absurd hx h
      · simp
    split <;> omega
  · rw [if_neg h]; omega
theorem full_short {l : Bs} (h : full l = false) : l.length < 4 := by
  unfold full at h
  split at h
  · rename_i e; rw [e]; simp
  · rename_i hne
    split at h
    · cases h
    · rename_i hb
      have hx : Lib.firstT (l.getD 0 0).toNat % 8 ≤ 4 := by
        generalize (l.getD 0 0).toNat = k
        unfold Lib.firstT
        repeat' split
        all_goals decide
      omega
theorem Wk.zero_ok (m : Mach) (hm : m.Ok) (l : Bs) : Wk.zero.Ok m l := ⟨Nat.zero_le _, Nat.le_refl _, .inr ⟨0, rfl, hm.states0⟩⟩
theorem Wk.Ok.more {m : Mach} {l : Bs} {k : Wk} (h : k.Ok m l) (g : Bs) : k.Ok m (l ++ g) := ⟨by rw [List.length_append]; exact Nat.le_trans h.1 (Nat.le_add_right _ _), h.2.1, h.2.2⟩

/-- What stays as it is in a scanner that goes on. -/
structure Live.Fit (m : Mach) (L : Live) : Prop where
  wk : L.wk.Ok m L.rest
  le : L.rest.length ≤ L.cap
  cap4 : 4 ≤ L.cap
  ask : ∀ s : Src, (askN (L.cap - L.rest.length) 8 s).1.1.length ≤ L.cap - L.rest.length
theorem unsure_lt {m : Mach} {L : Live} (hc : 4 ≤ L.cap) (h1 : ¬ (L.alive m = true ∧ L.cap ≤ L.rest.length)) (h2 : L.unsure m = true) : L.rest.length < L.cap := by
  unfold Live.unsure at h2
  rcases Nat.lt_or_ge L.rest.length L.cap with h | h
  · exact h
  · exfalso
    by_cases ha : L.alive m = true
    · exact h1 ⟨ha, h⟩
    · have hf : full L.rest = false := by
        cases hx : full L.rest
        · rfl
        · simp [hx] at h2; exact absurd h2 ha
      have := full_short hf
      omega

theorem walked_nf (m : Mach) (L : Live) : (L.walked m).nf = L.nf := rfl
theorem more_cap (L : Live) : L.more.cap = L.cap := rfl
theorem more_le (L : Live) (h : L.rest.length ≤ L.cap) (hal : ∀ most k s, (askN most k s).1.1.length ≤ most) : L.more.rest.length ≤ L.more.cap := by
  show (L.rest ++ (askN (L.cap - L.rest.length) 8 L.src).1.1).length ≤ L.cap
  have := hal (L.cap - L.rest.length) 8 L.src
  rw [List.length_append]; omega
theorem nextT_fuel (m : Mach) (hal : ∀ most k s, (askN most k s).1.1.length ≤ most) : ∀ (f g : Nat) (L : Live), 4 ≤ L.cap → L.rest.length ≤ L.cap → L.nf < f → L.nf < g → nextT m f L = nextT m g L
  | 0, _, L, _, _, h, _ => absurd h (Nat.not_lt_zero _)
  | _ + 1, 0, L, _, _, _, h => absurd h (Nat.not_lt_zero _)
  | f + 1, g + 1, L, hc, hl, hf, hg => by
    unfold nextT
    by_cases c1 : (L.walked m).alive m = true ∧ (L.walked m).cap ≤ (L.walked m).rest.length
    · rw [if_pos c1, if_pos c1]
    · rw [if_neg c1, if_neg c1]
      by_cases c2 : (L.walked m).unsure m = true ∧ (L.walked m).stop = none
      · rw [if_pos c2, if_pos c2]
        have hlt : (L.walked m).rest.length < (L.walked m).cap := unsure_lt (m := m) hc c1 c2.1
        have hn := nf_more (L.walked m) c2.2 hlt (hal _ _ _)
        rw [walked_nf] at hn
        exact nextT_fuel m hal f g _ hc (more_le _ (Nat.le_of_lt hlt) hal) (by omega) (by omega)
      · rw [if_neg c2, if_neg c2]
/-- One more reading. -/
theorem nextT_more (m : Mach) (hal : ∀ most k s, (askN most k s).1.1.length ≤ most) (L : Live) (hc : 4 ≤ L.cap) (c1 : ¬ ((L.walked m).alive m = true ∧ (L.walked m).cap ≤ (L.walked m).rest.length)) (c2 : (L.walked m).unsure m = true ∧ (L.walked m).stop = none) :
    nextT m (L.nf + 1) L = nextT m ((L.walked m).more.nf + 1) (L.walked m).more ∧ (L.walked m).more.nf < L.nf := by
  have hlt : (L.walked m).rest.length < (L.walked m).cap := unsure_lt (m := m) hc c1 c2.1
  have hn := nf_more (L.walked m) c2.2 hlt (hal _ _ _)
  rw [walked_nf] at hn
  refine ⟨?_, hn⟩
  conv => lhs; unfold nextT
  rw [if_neg c1, if_pos c2]
  exact nextT_fuel m hal _ _ _ hc (more_le _ (Nat.le_of_lt hlt) hal) (by omega) (by omega)
end Go.Proofs.YtlhokghgicgppaaDoor.Sg
