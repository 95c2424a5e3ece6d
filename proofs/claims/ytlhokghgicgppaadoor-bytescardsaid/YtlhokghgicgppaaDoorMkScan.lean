/- plain.NewSource, source.Of, (*Tables).Scan, plain.Scan. -/
import Derived.Test.YtlhokghgicgppaaDoorAll
set_option linter.unusedSimpArgs false
set_option linter.unusedVariables false
namespace Go.Proofs.YtlhokghgicgppaaDoor
open Go.RowKit Go.Extern

def pcCells (c : Sg.Pc) : List Value := [strV c.text, .int .i64 c.n, .int .i64 c.kind]
theorem flat_get {α : Type} (f : α → List Value) (s : Nat) (hs : ∀ x, (f x).length = s) : ∀ (l : List α) (i k : Nat) (h : i < l.length), k < s → (l.flatMap f)[i * s + k]? = (f l[i])[k]?
  | [], i, k, h, _ => absurd h (Nat.not_lt_zero _)
  | x :: r, 0, k, h, hk => by
    rw [List.flatMap_cons, Nat.zero_mul, Nat.zero_add, List.getElem?_append_left (by rw [hs]; exact hk)]; rfl
  | x :: r, i + 1, k, h, hk => by
    rw [List.flatMap_cons, List.getElem?_append_right (by rw [hs, Nat.add_mul]; omega), hs, show (i + 1) * s + k - s = i * s + k by rw [Nat.add_mul]; omega]
    exact flat_get f s hs r i k (by simpa using h) hk
theorem flat_len {α : Type} (f : α → List Value) (s : Nat) (hs : ∀ x, (f x).length = s) : ∀ l : List α, (l.flatMap f).length = l.length * s
  | [] => by simp
  | x :: r => by rw [List.flatMap_cons, List.length_append, hs, flat_len f s hs r, List.length_cons, Nat.add_mul]; omega
theorem info_pc : (Tryd.prog.info? 51).map (fun i => (i.zero, i.size, i.bytes)) = some (some (.agg #[.string ⟨#[]⟩, .int .i64 0, .int .i64 0]), 3, 32) := by kernel_rfl

theorem pc_append (w : World) (l : List Sg.Pc) (hne : l ≠ []) (hN : l.length < 1000000) (lb lo lc : Nat) (hP : ∀ j u, (l.flatMap pcCells)[j]? = some u → w.cell? ⟨lb, lo + j, none⟩ = some u) (ty : TypeId) :
    ∃ rb rc w', (Builtin.append_ #[52, 52] ty #[.slice none 0 0, .slice (some ⟨lb, lo, none⟩) l.length lc]).run Tryd.prog w = .ok (.slice (some ⟨rb, 0, none⟩) l.length rc) w' ∧ PcAt w' (some ⟨rb, 0, none⟩) l ∧ l.length ≤ rc ∧ Below w.heap.size w w' ∧ w.heap.size ≤ rb ∧ rb < w'.heap.size := by
  obtain ⟨i, hi, hz, hs, hb⟩ := info_parts info_pc
  have hl0 : 0 < l.length := List.length_pos_iff.2 hne
  obtain ⟨ra', rc', w', h1, h2, h3, h4⟩ := append_row (P := Tryd.prog) w 52 ty 51 i _ 3 32 Tryd.underlying52 hi hz hs hb rfl (by omega) none 0 0 [] (RowAt.nil 3 w) lb lo l.length lc hl0 (l.flatMap pcCells) (flat_len pcCells 3 (fun _ => rfl) l) hP (fun u hu => by
    obtain ⟨c, _, hc⟩ := List.mem_flatMap.1 hu
    simp only [pcCells, strV, List.mem_cons, List.not_mem_nil, or_false] at hc
    rcases hc with rfl | rfl | rfl <;> rfl) (by unfold maxLen; omega) (by omega)
  rcases h4 with h4 | ⟨rb, rfl, hrb⟩
  · exfalso
    rcases h2.row with ⟨_, _, h⟩ | ⟨rb, ro, e, _⟩
    · omega
    · rw [h4] at e; cases e
  · rw [Nat.zero_add] at h1 h2
    rw [List.nil_append] at h2
    have hlt := h2.lt rfl
    refine ⟨rb, rc', w', h1, .inr ⟨rb, 0, rfl, fun i hi => ?_⟩, h2.le, h3.below (Nat.le_refl _) (fun k o hk ⟨o2, e⟩ => by cases e), hrb, hlt⟩
    rcases h2.row with ⟨h, _⟩ | ⟨rb2, ro2, e, _, hc, _⟩
    · cases h
    · cases e
      refine ⟨?_, ?_, ?_⟩
      · have := hc (i * 3 + 0) (strV l[i].text) (by rw [flat_get pcCells 3 (fun _ => rfl) l i 0 hi (by omega)]; rfl)
        simpa using this
      · have := hc (i * 3 + 1) (.int .i64 l[i].n) (by rw [flat_get pcCells 3 (fun _ => rfl) l i 1 hi (by omega)]; rfl)
        rw [← Nat.add_assoc] at this; exact this
      · have := hc (i * 3 + 2) (.int .i64 l[i].kind) (by rw [flat_get pcCells 3 (fun _ => rfl) l i 2 hi (by omega)]; rfl)
        rw [← Nat.add_assoc] at this; exact this

/-- A source that nobody has read. -/
structure NewSrc (w w' : World) (q : Nat) (l : List Sg.Pc) : Prop where
  src : ∃ la lc, SrcAt w' q la lc 0 ⟨l, 0, 0⟩ ∧ ∀ b o, la = some ⟨b, o, none⟩ → b ≠ q ∧ b < w'.heap.size
  below : Below w.heap.size w w'
  new : w.heap.size ≤ q
  lt : q < w'.heap.size

set_option maxRecDepth 100000 in
set_option maxHeartbeats 1000000 in
theorem newSource_any (w : World) (l : List Sg.Pc) (hne : l ≠ []) (hN : l.length < 1000000) (lb lo lc : Nat) (hP : ∀ j u, (l.flatMap pcCells)[j]? = some u → w.cell? ⟨lb, lo + j, none⟩ = some u) :
    Calls Tryd.prog 10 #[.slice (some ⟨lb, lo, none⟩) l.length lc] w fun e w' => ∃ q, e = .returned (.pointer (some ⟨q, 0, none⟩)) ∧ NewSrc w w' q l := by
  obtain ⟨rb, rc, w1, hrun, h1, h2, h3, h4, h5⟩ := pc_append w l hne hN lb lo lc hP 52
  have Hrun := hide2 hrun
  have H := hide2 (And.intro h1 (And.intro h2 (And.intro h3 (And.intro h4 h5))))
  clear hrun h1 h2 h3 h4 h5 hP
  go_enter Tryd.func10, Tryd.ntmps10
  go_wp2_with (at_builtin; refine wpList_append_run rfl _ _ _ _ rfl _ _ _ rfl rfl Hrun.out ?_)
  go_ret
  obtain ⟨h1, h2, h3, h4, h5⟩ := H.out
  have hbl : Below w1.heap.size w1 (w1.alloc (.cells #[.slice (some ⟨rb, 0, none⟩) l.length rc, .int .i64 0, .int .i64 0, .int .i64 0] 78)) := (Below.refl _ _).alloc (Nat.le_refl _) _
  have hs3 := h3.size
  refine ⟨w1.heap.size, rfl, ⟨⟨some ⟨rb, 0, none⟩, rc, ⟨?_, ?_, ?_, ?_, ?_, ?_, h2⟩, fun b o e => by cases e; exact ⟨by omega, by simp; omega⟩⟩, h3.trans (hbl.mono hs3), by omega, by simp⟩⟩
  · rw [World.cell?_alloc_at _ _ _ _ rfl]; rfl
  · rw [World.cell?_alloc_at _ _ _ _ rfl]; rfl
  · rw [World.cell?_alloc_at _ _ _ _ rfl]; rfl
  · rw [World.cell?_alloc_at _ _ _ _ rfl]; rfl
  · intro j; exact World.frozen?_alloc_at _ _ _ _ rfl
  · exact h1.of (fun b o j v e hv => oldCell _ hv)

set_option maxRecDepth 100000 in
set_option maxHeartbeats 800000 in
theorem srcOf_any (q : Nat) (w : World) :
    Calls Tryd.prog 38 #[.iface 48 (.pointer (some ⟨q, 0, none⟩))] w fun en w' => en = .returned (.agg #[.iface 48 (.pointer (some ⟨q, 0, none⟩)), .slice none 0 0]) ∧ Below w.heap.size w w' := by
  go_enter Tryd.func38, Tryd.ntmps38
  go_wp2
  exact bodyPost_ret (v := .agg #[.iface 48 (.pointer (some ⟨q, 0, none⟩)), .slice none 0 0]) (by simp [results, Tryd.results38, go_sem]) rfl ⟨rfl, (Below.refl _ _).alloc (Nat.le_refl _) _⟩

abbrev scCells (p q cap : Nat) : Array Value := #[.pointer (some ⟨p, 0, none⟩), .iface 48 (.pointer (some ⟨q, 0, none⟩)), .slice none 0 0, .int .i64 cap, .slice none 0 0, .nilIface, .pointer (some ⟨p, 0, none⟩), .int .i64 0, .int .i64 0, .int .i64 (-1), .int .i64 0, .int .i64 0, .int .i64 1, .int .i64 1, .nilIface]

set_option maxRecDepth 100000 in
set_option maxHeartbeats 2000000 in
theorem scan_any (tp p q cap : Nat) (w : World) (hp : w.cell? ⟨tp, 0, none⟩ = some (.pointer (some ⟨p, 0, none⟩))) (h4 : 4 ≤ cap) (hN : cap ≤ 100000) :
    Calls Tryd.prog 22 #[.pointer (some ⟨tp, 0, none⟩), .iface 48 (.pointer (some ⟨q, 0, none⟩)), .int .i64 cap] w fun en w' => ∃ w1, en = .returned (.tuple #[.pointer (some ⟨w1.heap.size, 0, none⟩), .nilIface]) ∧ Below w.heap.size w w1 ∧ w' = w1.alloc (.cells (scCells p q cap) 92) := by
  have htp := cell_lt hp
  have HS : Hid (∀ w', Below w.heap.size w w' → Below w.heap.size w w' ∧ w'.cell? ⟨tp, 0, none⟩ = some (.pointer (some ⟨p, 0, none⟩))) := hide2 fun w' hb => ⟨hb, (hb.cell (p := ⟨tp, 0, none⟩) htp).trans hp⟩
  have HO : Hid (∀ w', Calls Tryd.prog 38 #[.iface 48 (.pointer (some ⟨q, 0, none⟩))] w' fun en w2 => en = .returned (.agg #[.iface 48 (.pointer (some ⟨q, 0, none⟩)), .slice none 0 0]) ∧ (Below w.heap.size w w' → Below w.heap.size w w2)) := hide2 fun w' => (srcOf_any q w').mono (by
    rintro en w2 ⟨h1, h2⟩
    exact ⟨h1, fun hb => hb.trans (h2.mono hb.size)⟩)
  have HF : Hid (∀ w', Calls Tryd.prog 39 #[.pointer (some ⟨p, 0, none⟩)] w' fun en w2 => en = .returned (.agg #[.pointer (some ⟨p, 0, none⟩), .int .i64 0, .int .i64 0, .int .i64 (-1), .int .i64 0]) ∧ (Below w.heap.size w w' → Below w.heap.size w w2)) := hide2 fun w' => (of_any p w').mono (by
    rintro en w2 ⟨h1, h2⟩
    exact ⟨h1, fun hb => hb.trans (h2.mono hb.size)⟩)
  go_enter Tryd.func22, Tryd.ntmps22
  go_upto_region 3 with fail
  go_region_held (fun w' => Below w.heap.size w w' ∧ w'.cell? ⟨tp, 0, none⟩ = some (.pointer (some ⟨p, 0, none⟩)))
    ((with_reducible refine HS.out _ ?_; first
      | with_reducible exact (Below.refl _ _).drew
      | with_reducible exact hw3
      | with_reducible exact hw2
      | with_reducible exact hw3.alloc hw3.size _
      | with_reducible exact hw2.alloc hw2.size _))
    ((first
      | (go_at_call 38; refine (HO.out _).mono ?_; rintro e w2 ⟨rfl, hk⟩; have hw2 : Below w.heap.size w w2 := hk (by first | with_reducible exact (Below.refl _ _).drew | with_reducible exact hw3); clear hk)
      | (go_at_call 39; refine (HF.out _).mono ?_; rintro e w3 ⟨rfl, hk⟩; have hw3 : Below w.heap.size w w3 := hk (by first | with_reducible exact (Below.refl _ _).drew | with_reducible exact hw2); clear hk)))
  all_goals go_wp2
  all_goals go_ret2
  all_goals exact ⟨w3, rfl, hw3, rfl⟩

def Sg.live0 (cap : Nat) (l : List Sg.Pc) : Sg.Live := ⟨cap, [], none, Sg.Wk.zero, 0, 1, 1, ⟨l, 0, 0⟩⟩
theorem spot0 (cap : Nat) (l : List Sg.Pc) : SpotOk (Sg.live0 cap l) := by
  unfold SpotOk Sg.live0; dsimp only; omega
theorem spot1 (cap : Nat) (l : List Sg.Pc) : (Sg.live0 cap l).SpotLe 1 := by
  unfold Sg.Live.SpotLe Sg.live0; dsimp only; omega

set_option maxRecDepth 100000 in
set_option maxHeartbeats 1000000 in
theorem plainScan_any (m : Sg.Mach) (hm : m.Ok) (tp p q bm cap : Nat) (l : List Sg.Pc) (w : World) (hp : w.cell? ⟨tp, 0, none⟩ = some (.pointer (some ⟨p, 0, none⟩))) (h4 : 4 ≤ cap) (hN : cap ≤ 100000) (hma : MachIn w bm p m) (htb : Tabs w) (hg : 4 ≤ bm) (hbq : bm ≤ q)
    (hsm : Small ⟨l, 0, 0⟩) (hsrc : ∃ la lc, SrcAt w q la lc 0 ⟨l, 0, 0⟩ ∧ ∀ b o, la = some ⟨b, o, none⟩ → b ≠ q ∧ b < w.heap.size) :
    Calls Tryd.prog 11 #[.pointer (some ⟨tp, 0, none⟩), .pointer (some ⟨q, 0, none⟩), .int .i64 cap] w fun en w' => ∃ sq F, en = .returned (.tuple #[.pointer (some ⟨sq, 0, none⟩), .nilIface]) ∧ ScanAt w' sq bm sq m (Sg.live0 cap l) F 1 ∧ (∀ i, F i → i = sq ∨ i = q) ∧ Below w.heap.size w w' ∧ w.heap.size ≤ sq := by
  have HS := hide2 (scan_any tp p q cap w hp h4 hN)
  have Hma := hide2 hma
  have Htb := hide2 htb
  have Hsrc := hide2 hsrc
  clear hma htb hsrc
  go_enter Tryd.func11, Tryd.ntmps11
  go_wp2_with (go_at_call 22; refine HS.out.mono ?_; rintro e w' ⟨w1, rfl, hb1, rfl⟩)
  go_ret2
  obtain ⟨la, lc, hsrc, hy⟩ := Hsrc.out
  have hq : q < w.heap.size := cell_lt hsrc.c0
  have hs1 := hb1.size
  have hb2 : Below w1.heap.size w1 (w1.alloc (.cells (scCells p q cap) 92)) := (Below.refl _ _).alloc (Nat.le_refl _) _
  have hb : Below w.heap.size w (w1.alloc (.cells (scCells p q cap) 92)) := hb1.trans (hb2.mono hs1)
  have hcell : ∀ j, (w1.alloc (.cells (scCells p q cap) 92)).cell? ⟨w1.heap.size, j, none⟩ = (scCells p q cap)[j]? := fun j => World.cell?_alloc_at _ _ _ _ rfl
  have hfr : ∀ j, (w1.alloc (.cells (scCells p q cap) 92)).frozen? ⟨w1.heap.size, j, none⟩ = false := fun j => World.frozen?_alloc_at _ _ _ _ rfl
  have hchg : Chg (fun _ _ => False) w (w1.alloc (.cells (scCells p q cap) 92)) := Chg.of_below hb
  refine ⟨w1.heap.size, _, rfl, ⟨⟨p, q, 0, 0, 0, none, 0, ⟨⟨hcell 0, ⟨hcell 1, .inl ⟨rfl, hcell 2⟩, ⟨la, lc, 0, hsrc.below hb, fun b o e => ⟨(hy b o e).1, by have := (hy b o e).2; omega⟩⟩, by omega, Nat.le_refl _, by simp, hfr, hsm, by omega⟩, hcell 3, hcell 4, hcell 5, ⟨hcell 6, hcell 7, hcell 8, hcell 9, hcell 10, hfr⟩, hcell 11, hcell 12, hcell 13, hcell 14, .inl ⟨rfl, rfl, rfl⟩, (fun rb ro e => by cases e), h4, hN, Nat.zero_le _⟩, Hma.out.chg hm hchg (fun _ _ t => t.elim), hbq, Htb.out.chg hchg hg (fun _ _ t => t.elim), spot0 cap l, Sg.Wk.zero_ok m hm _, hg⟩, rfl⟩, spot1 cap l⟩, fun i t => ?_, hb, hs1⟩
  rcases t with t | t | ⟨t, _⟩ | ⟨o, t⟩
  · exact .inl t
  · exact .inr t
  · omega
  · cases t
end Go.Proofs.YtlhokghgicgppaaDoor
