/- plain.NewSource, source.Of, (*Tables).Scan, plain.Scan. -/
/- plain.Told at an api.Errno. Numbers filled in by wip/tools/inst.py. -/
/- scangenkeep.tokens. -/
import Derived.Test.YtlhokghgicgppaaGreatDoorAll
import Derived.Test.YtlhokghgicgppaaGreatDoorAsCalls
import Derived.Below
set_option linter.unusedSimpArgs false
set_option linter.unusedVariables false
set_option maxRecDepth 100000
set_option maxHeartbeats 4000000
namespace Go.Proofs.YtlhokghgicgppaaGreatDoor
open Go.RowKit Go.Extern
def pcCells (c : Sg.Pc) : List Value := [strV c.text, .int .i64 c.n, .int .i64 c.kind]
theorem flat_get {α : Type} (f : α → List Value) (s : Nat) (hs : ∀ x, (f x).length = s) : ∀ (l : List α) (i k : Nat) (h : i < l.length), k < s → (l.flatMap f)[i * s + k]? = (f l[i])[k]?
  | [], i, k, h, _ => absurd h (Nat.not_lt_zero _)
  | x :: r, 0, k, h, hk => by
    rw [List.flatMap_cons, Nat.zero_mul, Nat.zero_add, List.getElem?_append_left (by rw [hs]; exact hk)]; rfl
  | x :: r, i + 1, k, h, hk => by
    rw [List.flatMap_cons, List.getElem?_append_right (by rw [hs, Nat.add_mul]; omega), hs, show (i + 1) * s + k - s = i * s + k by rw [Nat.add_mul]; omega]
    exact flat_get f s hs r i k (by simpa using h) hk
theorem flat_len {α : Type} (f : α → List Value) (s : Nat) (hs : ∀ x, (f x).length = s) : ∀ l : List α, (l.flatMap f).length = l.length * s
  | [] => by simp
  | x :: r => by rw [List.flatMap_cons, List.length_append, hs, flat_len f s hs r, List.length_cons, Nat.add_mul]; omega
theorem info_pc : (Tryz.prog.info? 40).map (fun i => (i.zero, i.size, i.bytes)) = some (some (.agg #[.string ⟨#[]⟩, .int .i64 0, .int .i64 0]), 3, 32) := by kernel_rfl
theorem pc_append (w : World) (l : List Sg.Pc) (hne : l ≠ []) (hN : l.length < 1000000) (lb lo lc : Nat) (hP : ∀ j u, (l.flatMap pcCells)[j]? = some u → w.cell? ⟨lb, lo + j, none⟩ = some u) (ty : TypeId) :
    ∃ rb rc w', (Builtin.append_ #[37, 37] ty #[.slice none 0 0, .slice (some ⟨lb, lo, none⟩) l.length lc]).run Tryz.prog w = .ok (.slice (some ⟨rb, 0, none⟩) l.length rc) w' ∧ PcAt w' (some ⟨rb, 0, none⟩) l ∧ l.length ≤ rc ∧ Below w.heap.size w w' ∧ w.heap.size ≤ rb ∧ rb < w'.heap.size := by
  obtain ⟨i, hi, hz, hs, hb⟩ := info_parts info_pc
  have hl0 : 0 < l.length := List.length_pos_iff.2 hne
  obtain ⟨ra', rc', w', h1, h2, h3, h4⟩ := append_row (P := Tryz.prog) w 37 ty 40 i _ 3 32 Tryz.underlying37 hi hz hs hb rfl (by omega) none 0 0 [] (RowAt.nil 3 w) lb lo l.length lc hl0 (l.flatMap pcCells) (flat_len pcCells 3 (fun _ => rfl) l) hP (fun u hu => by
    obtain ⟨c, _, hc⟩ := List.mem_flatMap.1 hu
    simp only [pcCells, strV, List.mem_cons, List.not_mem_nil, or_false] at hc
    rcases hc with rfl | rfl | rfl <;> rfl) (by unfold maxLen; omega) (by omega)
  rcases h4 with h4 | ⟨rb, rfl, hrb⟩
  · exfalso
    rcases h2.row with ⟨_, _, h⟩ | ⟨rb, ro, e, _⟩
    · omega
    · rw [h4] at e; cases e
  · rw [Nat.zero_add] at h1 h2
    rw [List.nil_append] at h2
    have hlt := h2.lt rfl
    refine ⟨rb, rc', w', h1, .inr ⟨rb, 0, rfl, fun i hi => ?_⟩, h2.le, h3.below (Nat.le_refl _) (fun k o hk ⟨o2, e⟩ => by cases e), hrb, hlt⟩
    rcases h2.row with ⟨h, _⟩ | ⟨rb2, ro2, e, _, hc, _⟩
    · cases h
    · cases e
      refine ⟨?_, ?_, ?_⟩
      · have := hc (i * 3 + 0) (strV l[i].text) (by rw [flat_get pcCells 3 (fun _ => rfl) l i 0 hi (by omega)]; rfl)
        simpa using this
      · have := hc (i * 3 + 1) (.int .i64 l[i].n) (by rw [flat_get pcCells 3 (fun _ => rfl) l i 1 hi (by omega)]; rfl)
        rw [← Nat.add_assoc] at this; exact this
      · have := hc (i * 3 + 2) (.int .i64 l[i].kind) (by rw [flat_get pcCells 3 (fun _ => rfl) l i 2 hi (by omega)]; rfl)
        rw [← Nat.add_assoc] at this; exact this
structure NewSrc (w w' : World) (q : Nat) (l : List Sg.Pc) : Prop where
  src : ∃ la lc, SrcAt w' q la lc 0 ⟨l, 0, 0⟩ ∧ ∀ b o, la = some ⟨b, o, none⟩ → b ≠ q ∧ b < w'.heap.size
  below : Below w.heap.size w w'
  new : w.heap.size ≤ q
  lt : q < w'.heap.size
theorem newSource_any (w : World) (l : List Sg.Pc) (hne : l ≠ []) (hN : l.length < 1000000) (lb lo lc : Nat) (hP : ∀ j u, (l.flatMap pcCells)[j]? = some u → w.cell? ⟨lb, lo + j, none⟩ = some u) :
    Calls Tryz.prog 21 #[.slice (some ⟨lb, lo, none⟩) l.length lc] w fun e w' => ∃ q, e = .returned (.pointer (some ⟨q, 0, none⟩)) ∧ NewSrc w w' q l := by
  obtain ⟨rb, rc, w1, hrun, h1, h2, h3, h4, h5⟩ := pc_append w l hne hN lb lo lc hP 37
  have Hrun := hide2 hrun
  have H := hide2 (And.intro h1 (And.intro h2 (And.intro h3 (And.intro h4 h5))))
  clear hrun h1 h2 h3 h4 h5 hP
  go_enter Tryz.func21, Tryz.ntmps21
  go_wp2_with (at_builtin; refine wpList_append_run rfl _ _ _ _ rfl _ _ _ rfl rfl Hrun.out ?_)
  go_ret
  obtain ⟨h1, h2, h3, h4, h5⟩ := H.out
  have hbl : Below w1.heap.size w1 (w1.alloc (.cells #[.slice (some ⟨rb, 0, none⟩) l.length rc, .int .i64 0, .int .i64 0, .int .i64 0] 75)) := (Below.refl _ _).alloc (Nat.le_refl _) _
  have hs3 := h3.size
  refine ⟨w1.heap.size, rfl, ⟨⟨some ⟨rb, 0, none⟩, rc, ⟨?_, ?_, ?_, ?_, ?_, ?_, h2⟩, fun b o e => by cases e; exact ⟨by omega, by simp; omega⟩⟩, h3.trans (hbl.mono hs3), by omega, by simp⟩⟩
  · rw [World.cell?_alloc_at _ _ _ _ rfl]; rfl
  · rw [World.cell?_alloc_at _ _ _ _ rfl]; rfl
  · rw [World.cell?_alloc_at _ _ _ _ rfl]; rfl
  · rw [World.cell?_alloc_at _ _ _ _ rfl]; rfl
  · intro j; exact World.frozen?_alloc_at _ _ _ _ rfl
  · exact h1.of (fun b o j v e hv => oldCell _ hv)
theorem srcOf_any (q : Nat) (w : World) :
    Calls Tryz.prog 54 #[.iface 41 (.pointer (some ⟨q, 0, none⟩))] w fun en w' => en = .returned (.agg #[.iface 41 (.pointer (some ⟨q, 0, none⟩)), .slice none 0 0]) ∧ Below w.heap.size w w' := by
  go_enter Tryz.func54, Tryz.ntmps54
  go_wp2
  exact bodyPost_ret (v := .agg #[.iface 41 (.pointer (some ⟨q, 0, none⟩)), .slice none 0 0]) (by simp [results, Tryz.results54, go_sem]) rfl ⟨rfl, (Below.refl _ _).alloc (Nat.le_refl _) _⟩
abbrev scnCells (p q cap : Nat) : Array Value := #[.pointer (some ⟨p, 0, none⟩), .iface 41 (.pointer (some ⟨q, 0, none⟩)), .slice none 0 0, .int .i64 cap, .slice none 0 0, .nilIface, .pointer (some ⟨p, 0, none⟩), .int .i64 0, .int .i64 0, .int .i64 (-1), .int .i64 0, .int .i64 0, .int .i64 1, .int .i64 1, .nilIface]
theorem scan_any (tp p q cap : Nat) (w : World) (hp : w.cell? ⟨tp, 0, none⟩ = some (.pointer (some ⟨p, 0, none⟩))) (h4 : 4 ≤ cap) (hN : cap ≤ 100000) :
    Calls Tryz.prog 33 #[.pointer (some ⟨tp, 0, none⟩), .iface 41 (.pointer (some ⟨q, 0, none⟩)), .int .i64 cap] w fun en w' => ∃ w1, en = .returned (.tuple #[.pointer (some ⟨w1.heap.size, 0, none⟩), .nilIface]) ∧ Below w.heap.size w w1 ∧ w' = w1.alloc (.cells (scnCells p q cap) 95) := by
  have htp := cell_lt hp
  have HS : Hid (∀ w', Below w.heap.size w w' → Below w.heap.size w w' ∧ w'.cell? ⟨tp, 0, none⟩ = some (.pointer (some ⟨p, 0, none⟩))) := hide2 fun w' hb => ⟨hb, (hb.cell (p := ⟨tp, 0, none⟩) htp).trans hp⟩
  have HO : Hid (∀ w', Calls Tryz.prog 54 #[.iface 41 (.pointer (some ⟨q, 0, none⟩))] w' fun en w2 => en = .returned (.agg #[.iface 41 (.pointer (some ⟨q, 0, none⟩)), .slice none 0 0]) ∧ (Below w.heap.size w w' → Below w.heap.size w w2)) := hide2 fun w' => (srcOf_any q w').mono (by
    rintro en w2 ⟨h1, h2⟩
    exact ⟨h1, fun hb => hb.trans (h2.mono hb.size)⟩)
  have HF : Hid (∀ w', Calls Tryz.prog 55 #[.pointer (some ⟨p, 0, none⟩)] w' fun en w2 => en = .returned (.agg #[.pointer (some ⟨p, 0, none⟩), .int .i64 0, .int .i64 0, .int .i64 (-1), .int .i64 0]) ∧ (Below w.heap.size w w' → Below w.heap.size w w2)) := hide2 fun w' => (ofW_any p w').mono (by
    rintro en w2 ⟨h1, h2⟩
    exact ⟨h1, fun hb => hb.trans (h2.mono hb.size)⟩)
  go_enter Tryz.func33, Tryz.ntmps33
  go_upto_region 3 with fail
  go_region_held (fun w' => Below w.heap.size w w' ∧ w'.cell? ⟨tp, 0, none⟩ = some (.pointer (some ⟨p, 0, none⟩)))
    ((with_reducible refine HS.out _ ?_; first
      | with_reducible exact (Below.refl _ _).drew
      | with_reducible exact hw3
      | with_reducible exact hw2
      | with_reducible exact hw3.alloc hw3.size _
      | with_reducible exact hw2.alloc hw2.size _))
    ((first
      | (go_at_call 54; refine (HO.out _).mono ?_; rintro e w2 ⟨rfl, hk⟩; have hw2 : Below w.heap.size w w2 := hk (by first | with_reducible exact (Below.refl _ _).drew | with_reducible exact hw3); clear hk)
      | (go_at_call 55; refine (HF.out _).mono ?_; rintro e w3 ⟨rfl, hk⟩; have hw3 : Below w.heap.size w w3 := hk (by first | with_reducible exact (Below.refl _ _).drew | with_reducible exact hw2); clear hk)))
  all_goals go_wp2
  all_goals go_ret2
  all_goals exact ⟨w3, rfl, hw3, rfl⟩
def Sg.live0 (cap : Nat) (l : List Sg.Pc) : Sg.Live := ⟨cap, [], none, Sg.Wk.zero, 0, 1, 1, ⟨l, 0, 0⟩⟩
theorem spot0 (cap : Nat) (l : List Sg.Pc) : SpotOk (Sg.live0 cap l) := by
  unfold SpotOk Sg.live0; dsimp only; omega
theorem spot1 (cap : Nat) (l : List Sg.Pc) : (Sg.live0 cap l).SpotLe 1 := by
  unfold Sg.Live.SpotLe Sg.live0; dsimp only; omega
theorem plainScan_any (m : Sg.Mach) (hm : m.Ok) (tp p q bm cap : Nat) (l : List Sg.Pc) (w : World) (hp : w.cell? ⟨tp, 0, none⟩ = some (.pointer (some ⟨p, 0, none⟩))) (h4 : 4 ≤ cap) (hN : cap ≤ 100000) (hma : MachIn w bm p m) (htb : Tabs w) (hg : 4 ≤ bm) (hbq : bm ≤ q)
    (hsm : Small ⟨l, 0, 0⟩) (hsrc : ∃ la lc, SrcAt w q la lc 0 ⟨l, 0, 0⟩ ∧ ∀ b o, la = some ⟨b, o, none⟩ → b ≠ q ∧ b < w.heap.size) :
    Calls Tryz.prog 22 #[.pointer (some ⟨tp, 0, none⟩), .pointer (some ⟨q, 0, none⟩), .int .i64 cap] w fun en w' => ∃ sq F, en = .returned (.tuple #[.pointer (some ⟨sq, 0, none⟩), .nilIface]) ∧ ScanAt w' sq bm sq m (Sg.live0 cap l) F 1 ∧ (∀ i, F i → i = sq ∨ i = q) ∧ Below w.heap.size w w' ∧ w.heap.size ≤ sq := by
  have HS := hide2 (scan_any tp p q cap w hp h4 hN)
  have Hma := hide2 hma
  have Htb := hide2 htb
  have Hsrc := hide2 hsrc
  clear hma htb hsrc
  go_enter Tryz.func22, Tryz.ntmps22
  go_wp2_with (go_at_call 33; refine HS.out.mono ?_; rintro e w' ⟨w1, rfl, hb1, rfl⟩)
  go_ret2
  obtain ⟨la, lc, hsrc, hy⟩ := Hsrc.out
  have hq : q < w.heap.size := cell_lt hsrc.c0
  have hs1 := hb1.size
  have hb2 : Below w1.heap.size w1 (w1.alloc (.cells (scnCells p q cap) 95)) := (Below.refl _ _).alloc (Nat.le_refl _) _
  have hb : Below w.heap.size w (w1.alloc (.cells (scnCells p q cap) 95)) := hb1.trans (hb2.mono hs1)
  have hcell : ∀ j, (w1.alloc (.cells (scnCells p q cap) 95)).cell? ⟨w1.heap.size, j, none⟩ = (scnCells p q cap)[j]? := fun j => World.cell?_alloc_at _ _ _ _ rfl
  have hfr : ∀ j, (w1.alloc (.cells (scnCells p q cap) 95)).frozen? ⟨w1.heap.size, j, none⟩ = false := fun j => World.frozen?_alloc_at _ _ _ _ rfl
  have hchg : Chg (fun _ _ => False) w (w1.alloc (.cells (scnCells p q cap) 95)) := Chg.of_below hb
  refine ⟨w1.heap.size, _, rfl, ⟨⟨p, q, 0, 0, 0, none, 0, ⟨⟨hcell 0, ⟨hcell 1, .inl ⟨rfl, hcell 2⟩, ⟨la, lc, 0, hsrc.below hb, fun b o e => ⟨(hy b o e).1, by have := (hy b o e).2; omega⟩⟩, by omega, Nat.le_refl _, by simp, hfr, hsm, by omega⟩, hcell 3, hcell 4, hcell 5, ⟨hcell 6, hcell 7, hcell 8, hcell 9, hcell 10, hfr⟩, hcell 11, hcell 12, hcell 13, hcell 14, .inl ⟨rfl, rfl, rfl⟩, (fun rb ro e => by cases e), h4, hN, Nat.zero_le _⟩, Hma.out.chg hm hchg (fun _ _ t => t.elim), hbq, Htb.out.chg hchg hg (fun _ _ t => t.elim), spot0 cap l, Sg.Wk.zero_ok m hm _, hg⟩, rfl⟩, spot1 cap l⟩, fun i t => ?_, hb, hs1⟩
  rcases t with t | t | ⟨t, _⟩ | ⟨o, t⟩
  · exact .inl t
  · exact .inr t
  · omega
  · cases t
end Go.Proofs.YtlhokghgicgppaaGreatDoor
namespace Go.Proofs.YtlhokghgicgppaaGreatDoor
open Go.RowKit Go.Extern.Stop Go.Stop Go.Extern
theorem told_errno (n : Int) (w : World) (hg : w.cell? ⟨0, 0, none⟩ = some (.iface 192 (.agg #[.pointer (some ⟨4, 45, none⟩)]))) :
    Calls Tryz.prog 24 #[.iface 50 (.int .i64 n)] w fun e w' => e = .returned (.tuple #[.int .i64 n, .int .i64 (-1), .int .i64 (-1)]) ∧ Below w.heap.size w w' := by
  have hlt : 0 < w.heap.size := by
    rcases Nat.lt_or_ge 0 w.heap.size with h | h
    · exact h
    · simp [World.cell?, Array.getElem?_eq_none h] at hg
  have hA : (w.alloc (.cells #[.pointer none] 79)).cell? ⟨0, 0, none⟩ = some (.iface 192 (.agg #[.pointer (some ⟨4, 45, none⟩)])) := by
    rw [World.cell?_alloc_lt _ _ ⟨0, 0, none⟩ hlt]; exact hg
  go_enter Tryz.func24, Tryz.ntmps24
  go_wp2_with fail
  refine (as_missE n _ _ hA).mono ?_
  rintro e w1 ⟨rfl, rfl⟩
  go_wp2_with fail
  refine (as_hitE n _ (.int .i64 0) _ ?_ ?_ ?_).mono ?_
  · rw [World.cell?_alloc_lt _ _ ⟨0, 0, none⟩ (by simp <;> omega), World.cell?_alloc_lt _ _ ⟨0, 0, none⟩ (by simp <;> omega), World.cell?_alloc_lt _ _ ⟨0, 0, none⟩ (by simp <;> omega), World.cell?_alloc_lt _ _ ⟨0, 0, none⟩ (by simp <;> omega)]; exact hA
  · rw [World.cell?_alloc_at _ _ _ _ (by simp)]; rfl
  · rw [World.frozen?_alloc_at _ _ _ _ (by simp)]
  rintro e w2 ⟨rfl, rfl⟩
  go_wp2
  go_ret3
  refine ⟨rfl, ?_⟩
  exact (((((((((Below.refl _ _).alloc (Nat.le_refl _) _).alloc (by simp <;> omega) _).alloc (by simp <;> omega) _).alloc (by simp <;> omega) _).alloc (by simp <;> omega) _).alloc (by simp <;> omega) _).alloc (by simp <;> omega) _).alloc (by simp <;> omega) _).alloc (by simp <;> omega) _
end Go.Proofs.YtlhokghgicgppaaGreatDoor
namespace Go.Proofs.YtlhokghgicgppaaGreatDoor
open Go.RowKit Go.Extern
structure TabAt (w : World) (tp p bm : Nat) (m : Sg.Mach) : Prop where
  t : w.cell? ⟨tp, 0, none⟩ = some (.pointer (some ⟨p, 0, none⟩))
  ma : MachIn w bm p m
  tb : Tabs w
  g : 4 ≤ bm
  le : bm ≤ w.heap.size
  tl : tp < bm
  et : w.cell? ⟨0, 0, none⟩ = some (.iface 192 (.agg #[.pointer (some ⟨4, 45, none⟩)]))
theorem TabAt.below {w w' : World} {tp p bm : Nat} {m : Sg.Mach} (hm : m.Ok) (h : TabAt w tp p bm m) {B : Nat} (hB : bm ≤ B) (hb : Below B w w') : TabAt w' tp p bm m := by
  have htp := h.tl
  have hg := h.g
  have hle := h.le
  refine ⟨(hb.cell (p := ⟨tp, 0, none⟩) (by show tp < B; omega)).trans h.t, h.ma.of hm (fun b o v hx hc => (hb.cell (p := ⟨b, o, none⟩) (by show b < B; omega)).trans hc), ⟨fun c hc => (hb.cell (p := ⟨1, c, none⟩) (by show 1 < B; omega)).trans (h.tb.1 c hc), fun i hi => ⟨(hb.cell (p := ⟨2, 2 * i, none⟩) (by show 2 < B; omega)).trans (h.tb.2 i hi).1, (hb.cell (p := ⟨2, 2 * i + 1, none⟩) (by show 2 < B; omega)).trans (h.tb.2 i hi).2⟩⟩, h.g, Nat.le_trans h.le hb.size, h.tl, (hb.cell (p := ⟨0, 0, none⟩) (by show 0 < B; omega)).trans h.et⟩
def Sg.toksOf (m : Sg.Mach) (text : Sg.Bs) : List Sg.Tok := (Sg.allT m 3000 (Sg.live0 5000 [⟨text, 0, 0⟩])).1
theorem Sg.live0_has (cap : Nat) (text : Sg.Bs) : (Sg.live0 cap [⟨text, 0, 0⟩]).Has text :=
  .inl ⟨rfl, fun c hc => by
    simp only [Sg.live0, List.mem_singleton] at hc
    subst hc
    exact ⟨rfl, by show (0 : Int) ≤ 1; decide, .inr (by show (0 : Int) ≤ 0; decide)⟩, by simp [Sg.live0, Sg.Src.bytes]⟩
theorem Sg.toksOf_has (m : Sg.Mach) (text : Sg.Bs) (h : text.length ≤ 2000) : Sg.allT m 3000 (Sg.live0 5000 [⟨text, 0, 0⟩]) = (Sg.toksOf m text, some 13) ∧ (Sg.toksOf m text).flatMap (·.text) = text ∧ (∀ t ∈ Sg.toksOf m text, t.text ≠ []) ∧ (Sg.toksOf m text).length ≤ text.length := by
  obtain ⟨ts, h1, h2, h3, h4⟩ := Sg.allT_has m askN_len 3000 (Sg.live0 5000 [⟨text, 0, 0⟩]) text (Sg.live0_has _ _) (by show text.length < 5000; omega) (by show 4 ≤ 5000; omega) (by omega)
  have e : Sg.toksOf m text = ts := by unfold Sg.toksOf; rw [h1]
  rw [e]
  exact ⟨h1, h2, h3, h4⟩
structure Fresh (w w2 : World) (sq bm : Nat) (m : Sg.Mach) (L : Sg.Live) (F : Nat → Prop) : Prop where
  sc : ScanAt w2 sq bm sq m L F 1
  fp : ∀ i, F i → w.heap.size ≤ i
  below : Below w.heap.size w w2
theorem tokens_any (m : Sg.Mach) (hm : m.Ok) (tp p bm : Nat) (text : Sg.Bs) (ht : text.length ≤ 2000) (w : World) (h : TabAt w tp p bm m) :
    Calls Tryz.prog 18 #[.pointer (some ⟨tp, 0, none⟩), .string ⟨text.toArray⟩] w fun en w' => ∃ ra rc, en = .returned (.tuple #[.slice ra (Sg.toksOf m text).length rc, .bool true]) ∧ RowAt 5 w' ra rc (Sg.toksOf m text).length ((Sg.toksOf m text).flatMap tokCells) ∧ NewRow w ra ∧ Below w.heap.size w w' := by
  have htk := (Sg.toksOf_has m text ht).1
  have hle := h.le
  have hsm : Small ⟨[⟨text, 0, 0⟩], 0, 0⟩ := ⟨by show 0 < 1000000000; omega, by show 0 < 1000000000; omega, fun c hc => by
    simp only [List.mem_singleton] at hc
    subst hc
    exact ⟨by show text.length < _; omega, by show (0 : Int) < _; omega⟩⟩
  have hba : Below w.heap.size w (w.alloc (.cells #[.string ⟨text.toArray⟩, .int .i64 0, .int .i64 0] 40)) := (Below.refl _ _).alloc (Nat.le_refl _) _
  have HN : Hid (Calls Tryz.prog 21 #[.slice (some ⟨w.heap.size, 0, none⟩) 1 1] (w.alloc (.cells #[.string ⟨text.toArray⟩, .int .i64 0, .int .i64 0] 40)) fun e w1 => ∃ q, e = .returned (.pointer (some ⟨q, 0, none⟩)) ∧
      Hid (Calls Tryz.prog 22 #[.pointer (some ⟨tp, 0, none⟩), .pointer (some ⟨q, 0, none⟩), .int .i64 5000] w1 fun en w2 => ∃ sq F, en = .returned (.tuple #[.pointer (some ⟨sq, 0, none⟩), .nilIface]) ∧ Hid (Fresh w w2 sq bm m (Sg.live0 5000 [⟨text, 0, 0⟩]) F))) := by
    show Calls _ _ _ _ _
    refine (newSource_any _ [⟨text, 0, 0⟩] (by simp) (by simp) w.heap.size 0 1 (fun j u hj => ?_)).mono ?_
    · rw [World.cell?_alloc_at _ _ _ _ rfl, Nat.zero_add]
      simpa [pcCells, strV] using hj
    · rintro e w1 ⟨q, rfl, hns⟩
      refine ⟨q, rfl, hide2 ?_⟩
      have hb1 : Below w.heap.size w w1 := hba.trans (hns.below.mono (by simp))
      have h1 := h.below hm hle hb1
      have hq := hns.new
      have hq' : w.heap.size ≤ q := by simp at hq; omega
      refine (plainScan_any m hm tp p q bm 5000 _ w1 h1.t (by omega) (by omega) h1.ma h1.tb h1.g (by omega) hsm hns.src).mono ?_
      rintro en w2 ⟨sq, F, rfl, k1, k2, k3, k4⟩
      have hs1 := hb1.size
      refine ⟨sq, F, rfl, hide2 ⟨k1, fun i t => ?_, hb1.trans (k3.mono hs1)⟩⟩
      rcases k2 i t with e | e
      · omega
      · omega
  have HA : Hid (∀ w2 sq F, Fresh w w2 sq bm m (Sg.live0 5000 [⟨text, 0, 0⟩]) F → Calls Tryz.prog 23 #[.pointer (some ⟨sq, 0, none⟩), .int .i64 3000] w2 fun en w3 => ∃ ra rc, en = .returned (.tuple #[.slice ra (Sg.toksOf m text).length rc, .iface 50 (.int .i64 13)]) ∧
      Hid (RowAt 5 w3 ra rc (Sg.toksOf m text).length ((Sg.toksOf m text).flatMap tokCells) ∧ NewRow w ra ∧ w3.cell? ⟨sq, 14, none⟩ = some (errV (some 13)) ∧ Below w.heap.size w w3)) := hide2 fun w2 sq F hf => by
    refine (all_any m hm sq bm sq _ F 1 w2 hf.sc (by omega) (by omega) 3000 (by omega) (by omega) (Sg.toksOf m text) 13 htk).mono ?_
    rintro en w3 ⟨ra, rc, rfl, k1, k2, k3, k4⟩
    have hs := hf.below.size
    exact ⟨ra, rc, rfl, hide2 ⟨k1, fun b o e => by have := k2 b o e; omega, k3, hf.below.trans (k4.below hs (fun k o hk t => by have := hf.fp k t; omega))⟩⟩
  have HT : Hid (∀ w3, Below w.heap.size w w3 → Calls Tryz.prog 24 #[.iface 50 (.int .i64 13)] w3 fun e w' => e = .returned (.tuple #[.int .i64 13, .int .i64 (-1), .int .i64 (-1)]) ∧ Below w3.heap.size w3 w') := hide2 fun w3 hb => told_errno 13 w3 (h.below hm hle hb).et
  have HD : Hid (∀ sq w, w.cell? ⟨sq, 14, none⟩ = some (errV (some 13)) → Calls Tryz.prog 26 #[.pointer (some ⟨sq, 0, none⟩)] w fun en w' => en = .returned (.tuple #[.agg #[.int .i64 0, .int .i64 0, .int .i64 0, .int .i64 0, .string ⟨#[]⟩], .iface 50 (.int .i64 13)]) ∧ Below w.heap.size w w') := hide2 (fun sq w hw => next_dead sq 13 w hw)
  have H := hide2 h
  clear h htk hsm hba
  go_enter Tryz.func18, Tryz.ntmps18
  go_wp2_with (first
    | (go_at_call 21; refine HN.out.mono ?_; clear HN; rintro e w1 ⟨q, rfl, HS⟩)
    | (go_at_call 22; refine HS.out.mono ?_; clear HS; rintro e w2 ⟨sq, F, rfl, HF⟩)
    | (go_at_call 23; refine (HA.out w2 sq F HF.out).mono ?_; clear HA; rintro e w3 ⟨ra, rc, rfl, H3⟩)
    | (go_at_call 26; refine (HD.out sq w4 (H4.out.2)).mono ?_; clear HD; rintro e w5 ⟨rfl, hb5⟩; have H5 := hide2 (H4.out.1.trans (hb5.mono H4.out.1.size)); have HU := hide2 (HT.out (w5.alloc tokZ) (H5.out.alloc H5.out.size _)); have HB5 := hide2 hb5; clear HT hb5)
    | (go_at_call 24; refine (HT.out w3 H3.out.2.2.2).mono ?_; rintro e w4 ⟨rfl, hb4⟩; have H4 := hide2 (And.intro (H3.out.2.2.2.trans (hb4.mono H3.out.2.2.2.size)) ((hb4.cell (p := ⟨sq, 14, none⟩) (cell_lt H3.out.2.2.1)).trans H3.out.2.2.1)); have HB4 := hide2 hb4; clear hb4)
    | (go_at_call 24; refine HU.out.mono ?_; rintro e w6 ⟨rfl, hb6⟩; have HB6 := hide2 hb6; clear hb6))
  go_ret2
  obtain ⟨k1, k2, k3, k4⟩ := H3.out
  have b4 := HB4.out
  have b5 := HB5.out
  have b6 := HB6.out
  have s4 := b4.size
  have s5 := b5.size
  have hz : (w5.alloc tokZ).heap.size = w5.heap.size + 1 := by simp
  have b56 : Below w5.heap.size w5 w6 := ((Below.refl _ _).alloc (Nat.le_refl _) tokZ).trans (b6.mono (by omega))
  have b36 : Below w3.heap.size w3 w6 := b4.trans ((b5.mono s4).trans (b56.mono (by omega)))
  exact ⟨ra, rc, rfl, k1.below b36, k2, k4.trans (b36.mono k4.size)⟩
end Go.Proofs.YtlhokghgicgppaaGreatDoor
