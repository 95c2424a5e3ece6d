/- Build, Compile. -/
/- The token that stands ahead does not hang on the pieces in which a text comes. -/
/- Rules that Compile takes, by reckoning. -/
/- The tokens of a text, one behind the other. -/
/- The lists of rules that the statements speak of, and their tables. -/
/- scangenkeep.pick, rules. -/
import Derived.Test.YtlhokghgicgppaaGreatDoorStates3
import Derived.Test.YtlhokghgicgppaaGreatDoorKinds2
import Derived.Test.YtlhokghgicgppaaGreatDoorCompA
import Derived.Test.YtlhokghgicgppaaGreatDoorWalk
import Derived.Test.YtlhokghgicgppaaGreatDoorBytePure
import Derived.Test.YtlhokghgicgppaaGreatDoorTokens
set_option linter.unusedSimpArgs false
set_option linter.unusedVariables false
set_option maxRecDepth 100000
set_option maxHeartbeats 4000000
namespace Go.Proofs.YtlhokghgicgppaaGreatDoor
open Go.RowKit Go.Extern Go.Maps
def Sg.machOf (lo : Sg.Lo) (fs : List Nat) (frows : List (List Int)) : Sg.Mach := ⟨(Sg.kindRows lo).1, ((-1 :: fs.map (Sg.ruleT lo)).zip frows)⟩
theorem zip_len {α β : Type} (a : List α) (b : List β) (h : a.length = b.length) : (a.zip b).length = b.length := by rw [List.length_zip, h, Nat.min_self]
theorem zip_at {α β : Type} (a : List α) (b : List β) (i : Nat) (x : α) (y : β) (h1 : a[i]? = some x) (h2 : b[i]? = some y) : (a.zip b)[i]? = some (x, y) := by
  rw [List.getElem?_zip_eq_some]; exact ⟨h1, h2⟩
theorem mach_of_si {w : World} {lo : Sg.Lo} {m K : Nat} {W : World} {sa ba : Option Addr} {sc bc : Nat} {fs : List Nat} {zs : List (Int × Value)} {frows : List (List Int)} (h : SI w lo m K W.heap.size W sa ba sc bc fs zs frows) (hfl : frows.length = fs.length + 1)
    {ca : Option Addr} {cc : Nat} (hc : RowAt 2 W ca cc (Sg.kindRows lo).1.length ((Sg.kindRows lo).1.flatMap ctCells)) (hc0 : 0 < (Sg.kindRows lo).1.length) {p : Nat} (hp0 : W.cell? ⟨p, 0, none⟩ = some (.slice ca (Sg.kindRows lo).1.length cc)) (hp1 : W.cell? ⟨p, 1, none⟩ = some (.slice sa (fs.length + 1) sc)) : MachIn W W.heap.size p (Sg.machOf lo fs frows) := by
  have hsl : (Sg.machOf lo fs frows).states.length = fs.length + 1 := by
    show ((-1 :: fs.map (Sg.ruleT lo)).zip frows).length = _
    rw [zip_len _ _ (by simp [hfl]), hfl]
  have hst : ∀ i, i < fs.length + 1 → ∃ (r : Int) (row : List Int) (nb : Nat), (Sg.machOf lo fs frows).states[i]? = some (r, row) ∧ zs[i]? = some (r, .slice (some ⟨nb, 0, none⟩) K K) ∧ row.length = K ∧ RowAt 1 W (some ⟨nb, 0, none⟩) K K (row.map i64V) ∧ nb < W.heap.size := fun i hi => by
    have hfr : frows[i]? = some frows[i] := List.getElem?_eq_getElem (by omega)
    obtain ⟨nb, d1, d2, d3, d4, d5, _⟩ := h.done i frows[i] hfr
    have hzl := h.len
    obtain ⟨z, hz⟩ : ∃ z, zs[i]? = some z := ⟨_, List.getElem?_eq_getElem (by omega)⟩
    rw [hz] at d1
    have hz2 : z.2 = .slice (some ⟨nb, 0, none⟩) K K := by simpa using d1
    have hz1 : (-1 :: fs.map (Sg.ruleT lo))[i]? = some z.1 := by rw [← h.zl, List.getElem?_map, hz]; rfl
    refine ⟨z.1, frows[i], nb, zip_at _ _ _ _ _ hz1 hfr, ?_, by have := d2.len; rw [List.length_map] at this; omega, d2, d5⟩
    rw [hz, ← hz2]
  have hch : ∀ i : Nat, ∃ nb : Nat, i < fs.length + 1 → ∃ (r : Int) (row : List Int), (Sg.machOf lo fs frows).states[i]? = some (r, row) ∧ zs[i]? = some (r, .slice (some ⟨nb, 0, none⟩) K K) ∧ row.length = K ∧ RowAt 1 W (some ⟨nb, 0, none⟩) K K (row.map i64V) ∧ nb < W.heap.size := fun i => by
    by_cases hi : i < fs.length + 1
    · obtain ⟨r, row, nb, g⟩ := hst i hi
      exact ⟨nb, fun _ => ⟨r, row, g⟩⟩
    · exact ⟨0, fun h => absurd h hi⟩
  obtain ⟨nbf, hnb⟩ := Classical.axiomOfChoice hch
  obtain ⟨cb, co, rfl, _, hcc, _, hcl, _⟩ : ∃ cb co, ca = some ⟨cb, co, none⟩ ∧ (Sg.kindRows lo).1.length ≤ cc ∧ (∀ j v, ((Sg.kindRows lo).1.flatMap ctCells)[j]? = some v → W.cell? ⟨cb, co + j, none⟩ = some v) ∧ (∀ j, j < cc * 2 → (W.cell? ⟨cb, co + j, none⟩).isSome = true) ∧ cb < W.heap.size ∧ ∀ j, W.frozen? ⟨cb, j, none⟩ = false := by
    rcases hc.row with ⟨_, _, e⟩ | g
    · omega
    · exact g
  obtain ⟨sb, so, rfl, _, hss, _, hsb, _⟩ : ∃ sb so, sa = some ⟨sb, so, none⟩ ∧ fs.length + 1 ≤ sc ∧ (∀ j v, (zs.flatMap stCells)[j]? = some v → W.cell? ⟨sb, so + j, none⟩ = some v) ∧ (∀ j, j < sc * 2 → (W.cell? ⟨sb, so + j, none⟩).isSome = true) ∧ sb < W.heap.size ∧ ∀ j, W.frozen? ⟨sb, j, none⟩ = false := by
    rcases h.rs.row with ⟨_, _, e⟩ | g
    · omega
    · exact g
  have hzl := h.len
  have hcutle := hc.le
  refine ⟨cb, co, cc, sb, so, sc, nbf, fun _ => 0, fun _ => K, ⟨hp0, by rw [hsl]; exact hp1, fun i hi => ?_, fun i hi => ?_, fun i hi => ?_, fun i hi => ?_, fun i k hi hk => ?_⟩, cell_lt hp0, hcl, hsb, fun i hi => ?_, hcutle⟩
  · have hi' : i < (Sg.kindRows lo).1.length := hi
    have e : Sg.lowAt (Sg.kindRows lo).1 i = (Sg.kindRows lo).1[i].1 := by unfold Sg.lowAt; rw [List.getD_eq_getElem?_getD, List.getElem?_eq_getElem hi']; rfl
    have := hcc (i * 2 + 0) (.int .i32 (Sg.kindRows lo).1[i].1) (by rw [flat_at ctCells 2 (fun _ => rfl) _ i 0 hi' (by omega)]; rfl)
    show W.cell? _ = some (.int .i32 (Sg.lowAt (Sg.kindRows lo).1 i))
    rw [e]; exact this
  · have hi' : i < (Sg.kindRows lo).1.length := hi
    have e : Sg.kindAt (Sg.kindRows lo).1 i = (Sg.kindRows lo).1[i].2 := by unfold Sg.kindAt; rw [List.getD_eq_getElem?_getD, List.getElem?_eq_getElem hi']; rfl
    have := hcc (i * 2 + 1) (.int .i64 (Sg.kindRows lo).1[i].2) (by rw [flat_at ctCells 2 (fun _ => rfl) _ i 1 hi' (by omega)]; rfl)
    show W.cell? _ = some (.int .i64 (Sg.kindAt (Sg.kindRows lo).1 i))
    rw [e]; exact this
  · rw [hsl] at hi
    obtain ⟨r, row, g1, g2, g3, g4, g5⟩ := hnb i hi
    have hil : i < zs.length := by omega
    have e : (Sg.machOf lo fs frows).rule i = r := by unfold Sg.Mach.rule; rw [List.getD_eq_getElem?_getD, g1]; rfl
    rw [List.getElem?_eq_getElem hil] at g2
    have := hss (i * 2 + 0) (.int .i64 r) (by rw [flat_at stCells 2 (fun _ => rfl) _ i 0 hil (by omega), Option.some.inj g2]; rfl)
    rw [e]; exact this
  · rw [hsl] at hi
    obtain ⟨r, row, g1, g2, g3, g4, g5⟩ := hnb i hi
    have hil : i < zs.length := by omega
    have e : (Sg.machOf lo fs frows).width i = K := by unfold Sg.Mach.width; rw [List.getD_eq_getElem?_getD, g1]; exact g3
    rw [List.getElem?_eq_getElem hil] at g2
    have := hss (i * 2 + 1) (.slice (some ⟨nbf i, 0, none⟩) K K) (by rw [flat_at stCells 2 (fun _ => rfl) _ i 1 hil (by omega), Option.some.inj g2]; rfl)
    rw [e, Nat.add_assoc]; exact this
  · rw [hsl] at hi
    obtain ⟨r, row, g1, g2, g3, g4, g5⟩ := hnb i hi
    have e : (Sg.machOf lo fs frows).width i = row.length := by unfold Sg.Mach.width; rw [List.getD_eq_getElem?_getD, g1]; rfl
    rw [e] at hk
    have e2 : (Sg.machOf lo fs frows).next i k = row[k] := by
      unfold Sg.Mach.next
      rw [List.getD_eq_getElem?_getD (l := (Sg.machOf lo fs frows).states), g1]
      show row.getD k 0 = _
      rw [List.getD_eq_getElem?_getD, List.getElem?_eq_getElem hk]; rfl
    obtain ⟨rb, ro, e3, hcell⟩ := row_cell g4 (j := k) (v := i64V row[k]) (by rw [List.getElem?_map, List.getElem?_eq_getElem hk]; rfl)
    cases e3
    rw [e2]; exact hcell
  · rw [hsl] at hi
    obtain ⟨r, row, g1, g2, g3, g4, g5⟩ := hnb i hi
    exact g5
theorem build_any (hLows : LowsAny) (w : World) (ra : Option Addr) (rc : Nat) (ts : List Sg.Node) (vs : List Value) (hR : RowAt 1 w ra rc ts.length vs) (hN : NodesAt (fun b => b < w.heap.size) w 100 vs ts) (hnl : ts.length ≤ 8) (h64 : ts.foldl (fun n x => n + Sg.placesN 100 x) 0 ≤ 64) (hao : ∀ x ∈ ts, Sg.altOk 100 x = true)
    (lo : Sg.Lo) (hlo : Sg.layAll ts = lo) (hrg : rgOk lo = true) (hl8 : lo.last.length ≤ 8) (hkl : (Sg.kindRows lo).2.length < 1000000) (hc0 : 0 < (Sg.kindRows lo).1.length) (fs : List Nat) (frows : List (List Int)) (hgo : Sg.rowsGo lo (Sg.kindRows lo).2 202 0 [] [] = some (fs, frows)) :
    Calls Tryz.prog 44 #[.slice ra ts.length rc] w fun e w' => ∃ p, e = .returned (.tuple #[.pointer (some ⟨p, 0, none⟩), .nilIface]) ∧ MachIn w' w'.heap.size p (Sg.machOf lo fs frows) ∧ Below w.heap.size w w' := by
  have hlay := layOut_any w ra rc ts vs hR hnl hN h64 hao
  rw [hlo] at hlay
  have HL := hide2 hlay
  have HK : Hid (∀ W B p, LoAt B W p lo → Calls Tryz.prog 73 #[.pointer (some ⟨p, 0, none⟩)] W fun e w' => ∃ ca cc ka kc, e = .returned (.tuple #[.slice ca (Sg.kindRows lo).1.length cc, .slice ka (Sg.kindRows lo).2.length kc]) ∧ Hid (RowAt 2 w' ca cc (Sg.kindRows lo).1.length ((Sg.kindRows lo).1.flatMap ctCells) ∧ RowAt 2 w' ka kc (Sg.kindRows lo).2.length ((Sg.kindRows lo).2.flatMap psCells) ∧ Below W.heap.size W w' ∧ (∀ x ∈ (Sg.kindRows lo).2, x < 18446744073709551616))) := hide2 fun W B p h => (kinds_any hLows B p W lo h hrg).mono (by
    rintro e w' ⟨ca, cc, ka, kc, h1, h2, h3, h4, h5, _⟩
    exact ⟨ca, cc, ka, kc, h1, hide2 ⟨h2, h3, h4, h5⟩⟩)
  have HS : Hid (∀ W B p ka kc, LoAt B W p lo → RowAt 2 W ka kc (Sg.kindRows lo).2.length ((Sg.kindRows lo).2.flatMap psCells) → (∀ x ∈ (Sg.kindRows lo).2, x < 18446744073709551616) → Calls Tryz.prog 74 #[.pointer (some ⟨p, 0, none⟩), .slice ka (Sg.kindRows lo).2.length kc] W fun e w' => ∃ sa sc, e = .returned (.tuple #[.slice sa (fs.length + 1) sc, .nilIface]) ∧ Hid (frows.length = fs.length + 1 ∧ ∃ ba bc zs m, SI W lo m (Sg.kindRows lo).2.length w'.heap.size w' sa ba sc bc fs zs frows)) := hide2 fun W B p ka kc h hk hx => (states_any B p W lo h hl8 ka kc _ hk hkl hx fs frows hgo).mono (by
    rintro e w' ⟨sa, sc, h1, h2, h3⟩
    exact ⟨sa, sc, h1, hide2 ⟨h2, h3⟩⟩)
  have HC := hide2 hc0
  clear hLows hR hN h64 hao hlo hrg hl8 hkl hc0 hgo hlay
  generalize hcn : (Sg.kindRows lo).1.length = cn at *
  generalize hkn : (Sg.kindRows lo).2.length = kn at *
  go_enter Tryz.func44, Tryz.ntmps44
  go_wp2_with (first
    | (go_at_call 72; refine HL.out.mono ?_; clear HL; rintro e w1 ⟨rfl, hl1, hb1⟩; have HL1 := hide2 (And.intro hl1 hb1); have HK1 := hide2 (HK.out w1 _ _ hl1); clear hl1 hb1 HK)
    | (go_at_call 73; refine HK1.out.mono ?_; clear HK1; rintro e w2 ⟨ca, cc, ka, kc, rfl, H2⟩; have HS2 := hide2 (HS.out w2 _ _ ka kc (HL1.out.1.below H2.out.2.2.1) H2.out.2.1 H2.out.2.2.2); clear HS)
    | (go_at_call 74; refine HS2.out.mono ?_; clear HS2; rintro e w3 ⟨sa, sc, rfl, H3⟩))
  go_ret2
  obtain ⟨k1, k2, k3, k4⟩ := H2.out
  obtain ⟨f1, ba, bc, zs, m, hS⟩ := H3.out
  obtain ⟨l1, l2⟩ := HL1.out
  have hb3 : Below w2.heap.size w2 w3 := hS.bel
  have hbx := blw1' w3 (.cells #[.slice ca cn cc, .slice sa (fs.length + 1) sc] 151)
  have hS' := hS.below hbx
  have hsz : (w3.alloc (.cells #[.slice ca cn cc, .slice sa (fs.length + 1) sc] 151)).heap.size = w3.heap.size + 1 := by simp
  have hcr := (k1.below hb3).below hbx
  subst hcn hkn
  refine ⟨w3.heap.size, rfl, mach_of_si (hS'.up (by omega)) f1 hcr HC.out (cell_of' (heap_alloc_new w3 _) 0) (cell_of' (heap_alloc_new w3 _) 1), ?_⟩
  exact ((l2.trans (k3.mono l2.size)).trans (hb3.mono (Nat.le_trans l2.size k3.size))).alloc (Nat.le_trans l2.size (Nat.le_trans k3.size hb3.size)) _
structure CompOk (rules : List Sg.Bs) (m : Sg.Mach) : Prop where
  n1 : 1 ≤ rules.length
  n8 : rules.length ≤ 8
  sz : ∀ s ∈ rules, s.length ≤ 60
  cl : ∀ s ∈ rules, cleanR s = true
  made : ∃ ts fs frows, Sg.readAllT rules 0 0 [] = .ok ts ∧ (∀ x ∈ ts, Sg.altOk 100 x = true) ∧ rgOk (Sg.layAll ts) = true ∧ (Sg.layAll ts).last.length ≤ 8 ∧ (Sg.kindRows (Sg.layAll ts)).2.length < 1000000 ∧ 0 < (Sg.kindRows (Sg.layAll ts)).1.length ∧ Sg.rowsGo (Sg.layAll ts) (Sg.kindRows (Sg.layAll ts)).2 202 0 [] [] = some (fs, frows) ∧ m = Sg.machOf (Sg.layAll ts) fs frows
  ok : m.Ok
theorem compile_any (hLows : LowsAny) (w : World) (ra : Option Addr) (rc : Nat) (rules : List Sg.Bs) (hR : RowAt 1 w ra rc rules.length (rules.map rlV)) (m : Sg.Mach) (h : CompOk rules m) :
    Calls Tryz.prog 29 #[.slice ra rules.length rc] w fun e w' => ∃ tp, e = .returned (.tuple #[.pointer (some ⟨tp, 0, none⟩), .nilIface]) ∧ Hid (w.heap.size ≤ tp ∧ Below w.heap.size w w' ∧ ∃ p, w'.cell? ⟨tp, 0, none⟩ = some (.pointer (some ⟨p, 0, none⟩)) ∧ MachIn w' w'.heap.size p m) := by
  obtain ⟨n1, n8, sz, cl, ⟨ts, fs, frows, hts, hao, hrg, hl8, hkl, hc0, hgo, rfl⟩, hok⟩ := h
  have HS := hide2 (checkSizes_any w ra rc rules hR n1 n8 sz)
  have HA : Hid (∀ W, Below w.heap.size w W → Calls Tryz.prog 43 #[.slice ra rules.length rc] W fun e w' => ∃ ia ic vs, e = .returned (.tuple #[.slice ia ts.length ic, .nilIface]) ∧ Hid (RowAt 1 w' ia ic ts.length vs ∧ NodesAt (fun b => b < w'.heap.size) w' 100 vs ts ∧ ts.length ≤ 8 ∧ ts.foldl (fun n x => n + Sg.placesN 100 x) 0 ≤ 64 ∧ Below w.heap.size w w')) := hide2 fun W hb => (readAll_any W ra rc rules (hR.below hb) n8 sz cl ts hts).mono (by
    rintro e w' ⟨ia, ic, vs, h1, h2, h3, h4, h5, h6⟩
    exact ⟨ia, ic, vs, h1, hide2 ⟨h2, h3, h4, h5, hb.trans (h6.mono hb.size)⟩⟩)
  have HB : Hid (∀ W ia ic vs, RowAt 1 W ia ic ts.length vs → NodesAt (fun b => b < W.heap.size) W 100 vs ts → ts.length ≤ 8 → ts.foldl (fun n x => n + Sg.placesN 100 x) 0 ≤ 64 → Calls Tryz.prog 44 #[.slice ia ts.length ic] W fun e w' => ∃ p, e = .returned (.tuple #[.pointer (some ⟨p, 0, none⟩), .nilIface]) ∧ Hid (MachIn w' w'.heap.size p (Sg.machOf (Sg.layAll ts) fs frows) ∧ Below W.heap.size W w')) := hide2 fun W ia ic vs h1 h2 h3 h4 => (build_any hLows W ia ic ts vs h1 h2 h3 h4 hao _ rfl hrg hl8 hkl hc0 fs frows hgo).mono (by
    rintro e w' ⟨p, g1, g2, g3⟩
    exact ⟨p, g1, hide2 ⟨g2, g3⟩⟩)
  have HOk := hide2 hok
  clear hLows hR n1 n8 sz cl hts hao hrg hl8 hkl hc0 hgo hok
  generalize Sg.machOf (Sg.layAll ts) fs frows = m at *
  go_enter Tryz.func29, Tryz.ntmps29
  go_wp2_with (first
    | (go_at_call 42; refine HS.out.mono ?_; clear HS; rintro e w1 ⟨rfl, hb1⟩; have HA1 := hide2 (HA.out w1 hb1); clear HA hb1)
    | (go_at_call 43; refine HA1.out.mono ?_; clear HA1; rintro e w2 ⟨ia, ic, vs, rfl, H2⟩; have HB2 := hide2 (HB.out w2 ia ic vs H2.out.1 H2.out.2.1 H2.out.2.2.1 H2.out.2.2.2.1); clear HB)
    | (go_at_call 44; refine HB2.out.mono ?_; clear HB2; rintro e w3 ⟨p, rfl, H3⟩))
  go_ret2
  obtain ⟨k1, k2⟩ := H3.out
  have hb2 := H2.out.2.2.2.2
  have hb3 := hb2.trans (k2.mono hb2.size)
  have hbx := blw1' w3 (.cells #[.pointer (some ⟨p, 0, none⟩)] 100)
  refine ⟨w3.heap.size, rfl, hide2 ⟨hb3.size, hb3.alloc hb3.size _, p, cell_of' (heap_alloc_new w3 _) 0, ?_⟩⟩
  have hM : MachIn (w3.alloc (.cells #[.pointer (some ⟨p, 0, none⟩)] 100)) w3.heap.size p m := k1.of HOk.out (fun b o v hb hc => below_keep hbx hc)
  obtain ⟨cb, co, cc, sb, so, sc, nb, no, nc, M, g1, g2, g3, g4, g5⟩ := hM
  have hsz := hbx.size
  exact ⟨cb, co, cc, sb, so, sc, nb, no, nc, M, by omega, by omega, by omega, fun i hi => by have := g4 i hi; omega, g5⟩
end Go.Proofs.YtlhokghgicgppaaGreatDoor
namespace Go.Proofs.YtlhokghgicgppaaGreatDoor.Sg
open Go
theorem low_at {cuts : List (Int × Int)} {i : Nat} (h : i < cuts.length) : lowAt cuts i = cuts[i].1 := by
  unfold lowAt; rw [List.getD_eq_getElem?_getD, List.getElem?_eq_getElem h]; rfl
theorem kind_at {cuts : List (Int × Int)} {i : Nat} (h : i < cuts.length) : kindAt cuts i = cuts[i].2 := by
  unfold kindAt; rw [List.getD_eq_getElem?_getD, List.getElem?_eq_getElem h]; rfl
abbrev Pos := Int × Int × Int
def Live.pos (L : Live) : Pos := (L.at_, L.line, L.col)
end Go.Proofs.YtlhokghgicgppaaGreatDoor.Sg
namespace Go.Proofs.YtlhokghgicgppaaGreatDoor
open Go.RowKit Go.Extern
def Sg.okB (m : Sg.Mach) : Bool :=
  decide (0 < m.cuts.length) && decide (m.cuts.length < 1000000000) && decide (0 < m.states.length) && decide (m.states.length < 1000000000) &&
  m.cuts.all (fun c => decide (0 ≤ c.2)) &&
  m.states.all (fun s => decide (s.2.length < 1000000000) && m.cuts.all (fun c => decide (c.2 < (s.2.length : Int))) && s.2.all (fun n => decide (n = -1) || (decide (0 ≤ n) && decide (n < (m.states.length : Int)))))
theorem Sg.state_at {m : Sg.Mach} {s : Nat} (h : s < m.states.length) : m.states.getD s (0, []) = m.states[s] := by rw [List.getD_eq_getElem?_getD, List.getElem?_eq_getElem h]; rfl
theorem Sg.okM_of {m : Sg.Mach} (h : Sg.okB m = true) : m.Ok := by
  unfold Sg.okB at h
  simp only [Bool.and_eq_true, decide_eq_true_eq, List.all_eq_true, Bool.or_eq_true] at h
  obtain ⟨⟨⟨⟨⟨h1, h2⟩, h3⟩, h4⟩, h5⟩, h6⟩ := h
  refine ⟨h1, h2, fun i hi => ?_, fun i hi s hs => ?_, fun s hs k hk => ?_, h3, h4, fun s hs => ?_⟩
  · rw [Sg.kind_at hi]; exact h5 _ (List.getElem_mem _)
  · rw [Sg.kind_at hi]
    unfold Sg.Mach.width
    rw [Sg.state_at hs]
    exact (h6 _ (List.getElem_mem _)).1.2 _ (List.getElem_mem _)
  · unfold Sg.Mach.width at hk
    rw [Sg.state_at hs] at hk
    unfold Sg.Mach.next
    rw [Sg.state_at hs, List.getD_eq_getElem?_getD, List.getElem?_eq_getElem hk]
    exact (h6 _ (List.getElem_mem _)).2 _ (List.getElem_mem _)
  · unfold Sg.Mach.width
    rw [Sg.state_at hs]
    exact (h6 _ (List.getElem_mem _)).1.1
def compB (rules : List Sg.Bs) : Option Sg.Mach :=
  if decide (1 ≤ rules.length) && decide (rules.length ≤ 8) && rules.all (fun s => decide (s.length ≤ 60) && cleanR s) then
    match Sg.readAllT rules 0 0 [] with
    | .error _ => none
    | .ok ts =>
      let lo := Sg.layAll ts
      let k := Sg.kindRows lo
      if ts.all (Sg.altOk 100) && rgOk lo && decide (lo.last.length ≤ 8) && decide (k.2.length < 1000000) && decide (0 < k.1.length) then
        match Sg.rowsGo lo k.2 202 0 [] [] with
        | none => none
        | some q => if Sg.okB (Sg.machOf lo q.1 q.2) then some (Sg.machOf lo q.1 q.2) else none
      else none
  else none
theorem comp_of {rules : List Sg.Bs} {m : Sg.Mach} (h : compB rules = some m) : CompOk rules m := by
  unfold compB at h
  split at h
  · rename_i h1
    split at h
    · cases h
    · rename_i ts hts
      dsimp only at h
      split at h
      · rename_i h2
        split at h
        · cases h
        · rename_i q hq
          split at h
          · rename_i hok
            cases h
            simp only [Bool.and_eq_true, decide_eq_true_eq, List.all_eq_true] at h1 h2
            exact ⟨h1.1.1, h1.1.2, fun s hs => (h1.2 s hs).1, fun s hs => (h1.2 s hs).2, ⟨ts, q.1, q.2, hts, h2.1.1.1.1, h2.1.1.1.2, h2.1.1.2, h2.1.2, h2.2, hq, rfl⟩, Sg.okM_of hok⟩
          · cases h
      · cases h
  · cases h
end Go.Proofs.YtlhokghgicgppaaGreatDoor
namespace Go.Proofs.YtlhokghgicgppaaGreatDoor.Sg
open Go
end Go.Proofs.YtlhokghgicgppaaGreatDoor.Sg
namespace Go.Proofs.YtlhokghgicgppaaGreatDoor
open Go.RowKit Go.Extern
def rulesL : Nat → List Sg.Bs
  | 0 => [[91, 97, 45, 122, 93, 43], [91, 48, 45, 57, 93, 43], [32, 43]]
  | 1 => [[97], [97, 98], [97, 98, 99, 42, 100]]
  | 2 => [[91, 94, 92, 117, 123, 48, 125, 45, 92, 117, 123, 55, 102, 125, 93, 43], [46], [92, 110]]
  | 3 => [[47, 92, 42, 40, 91, 94, 42, 93, 124, 92, 42, 43, 91, 94, 42, 47, 93, 41, 42, 92, 42, 43, 47], [47], [91, 97, 98, 42, 93]]
  | 4 => [[40, 97, 98, 41, 123, 50, 44, 51, 125], [195, 169, 123, 50, 125], [120, 63, 121]]
  | 5 => [[92, 117, 123, 49, 70, 54, 48, 48, 125, 43, 124, 92, 117, 123, 50, 48, 65, 67, 125], [97, 92, 117, 123, 49, 70, 54, 48, 48, 125, 98]]
  | 6 => [[97, 123, 48, 44, 56, 125, 98], [97]]
  | _ => [[105, 102, 124, 101, 108, 115, 101], [91, 97, 45, 122, 93, 91, 97, 45, 122, 48, 45, 57, 93, 42], [91, 48, 45, 57, 93, 43, 40, 92, 46, 91, 48, 45, 57, 93, 43, 41, 63], [92, 110, 124, 92, 116, 124, 32]]
def machAB : Sg.Mach := ⟨[(0, 0), (97, 1), (98, 2), (99, 0)], [(-1, [-1, 1, 2]), (0, [-1, -1, -1]), (1, [-1, -1, -1])]⟩
def machL : Nat → Sg.Mach
  | 0 => ⟨[(0, 0), (32, 1), (33, 0), (48, 2), (58, 0), (97, 3), (123, 0)], [(-1, [-1, 1, 2, 3]), (2, [-1, 1, -1, -1]), (1, [-1, -1, 2, -1]), (0, [-1, -1, -1, 3])]⟩
  | 1 => ⟨[(0, 0), (97, 1), (98, 2), (99, 3), (100, 4), (101, 0)], [(-1, [-1, 1, -1, -1, -1]), (0, [-1, -1, 2, -1, -1]), (1, [-1, -1, -1, 3, 4]), (-1, [-1, -1, -1, 3, 4]), (2, [-1, -1, -1, -1, -1])]⟩
  | 2 => ⟨[(0, 0), (10, 1), (11, 0), (128, 2), (55296, 3), (57344, 2), (1114112, 3)], [(-1, [1, 2, 3, -1]), (1, [-1, -1, -1, -1]), (2, [-1, -1, -1, -1]), (0, [-1, -1, 4, -1]), (0, [-1, -1, 4, -1])]⟩
  | 3 => ⟨[(0, 0), (42, 1), (43, 0), (47, 2), (48, 0), (97, 3), (99, 0), (55296, 4), (57344, 0), (1114112, 4)], [(-1, [-1, 1, 2, 1, -1]), (2, [-1, -1, -1, -1, -1]), (1, [-1, 3, -1, -1, -1]), (-1, [4, 5, 4, 4, -1]), (-1, [4, 5, 4, 4, -1]), (-1, [6, 5, 7, 6, -1]), (-1, [4, 5, 4, 4, -1]), (0, [-1, -1, -1, -1, -1])]⟩
  | 4 => ⟨[(0, 0), (97, 1), (98, 2), (99, 0), (120, 3), (121, 4), (122, 0), (233, 5), (234, 0)], [(-1, [-1, 1, -1, 2, 3, 4]), (-1, [-1, -1, 5, -1, -1, -1]), (-1, [-1, -1, -1, -1, 3, -1]), (2, [-1, -1, -1, -1, -1, -1]), (-1, [-1, -1, -1, -1, -1, 6]), (-1, [-1, 7, -1, -1, -1, -1]), (1, [-1, -1, -1, -1, -1, -1]), (-1, [-1, -1, 8, -1, -1, -1]), (0, [-1, 9, -1, -1, -1, -1]), (-1, [-1, -1, 10, -1, -1, -1]), (0, [-1, -1, -1, -1, -1, -1])]⟩
  | 5 => ⟨[(0, 0), (97, 1), (98, 2), (99, 0), (8364, 3), (8365, 0), (128512, 4), (128513, 0)], [(-1, [-1, 1, -1, 2, 3]), (-1, [-1, -1, -1, -1, 4]), (0, [-1, -1, -1, -1, -1]), (0, [-1, -1, -1, -1, 3]), (-1, [-1, -1, 5, -1, -1]), (1, [-1, -1, -1, -1, -1])]⟩
  | 6 => ⟨[(0, 0), (97, 1), (98, 2), (99, 0)], [(-1, [-1, 1, 2]), (1, [-1, 3, 2]), (0, [-1, -1, -1]), (-1, [-1, 4, 2]), (-1, [-1, 5, 2]), (-1, [-1, 6, 2]), (-1, [-1, 7, 2]), (-1, [-1, 8, 2]), (-1, [-1, 9, 2]), (-1, [-1, -1, 2])]⟩
  | _ => ⟨[(0, 0), (9, 1), (10, 2), (11, 0), (32, 3), (33, 0), (46, 4), (47, 0), (48, 5), (58, 0), (97, 6), (101, 7), (102, 8), (103, 6), (105, 9), (106, 6), (108, 10), (109, 6), (115, 11), (116, 6), (123, 0)], [(-1, [-1, 1, 2, 3, -1, 4, 5, 6, 5, 7, 5, 5]), (3, [-1, -1, -1, -1, -1, -1, -1, -1, -1, -1, -1, -1]), (3, [-1, -1, -1, -1, -1, -1, -1, -1, -1, -1, -1, -1]), (3, [-1, -1, -1, -1, -1, -1, -1, -1, -1, -1, -1, -1]), (2, [-1, -1, -1, -1, 8, 4, -1, -1, -1, -1, -1, -1]), (1, [-1, -1, -1, -1, -1, 9, 9, 9, 9, 9, 9, 9]), (1, [-1, -1, -1, -1, -1, 9, 9, 9, 9, 9, 10, 9]), (1, [-1, -1, -1, -1, -1, 9, 9, 9, 11, 9, 9, 9]), (-1, [-1, -1, -1, -1, -1, 12, -1, -1, -1, -1, -1, -1]), (1, [-1, -1, -1, -1, -1, 9, 9, 9, 9, 9, 9, 9]), (1, [-1, -1, -1, -1, -1, 9, 9, 9, 9, 9, 9, 13]), (0, [-1, -1, -1, -1, -1, 9, 9, 9, 9, 9, 9, 9]), (2, [-1, -1, -1, -1, -1, 12, -1, -1, -1, -1, -1, -1]), (1, [-1, -1, -1, -1, -1, 9, 9, 14, 9, 9, 9, 9]), (0, [-1, -1, -1, -1, -1, 9, 9, 9, 9, 9, 9, 9])]⟩
theorem comp_ab : compB [[97], [98]] = some machAB := by kernel_rfl
theorem comp_l : ∀ c, c < 8 → compB (rulesL c) = some (machL c)
  | 0, _ => by kernel_rfl
  | 1, _ => by kernel_rfl
  | 2, _ => by kernel_rfl
  | 3, _ => by kernel_rfl
  | 4, _ => by kernel_rfl
  | 5, _ => by kernel_rfl
  | 6, _ => by kernel_rfl
  | 7, _ => by kernel_rfl
  | _ + 8, h => by omega
end Go.Proofs.YtlhokghgicgppaaGreatDoor
namespace Go.Proofs.YtlhokghgicgppaaGreatDoor
open Go.RowKit Go.Extern
def pickT (c n : Int) : Int := (if c < 0 then -(c + 1) else c) % n
def InI64 (c : Int) : Prop := -9223372036854775808 ≤ c ∧ c ≤ 9223372036854775807
theorem pickT_range (c n : Int) (hn : 0 < n) : 0 ≤ pickT c n ∧ pickT c n < n := ⟨Int.emod_nonneg _ (by omega), Int.emod_lt_of_pos _ hn⟩
theorem pick_any (c n : Int) (hc : InI64 c) (hn : 0 < n) (hn2 : n ≤ 9223372036854775807) (w : World) :
    Calls Tryz.prog 20 #[.int .i64 c, .int .i64 n] w fun e w' => e = .returned (.int .i64 (pickT c n)) ∧ w' = w := by
  obtain ⟨h1, h2⟩ := hc
  have hn0 : ¬ n = 0 := by omega
  by_cases hc0 : c < 0
  · have hw1 : wrap64 (c + 1) = c + 1 := by unfold wrap64; omega
    have hw2 : wrap64 (-(c + 1)) = -(c + 1) := by unfold wrap64; omega
    go_enter Tryz.func20, Tryz.ntmps20
    go_wp2
    go_ret
    refine ⟨?_, rfl⟩
    have e : -(c + 1).tmod n = pickT c n := by unfold pickT; rw [if_pos hc0, ← Int.neg_tmod, Int.tmod_eq_emod_of_nonneg (by omega)]
    rw [← e]; rfl
  · go_enter Tryz.func20, Tryz.ntmps20
    go_wp2
    go_ret
    refine ⟨?_, rfl⟩
    have e : c % n = pickT c n := by unfold pickT; rw [if_neg (by omega)]
    rw [← e]; rfl
theorem row_lit (w : World) (l : List Value) (t : TypeId) : RowAt 1 (w.alloc (.cells l.toArray t)) (some ⟨w.heap.size, 0, none⟩) l.length l.length l := by
  refine ⟨by omega, .inr ⟨w.heap.size, 0, rfl, Nat.le_refl _, fun j v hj => ?_, fun j hj => ?_, by simp, fun j => World.frozen?_alloc_at _ _ _ _ rfl⟩⟩
  · rw [World.cell?_alloc_at _ _ _ _ rfl, Nat.zero_add, ← hj]; simp
  · rw [World.cell?_alloc_at _ _ _ _ rfl, Nat.zero_add]
    have : j < l.length := by omega
    simp [this]
theorem rules_any (c : Int) (hc : InI64 c) (k : Nat) (hk : pickT c 8 = k) (w : World) :
    Calls Tryz.prog 19 #[.int .i64 c] w fun e w' => ∃ ra rc, e = .returned (.slice ra (rulesL k).length rc) ∧ RowAt 1 w' ra rc (rulesL k).length ((rulesL k).map rlV) ∧ Below w.heap.size w w' := by
  have hk8 : k < 8 := by have := pickT_range c 8 (by omega); omega
  have HP := hide2 (fun W => pick_any c 8 hc (by omega) (by omega) W)
  rw [hk] at HP
  clear hk
  match k, hk8 with
  | 0, _ =>
    go_enter Tryz.func19, Tryz.ntmps19
    go_wp2_with (go_at_call 20; refine (HP.out _).mono ?_; rintro e w1 ⟨rfl, rfl⟩)
    go_ret
    exact ⟨_, _, rfl, row_lit w1 ((rulesL 0).map rlV) 9, blw1' w1 _⟩
  | 1, _ =>
    go_enter Tryz.func19, Tryz.ntmps19
    go_wp2_with (go_at_call 20; refine (HP.out _).mono ?_; rintro e w1 ⟨rfl, rfl⟩)
    go_ret
    exact ⟨_, _, rfl, row_lit w1 ((rulesL 1).map rlV) 9, blw1' w1 _⟩
  | 2, _ =>
    go_enter Tryz.func19, Tryz.ntmps19
    go_wp2_with (go_at_call 20; refine (HP.out _).mono ?_; rintro e w1 ⟨rfl, rfl⟩)
    go_ret
    exact ⟨_, _, rfl, row_lit w1 ((rulesL 2).map rlV) 9, blw1' w1 _⟩
  | 3, _ =>
    go_enter Tryz.func19, Tryz.ntmps19
    go_wp2_with (go_at_call 20; refine (HP.out _).mono ?_; rintro e w1 ⟨rfl, rfl⟩)
    go_ret
    exact ⟨_, _, rfl, row_lit w1 ((rulesL 3).map rlV) 9, blw1' w1 _⟩
  | 4, _ =>
    go_enter Tryz.func19, Tryz.ntmps19
    go_wp2_with (go_at_call 20; refine (HP.out _).mono ?_; rintro e w1 ⟨rfl, rfl⟩)
    go_ret
    exact ⟨_, _, rfl, row_lit w1 ((rulesL 4).map rlV) 9, blw1' w1 _⟩
  | 5, _ =>
    go_enter Tryz.func19, Tryz.ntmps19
    go_wp2_with (go_at_call 20; refine (HP.out _).mono ?_; rintro e w1 ⟨rfl, rfl⟩)
    go_ret
    exact ⟨_, _, rfl, row_lit w1 ((rulesL 5).map rlV) 9, blw1' w1 _⟩
  | 6, _ =>
    go_enter Tryz.func19, Tryz.ntmps19
    go_wp2_with (go_at_call 20; refine (HP.out _).mono ?_; rintro e w1 ⟨rfl, rfl⟩)
    go_ret
    exact ⟨_, _, rfl, row_lit w1 ((rulesL 6).map rlV) 9, blw1' w1 _⟩
  | 7, _ =>
    go_enter Tryz.func19, Tryz.ntmps19
    go_wp2_with (go_at_call 20; refine (HP.out _).mono ?_; rintro e w1 ⟨rfl, rfl⟩)
    go_ret
    exact ⟨_, _, rfl, row_lit w1 ((rulesL 7).map rlV) 9, blw1' w1 _⟩
  | _ + 8, h => omega
end Go.Proofs.YtlhokghgicgppaaGreatDoor
