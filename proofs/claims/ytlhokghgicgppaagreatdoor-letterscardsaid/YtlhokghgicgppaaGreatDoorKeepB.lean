/- Build, Compile. -/
/- The token that stands ahead does not hang on the pieces in which a text comes. -/
/- Rules that Compile takes, by reckoning. -/
/- The tokens of a text, one behind the other. -/
/- The lists of rules that the statements speak of, and their tables. -/
/- scangenkeep.pick, rules. -/
import Derived.Test.YtlhokghgicgppaaGreatDoorStates3
import Derived.Test.YtlhokghgicgppaaGreatDoorKinds2
import Derived.Test.YtlhokghgicgppaaGreatDoorCompA
import Derived.Test.YtlhokghgicgppaaGreatDoorWalk
import Derived.Test.YtlhokghgicgppaaGreatDoorBytePure
import Derived.Test.YtlhokghgicgppaaGreatDoorTokens
set_option linter.unusedSimpArgs false
set_option linter.unusedVariables false
namespace Go.Proofs.YtlhokghgicgppaaGreatDoor
open Go.RowKit Go.Extern Go.Maps

/-- The machine of a layout, of its sets and of their rows. -/
def Sg.machOf (lo : Sg.Lo) (fs : List Nat) (frows : List (List Int)) : Sg.Mach := ⟨(Sg.kindRows lo).1, ((-1 :: fs.map (Sg.ruleT lo)).zip frows)⟩
theorem zip_len {α β : Type} (a : List α) (b : List β) (h : a.length = b.length) : (a.zip b).length = b.length := by rw [List.length_zip, h, Nat.min_self]
theorem zip_at {α β : Type} (a : List α) (b : List β) (i : Nat) (x : α) (y : β) (h1 : a[i]? = some x) (h2 : b[i]? = some y) : (a.zip b)[i]? = some (x, y) := by
  rw [List.getElem?_zip_eq_some]; exact ⟨h1, h2⟩
theorem mach_of_si {w : World} {lo : Sg.Lo} {m K : Nat} {W : World} {sa ba : Option Addr} {sc bc : Nat} {fs : List Nat} {zs : List (Int × Value)} {frows : List (List Int)} (h : SI w lo m K W.heap.size W sa ba sc bc fs zs frows) (hfl : frows.length = fs.length + 1)
    {ca : Option Addr} {cc : Nat} (hc : RowAt 2 W ca cc (Sg.kindRows lo).1.length ((Sg.kindRows lo).1.flatMap ctCells)) (hc0 : 0 < (Sg.kindRows lo).1.length) {p : Nat} (hp0 : W.cell? ⟨p, 0, none⟩ = some (.slice ca (Sg.kindRows lo).1.length cc)) (hp1 : W.cell? ⟨p, 1, none⟩ = some (.slice sa (fs.length + 1) sc)) : MachIn W W.heap.size p (Sg.machOf lo fs frows) := by
  have hsl : (Sg.machOf lo fs frows).states.length = fs.length + 1 := by
    show ((-1 :: fs.map (Sg.ruleT lo)).zip frows).length = _
    rw [zip_len _ _ (by simp [hfl]), hfl]
  have hst : ∀ i, i < fs.length + 1 → ∃ (r : Int) (row : List Int) (nb : Nat), (Sg.machOf lo fs frows).states[i]? = some (r, row) ∧ zs[i]? = some (r, .slice (some ⟨nb, 0, none⟩) K K) ∧ row.length = K ∧ RowAt 1 W (some ⟨nb, 0, none⟩) K K (row.map i64V) ∧ nb < W.heap.size := fun i hi => by
    have hfr : frows[i]? = some frows[i] := List.getElem?_eq_getElem (by omega)
    obtain ⟨nb, d1, d2, d3, d4, d5, _⟩ := h.done i frows[i] hfr
    have hzl := h.len
    obtain ⟨z, hz⟩ : ∃ z, zs[i]? = some z := ⟨_, List.getElem?_eq_getElem (by omega)⟩
    rw [hz] at d1
    have hz2 : z.2 = .slice (some ⟨nb, 0, none⟩) K K := by simpa using d1
    have hz1 : (-1 :: fs.map (Sg.ruleT lo))[i]? = some z.1 := by rw [← h.zl, List.getElem?_map, hz]; rfl
    refine ⟨z.1, frows[i], nb, zip_at _ _ _ _ _ hz1 hfr, ?_, by have := d2.len; rw [List.length_map] at this; omega, d2, d5⟩
    rw [hz, ← hz2]
  have hch : ∀ i : Nat, ∃ nb : Nat, i < fs.length + 1 → ∃ (r : Int) (row : List Int), (Sg.machOf lo fs frows).states[i]? = some (r, row) ∧ zs[i]? = some (r, .slice (some ⟨nb, 0, none⟩) K K) ∧ row.length = K ∧ RowAt 1 W (some ⟨nb, 0, none⟩) K K (row.map i64V) ∧ nb < W.heap.size := fun i => by
    by_cases hi : i < fs.length + 1
    · obtain ⟨r, row, nb, g⟩ := hst i hi
      exact ⟨nb, fun _ => ⟨r, row, g⟩⟩
    · exact ⟨0, fun h => absurd h hi⟩
  obtain ⟨nbf, hnb⟩ := Classical.axiomOfChoice hch
  obtain ⟨cb, co, rfl, _, hcc, _, hcl, _⟩ : ∃ cb co, ca = some ⟨cb, co, none⟩ ∧ (Sg.kindRows lo).1.length ≤ cc ∧ (∀ j v, ((Sg.kindRows lo).1.flatMap ctCells)[j]? = some v → W.cell? ⟨cb, co + j, none⟩ = some v) ∧ (∀ j, j < cc * 2 → (W.cell? ⟨cb, co + j, none⟩).isSome = true) ∧ cb < W.heap.size ∧ ∀ j, W.frozen? ⟨cb, j, none⟩ = false := by
    rcases hc.row with ⟨_, _, e⟩ | g
    · omega
    · exact g
  obtain ⟨sb, so, rfl, _, hss, _, hsb, _⟩ : ∃ sb so, sa = some ⟨sb, so, none⟩ ∧ fs.length + 1 ≤ sc ∧ (∀ j v, (zs.flatMap stCells)[j]? = some v → W.cell? ⟨sb, so + j, none⟩ = some v) ∧ (∀ j, j < sc * 2 → (W.cell? ⟨sb, so + j, none⟩).isSome = true) ∧ sb < W.heap.size ∧ ∀ j, W.frozen? ⟨sb, j, none⟩ = false := by
    rcases h.rs.row with ⟨_, _, e⟩ | g
    · omega
    · exact g
  have hzl := h.len
  have hcutle := hc.le
  refine ⟨cb, co, cc, sb, so, sc, nbf, fun _ => 0, fun _ => K, ⟨hp0, by rw [hsl]; exact hp1, fun i hi => ?_, fun i hi => ?_, fun i hi => ?_, fun i hi => ?_, fun i k hi hk => ?_⟩, cell_lt hp0, hcl, hsb, fun i hi => ?_, hcutle⟩
  · have hi' : i < (Sg.kindRows lo).1.length := hi
    have e : Sg.lowAt (Sg.kindRows lo).1 i = (Sg.kindRows lo).1[i].1 := by unfold Sg.lowAt; rw [List.getD_eq_getElem?_getD, List.getElem?_eq_getElem hi']; rfl
    have := hcc (i * 2 + 0) (.int .i32 (Sg.kindRows lo).1[i].1) (by rw [flat_at ctCells 2 (fun _ => rfl) _ i 0 hi' (by omega)]; rfl)
    show W.cell? _ = some (.int .i32 (Sg.lowAt (Sg.kindRows lo).1 i))
    rw [e]; exact this
  · have hi' : i < (Sg.kindRows lo).1.length := hi
    have e : Sg.kindAt (Sg.kindRows lo).1 i = (Sg.kindRows lo).1[i].2 := by unfold Sg.kindAt; rw [List.getD_eq_getElem?_getD, List.getElem?_eq_getElem hi']; rfl
    have := hcc (i * 2 + 1) (.int .i64 (Sg.kindRows lo).1[i].2) (by rw [flat_at ctCells 2 (fun _ => rfl) _ i 1 hi' (by omega)]; rfl)
    show W.cell? _ = some (.int .i64 (Sg.kindAt (Sg.kindRows lo).1 i))
    rw [e]; exact this
  · rw [hsl] at hi
    obtain ⟨r, row, g1, g2, g3, g4, g5⟩ := hnb i hi
    have hil : i < zs.length := by omega
    have e : (Sg.machOf lo fs frows).rule i = r := by unfold Sg.Mach.rule; rw [List.getD_eq_getElem?_getD, g1]; rfl
    rw [List.getElem?_eq_getElem hil] at g2
    have := hss (i * 2 + 0) (.int .i64 r) (by rw [flat_at stCells 2 (fun _ => rfl) _ i 0 hil (by omega), Option.some.inj g2]; rfl)
    rw [e]; exact this
  · rw [hsl] at hi
    obtain ⟨r, row, g1, g2, g3, g4, g5⟩ := hnb i hi
    have hil : i < zs.length := by omega
    have e : (Sg.machOf lo fs frows).width i = K := by unfold Sg.Mach.width; rw [List.getD_eq_getElem?_getD, g1]; exact g3
    rw [List.getElem?_eq_getElem hil] at g2
    have := hss (i * 2 + 1) (.slice (some ⟨nbf i, 0, none⟩) K K) (by rw [flat_at stCells 2 (fun _ => rfl) _ i 1 hil (by omega), Option.some.inj g2]; rfl)
    rw [e, Nat.add_assoc]; exact this
  · rw [hsl] at hi
    obtain ⟨r, row, g1, g2, g3, g4, g5⟩ := hnb i hi
    have e : (Sg.machOf lo fs frows).width i = row.length := by unfold Sg.Mach.width; rw [List.getD_eq_getElem?_getD, g1]; rfl
    rw [e] at hk
    have e2 : (Sg.machOf lo fs frows).next i k = row[k] := by
      unfold Sg.Mach.next
      rw [List.getD_eq_getElem?_getD (l := (Sg.machOf lo fs frows).states), g1]
      show row.getD k 0 = _
      rw [List.getD_eq_getElem?_getD, List.getElem?_eq_getElem hk]; rfl
    obtain ⟨rb, ro, e3, hcell⟩ := row_cell g4 (j := k) (v := i64V row[k]) (by rw [List.getElem?_map, List.getElem?_eq_getElem hk]; rfl)
    cases e3
    rw [e2]; exact hcell
  · rw [hsl] at hi
    obtain ⟨r, row, g1, g2, g3, g4, g5⟩ := hnb i hi
    exact g5
set_option maxRecDepth 100000 in
set_option maxHeartbeats 2000000 in
theorem build_any (hLows : LowsAny) (w : World) (ra : Option Addr) (rc : Nat) (ts : List Sg.Node) (vs : List Value) (hR : RowAt 1 w ra rc ts.length vs) (hN : NodesAt (fun b => b < w.heap.size) w 100 vs ts) (hnl : ts.length ≤ 8) (h64 : ts.foldl (fun n x => n + Sg.placesN 100 x) 0 ≤ 64) (hao : ∀ x ∈ ts, Sg.altOk 100 x = true)
    (lo : Sg.Lo) (hlo : Sg.layAll ts = lo) (hrg : rgOk lo = true) (hl8 : lo.last.length ≤ 8) (hkl : (Sg.kindRows lo).2.length < 1000000) (hc0 : 0 < (Sg.kindRows lo).1.length) (fs : List Nat) (frows : List (List Int)) (hgo : Sg.rowsGo lo (Sg.kindRows lo).2 202 0 [] [] = some (fs, frows)) :
    Calls Tryz.prog 44 #[.slice ra ts.length rc] w fun e w' => ∃ p, e = .returned (.tuple #[.pointer (some ⟨p, 0, none⟩), .nilIface]) ∧ MachIn w' w'.heap.size p (Sg.machOf lo fs frows) ∧ Below w.heap.size w w' := by
  have hlay := layOut_any w ra rc ts vs hR hnl hN h64 hao
  rw [hlo] at hlay
  have HL := hide2 hlay
  have HK : Hid (∀ W B p, LoAt B W p lo → Calls Tryz.prog 73 #[.pointer (some ⟨p, 0, none⟩)] W fun e w' => ∃ ca cc ka kc, e = .returned (.tuple #[.slice ca (Sg.kindRows lo).1.length cc, .slice ka (Sg.kindRows lo).2.length kc]) ∧ Hid (RowAt 2 w' ca cc (Sg.kindRows lo).1.length ((Sg.kindRows lo).1.flatMap ctCells) ∧ RowAt 2 w' ka kc (Sg.kindRows lo).2.length ((Sg.kindRows lo).2.flatMap psCells) ∧ Below W.heap.size W w' ∧ (∀ x ∈ (Sg.kindRows lo).2, x < 18446744073709551616))) := hide2 fun W B p h => (kinds_any hLows B p W lo h hrg).mono (by
    rintro e w' ⟨ca, cc, ka, kc, h1, h2, h3, h4, h5, _⟩
    exact ⟨ca, cc, ka, kc, h1, hide2 ⟨h2, h3, h4, h5⟩⟩)
  have HS : Hid (∀ W B p ka kc, LoAt B W p lo → RowAt 2 W ka kc (Sg.kindRows lo).2.length ((Sg.kindRows lo).2.flatMap psCells) → (∀ x ∈ (Sg.kindRows lo).2, x < 18446744073709551616) → Calls Tryz.prog 74 #[.pointer (some ⟨p, 0, none⟩), .slice ka (Sg.kindRows lo).2.length kc] W fun e w' => ∃ sa sc, e = .returned (.tuple #[.slice sa (fs.length + 1) sc, .nilIface]) ∧ Hid (frows.length = fs.length + 1 ∧ ∃ ba bc zs m, SI W lo m (Sg.kindRows lo).2.length w'.heap.size w' sa ba sc bc fs zs frows)) := hide2 fun W B p ka kc h hk hx => (states_any B p W lo h hl8 ka kc _ hk hkl hx fs frows hgo).mono (by
    rintro e w' ⟨sa, sc, h1, h2, h3⟩
    exact ⟨sa, sc, h1, hide2 ⟨h2, h3⟩⟩)
  have HC := hide2 hc0
  clear hLows hR hN h64 hao hlo hrg hl8 hkl hc0 hgo hlay
  generalize hcn : (Sg.kindRows lo).1.length = cn at *
  generalize hkn : (Sg.kindRows lo).2.length = kn at *
  go_enter Tryz.func44, Tryz.ntmps44
  go_wp2_with (first
    | (go_at_call 72; refine HL.out.mono ?_; clear HL; rintro e w1 ⟨rfl, hl1, hb1⟩; have HL1 := hide2 (And.intro hl1 hb1); have HK1 := hide2 (HK.out w1 _ _ hl1); clear hl1 hb1 HK)
    | (go_at_call 73; refine HK1.out.mono ?_; clear HK1; rintro e w2 ⟨ca, cc, ka, kc, rfl, H2⟩; have HS2 := hide2 (HS.out w2 _ _ ka kc (HL1.out.1.below H2.out.2.2.1) H2.out.2.1 H2.out.2.2.2); clear HS)
    | (go_at_call 74; refine HS2.out.mono ?_; clear HS2; rintro e w3 ⟨sa, sc, rfl, H3⟩))
  go_ret2
  obtain ⟨k1, k2, k3, k4⟩ := H2.out
  obtain ⟨f1, ba, bc, zs, m, hS⟩ := H3.out
  obtain ⟨l1, l2⟩ := HL1.out
  have hb3 : Below w2.heap.size w2 w3 := hS.bel
  have hbx := blw1' w3 (.cells #[.slice ca cn cc, .slice sa (fs.length + 1) sc] 151)
  have hS' := hS.below hbx
  have hsz : (w3.alloc (.cells #[.slice ca cn cc, .slice sa (fs.length + 1) sc] 151)).heap.size = w3.heap.size + 1 := by simp
  have hcr := (k1.below hb3).below hbx
  subst hcn hkn
  refine ⟨w3.heap.size, rfl, mach_of_si (hS'.up (by omega)) f1 hcr HC.out (cell_of' (heap_alloc_new w3 _) 0) (cell_of' (heap_alloc_new w3 _) 1), ?_⟩
  exact ((l2.trans (k3.mono l2.size)).trans (hb3.mono (Nat.le_trans l2.size k3.size))).alloc (Nat.le_trans l2.size (Nat.le_trans k3.size hb3.size)) _
/-- What must hold of rules that Compile takes. -/
structure CompOk (rules : List Sg.Bs) (m : Sg.Mach) : Prop where
  n1 : 1 ≤ rules.length
  n8 : rules.length ≤ 8
  sz : ∀ s ∈ rules, s.length ≤ 60
  cl : ∀ s ∈ rules, cleanR s = true
  made : ∃ ts fs frows, Sg.readAllT rules 0 0 [] = .ok ts ∧ (∀ x ∈ ts, Sg.altOk 100 x = true) ∧ rgOk (Sg.layAll ts) = true ∧ (Sg.layAll ts).last.length ≤ 8 ∧ (Sg.kindRows (Sg.layAll ts)).2.length < 1000000 ∧ 0 < (Sg.kindRows (Sg.layAll ts)).1.length ∧ Sg.rowsGo (Sg.layAll ts) (Sg.kindRows (Sg.layAll ts)).2 202 0 [] [] = some (fs, frows) ∧ m = Sg.machOf (Sg.layAll ts) fs frows
  ok : m.Ok
set_option maxRecDepth 100000 in
set_option maxHeartbeats 2000000 in
theorem compile_any (hLows : LowsAny) (w : World) (ra : Option Addr) (rc : Nat) (rules : List Sg.Bs) (hR : RowAt 1 w ra rc rules.length (rules.map rlV)) (m : Sg.Mach) (h : CompOk rules m) :
    Calls Tryz.prog 29 #[.slice ra rules.length rc] w fun e w' => ∃ tp, e = .returned (.tuple #[.pointer (some ⟨tp, 0, none⟩), .nilIface]) ∧ Hid (w.heap.size ≤ tp ∧ Below w.heap.size w w' ∧ ∃ p, w'.cell? ⟨tp, 0, none⟩ = some (.pointer (some ⟨p, 0, none⟩)) ∧ MachIn w' w'.heap.size p m) := by
  obtain ⟨n1, n8, sz, cl, ⟨ts, fs, frows, hts, hao, hrg, hl8, hkl, hc0, hgo, rfl⟩, hok⟩ := h
  have HS := hide2 (checkSizes_any w ra rc rules hR n1 n8 sz)
  have HA : Hid (∀ W, Below w.heap.size w W → Calls Tryz.prog 43 #[.slice ra rules.length rc] W fun e w' => ∃ ia ic vs, e = .returned (.tuple #[.slice ia ts.length ic, .nilIface]) ∧ Hid (RowAt 1 w' ia ic ts.length vs ∧ NodesAt (fun b => b < w'.heap.size) w' 100 vs ts ∧ ts.length ≤ 8 ∧ ts.foldl (fun n x => n + Sg.placesN 100 x) 0 ≤ 64 ∧ Below w.heap.size w w')) := hide2 fun W hb => (readAll_any W ra rc rules (hR.below hb) n8 sz cl ts hts).mono (by
    rintro e w' ⟨ia, ic, vs, h1, h2, h3, h4, h5, h6⟩
    exact ⟨ia, ic, vs, h1, hide2 ⟨h2, h3, h4, h5, hb.trans (h6.mono hb.size)⟩⟩)
  have HB : Hid (∀ W ia ic vs, RowAt 1 W ia ic ts.length vs → NodesAt (fun b => b < W.heap.size) W 100 vs ts → ts.length ≤ 8 → ts.foldl (fun n x => n + Sg.placesN 100 x) 0 ≤ 64 → Calls Tryz.prog 44 #[.slice ia ts.length ic] W fun e w' => ∃ p, e = .returned (.tuple #[.pointer (some ⟨p, 0, none⟩), .nilIface]) ∧ Hid (MachIn w' w'.heap.size p (Sg.machOf (Sg.layAll ts) fs frows) ∧ Below W.heap.size W w')) := hide2 fun W ia ic vs h1 h2 h3 h4 => (build_any hLows W ia ic ts vs h1 h2 h3 h4 hao _ rfl hrg hl8 hkl hc0 fs frows hgo).mono (by
    rintro e w' ⟨p, g1, g2, g3⟩
    exact ⟨p, g1, hide2 ⟨g2, g3⟩⟩)
  have HOk := hide2 hok
  clear hLows hR n1 n8 sz cl hts hao hrg hl8 hkl hc0 hgo hok
  generalize Sg.machOf (Sg.layAll ts) fs frows = m at *
  go_enter Tryz.func29, Tryz.ntmps29
  go_wp2_with (first
    | (go_at_call 42; refine HS.out.mono ?_; clear HS; rintro e w1 ⟨rfl, hb1⟩; have HA1 := hide2 (HA.out w1 hb1); clear HA hb1)
    | (go_at_call 43; refine HA1.out.mono ?_; clear HA1; rintro e w2 ⟨ia, ic, vs, rfl, H2⟩; have HB2 := hide2 (HB.out w2 ia ic vs H2.out.1 H2.out.2.1 H2.out.2.2.1 H2.out.2.2.2.1); clear HB)
    | (go_at_call 44; refine HB2.out.mono ?_; clear HB2; rintro e w3 ⟨p, rfl, H3⟩))
  go_ret2
  obtain ⟨k1, k2⟩ := H3.out
  have hb2 := H2.out.2.2.2.2
  have hb3 := hb2.trans (k2.mono hb2.size)
  have hbx := blw1' w3 (.cells #[.pointer (some ⟨p, 0, none⟩)] 100)
  refine ⟨w3.heap.size, rfl, hide2 ⟨hb3.size, hb3.alloc hb3.size _, p, cell_of' (heap_alloc_new w3 _) 0, ?_⟩⟩
  have hM : MachIn (w3.alloc (.cells #[.pointer (some ⟨p, 0, none⟩)] 100)) w3.heap.size p m := k1.of HOk.out (fun b o v hb hc => below_keep hbx hc)
  obtain ⟨cb, co, cc, sb, so, sc, nb, no, nc, M, g1, g2, g3, g4, g5⟩ := hM
  have hsz := hbx.size
  exact ⟨cb, co, cc, sb, so, sc, nb, no, nc, M, by omega, by omega, by omega, fun i hi => by have := g4 i hi; omega, g5⟩
end Go.Proofs.YtlhokghgicgppaaGreatDoor

namespace Go.Proofs.YtlhokghgicgppaaGreatDoor.Sg
open Go

/-! ### cuts that rise -/
structure Mach.Up (m : Mach) : Prop where
  up : m.cuts.Pairwise (fun a b => a.1 < b.1)
  z : lowAt m.cuts 0 = 0
theorem cutGo_spec (cuts : List (Int × Int)) (c : Int) : ∀ (f low high : Nat), low < high → high - low ≤ f → lowAt cuts low ≤ c → (high < cuts.length → c < lowAt cuts high) → high ≤ cuts.length →
    lowAt cuts (cutGo cuts c f low high) ≤ c ∧ (cutGo cuts c f low high + 1 < cuts.length → c < lowAt cuts (cutGo cuts c f low high + 1))
  | 0, low, high, h, hf, _, _, _ => by omega
  | f + 1, low, high, h, hf, h1, h2, h3 => by
    unfold cutGo
    by_cases g : 1 < high - low
    · simp only [g, if_true]
      split
      · rename_i k
        exact cutGo_spec cuts c f _ _ (by omega) (by omega) k h2 h3
      · rename_i k
        exact cutGo_spec cuts c f _ _ (by omega) (by omega) h1 (fun _ => by omega) (by omega)
    · simp only [g, if_false]
      have : high = low + 1 := by omega
      subst this
      exact ⟨h1, h2⟩
theorem cutIx_spec (m : Mach) (hm : m.Ok) (hu : m.Up) (c : Int) (hc : 0 ≤ c) : lowAt m.cuts (cutIx m.cuts c) ≤ c ∧ (cutIx m.cuts c + 1 < m.cuts.length → c < lowAt m.cuts (cutIx m.cuts c + 1)) :=
  cutGo_spec m.cuts c _ 0 _ hm.cuts0 (Nat.le_refl _) (by rw [hu.z]; exact hc) (fun h => absurd h (Nat.lt_irrefl _)) (Nat.le_refl _)
theorem low_at {cuts : List (Int × Int)} {i : Nat} (h : i < cuts.length) : lowAt cuts i = cuts[i].1 := by
  unfold lowAt; rw [List.getD_eq_getElem?_getD, List.getElem?_eq_getElem h]; rfl
theorem kind_at {cuts : List (Int × Int)} {i : Nat} (h : i < cuts.length) : kindAt cuts i = cuts[i].2 := by
  unfold kindAt; rw [List.getD_eq_getElem?_getD, List.getElem?_eq_getElem h]; rfl
theorem low_lt {m : Mach} (hu : m.Up) {i j : Nat} (h : i < j) (hj : j < m.cuts.length) : lowAt m.cuts i < lowAt m.cuts j := by
  rw [low_at hj, low_at (by omega)]
  exact List.pairwise_iff_getElem.1 hu.up i j (by omega) hj h
theorem low_le {m : Mach} (hu : m.Up) {i j : Nat} (h : i ≤ j) (hj : j < m.cuts.length) : lowAt m.cuts i ≤ lowAt m.cuts j := by
  rcases Nat.lt_or_ge i j with g | g
  · exact Int.le_of_lt (low_lt hu g hj)
  · rw [show i = j by omega]; exact Int.le_refl _
theorem cutIx_mono {m : Mach} (hm : m.Ok) (hu : m.Up) {c d : Int} (hc : 0 ≤ c) (h : c ≤ d) : cutIx m.cuts c ≤ cutIx m.cuts d := by
  have h1 := cutIx_spec m hm hu c hc
  have h2 := cutIx_spec m hm hu d (by omega)
  have h3 := cutIx_lt m.cuts c hm.cuts0
  rcases Nat.lt_or_ge (cutIx m.cuts d) (cutIx m.cuts c) with g | g
  · have := low_le hu (show cutIx m.cuts d + 1 ≤ cutIx m.cuts c by omega) h3
    have := h2.2 (by omega)
    omega
  · exact g
theorem goes_false {m : Mach} {s : Nat} {high : Int} : ∀ (l : List (Int × Int)), l.Pairwise (fun a b => a.1 < b.1) → m.goesGo s high l = false → ∀ x ∈ l, x.1 ≤ high → m.next s x.2.toNat = -1
  | [], _, _, x, hx, _ => by cases hx
  | c :: r, hp, h, x, hx, hh => by
    rw [List.pairwise_cons] at hp
    unfold Mach.goesGo at h
    have hc : ¬ high < c.1 := by
      rcases List.mem_cons.1 hx with rfl | g
      · omega
      · have := hp.1 x g; omega
    rw [if_neg hc] at h
    by_cases hn : m.next s c.2.toNat = -1
    · rw [if_pos hn] at h
      rcases List.mem_cons.1 hx with rfl | g
      · exact hn
      · exact goes_false r hp.2 h x g hh
    · rw [if_neg hn] at h; cases h
theorem goes_true {m : Mach} {s : Nat} {high : Int} : ∀ (l : List (Int × Int)), m.goesGo s high l = true → ∃ x ∈ l, x.1 ≤ high ∧ m.next s x.2.toNat ≠ -1
  | [], h => by cases h
  | c :: r, h => by
    unfold Mach.goesGo at h
    by_cases hc : high < c.1
    · rw [if_pos hc] at h; cases h
    · rw [if_neg hc] at h
      by_cases hn : m.next s c.2.toNat = -1
      · rw [if_pos hn] at h
        obtain ⟨x, h1, h2⟩ := goes_true r h
        exact ⟨x, List.mem_cons_of_mem _ h1, h2⟩
      · exact ⟨c, List.mem_cons_self, by omega, hn⟩
theorem after_dead {m : Mach} (hm : m.Ok) (hu : m.Up) {s : Nat} {low high c : Int} (h : m.goesOn s low high = false) (h0 : 0 ≤ low) (h1 : low ≤ c) (h2 : c ≤ high) : m.after s c = -1 := by
  have hi := cutIx_lt m.cuts c hm.cuts0
  have hs := cutIx_spec m hm hu c (by omega)
  have hle := cutIx_mono hm hu h0 h1
  unfold Mach.after Mach.kind
  rw [kind_at hi]
  rw [low_at hi] at hs
  refine goes_false _ (hu.up.drop) h m.cuts[cutIx m.cuts c] ?_ (by omega)
  rw [List.mem_iff_getElem]
  refine ⟨cutIx m.cuts c - cutIx m.cuts low, by rw [List.length_drop]; omega, ?_⟩
  rw [List.getElem_drop]
  congr 1; omega

/-! ### steps -/
def Goes (m : Mach) (t : Bs) : Nat → Wk → Wk → Prop
  | 0, k, k' => k' = k
  | n + 1, k, k' => k.state ≠ -1 ∧ full (t.drop k.passed) = true ∧ Goes m t n (stepW m k (t.drop k.passed)) k'
theorem goes_of_walk (m : Mach) (t : Bs) : ∀ (f : Nat) (k : Wk), ∃ n, Goes m t n k (walkTo m t f k)
  | 0, k => ⟨0, rfl⟩
  | f + 1, k => by
    unfold walkTo
    split
    · rename_i h
      obtain ⟨n, hn⟩ := goes_of_walk m t f (stepW m k (t.drop k.passed))
      exact ⟨n + 1, h.1, h.2, hn⟩
    · exact ⟨0, rfl⟩
theorem goes_cat {m : Mach} {t : Bs} : ∀ {a b : Nat} {k k' k'' : Wk}, Goes m t a k k' → Goes m t b k' k'' → Goes m t (a + b) k k''
  | 0, b, k, k', k'', h, g => by rw [Nat.zero_add]; cases h; exact g
  | a + 1, b, k, k', k'', h, g => by
    rw [Nat.add_right_comm]
    exact ⟨h.1, h.2.1, goes_cat h.2.2 g⟩
theorem drop_app {t g : Bs} {p : Nat} (h : full (t.drop p) = true) : (t ++ g).drop p = t.drop p ++ g := by
  have hne := full_ne h
  have hp : p < t.length := by
    rcases Nat.lt_or_ge p t.length with q | q
    · exact q
    · exact absurd (List.drop_of_length_le q) hne
  exact List.drop_append_of_le_length (Nat.le_of_lt hp)
theorem stepW_ext {m : Mach} {k : Wk} {t : Bs} (h : full t = true) (g : Bs) : stepW m k (t ++ g) = stepW m k t := by
  unfold stepW; rw [dec_ext h g]
theorem goes_more {m : Mach} {t : Bs} (g : Bs) : ∀ {n : Nat} {k k' : Wk}, Goes m t n k k' → Goes m (t ++ g) n k k'
  | 0, k, k', h => h
  | n + 1, k, k', h => by
    refine ⟨h.1, ?_, ?_⟩
    · rw [drop_app h.2.1]; exact full_ext h.2.1 g
    · rw [drop_app h.2.1, stepW_ext h.2.1]; exact goes_more g h.2.2
theorem stepW_len {m : Mach} {k : Wk} {t : Bs} (h : k.length ≤ k.passed) : k.length ≤ (stepW m k t).length := by
  unfold stepW
  split
  · exact Nat.le_refl _
  · dsimp only
    split
    · exact Nat.le_refl _
    · split
      · exact Nat.le_refl _
      · show k.length ≤ k.passed + (dec t).2; omega
theorem goes_keep {m : Mach} (hm : m.Ok) {t : Bs} : ∀ {n : Nat} {k k' : Wk}, k.Ok m t → Goes m t n k k' → k'.Ok m t ∧ k.length ≤ k'.length ∧ walkTo m t (t.length + 1) k = walkTo m t (t.length + 1) k'
  | 0, k, k', hk, h => by cases h; exact ⟨hk, Nat.le_refl _, rfl⟩
  | n + 1, k, k', hk, h => by
    obtain ⟨h1, h2, h3⟩ := h
    obtain ⟨g1, g2, g3⟩ := goes_keep hm (stepW_ok m hm t k hk h1 h2).1 h3
    exact ⟨g1, Nat.le_trans (stepW_len hk.2.1) g2, (walkTo_go m hm t _ k hk (need_le t k) ⟨h1, h2⟩).trans g3⟩
theorem walkTo_end (m : Mach) (hm : m.Ok) (t : Bs) : ∀ (f : Nat) (k : Wk), k.Ok m t → need t k ≤ f → ¬ ((walkTo m t f k).state ≠ -1 ∧ full (t.drop (walkTo m t f k).passed) = true)
  | 0, k, hk, hf => by
    intro h
    have h1 : k.state ≠ -1 := h.1
    unfold need at hf
    rw [if_neg h1] at hf; omega
  | f + 1, k, hk, hf => by
    unfold walkTo
    split
    · rename_i h
      obtain ⟨h1, h2⟩ := stepW_ok m hm t k hk h.1 h.2
      exact walkTo_end m hm t f _ h1 (by omega)
    · rename_i h; exact h
/-- The walk through a text, to its end. -/
def wkOf (m : Mach) (t : Bs) : Wk := walkTo m t (t.length + 1) Wk.zero
theorem wkOf_goes (m : Mach) (t : Bs) : ∃ n, Goes m t n Wk.zero (wkOf m t) := goes_of_walk m t _ _
theorem wkOf_ok (m : Mach) (hm : m.Ok) (t : Bs) : (wkOf m t).Ok m t := walkTo_ok m hm t _ _ (Wk.zero_ok m hm t)
theorem wkOf_end (m : Mach) (hm : m.Ok) (t : Bs) : ¬ ((wkOf m t).state ≠ -1 ∧ full (t.drop (wkOf m t).passed) = true) := walkTo_end m hm t _ _ (Wk.zero_ok m hm t) (need_le _ _)
theorem wkOf_from (m : Mach) (hm : m.Ok) {t : Bs} {n : Nat} {k : Wk} (h : Goes m t n Wk.zero k) : wkOf m t = walkTo m t (t.length + 1) k := (goes_keep hm (Wk.zero_ok m hm t) h).2.2
theorem wkOf_len (m : Mach) (hm : m.Ok) (t g : Bs) : (wkOf m t).length ≤ (wkOf m (t ++ g)).length := by
  obtain ⟨n, hn⟩ := wkOf_goes m t
  have h := goes_more g hn
  rw [wkOf_from m hm h]
  obtain ⟨j, hj⟩ := goes_of_walk m (t ++ g) ((t ++ g).length + 1) (wkOf m t)
  exact (goes_keep hm (goes_keep hm (Wk.zero_ok m hm _) h).1 hj).2.1
/-- What a beginning has decided. -/
theorem decided (m : Mach) (hm : m.Ok) (hu : m.Up) (p g : Bs) (ha : aliveW m p (wkOf m p) = false) : (wkOf m (p ++ g)).rule = (wkOf m p).rule ∧ (wkOf m (p ++ g)).length = (wkOf m p).length := by
  obtain ⟨n, hn⟩ := wkOf_goes m p
  have hw := wkOf_from m hm (goes_more g hn)
  have hend := wkOf_end m hm p
  have hok := wkOf_ok m hm p
  rw [hw]
  generalize wkOf m p = k at *
  by_cases hs : k.state = -1
  · rw [walkTo_stay m _ _ k (fun c => c.1 hs)]; exact ⟨rfl, rfl⟩
  · have hnf : full (p.drop k.passed) = false := by
      cases hx : full (p.drop k.passed)
      · rfl
      · exact absurd ⟨hs, hx⟩ hend
    unfold aliveW at ha
    rw [if_neg hs] at ha
    by_cases he : p.drop k.passed = []
    · rw [if_pos he] at ha; cases ha
    · rw [if_neg he] at ha
      have hdr : (p ++ g).drop k.passed = p.drop k.passed ++ g := List.drop_append_of_le_length hok.1
      by_cases hf : full ((p ++ g).drop k.passed) = true
      · have hkk : k.Ok m (p ++ g) := hok.more g
        rw [walkTo_go m hm _ _ k hkk (need_le _ _) ⟨hs, hf⟩, hdr]
        have hdead : (stepW m k (p.drop k.passed ++ g)).state = -1 ∧ (stepW m k (p.drop k.passed ++ g)).rule = k.rule ∧ (stepW m k (p.drop k.passed ++ g)).length = k.length := by
          unfold stepW
          split
          · exact ⟨rfl, rfl, rfl⟩
          · rename_i hd
            have hr := reach_in he hnf g hd
            have h0 : 0 ≤ (reach (p.drop k.passed)).1 := by
              unfold reach; dsimp only; omega
            have := after_dead hm hu ha h0 hr.1 hr.2
            simp only [this, if_true]
            exact ⟨trivial, trivial, trivial⟩
        rw [walkTo_stay m _ _ _ (fun c => c.1 hdead.1)]
        exact hdead.2
      · rw [walkTo_stay m _ _ k (fun c => hf c.2)]; exact ⟨rfl, rfl⟩

/-! ### the token ahead -/
def tokSz (m : Mach) (r : Bs) : Nat := if (wkOf m r).length = 0 then (dec r).2 else (wkOf m r).length
def tokRl (m : Mach) (r : Bs) : Int := (wkOf m r).rule
abbrev Pos := Int × Int × Int
def Live.pos (L : Live) : Pos := (L.at_, L.line, L.col)
def passP (p : Pos) (t : Bs) : Pos :=
  if 0 < Lib.countByte t 10 then (p.1 + t.length, p.2.1 + Lib.countByte t 10, 1 + Lib.runeCountL (t.drop (Lib.lastIndexByte ⟨t.toArray⟩ 10 + 1).toNat))
  else (p.1 + t.length, p.2.1, p.2.2 + Lib.runeCountL t)
theorem pass_pos (L : Live) (t : Bs) : (L.passT t).pos = passP L.pos t := by
  unfold Live.passT passP Live.pos
  split <;> rfl
def tokAt (m : Mach) (p : Pos) (r : Bs) : Tok := ⟨tokRl m r, p.1, p.2.1, p.2.2, r.take (tokSz m r)⟩
theorem tokSz_le (m : Mach) (hm : m.Ok) (r : Bs) : tokSz m r ≤ r.length := by
  unfold tokSz
  split
  · exact dec_le r
  · have := wkOf_ok m hm r
    exact Nat.le_trans this.2.1 this.1
theorem tokSz_pos (m : Mach) (r : Bs) (h : r ≠ []) : 1 ≤ tokSz m r := by
  unfold tokSz
  split
  · exact dec_pos r h
  · omega
/-- Whatever of it is alive can be held. -/
def Fits (m : Mach) (r : Bs) (cap : Nat) : Prop := ∀ p g, r = p ++ g → aliveW m p (wkOf m p) = true → p.length < cap
theorem fits_of_lt (m : Mach) {r : Bs} {cap : Nat} (h : r.length < cap) : Fits m r cap := fun p g e _ => by
  rw [e, List.length_append] at h; omega
def Live.On (m : Mach) (L : Live) : Prop := ∃ n, Goes m L.rest n Wk.zero L.wk
theorem on_zero {m : Mach} {L : Live} (h : L.wk = Wk.zero) : L.On m := ⟨0, h⟩
theorem on_walked {m : Mach} (hm : m.Ok) {L : Live} (h : L.On m) : (L.walked m).wk = wkOf m L.rest := by
  obtain ⟨n, hn⟩ := h
  exact (wkOf_from m hm hn).symm
theorem on_more {m : Mach} {L : Live} (h : L.On m) : L.more.On m := by
  obtain ⟨n, hn⟩ := h
  exact ⟨n, goes_more _ hn⟩
theorem on_go {m : Mach} {L : Live} (h : L.On m) : (L.walked m).On m := by
  obtain ⟨n, hn⟩ := h
  obtain ⟨j, hj⟩ := goes_of_walk m L.rest (L.rest.length + 1) L.wk
  exact ⟨n + j, goes_cat hn hj⟩
/-- A scanner that has a text ahead of it, of which it holds a beginning: the token is that of the text. -/
theorem cut_canon (m : Mach) (hm : m.Ok) (hu : m.Up) (W : Live) (r : Bs) (g : Bs) (hr : r = W.rest ++ g) (hw : W.wk = wkOf m W.rest) (hd : g = [] ∨ (W.alive m = false ∧ full W.rest = true)) : W.tok = tokAt m W.pos r ∧ W.size = tokSz m r ∧ W.cutT.pos = passP W.pos (r.take (tokSz m r)) ∧ W.cutT.rest = W.rest.drop (tokSz m r) := by
  have hsz : W.size = tokSz m r ∧ W.wk.rule = tokRl m r := by
    unfold Live.size tokSz tokRl
    rcases hd with rfl | ⟨h1, h2⟩
    · rw [hr, List.append_nil, hw]; exact ⟨rfl, rfl⟩
    · have ha : aliveW m W.rest (wkOf m W.rest) = false := by rw [← hw]; exact h1
      obtain ⟨e1, e2⟩ := decided m hm hu W.rest g ha
      rw [hr, e1, e2, hw, dec_ext h2 g]; exact ⟨rfl, rfl⟩
  have hle : tokSz m r ≤ W.rest.length := by
    rw [← hsz.1]
    unfold Live.size
    split
    · exact dec_le _
    · rw [hw]; have := wkOf_ok m hm W.rest; exact Nat.le_trans this.2.1 this.1
  have htk : W.rest.take (tokSz m r) = r.take (tokSz m r) := by rw [hr] at hle ⊢; rw [List.take_append_of_le_length hle]
  refine ⟨?_, hsz.1, ?_, ?_⟩
  · unfold Live.tok tokAt
    rw [hsz.1, hsz.2, htk]; rfl
  · rw [← htk, ← hsz.1]
    show (W.passT (W.rest.take W.size)).pos = _
    exact pass_pos _ _
  · show W.rest.drop W.size = _
    rw [hsz.1]
theorem cutT_stop (W : Live) : W.cutT.stop = W.stop := by unfold Live.cutT Live.passT; dsimp only; split <;> rfl
theorem cutT_src (W : Live) : W.cutT.src = W.src := by unfold Live.cutT Live.passT; dsimp only; split <;> rfl
theorem cutT_cap (W : Live) : W.cutT.cap = W.cap := by unfold Live.cutT Live.passT; dsimp only; split <;> rfl
theorem nextT_canon (m : Mach) (hm : m.Ok) (hu : m.Up) (hal : ∀ most k s, (askN most k s).1.1.length ≤ most) : ∀ (f : Nat) (L : Live) (r : Bs), L.Has r → L.On m → Fits m r L.cap → 4 ≤ L.cap → L.nf < f →
    (r = [] ∧ nextT m f L = (.error 13, .inr 13)) ∨ (r ≠ [] ∧ ∃ L', nextT m f L = (.ok (tokAt m L.pos r), .inl L') ∧ L'.Has (r.drop (tokSz m r)) ∧ L'.cap = L.cap ∧ L'.wk = Wk.zero ∧ L'.pos = passP L.pos (r.take (tokSz m r)))
  | 0, L, _, _, _, _, _, h => absurd h (Nat.not_lt_zero _)
  | f + 1, L, r, h, ho, hfit, hc4, hf => by
    have hW : (L.walked m).Has r := h
    have hcap : (L.walked m).cap = L.cap := rfl
    have hwk := on_walked hm ho
    have hre : (L.walked m).rest = L.rest := rfl
    have hpre : ∃ g, r = L.rest ++ g := by
      rcases h with ⟨_, _, rfl⟩ | ⟨_, rfl⟩
      · exact ⟨_, rfl⟩
      · exact ⟨[], by simp⟩
    have c1 : ¬ ((L.walked m).alive m = true ∧ (L.walked m).cap ≤ (L.walked m).rest.length) := fun t => by
      obtain ⟨g, hg⟩ := hpre
      have ha : aliveW m L.rest (wkOf m L.rest) = true := by rw [← hwk]; exact t.1
      have := hfit L.rest g hg ha
      have := t.2
      rw [hre] at this
      omega
    unfold nextT
    rw [if_neg c1]
    by_cases c2 : (L.walked m).unsure m = true ∧ (L.walked m).stop = none
    · rw [if_pos c2]
      have hlt : (L.walked m).rest.length < (L.walked m).cap := unsure_lt (m := m) hc4 c1 c2.1
      have hn := nf_more (L.walked m) c2.2 hlt (hal _ _ _)
      rw [walked_nf] at hn
      rcases nextT_canon m hm hu hal f _ r (more_has hW c2.2 hlt) (on_more (on_go ho)) hfit hc4 (by omega) with g | ⟨g0, L', g1, g2⟩
      · exact .inl g
      · exact .inr ⟨g0, L', g1, g2⟩
    · rw [if_neg c2]
      by_cases c3 : ((L.walked m).unsure m = true ∧ (L.walked m).stop ≠ some 13) ∨ (L.walked m).rest = []
      · rw [if_pos c3]
        have hun : (L.walked m).unsure m = true := by
          rcases c3 with c3 | c3
          · exact c3.1
          · unfold Live.unsure
            rw [c3, full_nil]; simp
        have hst : (L.walked m).stop = some 13 := by
          rcases hW with ⟨g, _⟩ | ⟨g, _⟩
          · exact absurd ⟨hun, g⟩ c2
          · exact g
        have hre : (L.walked m).rest = [] := by
          rcases c3 with c3 | c3
          · exact absurd hst c3.2
          · exact c3
        refine .inl ⟨?_, by rw [hst]; rfl⟩
        rcases hW with ⟨g, _⟩ | ⟨_, g⟩
        · rw [hst] at g; cases g
        · rw [g, hre]
      · rw [if_neg c3]
        have hne : (L.walked m).rest ≠ [] := fun e => c3 (.inr e)
        obtain ⟨g, hg⟩ := hpre
        have hrne : r ≠ [] := fun e => by rw [e] at hg; exact hne (List.append_eq_nil_iff.1 hg.symm).1
        have hd : g = [] ∨ ((L.walked m).alive m = false ∧ full (L.walked m).rest = true) := by
          by_cases hun : (L.walked m).unsure m = true
          · rcases hW with ⟨k, _⟩ | ⟨k, e⟩
            · exact absurd ⟨hun, k⟩ c2
            · left
              rw [hre] at e
              rw [e] at hg
              have := congrArg List.length hg
              rw [List.length_append] at this
              exact List.eq_nil_of_length_eq_zero (by omega)
          · right
            unfold Live.unsure at hun
            simpa using hun
        obtain ⟨e1, e2, e3, e4⟩ := cut_canon m hm hu (L.walked m) r g hg hwk hd
        have hle : tokSz m r ≤ L.rest.length := by
          have := tokSz_le m hm r
          rcases hd with rfl | hd
          · rw [hg] at this ⊢; simpa using this
          · rw [← e2]
            unfold Live.size
            split
            · exact dec_le _
            · rw [hwk]; have := wkOf_ok m hm L.rest; exact Nat.le_trans this.2.1 this.1
        refine .inr ⟨hrne, (L.walked m).cutT, by rw [e1]; rfl, ?_, cutT_cap (L.walked m), rfl, e3⟩
        unfold Live.Has
        rw [cutT_stop, cutT_src, e4, hre]
        rcases hW with ⟨g1, g2, g3⟩ | ⟨g1, g3⟩
        · exact .inl ⟨g1, g2, by rw [← List.drop_append_of_le_length hle]; exact congrArg (List.drop (tokSz m r)) g3⟩
        · exact .inr ⟨g1, congrArg (List.drop (tokSz m r)) g3⟩
/-- Two scanners of one text: the second with less room, that suffices. -/
theorem allT_same (m : Mach) (hm : m.Ok) (hu : m.Up) (hal : ∀ most k s, (askN most k s).1.1.length ≤ most) (long : Nat) : ∀ (n : Nat) (L M : Live) (r : Bs), L.Has r → M.Has r → L.On m → M.On m → L.pos = M.pos → r.length < L.cap → 4 ≤ L.cap → 4 ≤ M.cap → (∀ r', r'.length ≤ r.length → tokSz m r' ≤ long → Fits m r' M.cap) →
    (∀ t ∈ (allT m n L).1, t.text.length ≤ long) → allT m n M = allT m n L
  | 0, _, _, _, _, _, _, _, _, _, _, _, _, _ => rfl
  | n + 1, L, M, r, hL, hM, oL, oM, hp, hc, hc4, hm4, hF, hlong => by
    rcases nextT_canon m hm hu hal (L.nf + 1) L r hL oL (fits_of_lt m hc) hc4 (Nat.lt_succ_self _) with ⟨rfl, g⟩ | ⟨hne, L', g, k1, k2, k3, k4⟩
    · rcases nextT_canon m hm hu hal (M.nf + 1) M [] hM oM (fits_of_lt m (by simp; omega)) hm4 (Nat.lt_succ_self _) with ⟨_, g'⟩ | ⟨hne, _⟩
      · rw [allT_err (L := L) g, allT_err (L := M) g']
      · exact absurd rfl hne
    · have g0 : allT m (n + 1) L = _ := allT_tok (n := n) g
      rw [g0] at hlong
      have hsz : tokSz m r ≤ long := by
        have := hlong _ (List.mem_cons_self)
        unfold tokAt at this
        dsimp only at this
        rw [List.length_take, Nat.min_eq_left (tokSz_le m hm r)] at this
        exact this
      rcases nextT_canon m hm hu hal (M.nf + 1) M r hM oM (hF r (Nat.le_refl _) hsz) hm4 (Nat.lt_succ_self _) with ⟨e, _⟩ | ⟨_, M', g', q1, q2, q3, q4⟩
      · exact absurd e hne
      · rw [g0, allT_tok (n := n) g']
        have := allT_same m hm hu hal long n L' M' (r.drop (tokSz m r)) k1 q1 (on_zero k3) (on_zero q3) (by rw [k4, q4, hp]) (by rw [List.length_drop, k2]; omega) (by rw [k2]; exact hc4) (by rw [q2]; exact hm4)
          (fun r' h1 h2 => by rw [q2]; exact hF r' (by rw [List.length_drop] at h1; omega) h2) (fun t ht => hlong t (List.mem_cons_of_mem _ ht))
        rw [this, hp]
end Go.Proofs.YtlhokghgicgppaaGreatDoor.Sg

namespace Go.Proofs.YtlhokghgicgppaaGreatDoor
open Go.RowKit Go.Extern

/-- Whether tables can be walked through, by reckoning. -/
def Sg.okB (m : Sg.Mach) : Bool :=
  decide (0 < m.cuts.length) && decide (m.cuts.length < 1000000000) && decide (0 < m.states.length) && decide (m.states.length < 1000000000) &&
  m.cuts.all (fun c => decide (0 ≤ c.2)) &&
  m.states.all (fun s => decide (s.2.length < 1000000000) && m.cuts.all (fun c => decide (c.2 < (s.2.length : Int))) && s.2.all (fun n => decide (n = -1) || (decide (0 ≤ n) && decide (n < (m.states.length : Int)))))
theorem Sg.state_at {m : Sg.Mach} {s : Nat} (h : s < m.states.length) : m.states.getD s (0, []) = m.states[s] := by rw [List.getD_eq_getElem?_getD, List.getElem?_eq_getElem h]; rfl
theorem Sg.okM_of {m : Sg.Mach} (h : Sg.okB m = true) : m.Ok := by
  unfold Sg.okB at h
  simp only [Bool.and_eq_true, decide_eq_true_eq, List.all_eq_true, Bool.or_eq_true] at h
  obtain ⟨⟨⟨⟨⟨h1, h2⟩, h3⟩, h4⟩, h5⟩, h6⟩ := h
  refine ⟨h1, h2, fun i hi => ?_, fun i hi s hs => ?_, fun s hs k hk => ?_, h3, h4, fun s hs => ?_⟩
  · rw [Sg.kind_at hi]; exact h5 _ (List.getElem_mem _)
  · rw [Sg.kind_at hi]
    unfold Sg.Mach.width
    rw [Sg.state_at hs]
    exact (h6 _ (List.getElem_mem _)).1.2 _ (List.getElem_mem _)
  · unfold Sg.Mach.width at hk
    rw [Sg.state_at hs] at hk
    unfold Sg.Mach.next
    rw [Sg.state_at hs, List.getD_eq_getElem?_getD, List.getElem?_eq_getElem hk]
    exact (h6 _ (List.getElem_mem _)).2 _ (List.getElem_mem _)
  · unfold Sg.Mach.width
    rw [Sg.state_at hs]
    exact (h6 _ (List.getElem_mem _)).1.1
def Sg.upB : List (Int × Int) → Bool
  | [] => true
  | [_] => true
  | a :: b :: r => decide (a.1 < b.1) && Sg.upB (b :: r)
theorem Sg.upB_spec : ∀ (l : List (Int × Int)), Sg.upB l = true → l.Pairwise (fun a b => a.1 < b.1)
  | [], _ => List.Pairwise.nil
  | [a], _ => List.pairwise_singleton _ _
  | a :: b :: r, h => by
    unfold Sg.upB at h
    rw [Bool.and_eq_true, decide_eq_true_eq] at h
    have ih := Sg.upB_spec (b :: r) h.2
    refine List.pairwise_cons.2 ⟨fun x hx => ?_, ih⟩
    rcases List.mem_cons.1 hx with rfl | hx
    · exact h.1
    · have := (List.pairwise_cons.1 ih).1 x hx; omega
theorem Sg.up_of {m : Sg.Mach} (h : Sg.upB m.cuts = true) (h0 : Sg.lowAt m.cuts 0 = 0) : m.Up := ⟨Sg.upB_spec _ h, h0⟩
def compB (rules : List Sg.Bs) : Option Sg.Mach :=
  if decide (1 ≤ rules.length) && decide (rules.length ≤ 8) && rules.all (fun s => decide (s.length ≤ 60) && cleanR s) then
    match Sg.readAllT rules 0 0 [] with
    | .error _ => none
    | .ok ts =>
      let lo := Sg.layAll ts
      let k := Sg.kindRows lo
      if ts.all (Sg.altOk 100) && rgOk lo && decide (lo.last.length ≤ 8) && decide (k.2.length < 1000000) && decide (0 < k.1.length) then
        match Sg.rowsGo lo k.2 202 0 [] [] with
        | none => none
        | some q => if Sg.okB (Sg.machOf lo q.1 q.2) then some (Sg.machOf lo q.1 q.2) else none
      else none
  else none
theorem comp_of {rules : List Sg.Bs} {m : Sg.Mach} (h : compB rules = some m) : CompOk rules m := by
  unfold compB at h
  split at h
  · rename_i h1
    split at h
    · cases h
    · rename_i ts hts
      dsimp only at h
      split at h
      · rename_i h2
        split at h
        · cases h
        · rename_i q hq
          split at h
          · rename_i hok
            cases h
            simp only [Bool.and_eq_true, decide_eq_true_eq, List.all_eq_true] at h1 h2
            exact ⟨h1.1.1, h1.1.2, fun s hs => (h1.2 s hs).1, fun s hs => (h1.2 s hs).2, ⟨ts, q.1, q.2, hts, h2.1.1.1.1, h2.1.1.1.2, h2.1.1.2, h2.1.2, h2.2, hq, rfl⟩, Sg.okM_of hok⟩
          · cases h
      · cases h
  · cases h
end Go.Proofs.YtlhokghgicgppaaGreatDoor

namespace Go.Proofs.YtlhokghgicgppaaGreatDoor.Sg
open Go

/-! ### which rule -/
def RuleIn (n : Nat) (k : Wk) : Prop := (k.rule = -1 ∧ k.length = 0) ∨ (0 ≤ k.rule ∧ k.rule < (n : Int))
theorem stepW_rule {m : Mach} {n : Nat} (hr : ∀ s, -1 ≤ m.rule s ∧ m.rule s < (n : Int)) {k : Wk} (h : RuleIn n k) (t : Bs) : RuleIn n (stepW m k t) := by
  unfold stepW
  split
  · exact h
  · dsimp only
    split
    · exact h
    · split
      · exact h
      · rename_i g
        have := hr (m.after k.state.toNat (dec t).1).toNat
        refine .inr ⟨?_, this.2⟩
        show 0 ≤ m.rule _
        omega
theorem walkTo_rule {m : Mach} {n : Nat} (hr : ∀ s, -1 ≤ m.rule s ∧ m.rule s < (n : Int)) (t : Bs) : ∀ (f : Nat) (k : Wk), RuleIn n k → RuleIn n (walkTo m t f k)
  | 0, _, h => h
  | f + 1, k, h => by
    unfold walkTo
    split
    · exact walkTo_rule hr t f _ (stepW_rule hr h _)
    · exact h
theorem wkOf_rule {m : Mach} {n : Nat} (hr : ∀ s, -1 ≤ m.rule s ∧ m.rule s < (n : Int)) (t : Bs) : RuleIn n (wkOf m t) := walkTo_rule hr t _ _ (.inl ⟨rfl, rfl⟩)
theorem dec_four (t : Bs) : (dec t).2 ≤ 4 := by
  rcases t with _ | ⟨a, t⟩
  · exact Nat.le_trans (dec_le []) (by simp)
  · by_cases h : (dec (a :: t)).1 = 65533 ∧ (dec (a :: t)).2 = 1
    · omega
    · rw [dec_len (by simp) h]; unfold scLen; split <;> (try split) <;> (try split) <;> omega
theorem tok_rule {m : Mach} {n : Nat} (hr : ∀ s, -1 ≤ m.rule s ∧ m.rule s < (n : Int)) (r : Bs) : -1 ≤ tokRl m r ∧ tokRl m r < (n : Int) ∧ (tokRl m r < 0 → tokSz m r ≤ 4) := by
  unfold tokRl tokSz
  rcases wkOf_rule hr r with ⟨h1, h2⟩ | ⟨h1, h2⟩
  · refine ⟨by omega, ?_, fun _ => ?_⟩
    · have := hr 0; omega
    · rw [if_pos h2]; exact dec_four r
  · exact ⟨by omega, h2, fun h => by omega⟩

/-! ### all of them -/
def canonT (m : Mach) : Nat → Pos → Bs → List Tok
  | 0, _, _ => []
  | n + 1, p, r => if r = [] then [] else tokAt m p r :: canonT m n (passP p (r.take (tokSz m r))) (r.drop (tokSz m r))
theorem allT_canon (m : Mach) (hm : m.Ok) (hu : m.Up) (hal : ∀ most k s, (askN most k s).1.1.length ≤ most) : ∀ (n : Nat) (L : Live) (r : Bs), L.Has r → L.On m → r.length < L.cap → 4 ≤ L.cap → r.length < n →
    allT m n L = (canonT m n L.pos r, some 13)
  | 0, _, _, _, _, _, _, h => absurd h (Nat.not_lt_zero _)
  | n + 1, L, r, hL, oL, hc, hc4, hn => by
    rcases nextT_canon m hm hu hal (L.nf + 1) L r hL oL (fits_of_lt m hc) hc4 (Nat.lt_succ_self _) with ⟨rfl, g⟩ | ⟨hne, L', g, k1, k2, k3, k4⟩
    · rw [allT_err (L := L) g]; simp [canonT]
    · have g0 : allT m (n + 1) L = _ := allT_tok (n := n) g
      have hp := tokSz_pos m r hne
      have hle := tokSz_le m hm r
      rw [g0, allT_canon m hm hu hal n L' (r.drop (tokSz m r)) k1 (on_zero k3) (by rw [List.length_drop, k2]; omega) (by rw [k2]; exact hc4) (by rw [List.length_drop]; omega), k4]
      simp only [canonT, if_neg hne]
/-- Tokens that make up a text behind 'at', from a line and a column on. -/
def Lined (nr : Nat) (text : Bs) : Nat → Int → List Tok → Prop
  | at_, _, [] => at_ = text.length
  | at_, line, t :: l => t.text ≠ [] ∧ t.at_ = at_ ∧ at_ + t.text.length ≤ text.length ∧ (text.drop at_).take t.text.length = t.text ∧ t.line = line ∧ 1 ≤ t.col ∧ -1 ≤ t.rule ∧ t.rule < (nr : Int) ∧ (t.rule < 0 → t.text.length ≤ 4) ∧
      Lined nr text (at_ + t.text.length) (line + Lib.countByte t.text 10) l
theorem passP_1 (p : Pos) (t : Bs) : (passP p t).1 = p.1 + t.length := by unfold passP; split <;> rfl
theorem passP_2 (p : Pos) (t : Bs) : (passP p t).2.1 = p.2.1 + Lib.countByte t 10 := by
  unfold passP; split
  · rfl
  · rename_i h
    have : Lib.countByte t 10 = 0 := by omega
    rw [this]; simp
theorem passP_3 (p : Pos) (t : Bs) (h : 1 ≤ p.2.2) : 1 ≤ (passP p t).2.2 := by
  unfold passP; split
  · show (1 : Int) ≤ 1 + _; omega
  · show (1 : Int) ≤ p.2.2 + _; omega
theorem lined_canon (m : Mach) (hm : m.Ok) (nr : Nat) (hr : ∀ s, -1 ≤ m.rule s ∧ m.rule s < (nr : Int)) (text : Bs) : ∀ (n : Nat) (p : Pos) (at_ : Nat), p.1 = at_ → at_ ≤ text.length → 1 ≤ p.2.2 → text.length - at_ < n → Lined nr text at_ p.2.1 (canonT m n p (text.drop at_))
  | 0, _, _, _, _, _, h => absurd h (Nat.not_lt_zero _)
  | n + 1, p, at_, h1, h2, h3, h4 => by
    unfold canonT
    split
    · rename_i h
      have := congrArg List.length h
      rw [List.length_drop, List.length_nil] at this
      show at_ = text.length
      omega
    · rename_i hne
      have hp := tokSz_pos m _ hne
      have hle := tokSz_le m hm (text.drop at_)
      have hl := List.length_drop (i := at_) (l := text)
      have ht : (tokAt m p (text.drop at_)).text = (text.drop at_).take (tokSz m (text.drop at_)) := rfl
      have htl : ((text.drop at_).take (tokSz m (text.drop at_))).length = tokSz m (text.drop at_) := by rw [List.length_take]; omega
      have hrl := tok_rule hr (text.drop at_)
      refine ⟨?_, h1, ?_, ?_, rfl, h3, hrl.1, hrl.2.1, ?_, ?_⟩
      · rw [ht]; intro e; rw [e] at htl; simp at htl; omega
      · rw [ht, htl]; omega
      · rw [ht, htl]
      · rw [ht, htl]; exact hrl.2.2
      · have := lined_canon m hm nr hr text n (passP p ((text.drop at_).take (tokSz m (text.drop at_)))) (at_ + tokSz m (text.drop at_)) (by rw [passP_1, htl, h1]; simp) (by omega) (passP_3 _ _ h3) (by omega)
        rw [passP_2] at this
        rw [ht, htl, List.drop_drop]
        exact this
end Go.Proofs.YtlhokghgicgppaaGreatDoor.Sg

namespace Go.Proofs.YtlhokghgicgppaaGreatDoor
open Go.RowKit Go.Extern

def rulesL : Nat → List Sg.Bs
  | 0 => [[91, 97, 45, 122, 93, 43], [91, 48, 45, 57, 93, 43], [32, 43]]
  | 1 => [[97], [97, 98], [97, 98, 99, 42, 100]]
  | 2 => [[91, 94, 92, 117, 123, 48, 125, 45, 92, 117, 123, 55, 102, 125, 93, 43], [46], [92, 110]]
  | 3 => [[47, 92, 42, 40, 91, 94, 42, 93, 124, 92, 42, 43, 91, 94, 42, 47, 93, 41, 42, 92, 42, 43, 47], [47], [91, 97, 98, 42, 93]]
  | 4 => [[40, 97, 98, 41, 123, 50, 44, 51, 125], [195, 169, 123, 50, 125], [120, 63, 121]]
  | 5 => [[92, 117, 123, 49, 70, 54, 48, 48, 125, 43, 124, 92, 117, 123, 50, 48, 65, 67, 125], [97, 92, 117, 123, 49, 70, 54, 48, 48, 125, 98]]
  | 6 => [[97, 123, 48, 44, 56, 125, 98], [97]]
  | _ => [[105, 102, 124, 101, 108, 115, 101], [91, 97, 45, 122, 93, 91, 97, 45, 122, 48, 45, 57, 93, 42], [91, 48, 45, 57, 93, 43, 40, 92, 46, 91, 48, 45, 57, 93, 43, 41, 63], [92, 110, 124, 92, 116, 124, 32]]
def machAB : Sg.Mach := ⟨[(0, 0), (97, 1), (98, 2), (99, 0)], [(-1, [-1, 1, 2]), (0, [-1, -1, -1]), (1, [-1, -1, -1])]⟩
def machL : Nat → Sg.Mach
  | 0 => ⟨[(0, 0), (32, 1), (33, 0), (48, 2), (58, 0), (97, 3), (123, 0)], [(-1, [-1, 1, 2, 3]), (2, [-1, 1, -1, -1]), (1, [-1, -1, 2, -1]), (0, [-1, -1, -1, 3])]⟩
  | 1 => ⟨[(0, 0), (97, 1), (98, 2), (99, 3), (100, 4), (101, 0)], [(-1, [-1, 1, -1, -1, -1]), (0, [-1, -1, 2, -1, -1]), (1, [-1, -1, -1, 3, 4]), (-1, [-1, -1, -1, 3, 4]), (2, [-1, -1, -1, -1, -1])]⟩
  | 2 => ⟨[(0, 0), (10, 1), (11, 0), (128, 2), (55296, 3), (57344, 2), (1114112, 3)], [(-1, [1, 2, 3, -1]), (1, [-1, -1, -1, -1]), (2, [-1, -1, -1, -1]), (0, [-1, -1, 4, -1]), (0, [-1, -1, 4, -1])]⟩
  | 3 => ⟨[(0, 0), (42, 1), (43, 0), (47, 2), (48, 0), (97, 3), (99, 0), (55296, 4), (57344, 0), (1114112, 4)], [(-1, [-1, 1, 2, 1, -1]), (2, [-1, -1, -1, -1, -1]), (1, [-1, 3, -1, -1, -1]), (-1, [4, 5, 4, 4, -1]), (-1, [4, 5, 4, 4, -1]), (-1, [6, 5, 7, 6, -1]), (-1, [4, 5, 4, 4, -1]), (0, [-1, -1, -1, -1, -1])]⟩
  | 4 => ⟨[(0, 0), (97, 1), (98, 2), (99, 0), (120, 3), (121, 4), (122, 0), (233, 5), (234, 0)], [(-1, [-1, 1, -1, 2, 3, 4]), (-1, [-1, -1, 5, -1, -1, -1]), (-1, [-1, -1, -1, -1, 3, -1]), (2, [-1, -1, -1, -1, -1, -1]), (-1, [-1, -1, -1, -1, -1, 6]), (-1, [-1, 7, -1, -1, -1, -1]), (1, [-1, -1, -1, -1, -1, -1]), (-1, [-1, -1, 8, -1, -1, -1]), (0, [-1, 9, -1, -1, -1, -1]), (-1, [-1, -1, 10, -1, -1, -1]), (0, [-1, -1, -1, -1, -1, -1])]⟩
  | 5 => ⟨[(0, 0), (97, 1), (98, 2), (99, 0), (8364, 3), (8365, 0), (128512, 4), (128513, 0)], [(-1, [-1, 1, -1, 2, 3]), (-1, [-1, -1, -1, -1, 4]), (0, [-1, -1, -1, -1, -1]), (0, [-1, -1, -1, -1, 3]), (-1, [-1, -1, 5, -1, -1]), (1, [-1, -1, -1, -1, -1])]⟩
  | 6 => ⟨[(0, 0), (97, 1), (98, 2), (99, 0)], [(-1, [-1, 1, 2]), (1, [-1, 3, 2]), (0, [-1, -1, -1]), (-1, [-1, 4, 2]), (-1, [-1, 5, 2]), (-1, [-1, 6, 2]), (-1, [-1, 7, 2]), (-1, [-1, 8, 2]), (-1, [-1, 9, 2]), (-1, [-1, -1, 2])]⟩
  | _ => ⟨[(0, 0), (9, 1), (10, 2), (11, 0), (32, 3), (33, 0), (46, 4), (47, 0), (48, 5), (58, 0), (97, 6), (101, 7), (102, 8), (103, 6), (105, 9), (106, 6), (108, 10), (109, 6), (115, 11), (116, 6), (123, 0)], [(-1, [-1, 1, 2, 3, -1, 4, 5, 6, 5, 7, 5, 5]), (3, [-1, -1, -1, -1, -1, -1, -1, -1, -1, -1, -1, -1]), (3, [-1, -1, -1, -1, -1, -1, -1, -1, -1, -1, -1, -1]), (3, [-1, -1, -1, -1, -1, -1, -1, -1, -1, -1, -1, -1]), (2, [-1, -1, -1, -1, 8, 4, -1, -1, -1, -1, -1, -1]), (1, [-1, -1, -1, -1, -1, 9, 9, 9, 9, 9, 9, 9]), (1, [-1, -1, -1, -1, -1, 9, 9, 9, 9, 9, 10, 9]), (1, [-1, -1, -1, -1, -1, 9, 9, 9, 11, 9, 9, 9]), (-1, [-1, -1, -1, -1, -1, 12, -1, -1, -1, -1, -1, -1]), (1, [-1, -1, -1, -1, -1, 9, 9, 9, 9, 9, 9, 9]), (1, [-1, -1, -1, -1, -1, 9, 9, 9, 9, 9, 9, 13]), (0, [-1, -1, -1, -1, -1, 9, 9, 9, 9, 9, 9, 9]), (2, [-1, -1, -1, -1, -1, 12, -1, -1, -1, -1, -1, -1]), (1, [-1, -1, -1, -1, -1, 9, 9, 14, 9, 9, 9, 9]), (0, [-1, -1, -1, -1, -1, 9, 9, 9, 9, 9, 9, 9])]⟩
set_option maxRecDepth 100000 in
theorem comp_ab : compB [[97], [98]] = some machAB := by kernel_rfl
set_option maxRecDepth 100000 in
theorem comp_l : ∀ c, c < 8 → compB (rulesL c) = some (machL c)
  | 0, _ => by kernel_rfl
  | 1, _ => by kernel_rfl
  | 2, _ => by kernel_rfl
  | 3, _ => by kernel_rfl
  | 4, _ => by kernel_rfl
  | 5, _ => by kernel_rfl
  | 6, _ => by kernel_rfl
  | 7, _ => by kernel_rfl
  | _ + 8, h => by omega
theorem rules_l : ∀ c, c < 8 → (rulesL c).length = (match c with | 5 => 2 | 6 => 2 | 7 => 4 | _ => 3)
  | 0, _ => rfl
  | 1, _ => rfl
  | 2, _ => rfl
  | 3, _ => rfl
  | 4, _ => rfl
  | 5, _ => rfl
  | 6, _ => rfl
  | 7, _ => rfl
  | _ + 8, h => by omega
set_option maxRecDepth 100000 in
theorem up_l : ∀ c, c < 8 → (machL c).Up
  | 0, _ => Sg.up_of (by kernel_rfl) (by kernel_rfl)
  | 1, _ => Sg.up_of (by kernel_rfl) (by kernel_rfl)
  | 2, _ => Sg.up_of (by kernel_rfl) (by kernel_rfl)
  | 3, _ => Sg.up_of (by kernel_rfl) (by kernel_rfl)
  | 4, _ => Sg.up_of (by kernel_rfl) (by kernel_rfl)
  | 5, _ => Sg.up_of (by kernel_rfl) (by kernel_rfl)
  | 6, _ => Sg.up_of (by kernel_rfl) (by kernel_rfl)
  | 7, _ => Sg.up_of (by kernel_rfl) (by kernel_rfl)
  | _ + 8, h => by omega
/-- Every state's rule is -1 or one of the list's. -/
def ruleB (m : Sg.Mach) (n : Nat) : Bool := m.states.all fun s => decide (-1 ≤ s.1) && decide (s.1 < (n : Int))
set_option maxRecDepth 100000 in
theorem rule_l : ∀ c, c < 8 → ruleB (machL c) (rulesL c).length = true
  | 0, _ => by kernel_rfl
  | 1, _ => by kernel_rfl
  | 2, _ => by kernel_rfl
  | 3, _ => by kernel_rfl
  | 4, _ => by kernel_rfl
  | 5, _ => by kernel_rfl
  | 6, _ => by kernel_rfl
  | 7, _ => by kernel_rfl
  | _ + 8, h => by omega
end Go.Proofs.YtlhokghgicgppaaGreatDoor

namespace Go.Proofs.YtlhokghgicgppaaGreatDoor
open Go.RowKit Go.Extern

def pickT (c n : Int) : Int := (if c < 0 then -(c + 1) else c) % n
def InI64 (c : Int) : Prop := -9223372036854775808 ≤ c ∧ c ≤ 9223372036854775807
theorem pickT_range (c n : Int) (hn : 0 < n) : 0 ≤ pickT c n ∧ pickT c n < n := ⟨Int.emod_nonneg _ (by omega), Int.emod_lt_of_pos _ hn⟩
set_option maxRecDepth 100000 in
set_option maxHeartbeats 1000000 in
theorem pick_any (c n : Int) (hc : InI64 c) (hn : 0 < n) (hn2 : n ≤ 9223372036854775807) (w : World) :
    Calls Tryz.prog 20 #[.int .i64 c, .int .i64 n] w fun e w' => e = .returned (.int .i64 (pickT c n)) ∧ w' = w := by
  obtain ⟨h1, h2⟩ := hc
  have hn0 : ¬ n = 0 := by omega
  by_cases hc0 : c < 0
  · have hw1 : wrap64 (c + 1) = c + 1 := by unfold wrap64; omega
    have hw2 : wrap64 (-(c + 1)) = -(c + 1) := by unfold wrap64; omega
    go_enter Tryz.func20, Tryz.ntmps20
    go_wp2
    go_ret
    refine ⟨?_, rfl⟩
    have e : -(c + 1).tmod n = pickT c n := by unfold pickT; rw [if_pos hc0, ← Int.neg_tmod, Int.tmod_eq_emod_of_nonneg (by omega)]
    rw [← e]; rfl
  · go_enter Tryz.func20, Tryz.ntmps20
    go_wp2
    go_ret
    refine ⟨?_, rfl⟩
    have e : c % n = pickT c n := by unfold pickT; rw [if_neg (by omega)]
    rw [← e]; rfl
theorem row_lit (w : World) (l : List Value) (t : TypeId) : RowAt 1 (w.alloc (.cells l.toArray t)) (some ⟨w.heap.size, 0, none⟩) l.length l.length l := by
  refine ⟨by omega, .inr ⟨w.heap.size, 0, rfl, Nat.le_refl _, fun j v hj => ?_, fun j hj => ?_, by simp, fun j => World.frozen?_alloc_at _ _ _ _ rfl⟩⟩
  · rw [World.cell?_alloc_at _ _ _ _ rfl, Nat.zero_add, ← hj]; simp
  · rw [World.cell?_alloc_at _ _ _ _ rfl, Nat.zero_add]
    have : j < l.length := by omega
    simp [this]
set_option maxRecDepth 100000 in
set_option maxHeartbeats 1000000 in
theorem rules_any (c : Int) (hc : InI64 c) (k : Nat) (hk : pickT c 8 = k) (w : World) :
    Calls Tryz.prog 19 #[.int .i64 c] w fun e w' => ∃ ra rc, e = .returned (.slice ra (rulesL k).length rc) ∧ RowAt 1 w' ra rc (rulesL k).length ((rulesL k).map rlV) ∧ Below w.heap.size w w' := by
  have hk8 : k < 8 := by have := pickT_range c 8 (by omega); omega
  have HP := hide2 (fun W => pick_any c 8 hc (by omega) (by omega) W)
  rw [hk] at HP
  clear hk
  match k, hk8 with
  | 0, _ =>
    go_enter Tryz.func19, Tryz.ntmps19
    go_wp2_with (go_at_call 20; refine (HP.out _).mono ?_; rintro e w1 ⟨rfl, rfl⟩)
    go_ret
    exact ⟨_, _, rfl, row_lit w1 ((rulesL 0).map rlV) 9, blw1' w1 _⟩
  | 1, _ =>
    go_enter Tryz.func19, Tryz.ntmps19
    go_wp2_with (go_at_call 20; refine (HP.out _).mono ?_; rintro e w1 ⟨rfl, rfl⟩)
    go_ret
    exact ⟨_, _, rfl, row_lit w1 ((rulesL 1).map rlV) 9, blw1' w1 _⟩
  | 2, _ =>
    go_enter Tryz.func19, Tryz.ntmps19
    go_wp2_with (go_at_call 20; refine (HP.out _).mono ?_; rintro e w1 ⟨rfl, rfl⟩)
    go_ret
    exact ⟨_, _, rfl, row_lit w1 ((rulesL 2).map rlV) 9, blw1' w1 _⟩
  | 3, _ =>
    go_enter Tryz.func19, Tryz.ntmps19
    go_wp2_with (go_at_call 20; refine (HP.out _).mono ?_; rintro e w1 ⟨rfl, rfl⟩)
    go_ret
    exact ⟨_, _, rfl, row_lit w1 ((rulesL 3).map rlV) 9, blw1' w1 _⟩
  | 4, _ =>
    go_enter Tryz.func19, Tryz.ntmps19
    go_wp2_with (go_at_call 20; refine (HP.out _).mono ?_; rintro e w1 ⟨rfl, rfl⟩)
    go_ret
    exact ⟨_, _, rfl, row_lit w1 ((rulesL 4).map rlV) 9, blw1' w1 _⟩
  | 5, _ =>
    go_enter Tryz.func19, Tryz.ntmps19
    go_wp2_with (go_at_call 20; refine (HP.out _).mono ?_; rintro e w1 ⟨rfl, rfl⟩)
    go_ret
    exact ⟨_, _, rfl, row_lit w1 ((rulesL 5).map rlV) 9, blw1' w1 _⟩
  | 6, _ =>
    go_enter Tryz.func19, Tryz.ntmps19
    go_wp2_with (go_at_call 20; refine (HP.out _).mono ?_; rintro e w1 ⟨rfl, rfl⟩)
    go_ret
    exact ⟨_, _, rfl, row_lit w1 ((rulesL 6).map rlV) 9, blw1' w1 _⟩
  | 7, _ =>
    go_enter Tryz.func19, Tryz.ntmps19
    go_wp2_with (go_at_call 20; refine (HP.out _).mono ?_; rintro e w1 ⟨rfl, rfl⟩)
    go_ret
    exact ⟨_, _, rfl, row_lit w1 ((rulesL 7).map rlV) 9, blw1' w1 _⟩
  | _ + 8, h => omega
end Go.Proofs.YtlhokghgicgppaaGreatDoor
