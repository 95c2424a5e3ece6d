/- slices.Max at ints; (*Machine).Bound; (*Tables).Bound. -/
/- The bounds of the eight machines. -/
import Derived.Test.YtlhokghgicgppaaGreatDoorBoundC
import Derived.Laws.EntriesVeiled
import Derived.Test.YtlhokghgicgppaaGreatDoorBoundB
set_option linter.unusedSimpArgs false
set_option linter.unusedVariables false
namespace Go.Proofs.YtlhokghgicgppaaGreatDoor
open Go.RowKit Go.Extern

def maxT (l : List Int) : Int := (l.drop 1).foldl max (l.getD 0 0)
set_option maxRecDepth 100000 in
set_option maxHeartbeats 2000000 in
theorem maxI_any (w0 W : World) (b : Nat) (l : List Int) (h : IA w0 W b l) (h1 : 1 ≤ l.length) (hN : l.length < 1000000000) :
    Calls Tryz.prog 70 #[.slice (some ⟨b, 0, none⟩) l.length l.length] W fun e w' => e = .returned (.int .i64 (maxT l)) ∧ w' = W := by
  have c0 := h.cell 0 h1
  have H := hide2 h
  have HM := hide2 (show maxT l = (l.drop 1).foldl max (l.getD 0 0) from rfl)
  clear h
  generalize maxT l = mx at *
  generalize l.getD 0 0 = x0 at *
  go_enter Tryz.func70, Tryz.ntmps70
  go_wp2
  go_loopw [3, 4] (fun mv iv wr => wr = W ∧ ∃ (i : Nat) (y : Int), iv = .int .i64 i ∧ mv = .int .i64 y ∧ i ≤ l.length ∧ 1 ≤ i ∧ Hid (mx = (l.drop i).foldl max y)) (fun _ iv _ => l.length - (intOf iv).toNat)
  case atStart => exact ⟨rfl, 1, x0, rfl, rfl, h1, Nat.le_refl _, HM⟩
  case round =>
    clear HM c0
    obtain ⟨rfl, i, y, rfl, rfl, hi, hi1, HY⟩ := hrel
    by_cases hlt : i < l.length
    · have c := H.out.cell i hlt
      have hd : l.drop i = l.getD i 0 :: l.drop (i + 1) := by
        rw [List.drop_eq_getElem_cons hlt, List.getD_eq_getElem?_getD, List.getElem?_eq_getElem hlt]; rfl
      have hy := HY.out
      rw [hd, List.foldl_cons] at hy
      have HY2 := hide2 hy
      clear hy hd HY
      generalize l.getD i 0 = z at *
      go_wp2
      go_roundw
      case rel => exact ⟨trivial, i + 1, _, by go_num, rfl, by omega, by omega, HY2⟩
      case measure => simp [intOf]; omega
    · have hd : l.drop i = [] := List.drop_of_length_le (by omega)
      have hy := HY.out
      rw [hd] at hy
      have hy : mx = y := hy
      subst hy
      go_wp2
      go_ret
      exact ⟨rfl, rfl⟩

theorem foldl_max_le (B : Int) : ∀ (l : List Int) (x : Int), 0 ≤ x → x ≤ B → (∀ y ∈ l, 0 ≤ y ∧ y ≤ B) → 0 ≤ l.foldl max x ∧ l.foldl max x ≤ B
  | [], x, h1, h2, _ => ⟨h1, h2⟩
  | y :: l, x, h1, h2, h => foldl_max_le B l (max x y) (by have := h y List.mem_cons_self; omega) (by have := h y List.mem_cons_self; omega) (fun z hz => h z (List.mem_cons_of_mem _ hz))
theorem maxT_le (l : List Int) (B : Int) (_hB : 0 ≤ B) (h : ∀ i, 0 ≤ l.getD i 0 ∧ l.getD i 0 ≤ B) : 0 ≤ maxT l ∧ maxT l ≤ B := by
  refine foldl_max_le B _ _ (h 0).1 (h 0).2 (fun y hy => ?_)
  obtain ⟨i, hi⟩ := List.getElem?_of_mem (List.mem_of_mem_drop hy)
  have := h i
  rw [List.getD_eq_getElem?_getD, hi] at this
  exact this
def boundGo (m : Sg.Mach) (wd : List Int) (f : Nat) : List Nat → KM → Option Int
  | [], K => some (1 + maxT K.2)
  | s :: r, K =>
    match endsT m wd f s K with
    | none => none
    | some (false, _) => some (-1)
    | some (true, K') => boundGo m wd f r K'
def boundT (m : Sg.Mach) : Option Int := boundGo m (widthsT m) (m.states.length + 1) (List.range m.states.length) (List.replicate m.states.length 0, List.replicate m.states.length 0)
theorem IA.base {w0 w1 W : World} {b : Nat} {l : List Int} (h : IA w1 W b l) (hs : w0.heap.size ≤ w1.heap.size) : IA w0 W b l := ⟨h.cell, h.frz, Nat.le_trans hs h.new, h.lt⟩
theorem blw3 (w : World) (o1 o2 o3 : Obj) : Below w.heap.size w (((w.alloc o1).alloc o2).alloc o3) :=
  (((Below.refl _ _).alloc (Nat.le_refl _) o1).alloc (by simp) o2).alloc (by simp; omega) o3
theorem IA.below {w0 W W' : World} {b : Nat} {l : List Int} (h : IA w0 W b l) (hb : Below W.heap.size W W') : IA w0 W' b l := h.of (hb.block _ h.lt) hb.size
theorem env_start (w w1 : World) (m : Sg.Mach) (p : Nat) (hb : Below w.heap.size w w1) (hI : IA w w1 (w.heap.size + 1) (widthsT m)) (hc : w1.cell? ⟨w.heap.size, 0, none⟩ = some (.pointer (some ⟨p, 0, none⟩))) (hwl : (widthsT m).length = m.width 0 ∧ ∀ i, -1 ≤ (widthsT m).getD i 0 ∧ (widthsT m).getD i 0 ≤ 4) (v : EV) (hv : v = ⟨w1.heap.size + 1 + 1, w.heap.size, w1.heap.size, w1.heap.size + 1 + 1 + 1 + 1 + 1, w1.heap.size + 1 + 1 + 1 + 1, w1.heap.size + 1, w.heap.size + 1, w1.heap.size + 1 + 1 + 1, p⟩) :
    EnvAt w m v (widthsT m) ((((((w1.alloc (.cells #[.slice (some ⟨w.heap.size + 1, 0, none⟩) (m.width 0) (m.width 0)] 24)).alloc (.cells (madeCells #[.int .i64 0] m.states.length) 3)).alloc (.cells #[.slice (some ⟨w1.heap.size + 1, 0, none⟩) m.states.length m.states.length] 24)).alloc (.cells (madeCells #[.int .i64 0] m.states.length) 3)).alloc (.cells #[.slice (some ⟨w1.heap.size + 1 + 1 + 1, 0, none⟩) m.states.length m.states.length] 24)).alloc (.cells #[v.fn] 115)) (List.replicate m.states.length 0, List.replicate m.states.length 0) := by
  have hlt := hI.lt
  have hs0 := hb.size
  generalize hx1 : w1.alloc (.cells #[.slice (some ⟨w.heap.size + 1, 0, none⟩) (m.width 0) (m.width 0)] 24) = X1
  have b1 : Below w1.heap.size w1 X1 := by rw [← hx1]; exact blw1' w1 _
  have s1 : X1.heap.size = w1.heap.size + 1 := by rw [← hx1]; simp
  have a1 : X1.cell? ⟨w1.heap.size, 0, none⟩ = some (.slice (some ⟨w.heap.size + 1, 0, none⟩) (m.width 0) (m.width 0)) := by rw [← hx1]; exact cell_of' (heap_alloc_new w1 _) 0
  generalize hx2 : X1.alloc (.cells (madeCells #[.int .i64 0] m.states.length) 3) = X2
  have b2 : Below X1.heap.size X1 X2 := by rw [← hx2]; exact blw1' X1 _
  have s2 : X2.heap.size = X1.heap.size + 1 := by rw [← hx2]; simp
  have a2 : IA w X2 X1.heap.size (List.replicate m.states.length 0) := by rw [← hx2]; exact IA.made w X1 _ (by omega)
  generalize hx3 : X2.alloc (.cells #[.slice (some ⟨w1.heap.size + 1, 0, none⟩) m.states.length m.states.length] 24) = X3
  have b3 : Below X2.heap.size X2 X3 := by rw [← hx3]; exact blw1' X2 _
  have s3 : X3.heap.size = X2.heap.size + 1 := by rw [← hx3]; simp
  have a3 : X3.cell? ⟨X2.heap.size, 0, none⟩ = some (.slice (some ⟨w1.heap.size + 1, 0, none⟩) m.states.length m.states.length) := by rw [← hx3]; exact cell_of' (heap_alloc_new X2 _) 0
  generalize hx4 : X3.alloc (.cells (madeCells #[.int .i64 0] m.states.length) 3) = X4
  have b4 : Below X3.heap.size X3 X4 := by rw [← hx4]; exact blw1' X3 _
  have s4 : X4.heap.size = X3.heap.size + 1 := by rw [← hx4]; simp
  have a4 : IA w X4 X3.heap.size (List.replicate m.states.length 0) := by rw [← hx4]; exact IA.made w X3 _ (by omega)
  generalize hx5 : X4.alloc (.cells #[.slice (some ⟨w1.heap.size + 1 + 1 + 1, 0, none⟩) m.states.length m.states.length] 24) = X5
  have b5 : Below X4.heap.size X4 X5 := by rw [← hx5]; exact blw1' X4 _
  have s5 : X5.heap.size = X4.heap.size + 1 := by rw [← hx5]; simp
  have a5 : X5.cell? ⟨X4.heap.size, 0, none⟩ = some (.slice (some ⟨w1.heap.size + 1 + 1 + 1, 0, none⟩) m.states.length m.states.length) := by rw [← hx5]; exact cell_of' (heap_alloc_new X4 _) 0
  generalize hx6 : X5.alloc (.cells #[v.fn] 115) = X6
  have b6 : Below X5.heap.size X5 X6 := by rw [← hx6]; exact blw1' X5 _
  have a6 : X6.cell? ⟨X5.heap.size, 0, none⟩ = some v.fn := by rw [← hx6]; exact cell_of' (heap_alloc_new X5 _) 0
  have b56 := b5.trans (b6.mono b5.size)
  have b46 := b4.trans (b56.mono b4.size)
  have b36 := b3.trans (b46.mono b3.size)
  have b26 := b2.trans (b36.mono b2.size)
  have b16 := b1.trans (b26.mono b1.size)
  have hrep : ∀ i, (List.replicate m.states.length (0 : Int)).getD i 0 = 0 := fun i => by rw [List.getD_eq_getElem?_getD, List.getElem?_replicate]; split <;> rfl
  rw [hv]
  rw [s1] at a2 s2
  rw [s2] at a3 s3
  rw [s3] at a4 s4
  rw [s4] at a5 s5
  rw [s5] at a6
  rw [hv] at a6
  refine ⟨a2.below b36, a4.below b56, hI.below b16, List.length_replicate, List.length_replicate, hwl.1, below_keep b46 a3, below_keep b16 hc, below_keep b26 a1, a6, below_keep b6 a5, ⟨?_, ?_, ?_, ?_⟩, hb.trans (b16.mono hb.size), fun i => ?_, hwl.2⟩
  · show w1.heap.size + 1 ≠ w1.heap.size + 1 + 1 + 1; omega
  · show w1.heap.size + 1 ≠ w.heap.size + 1; omega
  · show w1.heap.size + 1 + 1 + 1 ≠ w.heap.size + 1; omega
  · intro x hx
    show x ≠ w1.heap.size + 1 ∧ x ≠ w1.heap.size + 1 + 1 + 1
    dsimp only at hx
    omega
  · dsimp only; rw [hrep]; omega
set_option maxRecDepth 100000 in
theorem machBound_any (m : Sg.Mach) (hm : m.Ok) (hlow : ∀ i, i < m.cuts.length → 0 ≤ Sg.lowAt m.cuts i ∧ Sg.lowAt m.cuts i ≤ 2000000) (hwd : ∀ s, s < m.states.length → m.width s = m.width 0) (bv : Int) (hbv : boundT m = some bv) (hwl : (widthsT m).length = m.width 0 ∧ ∀ i, -1 ≤ (widthsT m).getD i 0 ∧ (widthsT m).getD i 0 ≤ 4) (w : World) (p cb co cc sb so sc : Nat) (nb no nc : Nat → Nat) (M : MachAt w p m cb co cc sb so sc nb no nc) :
    Calls Tryz.prog 41 #[.pointer (some ⟨p, 0, none⟩)] w fun e w' => e = .returned (.int .i64 bv) ∧ Hid (Below w.heap.size w w') := by
  have hNs := hm.statesN
  have hs0 := hm.states0
  have hmf : ∀ (fn : Fn) (first cap : Array Value) (w : World), (Instr.makeFunc fn first cap).run Tryz.prog w = .ok (.func fn first cap) w := fun _ _ _ _ => rfl
  have hmk := fun W => run_make_row' (P := Tryz.prog) 24 3 (.int .i64 0) 8 Tryz.underlying24 (by kernel_rfl) rfl .i64 .i64 m.states.length (by omega) (by omega) W
  have hbA := blw1' w (.cells #[.pointer (some ⟨p, 0, none⟩)] 85)
  have HW := hide2 (widths_any m hm hlow (w.alloc (.cells #[.pointer (some ⟨p, 0, none⟩)] 85)) p cb co cc sb so sc nb no nc (M.below hbA))
  have hM0 : ∀ W', Below w.heap.size w W' → W'.cell? ⟨p, 1, none⟩ = some (.slice (some ⟨sb, so, none⟩) m.states.length sc) := fun W' hb => (M.below hb).c1
  have HM := hide2 M
  clear M
  go_enter Tryz.func41, Tryz.ntmps41
  go_upto_region 6 with (go_at_call 68; refine HW.out.mono ?_; clear HW; rintro e w1 ⟨rfl, H1⟩; have hbw := hbA.trans (H1.out.2.mono hbA.size); have hcA := below_keep H1.out.2 (cell_of' (heap_alloc_new w (.cells #[.pointer (some ⟨p, 0, none⟩)] 85)) 0); have f1 := fun o => below_keep (blw1' w1 o) hcA; have f2 := fun o1 o2 o3 => below_keep (blw3 w1 o1 o2 o3) hcA; have g1 := fun o => hM0 (w1.alloc o) (hbw.trans ((blw1' w1 o).mono hbw.size)); have g2 := fun o1 o2 o3 => hM0 (((w1.alloc o1).alloc o2).alloc o3) (hbw.trans ((blw3 w1 o1 o2 o3).mono hbw.size)))
  have hI0 : IA w w1 (w.heap.size + 1) (widthsT m) := by
    have e := H1.out.1.base hbA.size
    simpa using e
  obtain ⟨v, hv⟩ : ∃ v : EV, v = ⟨w1.heap.size + 1 + 1, w.heap.size, w1.heap.size, w1.heap.size + 1 + 1 + 1 + 1 + 1, w1.heap.size + 1 + 1 + 1 + 1, w1.heap.size + 1, w.heap.size + 1, w1.heap.size + 1 + 1 + 1, p⟩ := ⟨_, rfl⟩
  have HEnv := hide2 (env_start w w1 m p hbw hI0 hcA hwl v hv)
  have HEnd : Hid (∀ s K r, endsT m (widthsT m) (m.states.length + 1) s K = some r → s < m.states.length → ∀ W, EnvAt w m v (widthsT m) W K → Calls Tryz.prog 69 #[.int .i64 s, .pointer (some ⟨v.kv, 0, none⟩), .pointer (some ⟨v.mv, 0, none⟩), .pointer (some ⟨v.wv, 0, none⟩), .pointer (some ⟨v.ev, 0, none⟩), .pointer (some ⟨v.ov, 0, none⟩)] W fun e w' => e = .returned (.bool r.1) ∧ Hid (EnvAt w m v (widthsT m) w' r.2)) := hide2 (ends_any w m hm v (widthsT m) cb co cc sb so sc nb no nc (by rw [hv]; exact HM.out) hwd _)
  subst hv
  dsimp only [EV.fn] at HEnv HEnd
  have HBv := hide2 hbv
  clear hmk hmf f1 f2 g1 g2 hcA hI0 hM0 hwd hbv hwl hlow H1
  generalize (((((w1.alloc (.cells #[.slice (some ⟨w.heap.size + 1, 0, none⟩) (m.width 0) (m.width 0)] 24)).alloc (.cells (madeCells #[.int .i64 0] m.states.length) 3)).alloc (.cells #[.slice (some ⟨w1.heap.size + 1, 0, none⟩) m.states.length m.states.length] 24)).alloc (.cells (madeCells #[.int .i64 0] m.states.length) 3)).alloc (.cells #[.slice (some ⟨w1.heap.size + 1 + 1 + 1, 0, none⟩) m.states.length m.states.length] 24)).alloc (.cells #[.func (.func 69) #[] #[.pointer (some ⟨w1.heap.size + 1 + 1, 0, none⟩), .pointer (some ⟨w.heap.size, 0, none⟩), .pointer (some ⟨w1.heap.size, 0, none⟩), .pointer (some ⟨w1.heap.size + 1 + 1 + 1 + 1 + 1, 0, none⟩), .pointer (some ⟨w1.heap.size + 1 + 1 + 1 + 1, 0, none⟩)]] 115) = wE at *
  have k1 := HEnv.out.cm
  have k2 := (HM.out.below HEnv.out.bel).c1
  dsimp only at k1
  go_wp2
  clear k1 k2
  go_loopw [28] (fun iv wr => ∃ (i : Nat), iv = .int .i64 i ∧ i ≤ m.states.length ∧ Hid (∃ K, EnvAt w m ⟨w1.heap.size + 1 + 1, w.heap.size, w1.heap.size, w1.heap.size + 1 + 1 + 1 + 1 + 1, w1.heap.size + 1 + 1 + 1 + 1, w1.heap.size + 1, w.heap.size + 1, w1.heap.size + 1 + 1 + 1, p⟩ (widthsT m) wr K ∧ boundGo m (widthsT m) (m.states.length + 1) ((List.range m.states.length).drop i) K = some bv)) (fun iv _ => m.states.length - (intOf iv).toNat)
  case atStart => exact ⟨0, rfl, Nat.zero_le _, hide2 ⟨_, HEnv.out, HBv.out⟩⟩
  case round =>
    clear HEnv HBv
    obtain ⟨i, rfl, hi, H⟩ := hrel
    obtain ⟨K, hE, hG⟩ := H.out
    clear H
    by_cases hlt : i < m.states.length
    · rw [drop_range _ _ hlt] at hG
      unfold boundGo at hG
      have k1 := hE.ce
      dsimp only [EV.fn] at k1
      rcases hrec : endsT m (widthsT m) (m.states.length + 1) i K with _ | ⟨bb, K2⟩
      · rw [hrec] at hG; cases hG
      · rw [hrec] at hG
        have HC := hide2 (HEnd.out i K (bb, K2) hrec hlt wr hE)
        clear hE hrec
        cases bb
        · have hG : some (-1) = some bv := hG
          cases hG
          go_wp2_with (go_at_call 69; refine HC.out.mono ?_; rintro e w2 ⟨rfl, H2⟩)
          go_ret
          exact ⟨rfl, hide2 H2.out.bel⟩
        · have HG := hide2 (show boundGo m (widthsT m) (m.states.length + 1) ((List.range m.states.length).drop (i + 1)) K2 = some bv from hG)
          clear hG
          go_wp2_with (go_at_call 69; refine HC.out.mono ?_; rintro e w2 ⟨rfl, H2⟩)
          go_roundw
          case rel => exact ⟨i + 1, by go_num, by omega, hide2 ⟨_, H2.out, HG.out⟩⟩
          case measure => simp [intOf]; omega
    · have hd : (List.range m.states.length).drop i = [] := List.drop_of_length_le (by simp; omega)
      rw [hd] at hG
      have hG : some (1 + maxT K.2) = some bv := hG
      cases hG
      have k1 := hE.co
      dsimp only at k1
      have hol := hE.ol
      have HX := hide2 (maxI_any w wr _ K.2 hE.o (by omega) (by omega))
      rw [hol] at HX
      dsimp only at HX
      have hmx := maxT_le K.2 1000000 (by omega) hE.small.1
      have HB := hide2 hE.bel
      clear hE hol
      obtain ⟨mx, hmxe⟩ : ∃ x, maxT K.2 = x := ⟨_, rfl⟩
      rw [hmxe] at HX hmx
      have HMX := hide2 hmxe
      clear hmxe
      go_wp2_with (go_at_call 70; refine HX.out.mono ?_; rintro e w2 ⟨rfl, rfl⟩)
      go_ret
      exact ⟨by rw [HMX.out]; rfl, HB⟩
set_option maxRecDepth 100000 in
theorem bound_any (m : Sg.Mach) (hm : m.Ok) (hlow : ∀ i, i < m.cuts.length → 0 ≤ Sg.lowAt m.cuts i ∧ Sg.lowAt m.cuts i ≤ 2000000) (hwd : ∀ s, s < m.states.length → m.width s = m.width 0) (bv : Int) (hbv : boundT m = some bv) (hwl : (widthsT m).length = m.width 0 ∧ ∀ i, -1 ≤ (widthsT m).getD i 0 ∧ (widthsT m).getD i 0 ≤ 4) (w : World) (tp p bm : Nat) (h : TabAt w tp p bm m) :
    Calls Tryz.prog 27 #[.pointer (some ⟨tp, 0, none⟩)] w fun e w' => e = .returned (.int .i64 bv) ∧ Hid (Below w.heap.size w w') := by
  obtain ⟨cb, co, cc, sb, so, sc, nb, no, nc, M, _⟩ := h.ma
  have HB := hide2 (machBound_any m hm hlow hwd bv hbv hwl w p cb co cc sb so sc nb no nc M)
  have c := h.t
  clear h M
  go_enter Tryz.func27, Tryz.ntmps27
  go_wp2_with (go_at_call 41; refine HB.out.mono ?_; rintro e w1 ⟨rfl, H1⟩)
  go_ret
  exact ⟨rfl, H1⟩
end Go.Proofs.YtlhokghgicgppaaGreatDoor

namespace Go.Proofs.YtlhokghgicgppaaGreatDoor
open Go.RowKit Go.Extern

def bndV : Nat → Int
  | 0 => 1
  | 1 => -1
  | 2 => 4
  | 3 => -1
  | 4 => 4
  | 5 => 6
  | 6 => 8
  | _ => 2
def bndM : Nat → List Nat
  | 0 => [0, 0, 0, 0]
  | 1 => []
  | 2 => [3, 0, 0, 3, 3]
  | 3 => []
  | 4 => [3, 2, 0, 0, 1, 1, 0, 0, 1, 0, 0]
  | 5 => [5, 4, 0, 3, 0, 0]
  | 6 => [0, 7, 0, 6, 5, 4, 3, 2, 1, 0]
  | _ => [0, 0, 0, 0, 1, 0, 0, 0, 0, 0, 0, 0, 0, 0, 0]
set_option maxRecDepth 100000 in
theorem bound_l : ∀ c, c < 8 → boundT (machL c) = some (bndV c)
  | 0, _ => by kernel_rfl
  | 1, _ => by kernel_rfl
  | 2, _ => by kernel_rfl
  | 3, _ => by kernel_rfl
  | 4, _ => by kernel_rfl
  | 5, _ => by kernel_rfl
  | 6, _ => by kernel_rfl
  | 7, _ => by kernel_rfl
  | _ + 8, h => by omega
def lowB (m : Sg.Mach) : Bool := (List.range m.cuts.length).all fun i => decide (0 ≤ Sg.lowAt m.cuts i) && decide (Sg.lowAt m.cuts i ≤ 2000000)
def widB (m : Sg.Mach) : Bool := (List.range m.states.length).all fun s => m.width s == m.width 0
def wdtB (m : Sg.Mach) : Bool := (widthsT m).length == m.width 0 && (widthsT m).all fun x => decide (-1 ≤ x) && decide (x ≤ 4)
set_option maxRecDepth 100000 in
theorem low_l : ∀ c, c < 8 → lowB (machL c) = true
  | 0, _ => by kernel_rfl
  | 1, _ => by kernel_rfl
  | 2, _ => by kernel_rfl
  | 3, _ => by kernel_rfl
  | 4, _ => by kernel_rfl
  | 5, _ => by kernel_rfl
  | 6, _ => by kernel_rfl
  | 7, _ => by kernel_rfl
  | _ + 8, h => by omega
set_option maxRecDepth 100000 in
theorem wid_l : ∀ c, c < 8 → widB (machL c) = true
  | 0, _ => by kernel_rfl
  | 1, _ => by kernel_rfl
  | 2, _ => by kernel_rfl
  | 3, _ => by kernel_rfl
  | 4, _ => by kernel_rfl
  | 5, _ => by kernel_rfl
  | 6, _ => by kernel_rfl
  | 7, _ => by kernel_rfl
  | _ + 8, h => by omega
set_option maxRecDepth 100000 in
theorem wdt_l : ∀ c, c < 8 → wdtB (machL c) = true
  | 0, _ => by kernel_rfl
  | 1, _ => by kernel_rfl
  | 2, _ => by kernel_rfl
  | 3, _ => by kernel_rfl
  | 4, _ => by kernel_rfl
  | 5, _ => by kernel_rfl
  | 6, _ => by kernel_rfl
  | 7, _ => by kernel_rfl
  | _ + 8, h => by omega
set_option maxRecDepth 100000 in
theorem bnd_l : ∀ c, c < 8 → bndV c = -1 ∨ (1 ≤ bndV c ∧ Sg.bndOk (machL c) (bndM c) (bndV c).toNat = true)
  | 0, _ => .inr ⟨by decide, by kernel_rfl⟩
  | 1, _ => .inl rfl
  | 2, _ => .inr ⟨by decide, by kernel_rfl⟩
  | 3, _ => .inl rfl
  | 4, _ => .inr ⟨by decide, by kernel_rfl⟩
  | 5, _ => .inr ⟨by decide, by kernel_rfl⟩
  | 6, _ => .inr ⟨by decide, by kernel_rfl⟩
  | 7, _ => .inr ⟨by decide, by kernel_rfl⟩
  | _ + 8, h => by omega
theorem boundL_any (k : Nat) (hk : k < 8) (w : World) (tp p bm : Nat) (h : TabAt w tp p bm (machL k)) :
    Calls Tryz.prog 27 #[.pointer (some ⟨tp, 0, none⟩)] w fun e w' => e = .returned (.int .i64 (bndV k)) ∧ Hid (Below w.heap.size w w') := by
  refine bound_any (machL k) (comp_of (comp_l k hk)).ok (fun i hi => ?_) (fun s hs => ?_) (bndV k) (bound_l k hk) ⟨?_, fun i => ?_⟩ w tp p bm h
  · have := List.all_eq_true.1 (low_l k hk) i (List.mem_range.2 hi)
    simpa using this
  · have := List.all_eq_true.1 (wid_l k hk) s (List.mem_range.2 hs)
    simpa using this
  · have := wdt_l k hk
    unfold wdtB at this
    rw [Bool.and_eq_true] at this
    simpa using this.1
  · have := wdt_l k hk
    unfold wdtB at this
    rw [Bool.and_eq_true, List.all_eq_true] at this
    rw [List.getD_eq_getElem?_getD]
    rcases hx : (widthsT (machL k))[i]? with _ | x
    · show (-1 : Int) ≤ 0 ∧ (0 : Int) ≤ 4; omega
    · have := this.2 x (List.mem_of_getElem? hx)
      simpa using this
end Go.Proofs.YtlhokghgicgppaaGreatDoor
