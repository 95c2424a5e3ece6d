/- Contracts of the library's, laid at this program. -/
/- utf8.DecodeRune, over a list of bytes. -/
/- A rule's scalars. -/
/- Rules, where they are right: alt; the whole. -/
/- tree.Read, where a rule is right. -/
/- checkSizes, readAll. -/
import Derived.Shelf.Utf8.RuneCount
import Derived.Shelf.Strings.Count
import Derived.Shelf.Strings.LastIndex
import Derived.Shelf.Spec.DecodeRune
import Derived.Shelf.Spec.NilArms
import Derived.Test.YtlhokghgicgppaaGreatDoorProg
import Derived.Test.YtlhokghgicgppaaGreatDoorFull
import Derived.Test.YtlhokghgicgppaaGreatDoorScal3
import Derived.Test.YtlhokghgicgppaaGreatDoorSortA
import Derived.Laws.RangeAny
import Derived.Test.YtlhokghgicgppaaGreatDoorParse2
import Derived.Defers
import Derived.Recover
import Derived.Test.YtlhokghgicgppaaGreatDoorLayOut
set_option linter.unusedSimpArgs false
set_option linter.unusedVariables false
set_option maxRecDepth 100000
set_option maxHeartbeats 4000000
namespace Go.Proofs
open Go.Shelf
def Tryz.lays195_ren : Go.Shelf.Ren := ⟨fun | 195 => 98 | n => n, fun | 9 => 9 | 3 => 3 | 0 => 0 | 4 => 4 | n => n, fun | n => n⟩
theorem Tryz.lays195 : Go.Proofs.Lays.n195 Tryz.prog Tryz.lays195_ren := {
  mixed := by kernel_rfl
  f195 := Tryz.func98.trans (congrArg some (by kernel_rfl))
  t0 := Tryz.underlying0
  a0 := Tryz.isAgg0
  z0 := Tryz.sizeOf0
  v0 := Tryz.zeroValue0
  t3 := Tryz.underlying3
  a3 := Tryz.isAgg3
  z3 := Tryz.sizeOf3
  v3 := Tryz.zeroValue3
  t4 := Tryz.underlying4
  a4 := Tryz.isAgg4
  z4 := Tryz.sizeOf4
  v4 := Tryz.zeroValue4
  t9 := Tryz.underlying9
  a9 := Tryz.isAgg9
  z9 := Tryz.sizeOf9
  v9 := Tryz.zeroValue9 }
def Tryz.lays138_ren : Go.Shelf.Ren := ⟨fun | 138 => 96 | 195 => 98 | 218 => 135 | 143 => 136 | 219 => 168 | 217 => 179 | 225 => 180 | 224 => 181 | 267 => 182 | 266 => 199 | 314 => 200 | n => n, fun | 9 => 9 | 3 => 3 | 4 => 4 | 5 => 5 | 0 => 0 | 46 => 140 | 146 => 334 | 51 => 225 | n => n, fun | 1 => 3 | n => n⟩
theorem Tryz.lays138 : Go.Proofs.Lays.n138 Tryz.prog Tryz.lays138_ren := {
  mixed := by kernel_rfl
  f138 := Tryz.func96.trans (congrArg some (by kernel_rfl))
  f143 := Tryz.func136.trans (congrArg some (by kernel_rfl))
  f195 := Tryz.func98.trans (congrArg some (by kernel_rfl))
  f217 := Tryz.func179.trans (congrArg some (by kernel_rfl))
  f218 := Tryz.func135.trans (congrArg some (by kernel_rfl))
  f219 := Tryz.func168.trans (congrArg some (by kernel_rfl))
  f224 := Tryz.func181.trans (congrArg some (by kernel_rfl))
  f225 := Tryz.func180.trans (congrArg some (by kernel_rfl))
  f266 := Tryz.func199.trans (congrArg some (by kernel_rfl))
  f267 := Tryz.func182.trans (congrArg some (by kernel_rfl))
  f314 := Tryz.func200.trans (congrArg some (by kernel_rfl))
  t0 := Tryz.underlying0
  a0 := Tryz.isAgg0
  z0 := Tryz.sizeOf0
  v0 := Tryz.zeroValue0
  t3 := Tryz.underlying3
  a3 := Tryz.isAgg3
  z3 := Tryz.sizeOf3
  v3 := Tryz.zeroValue3
  t4 := Tryz.underlying4
  a4 := Tryz.isAgg4
  z4 := Tryz.sizeOf4
  v4 := Tryz.zeroValue4
  t5 := Tryz.underlying5
  a5 := Tryz.isAgg5
  z5 := Tryz.sizeOf5
  v5 := Tryz.zeroValue5
  t9 := Tryz.underlying9
  a9 := Tryz.isAgg9
  z9 := Tryz.sizeOf9
  v9 := Tryz.zeroValue9
  t46 := Tryz.underlying140
  a46 := Tryz.isAgg140
  z46 := Tryz.sizeOf140
  v46 := Tryz.zeroValue140
  t51 := Tryz.underlying225
  a51 := Tryz.isAgg225
  z51 := Tryz.sizeOf225
  v51 := Tryz.zeroValue225
  t146 := Tryz.underlying334
  a146 := Tryz.isAgg334
  z146 := Tryz.sizeOf334
  v146 := Tryz.zeroValue334
  g1 := by kernel_rfl }
def Tryz.lays149_ren : Go.Shelf.Ren := ⟨fun | 149 => 97 | 222 => 137 | n => n, fun | 9 => 9 | 5 => 5 | 3 => 3 | 4 => 4 | n => n, fun | n => n⟩
theorem Tryz.lays149 : Go.Proofs.Lays.n149 Tryz.prog Tryz.lays149_ren := {
  mixed := by kernel_rfl
  f149 := Tryz.func97.trans (congrArg some (by kernel_rfl))
  f222 := Tryz.func137.trans (congrArg some (by kernel_rfl))
  t3 := Tryz.underlying3
  a3 := Tryz.isAgg3
  z3 := Tryz.sizeOf3
  v3 := Tryz.zeroValue3
  t4 := Tryz.underlying4
  a4 := Tryz.isAgg4
  z4 := Tryz.sizeOf4
  v4 := Tryz.zeroValue4
  t5 := Tryz.underlying5
  a5 := Tryz.isAgg5
  z5 := Tryz.sizeOf5
  v5 := Tryz.zeroValue5
  t9 := Tryz.underlying9
  a9 := Tryz.isAgg9
  z9 := Tryz.sizeOf9
  v9 := Tryz.zeroValue9 }
def Tryz.lays7x32_ren : Go.Shelf.Ren := ⟨fun | 32 => 65 | 49 => 95 | n => n, fun | 30 => 60 | 21 => 21 | 3 => 3 | 0 => 0 | 5 => 5 | 4 => 4 | 33 => 143 | 66 => 136 | 25 => 140 | 69 => 139 | 68 => 138 | n => n, fun | 2 => 1 | 3 => 2 | n => n⟩
theorem Tryz.lays7x32 : Go.Proofs.Lays7.n32 Tryz.prog Tryz.lays7x32_ren := {
  mixed := by kernel_rfl
  f32 := Tryz.func65.trans (congrArg some (by kernel_rfl))
  f49 := Tryz.func95.trans (congrArg some (by kernel_rfl))
  t0 := Tryz.underlying0
  a0 := Tryz.isAgg0
  z0 := Tryz.sizeOf0
  v0 := Tryz.zeroValue0
  i0 := by kernel_rfl
  t3 := Tryz.underlying3
  a3 := Tryz.isAgg3
  z3 := Tryz.sizeOf3
  v3 := Tryz.zeroValue3
  i3 := by kernel_rfl
  t4 := Tryz.underlying4
  a4 := Tryz.isAgg4
  z4 := Tryz.sizeOf4
  v4 := Tryz.zeroValue4
  i4 := by kernel_rfl
  t5 := Tryz.underlying5
  a5 := Tryz.isAgg5
  z5 := Tryz.sizeOf5
  v5 := Tryz.zeroValue5
  i5 := by kernel_rfl
  t21 := Tryz.underlying21
  a21 := Tryz.isAgg21
  z21 := Tryz.sizeOf21
  v21 := Tryz.zeroValue21
  i21 := by kernel_rfl
  t25 := Tryz.underlying140
  a25 := Tryz.isAgg140
  z25 := Tryz.sizeOf140
  v25 := Tryz.zeroValue140
  i25 := by kernel_rfl
  t30 := Tryz.underlying60
  a30 := Tryz.isAgg60
  z30 := Tryz.sizeOf60
  v30 := Tryz.zeroValue60
  i30 := by kernel_rfl
  t33 := Tryz.underlying143
  a33 := Tryz.isAgg143
  z33 := Tryz.sizeOf143
  v33 := Tryz.zeroValue143
  i33 := by kernel_rfl
  t66 := Tryz.underlying136
  a66 := Tryz.isAgg136
  z66 := Tryz.sizeOf136
  t68 := Tryz.underlying138
  a68 := Tryz.isAgg138
  z68 := Tryz.sizeOf138
  v68 := Tryz.zeroValue138
  i68 := by kernel_rfl
  t69 := Tryz.underlying139
  a69 := Tryz.isAgg139
  z69 := Tryz.sizeOf139
  v69 := Tryz.zeroValue139
  i69 := by kernel_rfl
  g2 := by kernel_rfl
  g3 := by kernel_rfl }
end Go.Proofs
namespace Go.Proofs.YtlhokghgicgppaaGreatDoor
open Go.RowKit Go.Extern
theorem get_list (l : Sg.Bs) (j : Nat) : (ByteArray.mk l.toArray).get! j = l.getD j 0 := by
  show l.toArray[j]! = _
  rw [getElem!_def]
  simp only [List.getElem?_toArray, List.getD_eq_getElem?_getD]
  cases l[j]? <;> rfl
theorem size_list (l : Sg.Bs) : (ByteArray.mk l.toArray).size = l.length := by simp [ByteArray.size]
theorem decGo_list (l : Sg.Bs) : Lib.decodeGo ⟨l.toArray⟩ = Sg.dec l := by
  unfold Lib.decodeGo Sg.dec
  rw [size_list, Lib.decode_at]
  simp only [get_list, size_list, Nat.zero_add, Nat.sub_zero]
  by_cases h : l = []
  · subst h; rfl
  · have : l.length ≠ 0 := by intro e; exact h (List.length_eq_zero_iff.1 e)
    simp only [h, this, if_false]
theorem dec_any (l : Sg.Bs) (a : Option Addr) (cap : Nat) (w : World) (hT : Tabs w) (h : SlAt w a l) (h0 : l ≠ []) :
    Calls Tryz.prog 65 #[.slice a l.length cap] w fun e w' => e = .returned (.tuple #[.int .i32 ((Sg.dec l).1 : Nat), .int .i64 ((Sg.dec l).2 : Nat)]) ∧ Below w.heap.size w w' := by
  rcases h with ⟨_, h⟩ | ⟨b, o, rfl, h⟩
  · exact absurd h h0
  · have := Any7.utf8_DecodeRune Tryz.lays7x32 ⟨l.toArray⟩ b o cap w hT (fun j hj => by
      rw [get_list]; exact h j (by rwa [size_list] at hj))
    rw [size_list, decGo_list] at this
    exact this
end Go.Proofs.YtlhokghgicgppaaGreatDoor
namespace Go.Proofs.YtlhokghgicgppaaGreatDoor
open Go.RowKit Go.Extern
def scCells (x : Int × Int) : List Value := [.int .i32 x.1, .int .i64 x.2]
theorem info_sc : (Tryz.prog.info? 278).map (fun i => (i.zero, i.size, i.bytes)) = some (some (.agg #[.int .i32 0, .int .i64 0]), 2, 16) := by kernel_rfl
theorem sc_snoc (l : List (Int × Int)) (a b : Int) : l.flatMap scCells ++ [.int .i32 a, .int .i64 b] = (l ++ [(a, b)]).flatMap scCells := by
  rw [List.flatMap_append]; rfl
theorem get_list2 (s : Sg.Bs) (i : Nat) : (ByteArray.mk s.toArray).get! i = s.getD i 0 := by
  show s.toArray[i]! = _
  rw [List.getElem!_toArray, List.getD_eq_getElem?_getD]
  by_cases h : i < s.length
  · rw [getElem!_pos s i h, List.getElem?_eq_getElem h]; rfl
  · rw [getElem!_neg s i h, List.getElem?_eq_none (by omega)]; rfl
theorem decode_drop (s : Sg.Bs) (i : Nat) (h : i < s.length) : Utf8.decode ⟨s.toArray⟩ i = Sg.dec (s.drop i) := by
  rw [Lib.decode_at]
  unfold Sg.dec
  rw [if_neg (fun e => by have := congrArg List.length e; simp at this; omega)]
  have g : ∀ j, (s.drop i).getD j 0 = s.getD (i + j) 0 := fun j => by
    simp only [List.getD_eq_getElem?_getD, List.getElem?_drop]
  rw [g, g, g, g, List.length_drop, get_list2, get_list2, get_list2, get_list2]
  rfl
def setIter (w : World) (B : Nat) (s : ByteArray) (p : Nat) : World := { w with heap := w.heap.setIfInBounds B (.stringIter s p) }
theorem setIter_at {w : World} {B : Nat} {s s' : ByteArray} {p p' : Nat} (h : w.heap[B]? = some (.stringIter s' p')) : (setIter w B s p).heap[B]? = some (.stringIter s p) := by
  have := (Array.getElem?_eq_some_iff.1 h).1
  simp [setIter, this]
theorem setIter_other (w : World) {B : Nat} (s : ByteArray) (p : Nat) {k : Nat} (h : k ≠ B) : (setIter w B s p).heap[k]? = w.heap[k]? := by
  simp [setIter, Array.getElem?_setIfInBounds, Ne.symm h]
theorem setIter_size (w : World) (B : Nat) (s : ByteArray) (p : Nat) : (setIter w B s p).heap.size = w.heap.size := by simp [setIter]
theorem run_next_at {P : Program} {w : World} {B : Nat} {s : ByteArray} {pos : Nat} (hB : w.heap[B]? = some (.stringIter s pos)) (ty : TypeId) (h : pos < s.size) :
    (Instr.next (.pointer (some ⟨B, 0, none⟩)) true ty).run P w = .ok (.tuple #[.bool true, .int .i64 pos, .int .i32 (Utf8.decode s pos).1]) (setIter w B s (pos + (Utf8.decode s pos).2)) := by
  simp only [Instr.next, getObj, setObj, Sem.run_bind, Sem.run, hB, Result.andThen, h, if_true]
  simp [goInt, setIter]
theorem run_next_off {P : Program} {w : World} {B : Nat} {s : ByteArray} {pos : Nat} (hB : w.heap[B]? = some (.stringIter s pos)) (ty : TypeId) (h : ¬ pos < s.size) :
    (Instr.next (.pointer (some ⟨B, 0, none⟩)) true ty).run P w = .ok (.tuple #[.bool false]) w := by
  simp [Instr.next, getObj, Sem.run, hB, h]
theorem RowAt.blk {sz : Nat} {w w' : World} {ra : Option Addr} {rc n : Nat} {l : List Value} (h : RowAt sz w ra rc n l) (hb : ∀ rb ro, ra = some ⟨rb, ro, none⟩ → w'.heap[rb]? = w.heap[rb]?) (hs : w.heap.size ≤ w'.heap.size) : RowAt sz w' ra rc n l := by
  refine ⟨h.len, ?_⟩
  rcases h.row with h | ⟨rb, ro, rfl, h1, h2, h3, h4, h5⟩
  · exact .inl h
  · have e := hb rb ro rfl
    exact .inr ⟨rb, ro, rfl, h1, fun j v hj => (cell_block e).trans (h2 j v hj), fun j hj => by rw [cell_block e]; exact h3 j hj, Nat.lt_of_lt_of_le h4 hs, fun j => (frozen_block e).trans (h5 j)⟩
def cleanR (s : Sg.Bs) : Bool := (Sg.splitR s).all fun x => decide (x.1 ≠ -2) && decide (x.1 ≠ 65533)
theorem decN_pos (n b0 b1 b2 b3 : Nat) : 1 ≤ (Lib.decodeN n b0 b1 b2 b3).2 ∧ (0 < n → (Lib.decodeN n b0 b1 b2 b3).2 ≤ n) := by
  unfold Lib.decodeN
  repeat' split
  all_goals (dsimp only; omega)
theorem dec_pos (l : Sg.Bs) (h : l ≠ []) : 1 ≤ (Sg.dec l).2 ∧ (Sg.dec l).2 ≤ l.length := by
  unfold Sg.dec
  rw [if_neg h]
  have := decN_pos l.length (l.getD 0 0).toNat (l.getD 1 0).toNat (l.getD 2 0).toNat (l.getD 3 0).toNat
  have hl : 0 < l.length := List.length_pos_iff.2 h
  exact ⟨this.1, this.2 hl⟩
theorem split_any (w : World) (s : Sg.Bs) (hs : s.length ≤ 60) (hcl : cleanR s = true) :
    Calls Tryz.prog 101 #[.string ⟨s.toArray⟩] w fun e w' => ∃ ra rc, e = .returned (.slice ra (Sg.splitR s).length rc) ∧ RowAt 2 w' ra rc (Sg.splitR s).length ((Sg.splitR s).flatMap scCells) ∧ Below w.heap.size w w' ∧ InD (fun b => w.heap.size ≤ b) ra := by
  have hsz : (ByteArray.mk s.toArray).size = s.length := by simp [ByteArray.size]
  have HC := hide2 (List.all_eq_true.1 hcl)
  clear hcl
  generalize hfin : Sg.splitR s = fin at *
  have H0 := hide2 hfin
  clear hfin
  go_enter Tryz.func101, Tryz.ntmps101
  go_wp2
  go_loopw [3] (fun sv wr => ∃ (pos n : Nat) (pa : Option Addr) (pc : Nat) (ps : List (Int × Int)) (f : Nat), sv = .slice pa n pc ∧ pos ≤ s.length ∧ n ≤ pos ∧ s.length ≤ pos + f ∧ wr.heap[w.heap.size]? = some (.stringIter ⟨s.toArray⟩ pos) ∧ Hid (n = ps.length ∧ RowAt 2 wr pa pc n (ps.flatMap scCells) ∧ InD (fun b => w.heap.size < b) pa ∧ Below w.heap.size w wr ∧ ps ++ Sg.splitGo f (pos : Int) (s.drop pos) = fin)) (fun _ wr => s.length - wr.iterPos w.heap.size)
  case atStart => exact ⟨0, 0, none, 0, [], s.length, rfl, Nat.zero_le _, Nat.le_refl _, by omega, World.iter_heap w _ 0, hide2 ⟨rfl, RowAt.nil 2 _, (fun _ _ e => by cases e), (Below.refl _ _).alloc (Nat.le_refl _) _, H0.out⟩⟩
  case round =>
    obtain ⟨pos, n, pa, pc, ps, f, rfl, hp, hn, hf, hit, H⟩ := hrel
    obtain ⟨g0, g1, g2, g3, g4⟩ := H.out
    clear H H0
    by_cases hlt : pos < s.length
    · match f, hf, g4 with
      | 0, hf, g4 => omega
      | f + 1, hf, g4 =>
        have hne : s.drop pos ≠ [] := fun e => by have := congrArg List.length e; simp at this; omega
        obtain ⟨b, rr, hbr⟩ : ∃ b rr, s.drop pos = b :: rr := by
          cases hd : s.drop pos with
          | nil => exact absurd hd hne
          | cons b rr => exact ⟨b, rr, rfl⟩
        have hdp := dec_pos _ hne
        rw [List.length_drop] at hdp
        have hdd := decode_drop s pos hlt
        have g5 : ps ++ (((if (Sg.dec (s.drop pos)).1 = 65533 ∧ (Sg.dec (s.drop pos)).2 ≤ 1 then -2 else ((Sg.dec (s.drop pos)).1 : Int)), (pos : Int)) :: Sg.splitGo f ((pos : Int) + (Sg.dec (s.drop pos)).2) ((s.drop pos).drop (Sg.dec (s.drop pos)).2)) = fin := by
          rw [hbr] at g4 ⊢; exact g4
        rw [List.drop_drop] at g5
        generalize hdv : (Sg.dec (s.drop pos)).1 = dv at *
        generalize hdz : (Sg.dec (s.drop pos)).2 = dz at *
        have hdd' : Utf8.decode ⟨s.toArray⟩ pos = (dv, dz) := by rw [hdd, ← hdv, ← hdz]
        have hmem : ((if dv = 65533 ∧ dz ≤ 1 then (-2 : Int) else (dv : Int)), (pos : Int)) ∈ fin := by rw [← g5]; simp
        have hcl := HC.out _ hmem
        rw [Bool.and_eq_true] at hcl
        obtain ⟨c1, c2⟩ := hcl
        have c1' := of_decide_eq_true c1
        have c2' := of_decide_eq_true c2
        have hdv3 : ¬ dv = 65533 := by
          intro e
          dsimp only at c1' c2'
          by_cases hz : dz ≤ 1
          · rw [if_pos ⟨e, hz⟩] at c1'; exact c1' rfl
          · rw [if_neg (fun h => hz h.2), e] at c2'; exact c2' rfl
        rw [if_neg (fun h => hdv3 h.1)] at g5
        have hnx : ∀ ty, (Instr.next (.pointer (some ⟨w.heap.size, 0, none⟩)) true ty).run Tryz.prog wr = .ok (.tuple #[.bool true, .int .i64 pos, .int .i32 dv]) (setIter wr w.heap.size ⟨s.toArray⟩ (pos + dz)) := fun ty => by
          have := run_next_at (P := Tryz.prog) hit ty (by rw [hsz]; exact hlt)
          rw [hdd'] at this; exact this
        have hdv4 : ¬ (dv : Int) = 65533 := by omega
        have hW1 := g1.blk (w' := setIter wr w.heap.size ⟨s.toArray⟩ (pos + dz)) (fun rb ro e => setIter_other _ _ _ (by have := g2 rb ro e; omega)) (by rw [setIter_size]; exact Nat.le_refl _)
        have hW2 : Below w.heap.size w (setIter wr w.heap.size ⟨s.toArray⟩ (pos + dz)) := ⟨g3.os, g3.tape, g3.output, by rw [setIter_size]; exact g3.size, fun k hk => (setIter_other _ _ _ (by omega)).trans (g3.block k hk)⟩
        have hW3 := setIter_at (s := ⟨s.toArray⟩) (p := pos + dz) hit
        clear hmem c1 c2 c1' c2' hdd hdd' hdv hdz hbr hne g4 g3
        generalize setIter wr w.heap.size ⟨s.toArray⟩ (pos + dz) = W at *
        have HA := hide2 (append_two (w := W) 216 278 _ 16 info_sc rfl Tryz.underlying216 (by omega) hW1 (.int .i32 dv) (.int .i64 pos) rfl rfl (by omega) 216 278)
        have HX := hide2 (And.intro g0 (And.intro g2 (And.intro g5 (And.intro hW2 hW3))))
        have HI := hide2 (show wr.iterPos w.heap.size = pos by unfold World.iterPos; rw [hit])
        clear g0 g1 g2 g5 hW1 hW2 hW3 hit
        go_wp2_with (at_builtin; obtain ⟨ra2, rc2, w2, hrun, hrow, hch, hmv⟩ := HA.out; refine wpList_append_run rfl _ _ _ _ rfl _ _ _ rfl rfl hrun ?_; have H2 := hide2 (And.intro hrow (And.intro hch hmv)); clear hrun hrow hch hmv HA)
        obtain ⟨f0, f2, f5, f6, f7⟩ := HX.out
        obtain ⟨r1, r2, r3⟩ := H2.out
        rw [sc_snoc] at r1
        have hlt2 : w.heap.size < W.heap.size := (Array.getElem?_eq_some_iff.1 f7).1
        have hit2 : w2.heap[w.heap.size]? = some (.stringIter ⟨s.toArray⟩ (pos + dz)) := (r2.block _ hlt2 (fun o t => by obtain ⟨o', e⟩ := t; have := f2 _ _ e; omega)).trans f7
        refine ⟨⟨pos + dz, n + 1, ra2, rc2, ps ++ [((dv : Int), (pos : Int))], f, rfl, by omega, by omega, by omega, hit2, hide2 ⟨by rw [List.length_append, ← f0]; rfl, r1, ?_, ?_, ?_⟩⟩, ?_⟩
        · rcases r3 with r3 | ⟨rb, e, g⟩
          · rw [r3]; exact f2
          · rw [e]; intro b o e2; cases e2; omega
        · exact below_row f6 r2 (f2.of (fun b hb => Nat.le_of_lt hb))
        · rw [← f5, List.append_assoc]
          simp [Int.natCast_add]
        · have e1 : w2.iterPos w.heap.size = pos + dz := by unfold World.iterPos; rw [hit2]
          have e2 := HI.out
          rw [e1, e2]; omega
    · have hnx : ∀ ty, (Instr.next (.pointer (some ⟨w.heap.size, 0, none⟩)) true ty).run Tryz.prog wr = .ok (.tuple #[.bool false]) wr := fun ty => run_next_off hit ty (by rw [hsz]; exact hlt)
      have hpe : pos = s.length := by omega
      have g5 : ps ++ [((-1 : Int), (s.length : Int))] = fin := by
        rw [← g4, hpe, List.drop_length]
        cases f <;> rfl
      have HA := hide2 (append_two (w := wr) 216 278 _ 16 info_sc rfl Tryz.underlying216 (by omega) g1 (.int .i32 (-1)) (.int .i64 s.length) rfl rfl (by omega) 216 278)
      have HX := hide2 (And.intro g0 (And.intro g2 (And.intro g3 g5)))
      clear g0 g1 g2 g3 g4 g5 hit hpe
      go_wp2_with (at_builtin; obtain ⟨ra2, rc2, w2, hrun, hrow, hch, hmv⟩ := HA.out; refine wpList_append_run rfl _ _ _ _ rfl _ _ _ rfl rfl hrun ?_; have H2 := hide2 (And.intro hrow (And.intro hch hmv)); clear hrun hrow hch hmv HA)
      go_ret
      obtain ⟨f0, f2, f3, f5⟩ := HX.out
      obtain ⟨r1, r2, r3⟩ := H2.out
      rw [sc_snoc, f5] at r1
      have hl : fin.length = n + 1 := by rw [← f5, List.length_append, ← f0]; rfl
      have i2 := (f2.of (E := fun b => w.heap.size ≤ b) (fun b hb => Nat.le_of_lt hb))
      exact ⟨ra2, rc2, by rw [hl]; rfl, by rw [hl]; exact r1, below_row f3 r2 i2, i2.moved f3.size r3⟩
end Go.Proofs.YtlhokghgicgppaaGreatDoor
namespace Go.Proofs.YtlhokghgicgppaaGreatDoor
open Go.RowKit Go.Extern
theorem alt_reads (k : Nat) (rp : Sg.Rd → Sg.RM Sg.Node) (hrow : Reads 139 rp k) : Reads 102 (fun r => match rp r with | .error e => Except.error e | .ok (x, r1) => match Sg.altGo rp r.list.length [x] r1 with | .error e => .error e | .ok (l, r2) => .ok (Sg.Node.alt l, r2)) (k + 1) := by
  intro w q r h x r' hx
  have S0 := RdSt.start h
  have hq := h.lt
  have hK1 := h.ok.len
  dsimp only at hx
  split at hx
  · cases hx
  · rename_i y0 r1 hr
    split at hx
    · cases hx
    · rename_i l r2 hg
      simp only [Except.ok.injEq, Prod.mk.injEq] at hx
      obtain ⟨hx1, hx2⟩ := hx
      rw [hx2] at hg
      subst hx1
      have HG := hide2 hg
      have HR0 := hide2 (hrow.st S0 hr)
      clear h hg hr hx2
      generalize r.list.length = K at *
      go_enter Tryz.func102, Tryz.ntmps102
      go_wp2_with (go_at_call 139; refine HR0.out.mono ?_; clear HR0; rintro e w0 ⟨t0, u0, rfl, N0, S1, C1⟩)
      go_loopw [3] (fun iv wr => ∃ (n m : Nat) (ia : Option Addr) (ic : Nat) (vs : List Value) (li : List Sg.Node) (r2 : Sg.Rd), iv = .slice ia n ic ∧ m + n = K + 1 ∧ RdSt w q wr r2 ∧ Hid (n = li.length ∧ RowAt 1 wr ia ic n vs ∧ InD (fun b => w.heap.size ≤ b) ia ∧ NodesAt (Dn w.heap.size ia) wr k vs li ∧ Sg.altGo rp m li r2 = .ok (l, r'))) (fun iv _ => K + 2 - lenOf iv)
      case atStart =>
        have hsz := S1.size
        refine ⟨1, K, _, 1, [.iface t0 u0], [y0], r1, rfl, rfl, S1.alloc _, hide2 ⟨rfl, RowAt.one w0 _ _, (fun b o e => by cases e; exact hsz), ?_, HG.out⟩⟩
        intro i x hx
        match i, hx with
        | 0, hx =>
          simp only [List.getElem?_cons_zero, Option.some.injEq] at hx
          subst hx
          refine ⟨_, rfl, NodeAt.below ((Below.refl _ _).alloc (Nat.le_refl _) _) (NodeAt.inw (fun b hb hd => ⟨hd, fun o e => ?_⟩) _ _ _ N0.out)⟩
          cases e; omega
      case round =>
        obtain ⟨n, m, ia, ic, vs, li, r2, rfl, hkn, S, H⟩ := hrel
        obtain ⟨g0, g1, g2, g3, g4⟩ := H.out
        clear H HG S0 S1 C1 N0
        match m, hkn, g4 with
        | 0, _, g4 => cases g4
        | m + 1, hkn, g4 =>
          unfold Sg.altGo at g4
          dsimp only at g4
          have HE := hide2 (accept_sc S 124)
          by_cases hp : r2.peek.1 = 124
          · rw [accept_yes hp] at g4 HE
            simp only [if_true] at g4
            split at g4
            · cases g4
            · rename_i y r3 hy
              have HPt := hide2 (fun wx (hx : RdSt w q wx r2.take.2) => hrow.st hx hy)
              have HAp : Hid (∀ w1 w2 v, Chg (rulT q) wr w1 → Chg (rulT q) w1 w2 → RdSt w q w2 r3 → NodeAt (fun b => w1.heap.size ≤ b) w2 k v y → ∃ ra' rc' w', (Builtin.append_ #[279, 279] 279 #[.slice ia n ic, .slice (some ⟨w2.heap.size, 0, none⟩) 1 1]).run Tryz.prog (w2.alloc (.cells #[v] 156)) = .ok (.slice ra' (n + 1) rc') w' ∧ Hid (RowAt 1 w' ra' rc' (n + 1) (vs ++ [v]) ∧ InD (fun b => w.heap.size ≤ b) ra' ∧ NodesAt (Dn w.heap.size ra') w' k (vs ++ [v]) (li ++ [y])) ∧ RdSt w q w' r3) := by
                refine hide2 (fun w1 w2 v c1 c2 hS hn => ?_)
                have hc := c1.trans c2
                have hsz1 : w.heap.size ≤ wr.heap.size := S.size
                have hsz2 : wr.heap.size ≤ w1.heap.size := c1.size
                obtain ⟨ra', rc', w', a1, a2, a3⟩ := nodes_append (B := w.heap.size) (Bx := w1.heap.size) 279 Tryz.underlying279 (g1.of hc (rul_row hq g2)) g2 (g3.of hc (fun b o hd t => by have := t.1; have := hd.1; omega)) g0 hn (fun b o e => Nat.lt_of_lt_of_le (g1.lt e) hsz2) (Nat.le_trans hsz1 hsz2) hS.size (by omega)
                exact ⟨ra', rc', w', a1, a2, hS.mut a3 (fun i o ⟨o', e⟩ => g2 i o' e)⟩
              have HX := hide2 (And.intro g0 g4)
              clear g0 g1 g2 g3 g4 hp S hy
              generalize r2.take.2 = r4 at *
              go_wp2_with (first
                | (go_at_call 140; refine HE.out.mono ?_; clear HE; rintro e w1 ⟨rfl, S1, C1⟩)
                | (go_at_call 139; refine (HPt.out _ S1).mono ?_; clear HPt; rintro e w2 ⟨t2, u2, rfl, N2, S2, C2⟩)
                | (at_builtin; obtain ⟨ra2, rc2, w3, hrun, H3, S3⟩ := HAp.out _ _ _ C1 C2 S2 N2.out; refine wpList_append_run rfl _ _ _ _ rfl _ _ _ rfl rfl hrun ?_; clear hrun HAp))
              obtain ⟨f0, f1⟩ := HX.out
              exact ⟨⟨n + 1, m, ra2, rc2, vs ++ [.iface t2 u2], li ++ [y], r3, rfl, by omega, S3, hide2 ⟨by rw [List.length_append, ← f0]; rfl, H3.out.1, H3.out.2.1, H3.out.2.2, f1⟩⟩, by simp [lenOf]; omega⟩
          · rw [accept_no hp] at g4 HE
            simp only [Bool.false_eq_true, if_false, Except.ok.injEq, Prod.mk.injEq] at g4
            obtain ⟨e1, e2⟩ := g4
            rw [e2] at HE
            rw [e1] at g0 g3
            have hll : l.length < 1000000 := by omega
            have HX := hide2 (And.intro g0 (And.intro g1 (And.intro g2 (And.intro g3 hll))))
            clear g0 g1 g2 g3 hp S hll e1 e2
            go_wp2_with (go_at_call 140; refine HE.out.mono ?_; clear HE; rintro e w1 ⟨rfl, S1, C1⟩)
            go_ret
            obtain ⟨f0, f1, f2, f3, f4⟩ := HX.out
            subst f0
            exact ⟨_, rfl, ⟨ia, ic, vs, rfl, f1.of C1 (rul_row hq f2), f2, f4, (f3.of C1 (fun b o hd t => by have := t.1; have := hd.1; omega)).inw (fun b _ hd => hd.1)⟩, S1⟩
theorem all_reads : ∀ k, k ≤ 30 → Reads 102 (Sg.altN k) (3 * k + 1)
  | 0, _ => fun w q r h x r' hx => by cases hx
  | k + 1, hk => alt_reads _ _ (row_reads _ _ (part_reads (3 * k + 1) (by omega) _ (atom_reads k (all_reads k (by omega)))))
end Go.Proofs.YtlhokghgicgppaaGreatDoor
namespace Go.Proofs.YtlhokghgicgppaaGreatDoor
open Go.RowKit Go.Extern
theorem decN_valid (n b0 b1 b2 b3 : Nat) (h0 : b0 < 256) : Sg.validRune ((Lib.decodeN n b0 b1 b2 b3).1 : Nat) = true := by
  rw [valid_iff]
  unfold Lib.decodeN
  repeat' split
  all_goals (dsimp only; omega)
theorem dec_valid (l : Sg.Bs) : Sg.validRune ((Sg.dec l).1 : Nat) = true := by
  unfold Sg.dec
  split
  · decide
  · exact decN_valid _ _ _ _ _ (by have := (l.getD 0 0).toNat_lt; omega)
theorem split_val : ∀ (f : Nat) (a : Int) (l : Sg.Bs), ∀ x ∈ Sg.splitGo f a l, x.1 = -1 ∨ x.1 = -2 ∨ Sg.validRune x.1 = true
  | 0, a, l, x, h => by simp [Sg.splitGo] at h; subst h; exact .inl rfl
  | f + 1, a, [], x, h => by simp [Sg.splitGo] at h; subst h; exact .inl rfl
  | f + 1, a, b :: r, x, h => by
    unfold Sg.splitGo at h
    rcases List.mem_cons.1 h with rfl | h
    · dsimp only
      split
      · exact .inr (.inl rfl)
      · exact .inr (.inr (dec_valid _))
    · exact split_val f _ _ x h
theorem split_pos (f : Nat) (a : Int) (l : Sg.Bs) : 1 ≤ (Sg.splitGo f a l).length := by
  match f, l with
  | 0, _ => simp [Sg.splitGo]
  | _ + 1, [] => simp [Sg.splitGo]
  | _ + 1, _ :: _ => unfold Sg.splitGo; simp
theorem split_last : ∀ (f : Nat) (a : Int) (l : Sg.Bs) (i : Nat), (Sg.splitGo f a l).length ≤ i + 1 → ((Sg.splitGo f a l).getD i (-1, 0)).1 = -1
  | 0, a, l, i, h => by
    cases i with
    | zero => rfl
    | succ i => rfl
  | f + 1, a, [], i, h => by
    cases i with
    | zero => rfl
    | succ i => rfl
  | f + 1, a, b :: r, i, h => by
    unfold Sg.splitGo at h ⊢
    dsimp only at h ⊢
    rw [List.length_cons] at h
    cases i with
    | zero => have := split_pos f (a + (Sg.dec (b :: r)).2) ((b :: r).drop (Sg.dec (b :: r)).2); omega
    | succ i =>
      rw [List.getD_cons_succ]
      exact split_last f _ _ i (by omega)
theorem split_len : ∀ (f : Nat) (a : Int) (l : Sg.Bs), (Sg.splitGo f a l).length ≤ f + 1
  | 0, a, l => by simp [Sg.splitGo]
  | f + 1, a, [] => by simp [Sg.splitGo]
  | f + 1, a, b :: r => by
    unfold Sg.splitGo
    have := split_len f (a + (Sg.dec (b :: r)).2) ((b :: r).drop (Sg.dec (b :: r)).2)
    rw [List.length_cons]; omega
theorem rd_ok (s : Sg.Bs) (hs : s.length ≤ 60) : Sg.RdOk ⟨Sg.splitR s, 0, 0, none⟩ := by
  refine ⟨split_pos _ _ _, rfl, fun i h => split_last _ _ _ i h, fun i => ?_, ?_, ⟨Int.le_refl _, by show (0 : Int) ≤ 8; omega⟩⟩
  · show ((Sg.splitR s).getD i (-1, 0)).1 = -1 ∨ _
    rw [List.getD_eq_getElem?_getD]
    cases h : (Sg.splitR s)[i]? with
    | none => exact .inl rfl
    | some x => exact split_val _ _ _ x (List.mem_of_getElem? h)
  · have := split_len s.length 0 s
    show (Sg.splitR s).length ≤ 1000
    unfold Sg.splitR; omega
theorem read_idle (p1 p2 : Addr) (w : World) :
    CallsD Tryz.prog 100 #[.pointer (some p1), .pointer (some p2)] .returning w fun e u' w' => e = .returned (.tuple #[]) ∧ u' = .returning ∧ w' = w := by
  refine callsD_of_wpS Tryz.func100 rfl fun c₀ cs hu => ?_
  apply wpS_seq
  apply wpS_region
  simp [wpOpsS, go_sem, recoverD, hu, Tryz.ntmps100, Exit.thenS]
  refine wpS_of_wp ?_
  go_wp2
  cases c₀
  simp_all [bodyPostS, results, Tryz.results100]
theorem sc_cells {w : World} {ra : Option Addr} {rc : Nat} {l : List (Int × Int)} (h : RowAt 2 w ra rc l.length (l.flatMap scCells)) (h0 : 0 < l.length) : ∃ lb lo, ra = some ⟨lb, lo, none⟩ ∧ lb < w.heap.size ∧ (∀ i, i < l.length → w.cell? ⟨lb, lo + i * 2, none⟩ = some (.int .i32 (l.getD i (-1, 0)).1)) ∧ (∀ i, i < l.length → w.cell? ⟨lb, lo + i * 2 + 1, none⟩ = some (.int .i64 (l.getD i (-1, 0)).2)) := by
  rcases h.row with ⟨_, _, h⟩ | ⟨rb, ro, rfl, _, h2, _, h4, _⟩
  · omega
  · refine ⟨rb, ro, rfl, h4, fun i hi => ?_, fun i hi => ?_⟩
    · have e := flat_at scCells 2 (fun _ => rfl) l i 0 hi (by omega)
      have := h2 (i * 2 + 0) (.int .i32 l[i].1) (by rw [e]; rfl)
      rw [getD_of l i hi]; simpa using this
    · have e := flat_at scCells 2 (fun _ => rfl) l i 1 hi (by omega)
      have := h2 (i * 2 + 1) (.int .i64 l[i].2) (by rw [e]; rfl)
      rw [getD_of l i hi, Nat.add_assoc]; exact this
theorem rd_new {w : World} {ra : Option Addr} {rc : Nat} {s : Sg.Bs} (hs : s.length ≤ 60) (num : Int) (h : RowAt 2 w ra rc (Sg.splitR s).length ((Sg.splitR s).flatMap scCells)) : RdAt (w.alloc (.cells #[.int .i64 num, .slice ra (Sg.splitR s).length rc, .int .i64 0, .int .i64 0, .pointer none] 219)) w.heap.size ⟨Sg.splitR s, 0, 0, none⟩ := by
  obtain ⟨lb, lo, rfl, h1, h2, h3⟩ := sc_cells h (split_pos _ _ _)
  have hb := heap_alloc_new w (.cells #[.int .i64 num, .slice (some ⟨lb, lo, none⟩) (Sg.splitR s).length rc, .int .i64 0, .int .i64 0, .pointer none] 219)
  have hbl := blw1' w (.cells #[.int .i64 num, .slice (some ⟨lb, lo, none⟩) (Sg.splitR s).length rc, .int .i64 0, .int .i64 0, .pointer none] 219)
  exact ⟨rd_ok s hs, ⟨lb, lo, rc, cell_of hb 1, by omega, fun i hi => below_keep hbl (h2 i hi), fun i hi => below_keep hbl (h3 i hi)⟩, cell_of hb 2, cell_of hb 3, cell_of hb 4, frz_of hb 2, frz_of hb 3⟩
theorem RdAt.setC {w : World} {q : Nat} {r : Sg.Rd} (h : RdAt w q r) {k : Nat} (hk : k ≠ q) (ha : ∀ lb lo n c, w.cell? ⟨q, 1, none⟩ = some (.slice (some ⟨lb, lo, none⟩) n c) → lb ≠ k) (o : Nat) (v : Value) : RdAt (w.setCell ⟨k, o, none⟩ v) q r := by
  obtain ⟨lb, lo, lc, h1, h2, h3, h4⟩ := h.l
  have hlb := ha _ _ _ _ h1
  have g : ∀ j, (w.setCell ⟨k, o, none⟩ v).cell? ⟨q, j, none⟩ = w.cell? ⟨q, j, none⟩ := fun j => World.cell?_setCell_other _ _ _ _ (by simp [hk])
  have g2 : ∀ j, (w.setCell ⟨k, o, none⟩ v).cell? ⟨lb, j, none⟩ = w.cell? ⟨lb, j, none⟩ := fun j => World.cell?_setCell_other _ _ _ _ (by simp [Ne.symm hlb])
  exact ⟨h.ok, ⟨lb, lo, lc, (g _).trans h1, h2, fun i hi => (g2 _).trans (h3 i hi), fun i hi => (g2 _).trans (h4 i hi)⟩, (g _).trans h.n, (g _).trans h.d, (g _).trans h.e, by rw [World.frozen?_setCell]; exact h.z2, by rw [World.frozen?_setCell]; exact h.z3⟩
theorem chg_below {w w' : World} {q B : Nat} (h : Chg (rulT q) w w') (hq : B ≤ q) (hB : B ≤ w.heap.size) : Below B w w' := h.below hB (fun k o hk t => by have := t.1; omega)
theorem read_any (w : World) (s : Sg.Bs) (num : Int) (hs : s.length ≤ 60) (hcl : cleanR s = true) (x : Sg.Node) (hx : Sg.readR s = .ok x) :
    Calls Tryz.prog 71 #[.string ⟨s.toArray⟩, .int .i64 num] w fun e w' => ∃ t u, e = .returned (.tuple #[.iface t u, .nilIface]) ∧ NodeAt (fun b => w.heap.size ≤ b) w' 31 (.iface t u) x ∧ Below w.heap.size w w' := by
  have hmf : ∀ (fn : Fn) (first cap : Array Value) (w : World), (Instr.makeFunc fn first cap).run Tryz.prog w = .ok (.func fn first cap) w := fun _ _ _ _ => rfl
  unfold Sg.readR at hx
  split at hx
  · cases hx
  · rename_i y r1 ha
    split at hx
    · cases hx
    · rename_i u0 he
      cases hx
      have hp : r1.peek.1 = -1 := by
        unfold Sg.Rd.expect at he
        split at he
        · assumption
        · cases he
      have HS := hide2 (fun wx => split_any wx s hs hcl)
      have HA : Hid (∀ wx ra rc, RowAt 2 wx ra rc (Sg.splitR s).length ((Sg.splitR s).flatMap scCells) → Calls Tryz.prog 102 #[.pointer (some ⟨wx.heap.size, 0, none⟩)] (wx.alloc (.cells #[.int .i64 num, .slice ra (Sg.splitR s).length rc, .int .i64 0, .int .i64 0, .pointer none] 219)) fun e w' => ∃ t u, e = .returned (.iface t u) ∧ Hid (NodeAt (fun b => wx.heap.size + 1 ≤ b) w' 31 (.iface t u) x) ∧ RdAt w' wx.heap.size r1 ∧ Chg (rulT wx.heap.size) (wx.alloc (.cells #[.int .i64 num, .slice ra (Sg.splitR s).length rc, .int .i64 0, .int .i64 0, .pointer none] 219)) w') := hide2 (fun wx ra rc hr => (all_reads 10 (by omega) _ _ _ (rd_new hs num hr) _ _ ha).mono fun _ _ ⟨v, h1, h2, h3⟩ => by
        obtain ⟨t, u, rfl⟩ := node_iface h2
        have hsz : wx.heap.size + 1 ≤ (wx.alloc (.cells #[.int .i64 num, .slice ra (Sg.splitR s).length rc, .int .i64 0, .int .i64 0, .pointer none] 219)).heap.size := by simp
        exact ⟨t, u, h1, hide2 (NodeAt.inw (E := fun b => wx.heap.size + 1 ≤ b) (fun b _ hb => Nat.le_trans hsz hb) _ _ _ h2), h3.at_, h3.chg⟩)
      have HE := hide2 (fun wx q (hx : RdAt wx q r1) => expect_any wx q r1 hx (-1) hp)
      clear ha he hp hcl
      generalize Sg.splitR s = sl at *
      obtain ⟨W0, hW0⟩ : ∃ W0, (w.alloc (.cells #[.nilIface] 156)).alloc (.cells #[.nilIface] 45) = W0 := ⟨_, rfl⟩
      have hb0 : Below w.heap.size w W0 := by rw [← hW0]; exact ((Below.refl _ _).alloc (Nat.le_refl _) _).alloc (by simp) _
      have hz0 : W0.heap.size = w.heap.size + 2 := by rw [← hW0]; simp
      have k0 : W0.heap[w.heap.size]? = some (.cells #[.nilIface] 156) := by rw [← hW0]; exact alloc2_low w _ _
      have k1 : W0.heap[w.heap.size + 1]? = some (.cells #[.nilIface] 45) := by rw [← hW0]; exact alloc2_top w _ _
      go_enter_defers Tryz.func71, Tryz.ntmps71
      go_wp2_with fail
      refine (HS.out _).mono ?_
      clear HS
      rintro e w1 ⟨ra, rc, rfl, hr1, hb1, hi1⟩
      have H1 := hide2 (And.intro hr1 (And.intro hb1 hi1))
      have hsz1 := hb1.size
      have j0 := below_blk hb1 k0
      have j1 := below_blk hb1 k1
      clear hr1 hb1 hi1 k0 k1 hW0
      go_wp2_with fail
      refine (HA.out _ _ _ H1.out.1).mono ?_
      clear HA
      rintro e w2 ⟨t, u, rfl, N2, R2, C2⟩
      have hal : (w1.alloc (.cells #[.int .i64 num, .slice ra sl.length rc, .int .i64 0, .int .i64 0, .pointer none] 219)).heap.size = w1.heap.size + 1 := by simp
      have i0 : w2.heap[w.heap.size]? = some (.cells #[.nilIface] 156) := (C2.block _ (by omega) (fun o t => by have := t.1; omega)).trans (below_blk (blw1' w1 _) j0)
      have i1 : w2.heap[w.heap.size + 1]? = some (.cells #[.nilIface] 45) := (C2.block _ (by omega) (fun o t => by have := t.1; omega)).trans (below_blk (blw1' w1 _) j1)
      have hq1 : w2.cell? ⟨w1.heap.size, 1, none⟩ = some (.slice ra sl.length rc) := (C2.cell _ _ (by omega) (by rintro ⟨_, h | h⟩ <;> omega)).trans (cell_of (heap_alloc_new w1 _) 1)
      have R3 : ∀ v, RdAt (w2.setCell ⟨w.heap.size, 0, none⟩ v) w1.heap.size r1 := fun v => R2.setC (by omega) (fun lb lo n c e => by
        rw [hq1] at e
        simp only [Option.some.injEq, Value.slice.injEq] at e
        have := H1.out.2.2 lb lo e.1
        omega) 0 v
      have HR3 := hide2 R3
      have hbw : Below w.heap.size w w2 := (below_go hb0 (H1.out.2.1)).trans ((chg_below ((Chg.of_below (blw1' w1 _)).trans C2) (B := w.heap.size) (by omega) (by omega)))
      have HX := hide2 (And.intro N2.out (And.intro hbw (And.intro i0 i1)))
      have c0 : w2.cell? ⟨w.heap.size, 0, none⟩ = some .nilIface := cell_of i0 0
      have c1 : w2.cell? ⟨w.heap.size + 1, 0, none⟩ = some .nilIface := cell_of i1 0
      have z0 := frz_of i0 0
      have z1 := frz_of i1 0
      have hsz2 := C2.size
      rw [hal] at hsz2
      clear i0 i1 hq1 R3 hbw C2 R2 N2 j0 j1 hal
      go_wp2_with fail
      refine (HE.out _ _ (HR3.out _)).mono ?_
      clear HE
      rintro e w3 ⟨rfl, S3⟩
      have d0 : w3.cell? ⟨w.heap.size, 0, none⟩ = some (.iface t u) := (S3.chg.cell _ _ (by simp [World.setCell]; omega) (fun t => by have := t.1; omega)).trans (World.cell?_setCell_same _ _ _ c0)
      have d1 : w3.cell? ⟨w.heap.size + 1, 0, none⟩ = some .nilIface := (S3.chg.cell _ _ (by simp [World.setCell]; omega) (fun t => by have := t.1; omega)).trans ((World.cell?_setCell_other _ _ _ _ (by simp)).trans c1)
      have y0 : w3.frozen? ⟨w.heap.size, 0, none⟩ = false := (S3.chg.frz _ _ (by simp [World.setCell]; omega)).trans (by rw [World.frozen?_setCell]; exact z0)
      have y1 : w3.frozen? ⟨w.heap.size + 1, 0, none⟩ = false := (S3.chg.frz _ _ (by simp [World.setCell]; omega)).trans (by rw [World.frozen?_setCell]; exact z1)
      have HC := hide2 S3.chg
      clear c0 c1 z0 z1 HR3 S3
      go_wp2
      refine leaves_cons (f := 100) (args := #[.pointer (some ⟨w.heap.size, 0, none⟩), .pointer (some ⟨w.heap.size + 1, 0, none⟩)]) (by simp) (by simp [go_sem]) ?_
      refine (read_idle ⟨w.heap.size, 0, none⟩ ⟨w.heap.size + 1, 0, none⟩ _).mono ?_
      rintro e u' w'' ⟨rfl, rfl, rfl⟩
      have e0 : ((w3.setCell ⟨w.heap.size, 0, none⟩ (.iface t u)).setCell ⟨w.heap.size + 1, 0, none⟩ .nilIface).cell? ⟨w.heap.size, 0, none⟩ = some (.iface t u) := (World.cell?_setCell_other _ _ _ _ (by simp)).trans (World.cell?_setCell_same _ _ _ d0)
      have e1 : ((w3.setCell ⟨w.heap.size, 0, none⟩ (.iface t u)).setCell ⟨w.heap.size + 1, 0, none⟩ .nilIface).cell? ⟨w.heap.size + 1, 0, none⟩ = some .nilIface := World.cell?_setCell_same _ _ _ ((World.cell?_setCell_other _ _ _ _ (by simp)).trans d1)
      obtain ⟨x1, x2, _, _⟩ := HX.out
      have hcc : Chg (fun i o => i = w.heap.size ∨ i = w.heap.size + 1 ∨ i = w1.heap.size) w2 ((w3.setCell ⟨w.heap.size, 0, none⟩ (.iface t u)).setCell ⟨w.heap.size + 1, 0, none⟩ .nilIface) :=
        (((Chg.setCell1 (w := w2) (k := w.heap.size) (o := 0) (T := fun i o => i = w.heap.size ∨ i = w.heap.size + 1 ∨ i = w1.heap.size) (.inl rfl) (.iface t u)).trans (HC.out.mono (fun i o _ t => .inr (.inr t.1)))).setCell (.inl rfl) _).setCell (.inr (.inl rfl)) _
      have hN := NodeAt.inw (E := fun b => w.heap.size ≤ b) (fun b _ hb => by have : w1.heap.size + 1 ≤ b := hb; omega) _ _ _ (NodeAt.of hcc (fun b o hb t => by have : w1.heap.size + 1 ≤ b := hb; omega) _ _ _ x1)
      have hB : Below w.heap.size w ((w3.setCell ⟨w.heap.size, 0, none⟩ (.iface t u)).setCell ⟨w.heap.size + 1, 0, none⟩ .nilIface) := x2.trans (hcc.below x2.size (fun k o hk t => by omega))
      generalize (w3.setCell ⟨w.heap.size, 0, none⟩ (.iface t u)).setCell ⟨w.heap.size + 1, 0, none⟩ .nilIface = X at *
      simp [Leaves, settle, results, Tryz.results71, go_sem, e0, e1]
      exact ⟨t, u, ⟨rfl, rfl⟩, hN, hB⟩
end Go.Proofs.YtlhokghgicgppaaGreatDoor
namespace Go.Proofs.YtlhokghgicgppaaGreatDoor
open Go.RowKit Go.Extern
def rlV (s : Sg.Bs) : Value := .string ⟨s.toArray⟩
theorem row_cell {sz : Nat} {w : World} {ra : Option Addr} {rc n : Nat} {vs : List Value} (h : RowAt sz w ra rc n vs) {j : Nat} {v : Value} (hj : vs[j]? = some v) : ∃ rb ro, ra = some ⟨rb, ro, none⟩ ∧ w.cell? ⟨rb, ro + j, none⟩ = some v := by
  rcases h.row with ⟨_, _, h2⟩ | ⟨rb, ro, e, _, h2, _⟩
  · have h3 := h.len
    rw [h2, Nat.zero_mul] at h3
    rw [List.length_eq_zero_iff.1 h3] at hj
    cases hj
  · exact ⟨rb, ro, e, h2 j _ hj⟩
theorem checkSizes_any (w : World) (ra : Option Addr) (rc : Nat) (rules : List Sg.Bs) (hR : RowAt 1 w ra rc rules.length (rules.map rlV)) (h1 : 1 ≤ rules.length) (h8 : rules.length ≤ 8) (hs : ∀ s ∈ rules, s.length ≤ 60) :
    Calls Tryz.prog 42 #[.slice ra rules.length rc] w fun e w' => e = .returned .nilIface ∧ Below w.heap.size w w' := by
  have HR := hide2 hR
  have HS := hide2 hs
  have b1 : decide ((rules.length : Int) < 1) = false := decide_eq_false (by omega)
  have b2 : decide ((8 : Int) < rules.length) = false := decide_eq_false (by omega)
  clear hR hs
  go_enter Tryz.func42, Tryz.ntmps42
  go_wp2
  go_loopw [16] (fun iv wr => ∃ (j : Nat), iv = .int .i64 j ∧ j ≤ rules.length ∧ Hid (Below w.heap.size w wr)) (fun iv _ => rules.length - (intOf iv).toNat)
  case atStart => exact ⟨0, rfl, Nat.zero_le _, hide2 (by first | exact Below.refl _ _ | exact (Below.refl _ _).drew)⟩
  case round =>
    obtain ⟨j, rfl, hj, H⟩ := hrel
    by_cases hlt : j < rules.length
    · obtain ⟨rb, ro, rfl, k0⟩ := row_cell (HR.out.below H.out) (j := j) (v := rlV rules[j]) (by simp [hlt])
      have hl := HS.out rules[j] (List.getElem_mem _)
      unfold rlV at k0
      generalize rules[j] = s at *
      have hsz : (ByteArray.mk s.toArray).size = s.length := by simp [ByteArray.size]
      generalize ByteArray.mk s.toArray = bs at *
      go_wp2
      exact ⟨⟨j + 1, by go_num, by omega, H⟩, by simp [intOf]; omega⟩
    · go_wp2
      go_ret
      exact ⟨rfl, H.out⟩
theorem readAll_any (w : World) (ra : Option Addr) (rc : Nat) (rules : List Sg.Bs) (hR : RowAt 1 w ra rc rules.length (rules.map rlV)) (h8 : rules.length ≤ 8) (hs : ∀ s ∈ rules, s.length ≤ 60) (hcl : ∀ s ∈ rules, cleanR s = true) (ts : List Sg.Node) (hts : Sg.readAllT rules 0 0 [] = .ok ts) :
    Calls Tryz.prog 43 #[.slice ra rules.length rc] w fun e w' => ∃ ia ic vs, e = .returned (.tuple #[.slice ia ts.length ic, .nilIface]) ∧ RowAt 1 w' ia ic ts.length vs ∧ NodesAt (fun b => b < w'.heap.size) w' 100 vs ts ∧ ts.length ≤ 8 ∧ ts.foldl (fun n x => n + Sg.placesN 100 x) 0 ≤ 64 ∧ Below w.heap.size w w' := by
  have HR := hide2 hR
  have HS := hide2 (And.intro hs hcl)
  have HT := hide2 hts
  clear hR hs hcl hts
  go_enter Tryz.func43, Tryz.ntmps43
  go_wp2
  go_loopw [4, 5, 12] (fun tv cv iv wr => ∃ (j : Nat) (ia : Option Addr) (ic : Nat) (vs : List Value) (li : List Sg.Node) (cnt : Int), tv = .slice ia j ic ∧ cv = .int .i64 cnt ∧ iv = .int .i64 j ∧ j ≤ rules.length ∧ 0 ≤ cnt ∧ cnt ≤ 64 ∧ Hid (j = li.length ∧ RowAt 1 wr ia ic j vs ∧ InD (fun b => w.heap.size ≤ b) ia ∧ NodesAt (Dn w.heap.size ia) wr 100 vs li ∧ Below w.heap.size w wr ∧ Sg.readAllT (rules.drop j) j cnt li = .ok ts ∧ cnt = li.foldl (fun n x => n + Sg.placesN 100 x) 0)) (fun _ _ iv _ => rules.length - (intOf iv).toNat)
  case atStart => exact ⟨0, none, 0, [], [], 0, rfl, rfl, rfl, Nat.zero_le _, by omega, by omega, hide2 ⟨rfl, RowAt.nil 1 w, (fun _ _ e => by cases e), (fun i x hx => by simp at hx), Below.refl _ _, HT.out, rfl⟩⟩
  case round =>
    obtain ⟨j, ia, ic, vs, li, cnt, rfl, rfl, rfl, hj, hc0, hc1, H⟩ := hrel
    obtain ⟨g0, g1, g2, g3, g4, g5, g6⟩ := H.out
    clear H HT
    by_cases hlt : j < rules.length
    · rw [List.drop_eq_getElem_cons hlt] at g5
      obtain ⟨rb, ro, rfl, k0⟩ := row_cell (HR.out.below g4) (j := j) (v := rlV rules[j]) (by simp [hlt])
      have hl := HS.out.1 rules[j] (List.getElem_mem _)
      have hcl := HS.out.2 rules[j] (List.getElem_mem _)
      unfold rlV at k0
      unfold Sg.readAllT at g5
      generalize rules[j] = s at *
      split at g5
      · cases g5
      · rename_i y hy
        by_cases hp : Sg.plOk 100 y = true
        · rw [hp, if_neg (by simp)] at g5
          by_cases h64 : 64 < cnt + Sg.placesN 100 y
          · rw [if_pos h64] at g5; cases g5
          · rw [if_neg h64] at g5
            have HRd := hide2 (read_any wr s j hl hcl y hy)
            have HG := hide2 (And.intro g0 (And.intro g1 (And.intro g2 (And.intro g3 (And.intro g4 (And.intro g5 g6))))))
            have HP := hide2 hp
            clear g0 g1 g2 g3 g4 g5 g6 hy hl hcl hp
            generalize hpl : Sg.placesN 100 y = pl at *
            have HPl := hide2 hpl
            clear hpl
            go_wp2_with (first
              | (go_at_call 71; refine HRd.out.mono ?_; clear HRd; rintro e w1 ⟨t, u, rfl, N1, B1⟩
                 have hpl0 := places_nonneg 100 _ _ (NodeAt.le (by omega) N1)
                 rw [HPl.out] at hpl0
                 have hwr : IntKind.i64.wrap (cnt + pl) = cnt + pl := wrap_id (by omega) (by omega)
                 obtain ⟨f, u', t', e9, hm, he, hc⟩ := places_of (NodeAt.le (m := 100) (by omega) N1) HP.out
                 cases e9
                 have HC := hide2 (fun wx (hb : Below w1.heap.size w1 wx) => hc wx (NodeAt.below hb (NodeAt.le (m := 100) (by omega) N1)))
                 rw [HPl.out] at HC
                 have HN := hide2 (And.intro N1 B1)
                 clear N1 B1 hc)
              | (go_at_fn f; refine (HC.out _ (by first | exact Below.refl _ _ | exact (Below.refl _ _).drew)).mono ?_; clear HC; rintro e w2 ⟨rfl, hb2⟩
                 obtain ⟨g0, g1, g2, g3, g4, g5, g6⟩ := HG.out
                 have n2 := NodeAt.below hb2 (NodeAt.le (m := 100) (by omega) HN.out.1)
                 have hb12 := below_go HN.out.2 hb2
                 have hsz := g4.size
                 have hsz1 := HN.out.2.size
                 have hsz2 := hb2.size
                 obtain ⟨ia', ic', w3, hrun, A2, A3⟩ := nodes_append (B := w.heap.size) (Bx := wr.heap.size) 102 Tryz.underlying102 (g1.below hb12) g2 (g3.of (Chg.of_below (T := fun _ _ => False) hb12) (fun _ _ _ t => t)) g0 n2 (fun b o e => g1.lt e) hsz (by omega) (by omega)
                 have hB3 : Below w.heap.size w w3 := (g4.trans (hb12.mono hsz)).trans (A3.below (by omega) (fun k o hk ⟨o', e⟩ => by have : w.heap.size ≤ k := g2 _ _ e; omega))
                 have HA := hide2 (And.intro hB3 (And.intro g0 (And.intro g5 g6)))
                 clear g0 g1 g2 g3 g4 g5 g6 n2 hb12 hsz hsz1 hsz2 hB3 A3 hb2 HG HN)
              | (at_builtin; refine wpList_append_run rfl _ _ _ _ rfl _ _ _ rfl rfl hrun ?_; clear hrun))
            obtain ⟨a1, a2, a3, a4⟩ := HA.out
            obtain ⟨b1, b2, b3⟩ := A2.out
            refine ⟨⟨j + 1, ia', ic', vs ++ [.iface t u], li ++ [y], cnt + pl, rfl, rfl, by go_num, by omega, by omega, by omega, hide2 ⟨?_, b1, b2, b3, a1, ?_, ?_⟩⟩, by simp [intOf]; omega⟩
            · rw [List.length_append, ← a2]; rfl
            · rw [← a3]; push_cast; rfl
            · rw [List.foldl_append, ← a4, ← HPl.out]; rfl
        · rw [Bool.not_eq_true] at hp
          rw [hp, if_pos (by simp)] at g5; cases g5
    · rw [List.drop_of_length_le (by omega)] at g5
      unfold Sg.readAllT at g5
      simp only [Except.ok.injEq] at g5
      subst g5
      have HX := hide2 (And.intro g0 (And.intro g1 (And.intro g2 (And.intro g3 (And.intro g4 g6)))))
      clear g0 g1 g2 g3 g4 g6
      go_wp2
      go_ret2
      obtain ⟨g0, g1, g2, g3, g4, g6⟩ := HX.out
      subst g0
      exact ⟨ia, ic, vs, rfl, g1, g3.inw (fun b hb _ => hb), by omega, by omega, g4⟩
end Go.Proofs.YtlhokghgicgppaaGreatDoor
