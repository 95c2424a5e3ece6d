/- The layout of a tree: what lay does. -/
/- lay, of an Alt and of a Times. -/
/- lay, of a Row. -/
import Derived.Test.YtlhokghgicgppaaGreatDoorLtMem
import Derived.Test.YtlhokghgicgppaaGreatDoorPlaces
import Derived.Test.YtlhokghgicgppaaGreatDoorRd1
set_option linter.unusedSimpArgs false
set_option linter.unusedVariables false
set_option maxRecDepth 100000
set_option maxHeartbeats 4000000
namespace Go.Proofs.YtlhokghgicgppaaGreatDoor
open Go.RowKit Go.Extern
theorem taC (u : Value) (w : World) : (Instr.typeAssert (.iface 284 u) 156 284 true).run Tryz.prog w = .ok (.tuple #[u, .bool true]) w := by kernel_rfl
theorem taA (u : Value) (w : World) : (Instr.typeAssert (.iface 279 u) 156 279 true).run Tryz.prog w = .ok (.tuple #[u, .bool true]) w := by kernel_rfl
theorem taT (u : Value) (w : World) : (Instr.typeAssert (.iface 288 u) 156 288 true).run Tryz.prog w = .ok (.tuple #[u, .bool true]) w := by kernel_rfl
theorem taR (u : Value) (w : World) : (Instr.typeAssert (.iface 290 u) 156 290 true).run Tryz.prog w = .ok (.tuple #[u, .bool true]) w := by kernel_rfl
theorem taAC (u : Value) (w : World) : (Instr.typeAssert (.iface 279 u) 156 284 true).run Tryz.prog w = .ok (.tuple #[.agg #[.slice none 0 0], .bool false]) w := by kernel_rfl
theorem taTC (u : Value) (w : World) : (Instr.typeAssert (.iface 288 u) 156 284 true).run Tryz.prog w = .ok (.tuple #[.agg #[.slice none 0 0], .bool false]) w := by kernel_rfl
theorem taTA (u : Value) (w : World) : (Instr.typeAssert (.iface 288 u) 156 279 true).run Tryz.prog w = .ok (.tuple #[.slice none 0 0, .bool false]) w := by kernel_rfl
theorem taRC (u : Value) (w : World) : (Instr.typeAssert (.iface 290 u) 156 284 true).run Tryz.prog w = .ok (.tuple #[.agg #[.slice none 0 0], .bool false]) w := by kernel_rfl
theorem taRA (u : Value) (w : World) : (Instr.typeAssert (.iface 290 u) 156 279 true).run Tryz.prog w = .ok (.tuple #[.slice none 0 0, .bool false]) w := by kernel_rfl
theorem taRT (u : Value) (w : World) : (Instr.typeAssert (.iface 290 u) 156 288 true).run Tryz.prog w = .ok (.tuple #[.agg #[.nilIface, .int .i64 0, .int .i64 0], .bool false]) w := by kernel_rfl
theorem LtAt.mut {B : Nat} {w w' : World} {p : Nat} {l : Sg.Lt} (h : LtAt (fun b => b < B) w p l) {T : Nat → Nat → Prop} (hc : Chg T w w') (hT : ∀ i o, T i o → B ≤ i ∧ i ≠ p) : LtAt (fun b => b < B) w' p l := by
  have hp : p < w.heap.size := cell_lt h.fn.c0
  have g : ∀ o, w'.cell? ⟨p, o, none⟩ = w.cell? ⟨p, o, none⟩ := fun o => hc.cell _ _ hp (fun t => (hT _ _ t).2 rfl)
  refine ⟨⟨(g _).trans h.fn.c0, fun i hi => (g _).trans (h.fn.f0 i hi), fun i hi => (g _).trans (h.fn.f1 i hi), fun o => (hc.frz _ _ hp).trans (h.fn.fz o)⟩, fun i hi => ?_, fun i hi => ?_, h.lt, h.len, h.n, h.cl, h.d⟩
  · obtain ⟨ra, rc, h1, h2, h3⟩ := h.cls i hi
    exact ⟨ra, rc, (g _).trans h1, h2.of hc (fun rb ro j er t => by have := h3 rb ro er; have := (hT _ _ t).1; omega), h3⟩
  · obtain ⟨u, hu⟩ := h.cell i hi
    exact ⟨u, (g _).trans hu⟩
theorem lay_end {B : Nat} {w x : World} {p R : Nat} {l2 : Sg.Lt} (hB : B ≤ p) (hp : p < w.heap.size) (hR : w.heap.size ≤ R) {cs : Array Value} (hs : cs.size = 5) {t : TypeId} (h : x.heap[R]? = some (.cells cs t)) (hL : LtAt (fun b => b < B) x p l2) (hC : Chg (layT p) w x) (v0 v1 v2 v3 v4 : Value) :
    (((((x.setCell ⟨R, 0, none⟩ v0).setCell ⟨R, 1, none⟩ v1).setCell ⟨R, 2, none⟩ v2).setCell ⟨R, 3, none⟩ v3).setCell ⟨R, 4, none⟩ v4).heap[R]? = some (.cells #[v0, v1, v2, v3, v4] t) ∧
    LtAt (fun b => b < B) (((((x.setCell ⟨R, 0, none⟩ v0).setCell ⟨R, 1, none⟩ v1).setCell ⟨R, 2, none⟩ v2).setCell ⟨R, 3, none⟩ v3).setCell ⟨R, 4, none⟩ v4) p l2 ∧
    Chg (layT p) w (((((x.setCell ⟨R, 0, none⟩ v0).setCell ⟨R, 1, none⟩ v1).setCell ⟨R, 2, none⟩ v2).setCell ⟨R, 3, none⟩ v3).setCell ⟨R, 4, none⟩ v4) := by
  have hc : Chg (fun i _ => i = R) x (((((x.setCell ⟨R, 0, none⟩ v0).setCell ⟨R, 1, none⟩ v1).setCell ⟨R, 2, none⟩ v2).setCell ⟨R, 3, none⟩ v3).setCell ⟨R, 4, none⟩ v4) :=
    (((((Chg.refl (fun i _ => i = R) x).setCell (k := R) (o := 0) rfl v0).setCell (k := R) (o := 1) rfl v1).setCell (k := R) (o := 2) rfl v2).setCell (k := R) (o := 3) rfl v3).setCell (k := R) (o := 4) rfl v4
  exact ⟨set5_row hs h _ _ _ _ _, hL.mut hc (fun i o t => by omega), ((((hC.set_new hR _ _).set_new hR _ _).set_new hR _ _).set_new hR _ _).set_new hR _ _⟩
def LayPost (B : Nat) (w : World) (p : Nat) (l : Sg.Lt) (P : Sg.Pc2) (l' : Sg.Lt) (n : Int) : Ending → World → Prop := fun e w' => e = .returned (pcV P) ∧ Pok P ∧ LtAt (fun b => b < B) w' p l' ∧ Chg (layT p) w w' ∧ (l'.cls.length : Int) = l.cls.length + n
def Sg.nul : Nat → Sg.Node → Bool
  | 0, _ => false
  | _ + 1, ⟨.inl _⟩ => false
  | k + 1, ⟨.inr (.inl l)⟩ => l.all (Sg.nul k)
  | k + 1, ⟨.inr (.inr (.inl l))⟩ => l.any (Sg.nul k)
  | k + 1, ⟨.inr (.inr (.inr (a, least, most)))⟩ => decide (Sg.copies least most ≤ 0) || decide (least ≤ 0) || Sg.nul k a
def Sg.altOk : Nat → Sg.Node → Bool
  | 0, _ => false
  | _ + 1, ⟨.inl _⟩ => true
  | k + 1, ⟨.inr (.inl l)⟩ => l.all (Sg.altOk k)
  | k + 1, ⟨.inr (.inr (.inl l))⟩ => l.all fun x => Sg.altOk k x && !Sg.nul k x
  | k + 1, ⟨.inr (.inr (.inr (a, _, _)))⟩ => Sg.altOk k a
def Lays (k : Nat) : Prop := ∀ (B : Nat) (w : World) (p : Nat) (l : Sg.Lt) (v : Value) (x : Sg.Node), Sg.altOk k x = true → LtAt (fun b => b < B) w p l → NodeAt (fun b => b < B) w k v x → (l.cls.length : Int) + Sg.placesN k x ≤ 64 →
  Calls Tryz.prog 104 #[.pointer (some ⟨p, 0, none⟩), v] w (LayPost B w p l (Sg.layN k x l).1 (Sg.layN k x l).2 (Sg.placesN k x))
theorem lay_cls (k : Nat) (B : Nat) (w : World) (p : Nat) (l : Sg.Lt) (ra : Option Addr) (rc : Nat) (s : List (Int × Int)) (hL : LtAt (fun b => b < B) w p l) (hr : RowAt 2 w ra rc s.length (s.flatMap rgCells)) (hd : InD (fun b => b < B) ra) (hs : s.length < 1000000) (hn : l.cls.length < 64) :
    Calls Tryz.prog 104 #[.pointer (some ⟨p, 0, none⟩), .iface 284 (.agg #[.slice ra s.length rc])] w (LayPost B w p l (Sg.layN (k + 1) (.cls s) l).1 (Sg.layN (k + 1) (.cls s) l).2 1) := by
  have hp : p < w.heap.size := cell_lt hL.fn.c0
  have q0 := taC
  have HP : Hid (∀ W, LtAt (fun b => b < B) W p l → RowAt 2 W ra rc s.length (s.flatMap rgCells) → Calls Tryz.prog 143 #[.pointer (some ⟨p, 0, none⟩), .slice ra s.length rc] W fun e w' => e = .returned (pcV ⟨2 ^ l.cls.length, 2 ^ l.cls.length, false⟩) ∧ LtAt (fun b => b < B) w' p ⟨l.cls ++ [s], l.follow ++ [0]⟩ ∧ Chg (layT p) W w') := hide2 (fun W hW hR => by
    obtain ⟨u, hu⟩ := hW.cell l.cls.length hn
    exact (place_any W p l.cls.length hn hW.fn.c0 u hu (hW.fn.fz 0) (hW.fn.fz _) ra s.length rc).mono fun e w' ⟨h1, h2, h3, h4⟩ => ⟨h1, hW.place hn hR hd hs h2 h3 h4, h4.mono (fun i o _ t => ⟨t.1, by rcases t.2 with t | t <;> omega⟩)⟩)
  have hpo : Pok ⟨2 ^ l.cls.length, 2 ^ l.cls.length, false⟩ := ⟨Nat.pow_lt_pow_right (a := 2) (n := 64) (by decide) hn, Nat.pow_lt_pow_right (a := 2) (n := 64) (by decide) hn⟩
  have hlay : Sg.layN (k + 1) (.cls s) l = (⟨2 ^ l.cls.length, 2 ^ l.cls.length, false⟩, ⟨l.cls ++ [s], l.follow ++ [0]⟩) := rfl
  rw [hlay]
  dsimp only
  have hpcv : pcV ⟨2 ^ l.cls.length, 2 ^ l.cls.length, false⟩ = .agg (pcA ((2 ^ l.cls.length % 4294967296 : Nat) : Int) ((2 ^ l.cls.length / 4294967296 : Nat) : Int) ((2 ^ l.cls.length % 4294967296 : Nat) : Int) ((2 ^ l.cls.length / 4294967296 : Nat) : Int) false) := rfl
  unfold LayPost
  have HQ := hide2 (And.intro hL (And.intro hr (And.intro hpo hpcv)))
  rw [hpcv] at HP
  generalize ((2 ^ l.cls.length % 4294967296 : Nat) : Int) = m0 at *
  generalize ((2 ^ l.cls.length / 4294967296 : Nat) : Int) = m1 at *
  generalize hPP : (⟨2 ^ l.cls.length, 2 ^ l.cls.length, false⟩ : Sg.Pc2) = PP at *
  unfold pcA at HP
  have hlen : (((⟨l.cls ++ [s], l.follow ++ [0]⟩ : Sg.Lt).cls.length : Nat) : Int) = l.cls.length + 1 := by show (((l.cls ++ [s]).length : Nat) : Int) = _; rw [List.length_append]; simp
  have hBp : B ≤ p := by have := hL.d; omega
  generalize (⟨l.cls ++ [s], l.follow ++ [0]⟩ : Sg.Lt) = l2 at *
  have HL2 := hide2 hlen
  clear hlen
  clear hL hr hpo hpcv hlay hPP
  go_enter Tryz.func104, Tryz.ntmps104
  have hbl := below2 w (.cells #[.int .u32 0, .int .u32 0, .int .u32 0, .int .u32 0, .bool false] 232) (.cells #[.slice ra s.length rc] 284)
  have hal := alloc2_low w (.cells #[.int .u32 0, .int .u32 0, .int .u32 0, .int .u32 0, .bool false] 232) (.cells #[.slice ra s.length rc] 284)
  go_wp2_with (go_at_call 143; refine (HP.out _ (HQ.out.1.below hbl) (HQ.out.2.1.below hbl)).mono ?_; rintro e w1 ⟨rfl, L1, C1⟩; have hr1 : w1.heap[w.heap.size]? = some (.cells (pcA 0 0 0 0 false) 232) := (C1.block _ (by simp; omega) (fun o t => by have := t.1; omega)).trans hal; obtain ⟨r0, r1, r2, r3, r4, x0, x1, x2, x3, x4⟩ := five hr1; have HR := hide2 hr1; clear hr1 hal)
  obtain ⟨e1, e2, e3⟩ := lay_end hBp hp (Nat.le_refl _) rfl HR.out L1 ((Chg.of_below hbl).trans C1) (.int .u32 m0) (.int .u32 m1) (.int .u32 m0) (.int .u32 m1) (.bool false)
  refine bodyPost_ret (results_cell_row rfl _ _ w.heap.size 232 #[.int .u32 m0, .int .u32 m1, .int .u32 m0, .int .u32 m1, .bool false] (0, 0) _ rfl e1 Tryz.underlying232 rfl (by kernel_rfl)) rfl ?_
  exact ⟨by rw [HQ.out.2.2.2]; rfl, HQ.out.2.2.1, e2, e3, HL2.out⟩
end Go.Proofs.YtlhokghgicgppaaGreatDoor
namespace Go.Proofs.YtlhokghgicgppaaGreatDoor
open Go.RowKit Go.Extern
theorem pcV_eq (P : Sg.Pc2) : ∃ m0 m1 m2 m3 b, pcV P = .agg (pcA m0 m1 m2 m3 b) := ⟨_, _, _, _, _, rfl⟩
theorem lay_alt (B : Nat) (w : World) (p : Nat) (l : Sg.Lt) (hB : B ≤ p) (hp : p < w.heap.size) (ra : Option Addr) (rc ln : Nat) (P : Sg.Pc2) (l' : Sg.Lt) (n : Int)
    (hA : ∀ W, Below w.heap.size w W → Calls Tryz.prog 144 #[.pointer (some ⟨p, 0, none⟩), .slice ra ln rc] W (LayPost B W p l P l' n)) :
    Calls Tryz.prog 104 #[.pointer (some ⟨p, 0, none⟩), .iface 279 (.slice ra ln rc)] w (LayPost B w p l P l' n) := by
  obtain ⟨m0, m1, m2, m3, b, hpc⟩ := pcV_eq P
  have q0 := taA
  have q1 := taAC
  unfold LayPost at hA ⊢
  have HP := hide2 hpc
  rw [hpc] at hA
  unfold pcA at hA
  have HA := hide2 hA
  clear hA hpc
  have hbl := below1 w (.cells #[.int .u32 0, .int .u32 0, .int .u32 0, .int .u32 0, .bool false] 232)
  have hal := heap_alloc_new w (.cells #[.int .u32 0, .int .u32 0, .int .u32 0, .int .u32 0, .bool false] 232)
  go_enter Tryz.func104, Tryz.ntmps104
  go_wp2_with (go_at_call 144; refine (HA.out _ hbl).mono ?_; rintro e w1 ⟨rfl, P1, L1, C1, N1⟩; have hr1 : w1.heap[w.heap.size]? = some (.cells (pcA 0 0 0 0 false) 232) := (C1.block _ (by simp) (fun o t => by have := t.1; omega)).trans hal; obtain ⟨r0, r1, r2, r3, r4, x0, x1, x2, x3, x4⟩ := five hr1; have HR := hide2 hr1; have HN := hide2 N1; clear hr1 hal N1)
  obtain ⟨e1, e2, e3⟩ := lay_end hB hp (Nat.le_refl _) rfl HR.out L1 ((Chg.of_below hbl).trans C1) (.int .u32 m0) (.int .u32 m1) (.int .u32 m2) (.int .u32 m3) (.bool b)
  refine bodyPost_ret (results_cell_row rfl _ _ w.heap.size 232 #[.int .u32 m0, .int .u32 m1, .int .u32 m2, .int .u32 m3, .bool b] (0, 0) _ rfl e1 Tryz.underlying232 rfl (by kernel_rfl)) rfl ?_
  exact ⟨by rw [HP.out]; rfl, P1, e2, e3, HN.out⟩
theorem lay_times (B : Nat) (w : World) (p : Nat) (l : Sg.Lt) (hB : B ≤ p) (hp : p < w.heap.size) (t : TypeId) (u : Value) (lo hi : Int) (P : Sg.Pc2) (l' : Sg.Lt) (n : Int)
    (hA : ∀ W, Below w.heap.size w W → Calls Tryz.prog 145 #[.pointer (some ⟨p, 0, none⟩), .agg #[.iface t u, .int .i64 lo, .int .i64 hi]] W (LayPost B W p l P l' n)) :
    Calls Tryz.prog 104 #[.pointer (some ⟨p, 0, none⟩), .iface 288 (.agg #[.iface t u, .int .i64 lo, .int .i64 hi])] w (LayPost B w p l P l' n) := by
  obtain ⟨m0, m1, m2, m3, b, hpc⟩ := pcV_eq P
  have q0 := taT
  have q1 := taTC
  have q2 := taTA
  unfold LayPost at hA ⊢
  have HP := hide2 hpc
  rw [hpc] at hA
  unfold pcA at hA
  have HA := hide2 hA
  clear hA hpc
  have hbl := below2 w (.cells #[.int .u32 0, .int .u32 0, .int .u32 0, .int .u32 0, .bool false] 232) (.cells #[.iface t u, .int .i64 lo, .int .i64 hi] 288)
  have hal := alloc2_low w (.cells #[.int .u32 0, .int .u32 0, .int .u32 0, .int .u32 0, .bool false] 232) (.cells #[.iface t u, .int .i64 lo, .int .i64 hi] 288)
  go_enter Tryz.func104, Tryz.ntmps104
  go_wp2_with (go_at_call 145; refine (HA.out _ hbl).mono ?_; rintro e w1 ⟨rfl, P1, L1, C1, N1⟩; have hr1 : w1.heap[w.heap.size]? = some (.cells (pcA 0 0 0 0 false) 232) := (C1.block _ (by simp; omega) (fun o t => by have := t.1; omega)).trans hal; obtain ⟨r0, r1, r2, r3, r4, x0, x1, x2, x3, x4⟩ := five hr1; have HR := hide2 hr1; have HN := hide2 N1; clear hr1 hal N1)
  obtain ⟨e1, e2, e3⟩ := lay_end hB hp (Nat.le_refl _) rfl HR.out L1 ((Chg.of_below hbl).trans C1) (.int .u32 m0) (.int .u32 m1) (.int .u32 m2) (.int .u32 m3) (.bool b)
  refine bodyPost_ret (results_cell_row rfl _ _ w.heap.size 232 #[.int .u32 m0, .int .u32 m1, .int .u32 m2, .int .u32 m3, .bool b] (0, 0) _ rfl e1 Tryz.underlying232 rfl (by kernel_rfl)) rfl ?_
  exact ⟨by rw [HP.out]; rfl, P1, e2, e3, HN.out⟩
end Go.Proofs.YtlhokghgicgppaaGreatDoor
namespace Go.Proofs.YtlhokghgicgppaaGreatDoor
open Go.RowKit Go.Extern
def rowStep (k : Nat) (a : Sg.Pc2 × Sg.Lt) (n : Sg.Node) : Sg.Pc2 × Sg.Lt := (Sg.layN k n a.2).2.join a.1 (Sg.layN k n a.2).1
theorem rowStep_eq (k : Nat) (a : Sg.Pc2 × Sg.Lt) (n : Sg.Node) : rowStep k a n = (joinP a.1 (Sg.layN k n a.2).1, (Sg.layN k n a.2).2.connect a.1.last (Sg.layN k n a.2).1.first) := rfl
theorem layN_row (k : Nat) (ns : List Sg.Node) (l : Sg.Lt) : Sg.layN (k + 1) (.row ns) l = ns.foldl (rowStep k) (⟨0, 0, true⟩, l) := rfl
theorem connect_len (l : Sg.Lt) (a b : Nat) : (l.connect a b).cls.length = l.cls.length := rfl
theorem sum_shift (k : Nat) (l : List Sg.Node) : ∀ n : Int, l.foldl (fun n x => n + Sg.placesN k x) n = n + l.foldl (fun n x => n + Sg.placesN k x) 0 := by
  induction l with
  | nil => intro n; simp
  | cons x l ih => intro n; rw [List.foldl_cons, List.foldl_cons, ih (n + Sg.placesN k x), ih (0 + Sg.placesN k x)]; omega
theorem set5_blk (x : World) (R R' : Nat) (h : R' ≠ R) (v0 v1 v2 v3 v4 : Value) : (((((x.setCell ⟨R, 0, none⟩ v0).setCell ⟨R, 1, none⟩ v1).setCell ⟨R, 2, none⟩ v2).setCell ⟨R, 3, none⟩ v3).setCell ⟨R, 4, none⟩ v4).heap[R']? = x.heap[R']? := by
  rw [Below.heap_setCell _ _ _ _ h, Below.heap_setCell _ _ _ _ h, Below.heap_setCell _ _ _ _ h, Below.heap_setCell _ _ _ _ h, Below.heap_setCell _ _ _ _ h]
theorem join_lt {B : Nat} {w : World} {p : Nat} {l : Sg.Lt} (h : LtAt (fun b => b < B) w p l) {P Q : Sg.Pc2} (hP : Pok P) (hQ : Pok Q) :
    Calls Tryz.prog 146 #[.pointer (some ⟨p, 0, none⟩), pcV P, pcV Q] w fun e w' => e = .returned (pcV (joinP P Q)) ∧ LtAt (fun b => b < B) w' p (l.connect P.last Q.first) ∧ Chg (folT p) w w' :=
  (join_any w p l.cls.length _ P Q hP hQ h.lt h.n h.fn).mono fun _ _ ⟨h1, h2, h3⟩ => ⟨h1, h.connect hQ.f h2 h3, h3⟩
theorem lay_row (k : Nat) (hk : Lays k) (B : Nat) (w : World) (p : Nat) (l : Sg.Lt) (ra : Option Addr) (rc : Nat) (ns : List Sg.Node) (vs : List Value) (hL : LtAt (fun b => b < B) w p l) (hR : RowAt 1 w ra rc ns.length vs) (hd : InD (fun b => b < B) ra) (hnl : ns.length < 1000000) (hN : NodesAt (fun b => b < B) w k vs ns) (h64 : (l.cls.length : Int) + ns.foldl (fun n x => n + Sg.placesN k x) 0 ≤ 64) (hnn : ∀ x ∈ ns, 0 ≤ Sg.placesN k x) (hao : ∀ x ∈ ns, Sg.altOk k x = true) :
    Calls Tryz.prog 104 #[.pointer (some ⟨p, 0, none⟩), .iface 290 (.slice ra ns.length rc)] w (LayPost B w p l (ns.foldl (rowStep k) (⟨0, 0, true⟩, l)).1 (ns.foldl (rowStep k) (⟨0, 0, true⟩, l)).2 (ns.foldl (fun n x => n + Sg.placesN k x) 0)) := by
  have hp : p < w.heap.size := cell_lt hL.fn.c0
  have hB : B ≤ p := by have := hL.d; omega
  have q0 := taR
  have q1 := taRC
  have q2 := taRA
  have q3 := taRT
  have HR := hide2 hR
  have HN := hide2 (And.intro hN (And.intro hd hnn))
  have HAO := hide2 hao
  clear hao
  have HLt := hide2 hL
  clear hR hN hd hnn hL
  unfold LayPost
  generalize hfin : ns.foldl (rowStep k) (⟨0, 0, true⟩, l) = fin
  have HF := hide2 hfin
  clear hfin
  generalize htot : ns.foldl (fun n x => n + Sg.placesN k x) 0 = tot at *
  have HTo := hide2 htot
  clear htot
  have hbl := below2 w (.cells #[.int .u32 0, .int .u32 0, .int .u32 0, .int .u32 0, .bool false] 232) (.cells #[.int .u32 0, .int .u32 0, .int .u32 0, .int .u32 0, .bool true] 232)
  have hal := alloc2_low w (.cells #[.int .u32 0, .int .u32 0, .int .u32 0, .int .u32 0, .bool false] 232) (.cells #[.int .u32 0, .int .u32 0, .int .u32 0, .int .u32 0, .bool true] 232)
  have hal2 := alloc2_top w (.cells #[.int .u32 0, .int .u32 0, .int .u32 0, .int .u32 0, .bool false] 232) (.cells #[.int .u32 0, .int .u32 0, .int .u32 0, .int .u32 0, .bool true] 232)
  have HAl := hide2 (And.intro hbl (And.intro hal hal2))
  clear hbl hal hal2
  go_enter Tryz.func104, Tryz.ntmps104
  go_wp2
  go_loopw [38] (fun iv wr => ∃ (j : Nat) (P : Sg.Pc2) (l1 : Sg.Lt), iv = .int .i64 j ∧ j ≤ ns.length ∧ Hid (wr.heap[w.heap.size]? = some (.cells (pcA 0 0 0 0 false) 232) ∧ (∃ cs, pcV P = .agg cs ∧ wr.heap[w.heap.size + 1]? = some (.cells cs 232)) ∧ Pok P ∧ LtAt (fun b => b < B) wr p l1 ∧ Chg (layT p) w wr ∧ (ns.drop j).foldl (rowStep k) (P, l1) = fin ∧ (l1.cls.length : Int) + (ns.drop j).foldl (fun n x => n + Sg.placesN k x) 0 = l.cls.length + tot)) (fun iv _ => ns.length - (intOf iv).toNat)
  case atStart =>
    obtain ⟨h1, h2, h3⟩ := HAl.out
    exact ⟨0, ⟨0, 0, true⟩, l, rfl, Nat.zero_le _, hide2 ⟨h2, ⟨_, rfl, h3⟩, ⟨by decide, by decide⟩, HLt.out.below h1, Chg.of_below h1, HF.out, by rw [← HTo.out]; rfl⟩⟩
  case round =>
    obtain ⟨j, P, l1, rfl, hj, H⟩ := hrel
    obtain ⟨g0, ⟨cs, g1, g2⟩, g3, g4, g5, g6, g7⟩ := H.out
    clear H HAl HLt
    obtain ⟨m0, m1, m2, m3, b, hpc⟩ := pcV_eq P
    obtain rfl : cs = pcA m0 m1 m2 m3 b := by rw [hpc] at g1; cases g1; rfl
    by_cases hlt : j < ns.length
    · rw [List.drop_eq_getElem_cons hlt, List.foldl_cons] at g6 g7
      rw [sum_shift] at g7
      obtain ⟨v, hv1, hv2⟩ := HN.out.1 j ns[j] (List.getElem?_eq_getElem hlt)
      have hp0 := HN.out.2.2 ns[j] (List.getElem_mem _)
      have hay := HAO.out ns[j] (List.getElem_mem _)
      have hrest := sum_nonneg k (ns.drop (j + 1)) (fun x hx => HN.out.2.2 x (List.mem_of_mem_drop hx)) 0
      have hNr : ∀ W, Chg (layT p) w W → NodeAt (fun b => b < B) W k v ns[j] := fun W hc => NodeAt.of hc (fun b o hb t => by have := t.1; omega) _ _ _ hv2
      rw [rowStep_eq] at g6
      generalize ns[j] = y at *
      obtain ⟨n0, n1, n2, n3, b2, hqc⟩ := pcV_eq (Sg.layN k y l1).1
      obtain ⟨i0, i1, i2, i3, b3, hic⟩ := pcV_eq (joinP P (Sg.layN k y l1).1)
      have HLay : Hid (∀ W, Below wr.heap.size wr W → Calls Tryz.prog 104 #[.pointer (some ⟨p, 0, none⟩), v] W fun e w' => e = .returned (.agg #[.int .u32 n0, .int .u32 n1, .int .u32 n2, .int .u32 n3, .bool b2]) ∧ Pok (Sg.layN k y l1).1 ∧ LtAt (fun b => b < B) w' p (Sg.layN k y l1).2 ∧ Chg (layT p) wr w' ∧ ((Sg.layN k y l1).2.cls.length : Int) = l1.cls.length + Sg.placesN k y) := hide2 (fun W hW => by
        have := hk B W p l1 v y hay (g4.below hW) (hNr W (g5.trans (Chg.of_below hW))) (by omega)
        unfold LayPost at this
        rw [hqc] at this
        exact this.mono fun e w' ⟨h1, h2, h3, h4, h5⟩ => ⟨h1, h2, h3, (Chg.of_below hW).trans h4, h5⟩)
      have HJ : Hid (∀ W, Pok (Sg.layN k y l1).1 → LtAt (fun b => b < B) W p (Sg.layN k y l1).2 → Calls Tryz.prog 146 #[.pointer (some ⟨p, 0, none⟩), .agg #[.int .u32 m0, .int .u32 m1, .int .u32 m2, .int .u32 m3, .bool b], .agg #[.int .u32 n0, .int .u32 n1, .int .u32 n2, .int .u32 n3, .bool b2]] W fun e w' => e = .returned (.agg #[.int .u32 i0, .int .u32 i1, .int .u32 i2, .int .u32 i3, .bool b3]) ∧ LtAt (fun b => b < B) w' p ((Sg.layN k y l1).2.connect P.last (Sg.layN k y l1).1.first) ∧ Chg (folT p) W w') := hide2 (fun W hQ hW => by
        have := join_lt hW g3 hQ
        rw [hpc, hqc, hic] at this
        exact this)
      have hrr := HR.out.of g5 (fun rb ro j' e t => by have := HN.out.2.1 rb ro e; have := t.1; omega)
      obtain ⟨rb, ro, rfl, k0⟩ : ∃ rb ro, ra = some ⟨rb, ro, none⟩ ∧ wr.cell? ⟨rb, ro + j, none⟩ = some v := by
        rcases hrr.row with ⟨_, _, h⟩ | ⟨rb, ro, e, _, h2, _⟩
        · omega
        · exact ⟨rb, ro, e, h2 j _ hv1⟩
      obtain ⟨s0, s1, s2, s3, s4, z0, z1, z2, z3, z4⟩ := five g2
      generalize hQ : (Sg.layN k y l1).1 = Q at *
      generalize hl2 : (Sg.layN k y l1).2 = l2 at *
      have hRw : w.heap.size + 1 < wr.heap.size := cell_lt s0
      have HX := hide2 (And.intro g0 (And.intro g2 (And.intro g3 (And.intro g5 (And.intro g6 (And.intro g7 hic))))))
      clear g0 g1 g2 g3 g4 g5 g6 g7 hNr hrr hv1 hv2 hQ hl2 hpc hqc hic
      go_wp2
      go_region_with (first
        | (go_at_call 104; refine (HLay.out _ ((Below.refl _ _).drew)).mono ?_; clear HLay; rintro e w1 ⟨rfl, P1, L1, C1, N1⟩; have hr1 : w1.heap[w.heap.size + 1]? = some (.cells (pcA m0 m1 m2 m3 b) 232) := (C1.block _ hRw (fun o t => by have := t.1; omega)).trans HX.out.2.1; obtain ⟨t0, t1, t2, t3, t4, _, _, _, _, _⟩ := five hr1; have HR1 := hide2 hr1; have HN1 := hide2 N1; clear hr1 N1)
        | (go_at_call 146; refine (HJ.out _ P1 L1).mono ?_; clear HJ; rintro e w2 ⟨rfl, L2, C2⟩; have hr2 : w2.heap[w.heap.size + 1]? = some (.cells (pcA m0 m1 m2 m3 b) 232) := (C2.block _ (Array.getElem?_eq_some_iff.1 HR1.out).1 (fun o t => by have := t.1; omega)).trans HR1.out; obtain ⟨v0, v1, v2, v3, v4, o0, o1, o2, o3, o4⟩ := five hr2; have HR2 := hide2 hr2; clear hr2))
      all_goals
        go_wp2
        obtain ⟨f0, f2, f3, f5, f6, f7, f8⟩ := HX.out
        have cw2 : Chg (layT p) w w2 := (f5.trans C1).trans (C2.mono (fun i o _ t => ⟨t.1, t.2.2⟩))
        obtain ⟨e1, e2, e3⟩ := lay_end hB hp (Nat.le_succ _) rfl HR2.out L2 cw2 (.int .u32 i0) (.int .u32 i1) (.int .u32 i2) (.int .u32 i3) (.bool b3)
        have hw1 : w.heap.size < w1.heap.size := Nat.lt_trans (Nat.lt_succ_self _) (Array.getElem?_eq_some_iff.1 HR1.out).1
        have b0 : w2.heap[w.heap.size]? = some (.cells (pcA 0 0 0 0 false) 232) := (C2.block _ hw1 (fun o t => by have := t.1; omega)).trans ((C1.block _ (by omega) (fun o t => by have := t.1; omega)).trans f0)
        exact ⟨⟨j + 1, joinP P Q, l2.connect P.last Q.first, by go_num, by omega, hide2 ⟨(set5_blk _ _ _ (by omega) _ _ _ _ _).trans b0, ⟨_, f8, e1⟩, joinP_ok f3 P1, e2, e3, f6, by rw [connect_len]; have := HN1.out; omega⟩⟩, by simp [intOf]; omega⟩
    · rw [List.drop_of_length_le (by omega)] at g6 g7
      have g6' : (P, l1) = fin := g6
      have g7' : (l1.cls.length : Int) + 0 = l.cls.length + tot := g7
      obtain ⟨s0, s1, s2, s3, s4, z0, z1, z2, z3, z4⟩ := five g2
      obtain ⟨r0, r1, r2, r3, r4, x0, x1, x2, x3, x4⟩ := five g0
      have HX := hide2 (And.intro g0 (And.intro g3 (And.intro g4 (And.intro g5 (And.intro g6' (And.intro g7' hpc))))))
      clear g0 g1 g2 g3 g4 g5 g6 g7 g6' g7' hpc
      go_wp2
      obtain ⟨f0, f3, f4, f5, f6, f7, f8⟩ := HX.out
      obtain ⟨e1, e2, e3⟩ := lay_end hB hp (Nat.le_refl _) rfl f0 f4 f5 (.int .u32 m0) (.int .u32 m1) (.int .u32 m2) (.int .u32 m3) (.bool b)
      refine bodyPost_ret (results_cell_row rfl _ _ w.heap.size 232 #[.int .u32 m0, .int .u32 m1, .int .u32 m2, .int .u32 m3, .bool b] (0, 0) _ rfl e1 Tryz.underlying232 rfl (by kernel_rfl)) rfl ?_
      rw [← f6]
      exact ⟨by dsimp only; rw [f8]; rfl, f3, e2, e3, by dsimp only; omega⟩
end Go.Proofs.YtlhokghgicgppaaGreatDoor
