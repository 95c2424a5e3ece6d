/- Compile, plainly: rules to tables, as a function. Nothing of the program is named here. Where it says .ok, Compile answers these tables; it may say .error (of 99: too great a rule) where Compile answers tables too. -/
/- The insertion sort of ranges, plainly. -/
/- Sets of places: arrays of two words. -/
import Derived.Test.YtlhokghgicgppaaGreatDoorBytePure
import Derived.Sort.Statements
import Derived.Test.YtlhokghgicgppaaGreatDoorIsEnd
import Derived.Laws.BitsAllLaws
import Derived.Laws.StructEq
import Derived.Laws.Cover2
set_option linter.unusedSimpArgs false
set_option linter.unusedVariables false
set_option maxRecDepth 100000
set_option maxHeartbeats 4000000
namespace Go.Proofs.YtlhokghgicgppaaGreatDoor.Sg
open Go
abbrev Rg := Int × Int
def addRange (l : List Rg) (low high : Int) : List Rg := if high < low then l else l ++ [(low, high)]
def partsOf (rs : List Rg) : List Rg := rs.foldl (fun l r => addRange (addRange l r.1 (min r.2 55295)) (max r.1 57344) r.2) []
def insLow (r : Rg) : List Rg → List Rg
  | [] => [r]
  | x :: l => if r.1 < x.1 then r :: x :: l else x :: insLow r l
def byLow (l : List Rg) : List Rg := l.foldl (fun a r => insLow r a) []
def joinGo : Option Rg → List Rg → List Rg
  | none, [] => []
  | some a, [] => [a]
  | none, r :: l => joinGo (some r) l
  | some a, r :: l => if r.1 ≤ a.2 + 1 then joinGo (some (a.1, max a.2 r.2)) l else a :: joinGo (some r) l
def ofR (rs : List Rg) : List Rg := joinGo none (byLow (partsOf rs))
def gapsGo : Int → List Rg → List Rg
  | low, [] => [(low, 1114111)]
  | low, r :: l => (low, r.1 - 1) :: gapsGo (r.2 + 1) l
def turnedR (s : List Rg) : List Rg := ofR (gapsGo 0 s)
def hasR (s : List Rg) (n : Int) : Bool := s.any fun r => decide (r.1 ≤ n) && decide (n ≤ r.2)
structure Node where
  it : List Rg ⊕ List Node ⊕ List Node ⊕ (Node × Int × Int)
abbrev Node.cls (s : List Rg) : Node := ⟨.inl s⟩
abbrev Node.row (l : List Node) : Node := ⟨.inr (.inl l)⟩
abbrev Node.alt (l : List Node) : Node := ⟨.inr (.inr (.inl l))⟩
abbrev Node.times (a : Node) (least most : Int) : Node := ⟨.inr (.inr (.inr (a, least, most)))⟩
def copies (least most : Int) : Int := if most = -1 then max least 1 else most
def placesN : Nat → Node → Int
  | 0, _ => 0
  | _ + 1, ⟨.inl _⟩ => 1
  | k + 1, ⟨.inr (.inl l)⟩ => l.foldl (fun n x => n + placesN k x) 0
  | k + 1, ⟨.inr (.inr (.inl l))⟩ => l.foldl (fun n x => n + placesN k x) 0
  | k + 1, ⟨.inr (.inr (.inr (a, l, m)))⟩ => copies l m * placesN k a
def plOk : Nat → Node → Bool
  | 0, _ => false
  | _ + 1, ⟨.inl _⟩ => true
  | k + 1, ⟨.inr (.inl l)⟩ => l.all (plOk k) && decide (placesN (k + 1) (.row l) ≤ 1000000)
  | k + 1, ⟨.inr (.inr (.inl l))⟩ => l.all (plOk k) && decide (placesN (k + 1) (.alt l) ≤ 1000000)
  | k + 1, ⟨.inr (.inr (.inr (a, m, n)))⟩ => plOk k a && decide (placesN (k + 1) (.times a m n) ≤ 1000000)
def splitGo : Nat → Int → Bs → List (Int × Int)
  | 0, at_, _ => [(-1, at_)]
  | _ + 1, at_, [] => [(-1, at_)]
  | f + 1, at_, b :: r =>
    let d := dec (b :: r)
    ((if d.1 = 65533 ∧ d.2 ≤ 1 then -2 else d.1), at_) :: splitGo f (at_ + d.2) ((b :: r).drop d.2)
def splitR (s : Bs) : List (Int × Int) := splitGo s.length 0 s
structure Rd where
  list : List (Int × Int)
  next : Nat
  depth : Int
  late : Option (Int × Int)
abbrev Thrown := Int × Int
abbrev RM (α : Type) := Except Thrown (α × Rd)
def Rd.peek (r : Rd) : Int × Int := r.list.getD r.next (-1, 0)
def Rd.take (r : Rd) : (Int × Int) × Rd := (r.peek, if r.peek.1 = -1 then r else { r with next := r.next + 1 })
def Rd.accept (r : Rd) (v : Int) : Bool × Rd := if r.peek.1 = v then (true, r.take.2) else (false, r)
def Rd.fault (r : Rd) (e at_ : Int) : Thrown := match r.late with
  | some l => if l.2 < at_ then l else (e, at_)
  | none => (e, at_)
def Rd.expect (r : Rd) (v : Int) : RM Unit := if r.peek.1 = v then .ok ((), r.take.2) else .error (r.fault 2 r.peek.2)
def hexDigit (v : Int) : Option Int :=
  if 48 ≤ v ∧ v ≤ 57 then some (v - 48) else if 97 ≤ v ∧ v ≤ 102 then some (v - 87) else if 65 ≤ v ∧ v ≤ 70 then some (v - 55) else none
def hexGo : Nat → Int → Nat → Rd → Int × Nat × Rd
  | 0, v, d, r => (v, d, r)
  | k + 1, v, d, r => match hexDigit r.peek.1 with
    | none => (v, d, r)
    | some x => hexGo k (v * 16 + x) (d + 1) r.take.2
def validRune (v : Int) : Bool := (decide (0 ≤ v) && decide (v < 55296)) || (decide (57343 < v) && decide (v ≤ 1114111))
def Rd.numbered (r : Rd) : Option Int × Rd :=
  let a := r.accept 123
  if a.1 then
    let h := hexGo 6 0 0 a.2
    if 0 < h.2.1 then
      let b := h.2.2.accept 125
      if b.1 && validRune h.1 then (some h.1, b.2) else (none, b.2)
    else (none, h.2.2)
  else (none, a.2)
def themselves : List Int := [40, 41, 91, 93, 123, 125, 124, 42, 43, 63, 46, 92, 45, 94]
def Rd.escape (r : Rd) : RM Int :=
  let s := r.take
  let t := s.2.take
  if t.1.1 = 110 then .ok (10, t.2) else if t.1.1 = 116 then .ok (9, t.2) else if t.1.1 = 114 then .ok (13, t.2)
  else if t.1.1 = 117 then
    match t.2.numbered with
    | (some v, r') => .ok (v, r')
    | (none, r') => .error (r'.fault 2 s.1.2)
  else if themselves.contains t.1.1 then .ok (t.1.1, t.2) else .error (t.2.fault 2 s.1.2)
def Rd.edge (r : Rd) : RM Int :=
  if r.peek.1 = 92 then r.escape
  else if r.peek.1 = 91 ∨ r.peek.1 = 93 ∨ r.peek.1 = 45 ∨ r.peek.1 = -1 ∨ r.peek.1 = -2 then .error (r.fault 2 r.peek.2)
  else .ok (r.take.1.1, r.take.2)
def Rd.item (r : Rd) : RM Rg :=
  match r.edge with
  | .error e => .error e
  | .ok (low, r1) =>
    let a := r1.accept 45
    if a.1 then
      match a.2.edge with
      | .error e => .error e
      | .ok (high, r2) => if high < low then .error (3, r.peek.2) else .ok ((low, high), r2)
    else .ok ((low, low), a.2)
def itemsGo : Nat → List Rg → Rd → RM (List Rg)
  | 0, _, _ => .error (99, 0)
  | k + 1, l, r =>
    let a := r.accept 93
    if a.1 then .ok (l, a.2) else match a.2.item with
      | .error e => .error e
      | .ok (x, r') => itemsGo k (l ++ [x]) r'
def Rd.cls (r : Rd) : RM Node :=
  let o := r.take
  let t := o.2.accept 94
  match t.2.item with
  | .error e => .error e
  | .ok (x, r1) => match itemsGo r.list.length [x] r1 with
    | .error e => .error e
    | .ok (l, r2) =>
      let s := if t.1 then turnedR (ofR l) else ofR l
      if 5 < l.length ∨ 5 < (ofR l).length then .error (99, 0) else
      if t.1 && s.isEmpty then .error (r2.fault 3 o.1.2) else .ok (.cls s, r2)
def numGoR : Nat → Int → Nat → Rd → Int × Nat × Rd
  | 0, v, d, r => (v, d, r)
  | k + 1, v, d, r => if 48 ≤ r.peek.1 ∧ r.peek.1 ≤ 57 then numGoR k (v * 10 + (r.peek.1 - 48)) (d + 1) r.take.2 else (v, d, r)
def Rd.number (r : Rd) : (Int × Bool) × Rd :=
  let h := numGoR 2 0 0 r
  ((h.1, decide (0 < h.2.1) && decide (h.1 ≤ 8)), h.2.2)
def Rd.mostOf (r : Rd) : (Int × Bool) × Rd := if r.peek.1 = 125 then ((-1, true), r) else r.number
def Rd.counted (r : Rd) (a : Node) (k : Nat) : RM Node :=
  let o := r.take
  let n := o.2.number
  let m := if n.1.2 then
      let c := n.2.accept 44
      if c.1 then c.2.mostOf else ((n.1.1, true), c.2)
    else ((n.1.1, false), n.2)
  if m.1.2 then
    let e := m.2.accept 125
    if !plOk k a then .error (99, 0) else
    if !e.1 || (m.1.1 ≠ -1 && decide (m.1.1 < n.1.1)) || placesN k a = 0 then .error (e.2.fault 4 o.1.2) else .ok (.times a n.1.1 m.1.1, e.2)
  else .error (m.2.fault 4 o.1.2)
def single (v : Int) : Node := .cls (ofR [(v, v)])
def altGo (row : Rd → RM Node) : Nat → List Node → Rd → RM (List Node)
  | 0, _, _ => .error (99, 0)
  | k + 1, l, r =>
    let a := r.accept 124
    if a.1 then match row a.2 with
      | .error e => .error e
      | .ok (x, r') => altGo row k (l ++ [x]) r'
    else .ok (l, a.2)
def rowGo (part : Rd → RM Node) : Nat → List Node → Rd → RM (List Node)
  | 0, _, _ => .error (99, 0)
  | k + 1, l, r => if r.peek.1 = 124 ∨ r.peek.1 = 41 ∨ r.peek.1 = -1 then .ok (l, r) else match part r with
      | .error e => .error e
      | .ok (x, r') => rowGo part k (l ++ [x]) r'
def partOf (atom : Rd → RM Node) (k : Nat) (r : Rd) : RM Node :=
  match atom r with
  | .error e => .error e
  | .ok (a, r1) =>
    if r1.peek.1 = 42 then .ok (.times a 0 (-1), r1.take.2) else if r1.peek.1 = 43 then .ok (.times a 1 (-1), r1.take.2)
    else if r1.peek.1 = 63 then .ok (.times a 0 1, r1.take.2) else if r1.peek.1 = 123 then r1.counted a k else .ok (a, r1)
def atomOf (alt : Rd → RM Node) (r : Rd) : RM Node :=
  let c := r.peek.1
  if c = 40 then
    if r.depth = 8 then .error (r.take.2.fault 5 r.peek.2) else
      match alt { r.take.2 with depth := r.depth + 1 } with
      | .error e => .error e
      | .ok (x, r1) => match r1.expect 41 with
        | .error e => .error e
        | .ok (_, r2) => if r2.depth = r.depth + 1 then .ok (x, { r2 with depth := r.depth }) else .error (99, 0)
  else if c = 91 then r.cls
  else if c = 46 then .ok (.cls (turnedR (ofR [(10, 10)])), r.take.2)
  else if c = 92 then match r.escape with
    | .error e => .error e
    | .ok (v, r1) => .ok (single v, r1)
  else if c = 41 ∨ c = 93 ∨ c = 123 ∨ c = 125 ∨ c = 124 ∨ c = 42 ∨ c = 43 ∨ c = 63 ∨ c = -1 ∨ c = -2 then .error (r.fault 2 r.peek.2)
  else .ok (single c, r.take.2)
def altN : Nat → Rd → RM Node
  | 0, r => .error (r.fault 5 0)
  | k + 1, r =>
    let row := fun r => match rowGo (partOf (atomOf (altN k)) 100) r.list.length [] r with
      | .error e => Except.error e
      | .ok (l, r') => .ok (Node.row l, r')
    match row r with
    | .error e => .error e
    | .ok (x, r1) => match altGo row r.list.length [x] r1 with
      | .error e => .error e
      | .ok (l, r2) => .ok (.alt l, r2)
def readR (s : Bs) : Except Thrown Node :=
  match altN 10 ⟨splitR s, 0, 0, none⟩ with
  | .error e => .error e
  | .ok (x, r) => match r.expect (-1) with
    | .error e => .error e
    | .ok _ => .ok x
abbrev Ps := Nat
structure Lt where
  cls : List (List Rg)
  follow : List Ps
structure Pc2 where
  first : Ps
  last : Ps
  empty : Bool
def Lt.connect (l : Lt) (a b : Ps) : Lt := { l with follow := (List.range l.follow.length).map fun i => if a.testBit i then l.follow.getD i 0 ||| b else l.follow.getD i 0 }
def Lt.join (l : Lt) (p q : Pc2) : Pc2 × Lt :=
  (⟨if p.empty then p.first ||| q.first else p.first, if q.empty then q.last ||| p.last else q.last, p.empty && q.empty⟩, l.connect p.last q.first)
def timesGo (lay : Lt → Pc2 × Lt) (least most n : Int) : Nat → Int → Pc2 → Lt → Pc2 × Lt
  | 0, _, p, l => (p, l)
  | k + 1, i, p, l =>
    let q := lay l
    let l1 := if most = -1 ∧ i = n - 1 then q.2.connect q.1.last q.1.first else q.2
    let j := l1.join p (if least ≤ i then { q.1 with empty := true } else q.1)
    timesGo lay least most n k (i + 1) j.1 j.2
def layN : Nat → Node → Lt → Pc2 × Lt
  | 0, _, l => (⟨0, 0, false⟩, l)
  | _ + 1, ⟨.inl s⟩, l => (⟨2 ^ l.cls.length, 2 ^ l.cls.length, false⟩, ⟨l.cls ++ [s], l.follow ++ [0]⟩)
  | k + 1, ⟨.inr (.inl ns)⟩, l => ns.foldl (fun a n => let q := layN k n a.2; q.2.join a.1 q.1) (⟨0, 0, true⟩, l)
  | k + 1, ⟨.inr (.inr (.inl ns))⟩, l => ns.foldl (fun a n => let q := layN k n a.2; (⟨a.1.first ||| q.1.first, a.1.last ||| q.1.last, a.1.empty || q.1.empty⟩, q.2)) (⟨0, 0, false⟩, l)
  | k + 1, ⟨.inr (.inr (.inr (a, least, most)))⟩, l => timesGo (layN k a) least most (copies least most) (copies least most).toNat 0 ⟨0, 0, true⟩ l
structure Lo where
  lt : Lt
  first : Ps
  last : List Ps
def layAll (ns : List Node) : Lo := ns.foldl (fun a n => let q := layN 100 n a.lt; ⟨q.2, a.first ||| q.1.first, a.last ++ [q.1.last]⟩) ⟨⟨[], []⟩, 0, []⟩
def insI (x : Int) : List Int → List Int
  | [] => [x]
  | y :: l => if x < y then x :: y :: l else if x = y then y :: l else y :: insI x l
def lowsOf (l : Lo) : List Int := (l.lt.cls.foldl (fun a s => s.foldl (fun a r => a ++ [r.1, r.2 + 1]) a) [0]).foldl (fun a x => insI x a) []
def matchT (l : Lo) (c : Int) : Ps := (List.range l.lt.cls.length).foldl (fun a i => if hasR (l.lt.cls.getD i []) c then a ||| 2 ^ i else a) 0
def kindRows (l : Lo) : List (Int × Int) × List Ps := (lowsOf l).foldl (fun a low =>
  let s := matchT l low
  let k := a.2.idxOf s
  let ks := if k < a.2.length then a.2 else a.2 ++ [s]
  (if a.1.isEmpty || (a.1.getLastD (0, 0)).2 ≠ (k : Int) then a.1 ++ [(low, (k : Int))] else a.1, ks)) ([], [])
def behindT (l : Lo) (s : Ps) : Ps := (List.range l.lt.follow.length).foldl (fun a i => if s.testBit i then a ||| l.lt.follow.getD i 0 else a) 0
def ruleGo (s : Ps) : List Ps → Nat → Int
  | [], _ => -1
  | x :: r, i => if s &&& x = 0 then ruleGo s r (i + 1) else (i : Int)
def ruleT (l : Lo) (s : Ps) : Int := ruleGo s l.last 0
def nextRow (l : Lo) (b : Ps) : List Ps → List Ps → List Int → Option (List Ps × List Int)
  | [], sets, out => some (sets, out)
  | m :: r, sets, out =>
    let s := b &&& m
    if s = 0 then nextRow l b r sets (out ++ [-1])
    else
      let k := sets.idxOf s
      if k < sets.length then nextRow l b r sets (out ++ [(k : Int) + 1])
      else if sets.length = 200 then none
      else nextRow l b r (sets ++ [s]) (out ++ [(k : Int) + 1])
def rowsGo (l : Lo) (kinds : List Ps) : Nat → Nat → List Ps → List (List Int) → Option (List Ps × List (List Int))
  | 0, _, sets, rows => some (sets, rows)
  | f + 1, at_, sets, rows =>
    if at_ ≤ sets.length then
      match nextRow l (if at_ = 0 then l.first else behindT l (sets.getD (at_ - 1) 0)) kinds sets [] with
      | none => none
      | some (sets', row) => rowsGo l kinds f (at_ + 1) sets' (rows ++ [row])
    else some (sets, rows)
def readAllT : List Bs → Int → Int → List Node → Except (Int × Int × Int) (List Node)
  | [], _, _, l => .ok l
  | s :: r, i, n, l => match readR s with
    | .error (e, at_) => .error (e, i, at_)
    | .ok t => if !plOk 100 t then .error (99, i, 0) else if 64 < n + placesN 100 t then .error (6, i, 0) else readAllT r (i + 1) (n + placesN 100 t) (l ++ [t])
end Go.Proofs.YtlhokghgicgppaaGreatDoor.Sg
namespace Go.Proofs.YtlhokghgicgppaaGreatDoor.Sg
def ltR (a b : Rg) : Bool := decide (a.1 < b.1)
open Go.Sort
def insRev (r : Rg) : List Rg → List Rg
  | [] => [r]
  | x :: l => if r.1 < x.1 then x :: insRev r l else r :: x :: l
theorem insLow_snoc (r x : Rg) (h : r.1 < x.1) : ∀ l : List Rg, (∀ y ∈ l, y.1 ≤ x.1) → insLow r (l ++ [x]) = insLow r l ++ [x]
  | [], _ => by simp [insLow, h]
  | y :: l, hl => by
    simp only [List.cons_append, insLow]
    split
    · rfl
    · rw [insLow_snoc r x h l (fun z hz => hl z (List.mem_cons_of_mem _ hz))]; rfl
theorem insLow_last (r : Rg) : ∀ l : List Rg, (∀ y ∈ l, y.1 ≤ r.1) → insLow r l = l ++ [r]
  | [], _ => rfl
  | y :: l, hl => by
    have := hl y (List.mem_cons_self ..)
    simp only [insLow, if_neg (show ¬ r.1 < y.1 by omega), insLow_last r l (fun z hz => hl z (List.mem_cons_of_mem _ hz)), List.cons_append]
theorem insRev_eq (r : Rg) : ∀ l : List Rg, l.Pairwise (fun a b => b.1 ≤ a.1) → (insRev r l).reverse = insLow r l.reverse
  | [], _ => rfl
  | x :: l, h => by
    rw [List.pairwise_cons] at h
    simp only [insRev, List.reverse_cons]
    split
    · rename_i hx
      rw [List.reverse_cons, insRev_eq r l h.2, insLow_snoc r x hx _ (fun y hy => h.1 y (List.mem_reverse.1 hy))]
    · rename_i hx
      rw [insLow_last r _ (fun y hy => by
        rcases List.mem_append.1 hy with hy | hy
        · have := h.1 y (List.mem_reverse.1 hy); omega
        · simp at hy; subst hy; omega)]
      simp
theorem insLow_pair (r : Rg) : ∀ l : List Rg, l.Pairwise (fun a b => a.1 ≤ b.1) → (insLow r l).Pairwise (fun a b => a.1 ≤ b.1)
  | [], _ => by simp [insLow]
  | x :: l, h => by
    have h' := List.pairwise_cons.1 h
    simp only [insLow]
    split
    · rename_i hx
      refine List.pairwise_cons.2 ⟨fun y hy => ?_, h⟩
      rcases List.mem_cons.1 hy with rfl | hy
      · omega
      · have := h'.1 y hy; omega
    · rename_i hx
      refine List.pairwise_cons.2 ⟨fun y hy => ?_, insLow_pair r l h'.2⟩
      have : y = r ∨ y ∈ l := by
        clear h h' hx
        induction l with
        | nil => simp [insLow] at hy; exact .inl hy
        | cons z l ih =>
          simp only [insLow] at hy
          split at hy
          · rcases List.mem_cons.1 hy with rfl | hy
            · exact .inl rfl
            · exact .inr hy
          · rcases List.mem_cons.1 hy with rfl | hy
            · exact .inr (List.mem_cons_self ..)
            · rcases ih hy with h | h
              · exact .inl h
              · exact .inr (List.mem_cons_of_mem _ h)
      rcases this with rfl | hy
      · omega
      · exact h'.1 y hy
theorem insLow_len (r : Rg) : ∀ l : List Rg, (insLow r l).length = l.length + 1
  | [] => rfl
  | x :: l => by simp only [insLow]; split <;> simp [insLow_len r l]
theorem get_mid (a : List Rg) (x : Rg) (b : List Rg) (d : Array Rg) (h : d.toList = a ++ x :: b) (i : Nat) (hi : i = a.length) : d[i]! = x := by
  subst hi
  have hl : a.length < d.size := by
    have := congrArg List.length h
    simp at this; omega
  rw [getElem!_pos d a.length hl, ← Array.getElem_toList]
  simp [h]
theorem swp_mid (a : List Rg) (x y : Rg) (b : List Rg) (d : Array Rg) (h : d.toList = a ++ x :: y :: b) : (swp d (a.length + 1) a.length).toList = a ++ y :: x :: b := by
  unfold swp
  rw [get_mid a x (y :: b) d h a.length rfl, get_mid (a ++ [x]) y b d (by simpa using h) (a.length + 1) (by simp)]
  simp [h]
theorem insInner_list (r : Rg) : ∀ (pre : List Rg) (post : List Rg) (d : Array Rg), d.toList = pre.reverse ++ r :: post → (insInner ltR 0 pre.length d).toList = (insRev r pre).reverse ++ post
  | [], post, d, h => by simpa [insInner, insRev] using h
  | x :: pre, post, d, h => by
    have h' : d.toList = pre.reverse ++ x :: r :: post := by simpa using h
    have e1 : d[pre.length + 1]! = r := get_mid (pre.reverse ++ [x]) r post d (by simpa using h') _ (by simp)
    have e2 : d[pre.length]! = x := get_mid pre.reverse x (r :: post) d h' _ (by simp)
    show (insInner ltR 0 (pre.length + 1) d).toList = _
    simp only [insInner, e1, e2, ltR]
    by_cases hx : r.1 < x.1
    · have hs := swp_mid pre.reverse x r post d h'
      rw [List.length_reverse] at hs
      simp only [hx, insRev]
      have := insInner_list r pre (x :: post) _ hs
      simpa using this
    · simp only [hx, insRev]
      simpa using h
theorem insOuter_list : ∀ (n : Nat) (pre post : List Rg) (d : Array Rg), post.length = n → pre.Pairwise (fun a b => a.1 ≤ b.1) → d.toList = pre ++ post → (insOuter ltR 0 d.size pre.length d).toList = post.foldl (fun a r => insLow r a) pre
  | 0, pre, post, d, hn, hp, h => by
    have : post = [] := List.eq_nil_of_length_eq_zero hn
    subst this
    have hs : d.size = pre.length := by have := congrArg List.length h; simpa using this
    rw [insOuter, if_neg (by omega)]
    simpa using h
  | n + 1, pre, r :: post, d, hn, hp, h => by
    have hs : d.size = pre.length + (post.length + 1) := by have := congrArg List.length h; simpa using this
    rw [insOuter, if_pos (by omega)]
    have hi := insInner_list r pre.reverse post d (by simpa using h)
    rw [List.length_reverse, insRev_eq r _ (by rw [List.pairwise_reverse]; exact hp), List.reverse_reverse] at hi
    have hsz : (insInner ltR 0 pre.length d).size = d.size := by
      have := congrArg List.length hi
      have hl := insLow_len r pre
      simp [hl] at this; omega
    have hl : (insLow r pre).length = pre.length + 1 := by
      have := congrArg List.length hi
      simp at this; omega
    have := insOuter_list n (insLow r pre) post (insInner ltR 0 pre.length d) (by simpa using hn) (insLow_pair r pre hp) hi
    rw [hl, hsz] at this
    simpa using this
theorem insertionSort_byLow (d : Array Rg) : (insertionSort ltR d 0 d.size).toList = byLow d.toList := by
  unfold insertionSort byLow
  cases hd : d.toList with
  | nil =>
    have : d = #[] := by simpa using hd
    subst this
    rw [insOuter]; simp
  | cons x l =>
    have := insOuter_list l.length [x] l d rfl (by simp) (by simpa using hd)
    simpa [insLow] using this
end Go.Proofs.YtlhokghgicgppaaGreatDoor.Sg
namespace Go.Proofs.YtlhokghgicgppaaGreatDoor
open Go.RowKit Go.Extern
def pv (a b : Nat) : Value := .agg #[.int .u32 a, .int .u32 b]
theorem eqSet (a b c d : Int) (w : World) : (Op.equalIn 10000 227 (.agg #[.int .u32 a, .int .u32 b]) (.agg #[.int .u32 c, .int .u32 d])).run Tryz.prog w = .ok (a == c && b == d) w := by
  have u3 := Tryz.underlying225
  have a3 := Tryz.isAgg225
  have z3 := Tryz.sizeOf225
  rw [show (10000 : Nat) = 9999 + 1 from rfl, Op.equalIn]
  simp only [Sem.run_bind, run_underlying Tryz.underlying227, Result.andThen_ok]
  simp only [Std.Legacy.Range.forIn_eq_forIn_range', Std.Legacy.Range.size, Nat.sub_zero, Nat.add_sub_cancel, Nat.div_one, List.range'_succ, List.range'_zero, List.forIn_cons, List.forIn_nil]
  go_simp
  by_cases h1 : a = c <;> by_cases h2 : b = d <;> simp [h1, h2]
attribute [local go_sem] eqSet
theorem isEmpty_w (a b : Nat) (w : World) :
    Calls Tryz.prog 109 #[pv a b] w fun e w' => e = .returned (.bool (decide (a = 0) && decide (b = 0))) ∧ Below w.heap.size w w' := by
  unfold pv
  go_enter Tryz.func109, Tryz.ntmps109
  go_wp2
  go_ret
  refine ⟨?_, (Below.refl _ _).alloc (Nat.le_refl _) _⟩
  by_cases h1 : a = 0 <;> by_cases h2 : b = 0 <;> simp [h1, h2]
theorem bit_of (x j : Nat) (hx : x < 4294967296) : (bits .and .u32 ((x / 2 ^ j : Nat) : Int) 1 == 1) = x.testBit j := by
  have h := u32_and_nat (x / 2 ^ j) 1 (Nat.lt_of_le_of_lt (Nat.div_le_self _ _) hx) (by decide)
  rw [show ((1 : Nat) : Int) = 1 from rfl] at h
  rw [h, Nat.testBit, ← Nat.shiftRight_eq_div_pow, Nat.and_comm]
  have : 1 &&& x >>> j ≤ 1 := Nat.and_le_left
  generalize 1 &&& x >>> j = y at *
  rcases Nat.lt_or_ge 0 y with g | g
  · obtain rfl : y = 1 := by omega
    rfl
  · obtain rfl : y = 0 := by omega
    rfl
theorem two_0 (a b : Value) (i : Nat) (h : i < [a, b].length) (h0 : i = 0) : [a, b][i] = a := by subst h0; rfl
theorem has_lo (a b : Nat) (ha : a < 4294967296) (i : Nat) (hi : i < 32) (w : World) :
    Calls Tryz.prog 151 #[pv a b, .int .i64 i] w fun e w' => e = .returned (.bool (a.testBit i)) ∧ Below w.heap.size w w' := by
  unfold pv
  have h3 : ((a : Int) / 2 ^ i) = ((a / 2 ^ i : Nat) : Int) := by simp
  rw [← bit_of a i ha, ← h3]
  clear h3
  have h2 : (i : Int) % 32 = i := by omega
  have h4 : (0 : Int) ≤ i := by omega
  have h5 : (i : Int) ≤ 32 := by omega
  go_enter Tryz.func151, Tryz.ntmps151
  go_wp2
  rw [two_0 _ _ _ _ (by omega)]
  go_wp2
  go_simp
  go_wp2
  go_ret
  exact ⟨rfl, (Below.refl _ _).alloc (Nat.le_refl _) _⟩
theorem has_hi (a b : Nat) (hb : b < 4294967296) (i : Nat) (h32 : 32 ≤ i) (hi : i < 64) (w : World) :
    Calls Tryz.prog 151 #[pv a b, .int .i64 i] w fun e w' => e = .returned (.bool (b.testBit (i - 32))) ∧ Below w.heap.size w w' := by
  unfold pv
  have h3 : ((b : Int) / 2 ^ (i - 32)) = ((b / 2 ^ (i - 32) : Nat) : Int) := by simp
  rw [← bit_of b (i - 32) hb, ← h3]
  clear h3
  have h2 : (i : Int) % 32 = ((i - 32 : Nat) : Int) := by omega
  have h4 : (0 : Int) ≤ ((i - 32 : Nat) : Int) := by omega
  have h5 : ((i - 32 : Nat) : Int) ≤ 32 := by omega
  have h6 : i / 32 = 1 := by omega
  generalize i - 32 = k at *
  go_enter Tryz.func151, Tryz.ntmps151
  go_wp2
  simp only [h6]
  go_simp
  go_wp2
  go_ret
  exact ⟨rfl, (Below.refl _ _).alloc (Nat.le_refl _) _⟩
theorem alloc3_top (w : World) (o1 o2 o3 : Obj) : (((w.alloc o1).alloc o2).alloc o3).heap[w.heap.size + 1 + 1]? = some o3 := by
  have h := heap_alloc_new ((w.alloc o1).alloc o2) o3
  have e : ((w.alloc o1).alloc o2).heap.size = w.heap.size + 1 + 1 := by simp
  rw [e] at h; exact h
theorem below3 (w : World) (o1 o2 o3 : Obj) : Below w.heap.size w (((w.alloc o1).alloc o2).alloc o3) := by
  have h1 := (Below.refl w.heap.size w).alloc (Nat.le_refl _) o1
  have h2 := h1.alloc h1.size o2
  exact h2.alloc h2.size o3
theorem or_w (a b c d : Nat) (ha : a < 4294967296) (hb : b < 4294967296) (hc : c < 4294967296) (hd : d < 4294967296) (w : World) :
    Calls Tryz.prog 105 #[pv a b, pv c d] w fun e w' => e = .returned (pv (a ||| c) (b ||| d)) ∧ Below w.heap.size w w' := by
  unfold pv
  rw [← u32_or_nat a c ha hc, ← u32_or_nat b d hb hd]
  generalize ((a : Nat) : Int) = a, ((b : Nat) : Int) = b, ((c : Nat) : Int) = c, ((d : Nat) : Int) = d
  clear ha hb hc hd
  go_enter Tryz.func105, Tryz.ntmps105
  go_wp2
  go_loopw [6] (fun iv wr => (iv = .int .i64 0 ∧ wr = ((w.alloc (.cells #[.int .u32 a, .int .u32 b] 227)).alloc (.cells #[.int .u32 c, .int .u32 d] 227)).alloc (.cells #[.int .u32 0, .int .u32 0] 227)) ∨
      (iv = .int .i64 1 ∧ wr = (((w.alloc (.cells #[.int .u32 (bits .or .u32 a c), .int .u32 b] 227)).alloc (.cells #[.int .u32 c, .int .u32 d] 227)).alloc (.cells #[.int .u32 0, .int .u32 0] 227)).drew) ∨
      (iv = .int .i64 2 ∧ wr = (((w.alloc (.cells #[.int .u32 (bits .or .u32 a c), .int .u32 (bits .or .u32 b d)] 227)).alloc (.cells #[.int .u32 c, .int .u32 d] 227)).alloc (.cells #[.int .u32 0, .int .u32 0] 227)).drew.drew)) (fun iv _ => 2 - (intOf iv).toNat)
  case atStart => exact .inl ⟨rfl, rfl⟩
  case round =>
    rcases hrel with ⟨rfl, rfl⟩ | ⟨rfl, rfl⟩ | ⟨rfl, rfl⟩
    · go_wp2
      go_region
      all_goals go_wp2
      all_goals go_roundw
      case rel => simp
      case measure => simp [intOf]
    · go_wp2
      go_region
      all_goals go_wp2
      all_goals go_roundw
      case rel => simp
      case measure => simp [intOf]
    · go_wp2
      refine bodyPost_ret (results_cell_row rfl _ _ (w.heap.size + 1 + 1) 227 #[.int .u32 (bits .or .u32 a c), .int .u32 (bits .or .u32 b d)] (0, 0) _ rfl (alloc3_top _ _ _ _) Tryz.underlying227 rfl (by kernel_rfl)) rfl ?_
      exact ⟨rfl, (below3 _ _ _ _).drew.drew⟩
theorem and_w (a b c d : Nat) (ha : a < 4294967296) (hb : b < 4294967296) (hc : c < 4294967296) (hd : d < 4294967296) (w : World) :
    Calls Tryz.prog 108 #[pv a b, pv c d] w fun e w' => e = .returned (pv (a &&& c) (b &&& d)) ∧ Below w.heap.size w w' := by
  unfold pv
  rw [← u32_and_nat a c ha hc, ← u32_and_nat b d hb hd]
  generalize ((a : Nat) : Int) = a, ((b : Nat) : Int) = b, ((c : Nat) : Int) = c, ((d : Nat) : Int) = d
  clear ha hb hc hd
  go_enter Tryz.func108, Tryz.ntmps108
  go_wp2
  go_loopw [6] (fun iv wr => (iv = .int .i64 0 ∧ wr = ((w.alloc (.cells #[.int .u32 a, .int .u32 b] 227)).alloc (.cells #[.int .u32 c, .int .u32 d] 227)).alloc (.cells #[.int .u32 0, .int .u32 0] 227)) ∨
      (iv = .int .i64 1 ∧ wr = (((w.alloc (.cells #[.int .u32 (bits .and .u32 a c), .int .u32 b] 227)).alloc (.cells #[.int .u32 c, .int .u32 d] 227)).alloc (.cells #[.int .u32 0, .int .u32 0] 227)).drew) ∨
      (iv = .int .i64 2 ∧ wr = (((w.alloc (.cells #[.int .u32 (bits .and .u32 a c), .int .u32 (bits .and .u32 b d)] 227)).alloc (.cells #[.int .u32 c, .int .u32 d] 227)).alloc (.cells #[.int .u32 0, .int .u32 0] 227)).drew.drew)) (fun iv _ => 2 - (intOf iv).toNat)
  case atStart => exact .inl ⟨rfl, rfl⟩
  case round =>
    rcases hrel with ⟨rfl, rfl⟩ | ⟨rfl, rfl⟩ | ⟨rfl, rfl⟩
    · go_wp2
      go_region
      all_goals go_wp2
      all_goals go_roundw
      case rel => simp
      case measure => simp [intOf]
    · go_wp2
      go_region
      all_goals go_wp2
      all_goals go_roundw
      case rel => simp
      case measure => simp [intOf]
    · go_wp2
      refine bodyPost_ret (results_cell_row rfl _ _ (w.heap.size + 1 + 1) 227 #[.int .u32 (bits .and .u32 a c), .int .u32 (bits .and .u32 b d)] (0, 0) _ rfl (alloc3_top _ _ _ _) Tryz.underlying227 rfl (by kernel_rfl)) rfl ?_
      exact ⟨rfl, (below3 _ _ _ _).drew.drew⟩
theorem pow_word (i : Nat) (hi : i < 32) : (2 : Int) ^ i % 4294967296 = ((2 ^ i : Nat) : Int) := by
  have h : 2 ^ i < 4294967296 := by
    have := Nat.pow_lt_pow_right (a := 2) (by decide) hi
    exact this
  have e : (2 : Int) ^ i = ((2 ^ i : Nat) : Int) := by simp
  rw [e]; generalize 2 ^ i = y at *; omega
theorem alloc2_low (w : World) (o1 o2 : Obj) : ((w.alloc o1).alloc o2).heap[w.heap.size]? = some o1 := by
  rw [Go.heap_alloc_old (w.alloc o1) o2 (by simp : w.heap.size < (w.alloc o1).heap.size)]; exact heap_alloc_new w o1
theorem below2 (w : World) (o1 o2 : Obj) : Below w.heap.size w ((w.alloc o1).alloc o2) := by
  have h1 := (Below.refl w.heap.size w).alloc (Nat.le_refl _) o1
  exact h1.alloc h1.size o2
theorem one_lo (i : Nat) (hi : i < 32) (w : World) :
    Calls Tryz.prog 150 #[.int .i64 i] w fun e w' => e = .returned (pv (2 ^ i) 0) ∧ Below w.heap.size w w' := by
  unfold pv
  have h2 : (i : Int) % 32 = i := by omega
  have h4 : (0 : Int) ≤ i := by omega
  have h5 : (i : Int) ≤ 32 := by omega
  have h6 : i / 32 = 0 := by omega
  go_enter Tryz.func150, Tryz.ntmps150
  go_wp2
  rw [pow_word i hi]
  refine bodyPost_ret (results_cell_row rfl _ _ w.heap.size 227 #[.int .u32 ((2 ^ i : Nat) : Int), .int .u32 0] (0, 0) _ rfl (alloc2_low _ _ _) Tryz.underlying227 rfl (by kernel_rfl)) rfl ?_
  exact ⟨rfl, below2 _ _ _⟩
theorem one_hi (k : Nat) (hk : k < 32) (i : Nat) (hi : i = k + 32) (w : World) :
    Calls Tryz.prog 150 #[.int .i64 i] w fun e w' => e = .returned (pv 0 (2 ^ k)) ∧ Below w.heap.size w w' := by
  unfold pv
  have h2 : (i : Int) % 32 = k := by omega
  have h4 : (0 : Int) ≤ k := by omega
  have h5 : (k : Int) ≤ 32 := by omega
  have h6 : i / 32 = 1 := by omega
  clear hi
  go_enter Tryz.func150, Tryz.ntmps150
  go_wp2
  rw [pow_word k hk]
  refine bodyPost_ret (results_cell_row rfl _ _ w.heap.size 227 #[.int .u32 0, .int .u32 ((2 ^ k : Nat) : Int)] (0, 0) _ rfl (alloc2_low _ _ _) Tryz.underlying227 rfl (by kernel_rfl)) rfl ?_
  exact ⟨rfl, below2 _ _ _⟩
def psV (s : Nat) : Value := pv (s % 4294967296) (s / 4294967296)
theorem or_any (s t : Nat) (hs : s < 18446744073709551616) (ht : t < 18446744073709551616) (w : World) :
    Calls Tryz.prog 105 #[psV s, psV t] w fun e w' => e = .returned (psV (s ||| t)) ∧ Below w.heap.size w w' := by
  unfold psV
  rw [show (4294967296 : Nat) = 2 ^ 32 from rfl, Nat.or_mod_two_pow, Nat.or_div_two_pow]
  exact or_w _ _ _ _ (by omega) (by omega) (by omega) (by omega) w
theorem and_any (s t : Nat) (hs : s < 18446744073709551616) (ht : t < 18446744073709551616) (w : World) :
    Calls Tryz.prog 108 #[psV s, psV t] w fun e w' => e = .returned (psV (s &&& t)) ∧ Below w.heap.size w w' := by
  unfold psV
  rw [show (4294967296 : Nat) = 2 ^ 32 from rfl, Nat.and_mod_two_pow, Nat.and_div_two_pow]
  exact and_w _ _ _ _ (by omega) (by omega) (by omega) (by omega) w
theorem isEmpty_any (s : Nat) (w : World) :
    Calls Tryz.prog 109 #[psV s] w fun e w' => e = .returned (.bool (decide (s = 0))) ∧ Below w.heap.size w w' := by
  refine (isEmpty_w _ _ w).mono fun e w' h => ⟨?_, h.2⟩
  rw [h.1]
  by_cases h0 : s = 0
  · subst h0; rfl
  · rw [show decide (s = 0) = false by simp [h0]]
    by_cases h1 : s % 4294967296 = 0
    · rw [show decide (s / 4294967296 = 0) = false by simp; omega]; simp
    · simp [h1]
theorem has_any (s : Nat) (hs : s < 18446744073709551616) (i : Nat) (hi : i < 64) (w : World) :
    Calls Tryz.prog 151 #[psV s, .int .i64 i] w fun e w' => e = .returned (.bool (s.testBit i)) ∧ Below w.heap.size w w' := by
  by_cases h : i < 32
  · rw [show s.testBit i = (s % 4294967296).testBit i by rw [show (4294967296 : Nat) = 2 ^ 32 from rfl, Nat.testBit_mod_two_pow]; simp [h]]
    exact has_lo _ _ (by omega) i h w
  · rw [show s.testBit i = (s / 4294967296).testBit (i - 32) by rw [show (4294967296 : Nat) = 2 ^ 32 from rfl, Nat.testBit_div_two_pow, show i - 32 + 32 = i by omega]]
    exact has_hi _ _ (by omega) i (by omega) hi w
theorem one_any (i : Nat) (hi : i < 64) (w : World) :
    Calls Tryz.prog 150 #[.int .i64 i] w fun e w' => e = .returned (psV (2 ^ i)) ∧ Below w.heap.size w w' := by
  by_cases h : i < 32
  · have h1 : 2 ^ i < 4294967296 := Nat.pow_lt_pow_right (a := 2) (by decide) h
    have e : psV (2 ^ i) = pv (2 ^ i) 0 := by unfold psV; rw [Nat.mod_eq_of_lt h1, Nat.div_eq_of_lt h1]
    rw [e]; exact one_lo i h w
  · have h1 : 2 ^ i = 2 ^ (i - 32) * 4294967296 := by rw [show (4294967296 : Nat) = 2 ^ 32 from rfl, ← Nat.pow_add, show i - 32 + 32 = i by omega]
    have e : psV (2 ^ i) = pv 0 (2 ^ (i - 32)) := by unfold psV; rw [h1, Nat.mul_mod_left, Nat.mul_div_cancel _ (by decide)]
    rw [e]; exact one_hi (i - 32) (by omega) i (by omega) w
end Go.Proofs.YtlhokghgicgppaaGreatDoor
