/- Rules that are words: Compile takes them. -/
/- What scangenkeep.Letters leans on. -/
/- scangenkeep.Letters. -/
import Derived.Test.YtlhokghgicgppaaGreatDoorLetG
import Derived.Test.YtlhokghgicgppaaGreatDoorKeepB
import Derived.Test.YtlhokghgicgppaaGreatDoorToks
import Derived.Test.YtlhokghgicgppaaGreatDoorWholeW
import Derived.Test.YtlhokghgicgppaaGreatDoorBoundB
import Derived.Test.YtlhokghgicgppaaGreatDoorWrite
set_option linter.unusedSimpArgs false
set_option linter.unusedVariables false
namespace Go.Proofs.YtlhokghgicgppaaGreatDoor
open Go.RowKit Go.Extern

theorem Sg.tot_flat : ∀ ws : List Sg.Bs, Sg.tot ws = ws.flatten.length
  | [] => rfl
  | s :: r => by
    have e : Sg.tot (s :: r) = s.length + Sg.tot r := rfl
    rw [e, Sg.tot_flat r, List.flatten_cons, List.length_append]
theorem Sg.flat_few : ∀ ws : List Sg.Bs, (∀ s ∈ ws, s.length ≤ 7) → ws.flatten.length ≤ 7 * ws.length
  | [], _ => by simp
  | s :: r, h => by
    have h1 := h s List.mem_cons_self
    have h2 := Sg.flat_few r (fun x hx => h x (List.mem_cons_of_mem _ hx))
    rw [List.flatten_cons, List.length_append, List.length_cons]; omega
theorem Sg.altOk_tr (s : Sg.Bs) (hs : s ≠ []) : Sg.altOk 100 (Sg.tr s) = true := by
  have h1 : Sg.altOk 99 (.row (s.map Sg.nd)) = true := by
    show (s.map Sg.nd).all (Sg.altOk 98) = true
    exact List.all_eq_true.2 fun x hx => by obtain ⟨b, _, rfl⟩ := List.mem_map.1 hx; rfl
  have h2 : Sg.nul 99 (.row (s.map Sg.nd)) = false := by
    show (s.map Sg.nd).all (Sg.nul 98) = false
    rcases s with _ | ⟨b, r⟩
    · exact absurd rfl hs
    · rw [List.map_cons, List.all_cons]
      rfl
  show ([Sg.Node.row (s.map Sg.nd)].all fun x => Sg.altOk 99 x && !Sg.nul 99 x) = true
  rw [List.all_cons, h1, h2]; rfl
theorem comp_abc (ws : List Sg.Bs) (h1 : 1 ≤ ws.length) (h8 : ws.length ≤ 8) (hw : ∀ s ∈ ws, Sg.Abc s ∧ s ≠ [] ∧ s.length ≤ 7) : ∃ m St, CompOk ws m ∧ Sg.Knows ws m St := by
  have hne : ∀ s ∈ ws, s ≠ [] := fun s hs => (hw s hs).2.1
  have hfl := Sg.flat_few ws (fun s hs => (hw s hs).2.2)
  have hA : Sg.Abc ws.flatten := fun b hb => by
    obtain ⟨s, hs, hb⟩ := List.mem_flatten.1 hb
    exact (hw s hs).1 b hb
  have hfn : ws.flatten ≠ [] := fun e => by
    obtain ⟨s, hs⟩ := List.exists_mem_of_length_pos (l := ws) (by omega)
    have := List.flatten_eq_nil_iff.1 e s hs
    exact hne s hs this
  have hlo := Sg.layAll_abc ws hne
  have hk := Sg.kindOk_abc hlo hA hfn
  obtain ⟨sets, rows, g1, g2, g3, g4, g5⟩ := Sg.rows_abc hlo hk hne (by omega)
  obtain ⟨St, hK⟩ := Sg.knows_abc hlo hk hne sets rows g2 g3 g4 g5
  refine ⟨_, St, ⟨h1, h8, fun s hs => by have := (hw s hs).2.2; omega, fun s hs => ?_, ⟨ws.map Sg.tr, sets, rows, ?_, fun x hx => ?_, ?_, by rw [hlo.llen]; exact h8, by have := hk.kN; omega, hk.c0, g1, rfl⟩, hK.ok⟩, hK⟩
  · unfold cleanR
    rw [Sg.splitR_abc (hw s hs).1]
    exact List.all_eq_true.2 fun x hx => by
      have := Sg.wl_clean (hw s hs).1 x hx
      simp [this.1, this.2]
  · rw [Sg.readAll_abc ws (fun s hs => ⟨(hw s hs).1, by have := (hw s hs).2.2; omega⟩) 0 0 [] (by rw [Sg.tot_flat]; omega)]
    rfl
  · obtain ⟨s, hs, rfl⟩ := List.mem_map.1 hx
    exact Sg.altOk_tr s (hne s hs)
  · unfold rgOk
    rw [hlo.cls]
    exact List.all_eq_true.2 fun x hx => by
      obtain ⟨b, hb, rfl⟩ := List.mem_map.1 hx
      have := hA b hb
      unfold Sg.abc at this
      simp only [Sg.clOf, List.all_cons, List.all_nil, Bool.and_true, Bool.and_eq_true, decide_eq_true_eq, List.length_singleton]
      exact ⟨⟨⟨by omega, by omega⟩, by omega⟩, by simp⟩
theorem Sg.toksOf_let {ws : List Sg.Bs} {m : Sg.Mach} {St : Sg.Bs → Nat → Prop} (hk : Sg.Knows ws m St) (hne : ∀ s ∈ ws, s ≠ []) {x : Sg.Bs} (hx : Sg.Abc x) (hl : x.length ≤ 2000) : Sg.LetT ws x 0 (Sg.toksOf m x) := by
  unfold Sg.toksOf
  rw [Sg.allT_canon m hk.ok hk.up askN_len 3000 _ x (Sg.live0_has _ _) (Sg.on_zero rfl) (by show x.length < 5000; omega) (by show 4 ≤ 5000; omega) (by omega)]
  have := Sg.letT_canon hk hne hx 3000 (Sg.Live.pos (Sg.live0 5000 [⟨x, 0, 0⟩])) 0 (Nat.zero_le _) (by omega)
  rwa [List.drop_zero] at this
end Go.Proofs.YtlhokghgicgppaaGreatDoor

namespace Go.Proofs.YtlhokghgicgppaaGreatDoor
open Go.RowKit Go.Extern

def Sg.lt3 (b : UInt8) : UInt8 := 97 + b % 3
theorem Sg.lt3_nat (b : UInt8) : (Sg.lt3 b).toNat = 97 + b.toNat % 3 := by
  unfold Sg.lt3
  rw [UInt8.toNat_add, UInt8.toNat_mod]
  have : b.toNat % 3 < 3 := Nat.mod_lt _ (by decide)
  show (97 + b.toNat % 3) % 256 = _
  omega
theorem Sg.lt3_abc (b : UInt8) : Sg.abc (Sg.lt3 b) := by
  unfold Sg.abc
  rw [Sg.lt3_nat]
  have : b.toNat % 3 < 3 := Nat.mod_lt _ (by decide)
  omega
theorem row_byte (w : World) (b : UInt8) (v : Int) (hv : v = (b.toNat : Int)) (t : TypeId) : RowAt 1 (w.alloc (.cells #[.int .u8 v] t)) (some ⟨w.heap.size, 0, none⟩) 1 [b].length (bytesV [b]) := by
  subst hv
  refine ⟨rfl, .inr ⟨w.heap.size, 0, rfl, Nat.le_refl _, fun j v hj => ?_, fun j hj => ?_, by simp, fun j => World.frozen?_alloc_at _ _ _ _ rfl⟩⟩
  · rw [World.cell?_alloc_at _ _ _ _ rfl, Nat.zero_add]
    match j, hj with
    | 0, hj => exact hj
    | j + 1, hj => simp [bytesV] at hj
  · rw [World.cell?_alloc_at _ _ _ _ rfl, Nat.zero_add]
    match j, hj with
    | 0, _ => rfl
    | j + 1, h => omega
theorem conv_one (w : World) (b : UInt8) (v : Int) (hv : v = (b.toNat : Int)) (t : TypeId) : (convert 60 9 (.slice (some ⟨w.heap.size, 0, none⟩) 1 1)).run Tryz.prog (w.alloc (.cells #[.int .u8 v] t)) = .ok (.string ⟨[b].toArray⟩) (w.alloc (.cells #[.int .u8 v] t)) :=
  conv_row _ _ 1 [b] (by simp) (row_byte w b v hv t)
theorem info_str : (Tryz.prog.info? 9).map (fun i => (i.zero, i.size, i.bytes)) = some (some (.string ⟨#[]⟩), 1, 16) := by kernel_rfl
/-- Words that were laid so far. -/
structure WI (w wr : World) (la : Option Addr) (lc ln : Nat) (ws : List Sg.Bs) : Prop where
  n : ln = ws.length
  row : RowAt 1 wr la lc ws.length (ws.map rlV)
  new : NewRow w la
  below : Below w.heap.size w wr
  ok : ∀ s ∈ ws, Sg.Abc s ∧ s ≠ [] ∧ s.length ≤ 7
theorem WI.mv {w wr wr' : World} {la : Option Addr} {lc ln : Nat} {ws : List Sg.Bs} (h : WI w wr la lc ln ws) (hb : Below wr.heap.size wr wr') : WI w wr' la lc ln ws := ⟨h.n, h.row.below hb, h.new, h.below.trans (hb.mono h.below.size), h.ok⟩
theorem WI.add {w wr : World} {la : Option Addr} {lc ln : Nat} {ws : List Sg.Bs} (h : WI w wr la lc ln ws) (s : Sg.Bs) (hs : Sg.Abc s ∧ s ≠ [] ∧ s.length ≤ 7) (hn : ln < 1000) (ty vt : TypeId) :
    ∃ ra' rc' w', (Builtin.append_ #[34, 34] ty #[.slice la ln lc, .slice (some ⟨wr.heap.size, 0, none⟩) 1 1]).run Tryz.prog (wr.alloc (.cells #[.string ⟨s.toArray⟩] vt)) = .ok (.slice ra' (ln + 1) rc') w' ∧ Hid (WI w w' ra' rc' (ln + 1) (ws ++ [s])) := by
  obtain ⟨rfl, h1, h2, h3, h4⟩ := h
  obtain ⟨i, hi, hz, hsz, hby⟩ := info_parts info_str
  have hbl : Below wr.heap.size wr (wr.alloc (.cells #[.string ⟨s.toArray⟩] vt)) := (Below.refl _ _).alloc (Nat.le_refl _) _
  obtain ⟨ra', rc', w', g1, g2, g3, g4⟩ := append_row (P := Tryz.prog) (wr.alloc (.cells #[.string ⟨s.toArray⟩] vt)) 34 ty 9 i _ 1 16 Tryz.underlying34 hi hz hsz hby rfl (by omega) la lc ws.length _ (h1.below hbl) wr.heap.size 0 1 1 (by omega) [rlV s] rfl (fun j x hj => by
    rw [World.cell?_alloc_at _ _ _ _ rfl, Nat.zero_add]
    match j, hj with
    | 0, hj => exact hj
    | j + 1, hj => simp at hj) (fun x hx => by
      rw [List.mem_singleton] at hx
      subst hx; rfl) (by unfold maxLen; omega) (by omega)
  refine ⟨ra', rc', w', g1, hide2 ⟨by simp, ?_, h2.moved h3.size ?_, below_row h3 ((Chg.of_below hbl).trans g3) (fun b o e => h2 b o e), ?_⟩⟩
  · rw [List.length_append, List.map_append]
    exact g2
  · rcases g4 with h4 | ⟨rb, e1, e2⟩
    · exact .inl h4
    · exact .inr ⟨rb, e1, by have : (wr.alloc (.cells #[.string ⟨s.toArray⟩] vt)).heap.size = wr.heap.size + 1 := by simp
                             omega⟩
  · intro x hx
    rcases List.mem_append.1 hx with hx | hx
    · exact h4 x hx
    · rw [List.mem_singleton] at hx; subst hx; exact hs
theorem word_cell {w : World} {la : Option Addr} {lc : Nat} {ws : List Sg.Bs} (h : RowAt 1 w la lc ws.length (ws.map rlV)) (j : Nat) (hj : j < ws.length) : ∃ lb lo, la = some ⟨lb, lo, none⟩ ∧ w.cell? ⟨lb, lo + j, none⟩ = some (.string ⟨(ws.getD j []).toArray⟩) := by
  obtain ⟨rb, ro, e1, e2⟩ := row_cell h (j := j) (v := rlV (ws.getD j [])) (by rw [List.getElem?_map, List.getElem?_eq_getElem hj, List.getD_eq_getElem?_getD, List.getElem?_eq_getElem hj]; rfl)
  exact ⟨rb, ro, e1, e2⟩
theorem cat_one (a : Sg.Bs) (b : UInt8) : ByteArray.mk a.toArray ++ ByteArray.mk #[b] = ⟨(a ++ [b]).toArray⟩ := by
  refine ByteArray.ext ?_
  rw [ByteArray.data_append]
  simp
end Go.Proofs.YtlhokghgicgppaaGreatDoor

namespace Go.Proofs.YtlhokghgicgppaaGreatDoor
open Go.RowKit Go.Extern

set_option maxRecDepth 100000 in
set_option maxHeartbeats 8000000 in
theorem letters_any (ca : Option Addr) (n cc : Nat) (hnn : n ≤ 9223372036854775807) (text : Sg.Bs) (w : World) (h : Lay w) (hC : ∀ i, i < n → ∃ (cb co : Nat) (s : Sg.Bs), ca = some ⟨cb, co, none⟩ ∧ w.cell? ⟨cb, co + i, none⟩ = some (.string ⟨s.toArray⟩)) :
    Calls Tryz.prog 11 #[.slice ca n cc, .string ⟨text.toArray⟩] w fun e w' => e = .returned (.bool true) ∧ Below w.heap.size w w' := by
  have HT := hide2 (tables_any 0 (by unfold InI64; omega) 0 rfl w h)
  have HCo : Hid (∀ w1 wr la lc (ws : List Sg.Bs), Below w.heap.size w w1 → WI w1 wr la lc ws.length ws → 1 ≤ ws.length → ws.length ≤ 8 → Calls Tryz.prog 29 #[.slice la ws.length lc] wr fun e w' => ∃ up, e = .returned (.tuple #[.pointer (some ⟨up, 0, none⟩), .nilIface]) ∧ Hid (Below wr.heap.size wr w') ∧
      Hid (∀ W (x : Sg.Bs), Below w'.heap.size w' W → Sg.Abc x → x.length ≤ 2000 → Calls Tryz.prog 18 #[.pointer (some ⟨up, 0, none⟩), .string ⟨x.toArray⟩] W fun en w2 => ∃ (ts : List Sg.Tok) (ra : Option Addr) (rc : Nat), en = .returned (.tuple #[.slice ra ts.length rc, .bool true]) ∧ ts.length ≤ 2000 ∧ Hid (Sg.LetT ws x 0 ts) ∧ Hid (RowAt 5 w2 ra rc ts.length (ts.flatMap tokCells)) ∧ Hid (Below W.heap.size W w2))) := hide2 fun w1 wr la lc ws hb1 hW h1 h8 => by
    obtain ⟨m, St, hm, hk⟩ := comp_abc ws h1 h8 hW.ok
    refine (compile_any lows_any wr la lc ws hW.row m hm).mono ?_
    rintro e w' ⟨up, rfl, K⟩
    have hl := h.below (hb1.trans (hW.below.mono hb1.size))
    obtain ⟨p, hT⟩ := tab_of hl K.out
    refine ⟨up, rfl, hide2 K.out.2.1, hide2 fun W x hb hx hxl => ?_⟩
    obtain ⟨_, k2, k3, k4⟩ := Sg.toksOf_has m x hxl
    refine (tokens_any m hm.ok up p _ x hxl W (hT.below hm.ok (Nat.le_refl _) hb)).mono ?_
    rintro en w2 ⟨ra, rc, rfl, g1, g2, g3⟩
    exact ⟨_, ra, rc, rfl, by omega, hide2 (Sg.toksOf_let hk (fun s hs => (hW.ok s hs).2.1) hx hxl), hide2 g1, hide2 g3⟩
  have HCt : Hid (∀ w1 wr, Below w.heap.size w w1 → Below w1.heap.size w1 wr → ∀ i, i < n → ∃ (cb co : Nat) (s : Sg.Bs), ca = some ⟨cb, co, none⟩ ∧ wr.cell? ⟨cb, co + i, none⟩ = some (.string ⟨s.toArray⟩)) := hide2 fun w1 wr hb hb2 i hi => by
    obtain ⟨cb, co, s, e1, e2⟩ := hC i hi
    exact ⟨cb, co, s, e1, below_keep (hb.trans (hb2.mono hb.size)) e2⟩
  clear h hC
  go_enter Tryz.func11, Tryz.ntmps11
  go_wp2_with (go_at_call 17; refine HT.out.mono ?_; clear HT; rintro e w1 ⟨tp, rfl, H1⟩; have HB1 := hide2 H1.out.1; clear H1)
  go_loopw [6, 7] (fun lv iv wr => ∃ (i : Nat) (la : Option Addr) (lc ln : Nat) (ws : List Sg.Bs), iv = .int .i64 i ∧ lv = .slice la ln lc ∧ i ≤ n ∧ ln ≤ 8 ∧ Hid (WI w1 wr la lc ln ws)) (fun _ iv _ => n - (intOf iv).toNat)
  case atStart => exact ⟨0, none, 0, 0, [], rfl, rfl, Nat.zero_le _, by omega, hide2 ⟨rfl, RowAt.nil 1 _, (fun _ _ e => by cases e), Below.refl _ _, (fun _ hs => by cases hs)⟩⟩
  case round =>
    obtain ⟨i, la, lc, ln, ws, rfl, rfl, hi, hw8, H⟩ := hrel
    by_cases hcond : i < n ∧ ln < 8
    · obtain ⟨hc1, hc2⟩ := hcond
      obtain ⟨cb, co, s, rfl, hz⟩ := HCt.out w1 wr HB1.out H.out.below i hc1
      go_wp2
      go_loopw [8, 9] (fun wv kv wi => ∃ (k : Nat) (u : Sg.Bs), wv = .string ⟨u.toArray⟩ ∧ kv = .int .i64 k ∧ u.length = k ∧ k ≤ s.length ∧ k ≤ 7 ∧ wi.cell? ⟨cb, co + i, none⟩ = some (.string ⟨s.toArray⟩) ∧ Hid (Sg.Abc u ∧ WI w1 wi la lc ln ws)) (fun _ kv _ => 7 - (intOf kv).toNat)
      case atStart => exact ⟨0, [], rfl, rfl, rfl, Nat.zero_le _, Nat.zero_le _, hz, hide2 ⟨(fun _ hb => by cases hb), H.out⟩⟩
      case round =>
        obtain ⟨k, u, rfl, rfl, huk, hks, hk7, hz2, H2⟩ := hrel
        by_cases hin : k < s.length ∧ k < 7
        · obtain ⟨hin1, hin2⟩ := hin
          obtain ⟨b, hb⟩ : ∃ b, s[k]? = some b := ⟨_, List.getElem?_eq_getElem hin1⟩
          have hg := byte_at s k b hb
          have hcv := conv_one wr (Sg.lt3 b) (97 + (b.toNat : Int) % 3) (by rw [Sg.lt3_nat]; omega) 5
          clear hb
          go_wp2
          go_roundw
          case rel =>
            have hbA := blw1' wr (.cells #[.int .u8 (97 + (b.toNat : Int) % 3)] 5)
            refine ⟨k + 1, u ++ [Sg.lt3 b], congrArg Value.string (cat_one u (Sg.lt3 b)), by go_num, by simp [huk], by omega, by omega, below_keep hbA hz2, hide2 ⟨fun x hx => ?_, H2.out.2.mv hbA⟩⟩
            rcases List.mem_append.1 hx with hx | hx
            · exact H2.out.1 x hx
            · rw [List.mem_singleton] at hx; subst hx; exact Sg.lt3_abc b
          case measure => simp [intOf]; omega
        · have hway : (¬ k < s.length) ∨ (k < s.length ∧ ¬ k < 7) := by omega
          clear hin
          by_cases h0 : k = 0
          · subst h0
            rcases hway with hw1 | ⟨hw1, hw2⟩
            · go_wp2
              go_roundw
              case rel => exact ⟨i + 1, la, lc, ln, ws, by go_num, rfl, by omega, hw8, hide2 H2.out.2⟩
              case measure => simp [intOf]; omega
            · omega
          · have HA := hide2 (H2.out.2.add u ⟨H2.out.1, (fun e => h0 (by rw [← huk, e]; rfl)), by omega⟩ (by omega) 34 9)
            clear H2
            rcases hway with hw1 | ⟨hw1, hw2⟩
            all_goals (
              go_wp2_with (at_builtin; obtain ⟨ra2, rc2, w4, hrun, H4⟩ := HA.out; refine wpList_append_run rfl _ _ _ _ rfl _ _ _ rfl rfl hrun ?_; clear hrun HA)
              go_roundw
              case rel => exact ⟨i + 1, ra2, rc2, ln + 1, ws ++ [u], by go_num, rfl, by omega, by omega, H4⟩
              case measure => simp [intOf]; omega)
    · have hway : (¬ i < n) ∨ (i < n ∧ ¬ ln < 8) := by omega
      clear hcond HCt
      by_cases h0 : ln = 0
      · subst h0
        rcases hway with hw1 | ⟨hw1, hw2⟩
        · go_wp2
          go_ret
          exact ⟨rfl, HB1.out.trans (H.out.below.mono HB1.out.size)⟩
        · omega
      · have h00 : ((ln : Int) == 0) = false := beq_eq_false_iff_ne.2 (by omega)
        by_cases ht' : 2000 < text.length
        · rcases hway with hw1 | ⟨hw1, hw2⟩
          all_goals (
            go_wp2
            go_ret
            exact ⟨rfl, HB1.out.trans (H.out.below.mono HB1.out.size)⟩)
        · have ht : text.length ≤ 2000 := by omega
          have hln := H.out.n
          have HC1 := hide2 (HCo.out w1 wr la lc ws HB1.out (hln ▸ H.out) (by omega) (by omega))
          rw [← hln] at HC1
          have HLn := hide2 hln
          clear hln
          have HWs : Hid (∀ W, Below wr.heap.size wr W → RowAt 1 W la lc ws.length (ws.map rlV) ∧ Below w.heap.size w W) := hide2 fun W hW => ⟨H.out.row.below hW, HB1.out.trans ((H.out.below.trans (hW.mono H.out.below.size)).mono HB1.out.size)⟩
          have HNe := hide2 H.out.ok
          clear HCo HB1 H
          rcases hway with hw1 | ⟨hw1, hw2⟩
          all_goals (
            go_wp2_with (go_at_call 29; refine HC1.out.mono ?_; clear HC1; rintro e w2 ⟨up, rfl, HB2, HTk⟩)
            go_loopw [12, 13] (fun xv kv wi => ∃ (k : Nat) (x : Sg.Bs), xv = .string ⟨x.toArray⟩ ∧ kv = .int .i64 k ∧ x.length = k ∧ k ≤ text.length ∧ Hid (Sg.Abc x ∧ Below w2.heap.size w2 wi)) (fun _ kv _ => text.length - (intOf kv).toNat)
            case atStart => exact ⟨0, [], rfl, rfl, rfl, Nat.zero_le _, hide2 ⟨(fun _ hb => by cases hb), Below.refl _ _⟩⟩
            case round =>
              obtain ⟨k, x, rfl, rfl, hxk, hkt, H3⟩ := hrel
              by_cases hin : k < text.length
              · obtain ⟨b, hb⟩ : ∃ b, text[k]? = some b := ⟨_, List.getElem?_eq_getElem hin⟩
                have hg := byte_at text k b hb
                have hcv := conv_one wr (Sg.lt3 b) (97 + (b.toNat : Int) % 3) (by rw [Sg.lt3_nat]; omega) 5
                clear hb
                go_wp2
                go_roundw
                case rel =>
                  have hbA := blw1' wr (.cells #[.int .u8 (97 + (b.toNat : Int) % 3)] 5)
                  refine ⟨k + 1, x ++ [Sg.lt3 b], congrArg Value.string (cat_one x (Sg.lt3 b)), by go_num, by simp [hxk], by omega, hide2 ⟨fun y hy => ?_, H3.out.2.trans (hbA.mono H3.out.2.size)⟩⟩
                  rcases List.mem_append.1 hy with hy | hy
                  · exact H3.out.1 y hy
                  · rw [List.mem_singleton] at hy; subst hy; exact Sg.lt3_abc b
                case measure => simp [intOf]; omega
              · subst hxk
                have HT3 := hide2 (HTk.out wr x H3.out.2 H3.out.1 (by omega))
                clear HTk
                go_wp2_with (go_at_call 18; refine HT3.out.mono ?_; clear HT3; rintro e w3 ⟨ts, ra, rc, rfl, hts, HLt, HRo, HB3⟩)
                have HW3 : Hid (∀ W, Below w3.heap.size w3 W → RowAt 1 W la lc ws.length (ws.map rlV) ∧ RowAt 5 W ra rc ts.length (ts.flatMap tokCells) ∧ Below w.heap.size w W) := hide2 fun W hW => by
                  have q1 := HB3.out.trans (hW.mono HB3.out.size)
                  have q2 := H3.out.2.trans (q1.mono H3.out.2.size)
                  have q3 := HWs.out W (HB2.out.trans (q2.mono HB2.out.size))
                  exact ⟨q3.1, HRo.out.below hW, q3.2⟩
                clear HWs HB2 HB3 H3 HRo
                go_loopw [16, 17] (fun av iv wi => ∃ (j a : Nat), av = .int .i64 a ∧ iv = .int .i64 j ∧ j ≤ ts.length ∧ a ≤ x.length ∧ Hid (Sg.LetT ws x a (ts.drop j) ∧ Below w3.heap.size w3 wi)) (fun _ iv _ => ts.length - (intOf iv).toNat)
                case atStart => exact ⟨0, 0, rfl, rfl, Nat.zero_le _, Nat.zero_le _, hide2 ⟨HLt.out, Below.refl _ _⟩⟩
                case round =>
                  obtain ⟨j, a, rfl, rfl, hj, ha, H4⟩ := hrel
                  by_cases hlt : j < ts.length
                  · have hL := H4.out.1
                    rw [List.drop_eq_getElem_cons hlt] at hL
                    obtain ⟨hax, hbest, ht1, hle, hnext⟩ := hL
                    have HBest := hide2 hbest
                    have HNext := hide2 hnext
                    clear hbest hnext
                    go_wp2
                    go_loopw [18, 19] (fun bv kv wi => ∃ (K : Nat) (best : Int), bv = .int .i64 best ∧ kv = .int .i64 K ∧ K ≤ ln ∧ Hid (Sg.BI ws (x.drop a) K best ∧ Below w3.heap.size w3 wi)) (fun _ kv _ => ln - (intOf kv).toNat)
                    case atStart => exact ⟨0, -1, rfl, rfl, Nat.zero_le _, hide2 ⟨Sg.BI.zero _ _, H4.out.2⟩⟩
                    case round =>
                      obtain ⟨K, best, rfl, rfl, hK, H5⟩ := hrel
                      by_cases hKl : K < ln
                      · have hKw : K < ws.length := by rw [← HLn.out]; exact hKl
                        obtain ⟨lb, lo, e1, hcK⟩ := word_cell (HW3.out wr H5.out.2).1 K hKw
                        have hu7 := (HNe.out _ (Sg.getD_mem hKw)).2.2
                        obtain ⟨u, hu⟩ : ∃ u, ws.getD K [] = u := ⟨_, rfl⟩
                        rw [hu] at hcK hu7
                        have HU := hide2 hu
                        clear hu
                        subst e1
                        by_cases hfit : a + u.length ≤ x.length
                        · have hsl := slice_take x a u.length ((x.drop a).take u.length) rfl hfit
                          have hgt : ((a : Int) + (u.length : Int) ≤ (x.length : Int)) = True := eq_true (by omega)
                          by_cases heq : (x.drop a).take u.length = u
                          · rw [heq] at hsl
                            have hpre : ws.getD K [] <+: x.drop a := by rw [HU.out, List.prefix_iff_eq_take]; exact heq.symm
                            have HPre := hide2 hpre
                            clear heq hpre
                            rcases H5.out.1.val with hb | ⟨b, hbK, hb⟩
                            · subst hb
                              go_upto_region 35 with fail
                              go_quiet (fail)
                              have hbq : Below wr.heap.size wr (wr.drewN nq) := ⟨rfl, rfl, rfl, Nat.le_refl _, fun _ _ => rfl⟩
                              have HW5 := hide2 (And.intro (H5.out.1.take HPre.out (.inl rfl)) (H5.out.2.trans (hbq.mono H5.out.2.size)))
                              clear H5 hbq hcK hsl
                              generalize wr.drewN nq = wq at *
                              go_wp2
                              go_roundw
                              case rel => exact ⟨K + 1, K, rfl, by go_num, by omega, HW5⟩
                              case measure => simp [intOf]; omega
                            · subst hb
                              have hbw : b < ws.length := by omega
                              obtain ⟨lb', lo', e1', hcb⟩ := word_cell (HW3.out wr H5.out.2).1 b hbw
                              have hy7 := (HNe.out _ (Sg.getD_mem hbw)).2.2
                              obtain ⟨y, hy⟩ : ∃ y, ws.getD b [] = y := ⟨_, rfl⟩
                              rw [hy] at hcb hy7
                              have HY := hide2 hy
                              clear hy
                              cases e1'
                              have hb0 : ((b : Int) < 0) = False := eq_false (by omega)
                              by_cases hlong : y.length < u.length
                              · have hl2 : ((y.length : Int) < (u.length : Int)) = True := eq_true (by omega)
                                go_upto_region 35 with fail
                                go_quiet (fail)
                                have hbq : Below wr.heap.size wr (wr.drewN nq) := ⟨rfl, rfl, rfl, Nat.le_refl _, fun _ _ => rfl⟩
                                have HW5 := hide2 (And.intro (H5.out.1.take HPre.out (.inr ⟨b, rfl, by rw [HY.out, HU.out]; exact hlong⟩)) (H5.out.2.trans (hbq.mono H5.out.2.size)))
                                clear H5 hbq hcK hsl hcb
                                generalize wr.drewN nq = wq at *
                                go_wp2
                                go_roundw
                                case rel => exact ⟨K + 1, K, rfl, by go_num, by omega, HW5⟩
                                case measure => simp [intOf]; omega
                              · have hl2 : ((y.length : Int) < (u.length : Int)) = False := eq_false (by omega)
                                go_upto_region 35 with fail
                                go_quiet (fail)
                                have hbq : Below wr.heap.size wr (wr.drewN nq) := ⟨rfl, rfl, rfl, Nat.le_refl _, fun _ _ => rfl⟩
                                have HW5 := hide2 (And.intro (H5.out.1.keep (by rw [HY.out, HU.out]; omega)) (H5.out.2.trans (hbq.mono H5.out.2.size)))
                                clear H5 hbq hcK hsl hcb
                                generalize wr.drewN nq = wq at *
                                go_wp2
                                go_roundw
                                case rel => exact ⟨K + 1, b, rfl, by go_num, by omega, HW5⟩
                                case measure => simp [intOf]; omega
                          · have hno : ¬ ws.getD K [] <+: x.drop a := by
                              rw [HU.out, List.prefix_iff_eq_take]; exact fun e => heq e.symm
                            have HNo := hide2 hno
                            obtain ⟨v, hv⟩ : ∃ v, (x.drop a).take u.length = v := ⟨_, rfl⟩
                            rw [hv] at hsl heq
                            clear hv hno
                            have hbe : (v == u) = false := beq_eq_false_iff_ne.2 heq
                            clear heq
                            go_upto_region 35 with fail
                            go_quiet (fail)
                            have hbq : Below wr.heap.size wr (wr.drewN nq) := ⟨rfl, rfl, rfl, Nat.le_refl _, fun _ _ => rfl⟩
                            have HW5 := hide2 (And.intro (H5.out.1.skip HNo.out) (H5.out.2.trans (hbq.mono H5.out.2.size)))
                            clear H5 hbq hcK hsl hbe
                            generalize wr.drewN nq = wq at *
                            go_wp2
                            go_roundw
                            case rel => exact ⟨K + 1, best, rfl, by go_num, by omega, HW5⟩
                            case measure => simp [intOf]; omega
                        · have hno : ¬ ws.getD K [] <+: x.drop a := fun e => by
                            have := e.length_le
                            rw [HU.out, List.length_drop] at this; omega
                          have HNo := hide2 hno
                          have hgt : ((a : Int) + (u.length : Int) ≤ (x.length : Int)) = False := eq_false (by omega)
                          clear hno hfit
                          go_upto_region 35 with fail
                          go_quiet (fail)
                          have hbq : Below wr.heap.size wr (wr.drewN nq) := ⟨rfl, rfl, rfl, Nat.le_refl _, fun _ _ => rfl⟩
                          have HW5 := hide2 (And.intro (H5.out.1.skip HNo.out) (H5.out.2.trans (hbq.mono H5.out.2.size)))
                          clear H5 hbq hcK
                          generalize wr.drewN nq = wq at *
                          go_wp2
                          go_roundw
                          case rel => exact ⟨K + 1, best, rfl, by go_num, by omega, HW5⟩
                          case measure => simp [intOf]; omega
                      · have hB := H5.out.1
                        rw [show K = ws.length by rw [← HLn.out]; omega] at hB
                        obtain ⟨hr, htx⟩ := HBest.out best hB
                        obtain ⟨rb, ro, e2, c0, c1, c2, c3, c4⟩ := tok_cells (HW3.out wr H5.out.2).2.1 j hlt
                        rw [hr] at c0
                        have hs1 : ∀ W : World, (Instr.slice 9 (.string ⟨x.toArray⟩) (some (.int .i64 (a : Int))) (some (.int .i64 ((a : Int) + 1))) none).run Tryz.prog W = .ok (.string ⟨((x.drop a).take 1).toArray⟩) W := fun W => slice_take x a 1 _ rfl (by omega) W
                        have h1l : ((x.drop a).take 1).length = 1 := by rw [List.length_take, List.length_drop]; omega
                        clear c1 c2 c3 hB hr HBest
                        subst e2
                        rcases htx with ⟨rfl, htx⟩ | ⟨b, hbw, rfl, htx⟩
                        · have hn2 := HNext.out
                          rw [htx, h1l] at hn2
                          rw [htx] at c4
                          have HN2 := hide2 hn2
                          clear hn2 htx HNext ht1 hle
                          generalize (x.drop a).take 1 = z at *
                          go_wp2
                          go_roundw
                          case rel => exact ⟨j + 1, a + 1, by go_num, by go_num, by omega, by omega, hide2 ⟨HN2.out, H5.out.2⟩⟩
                          case measure => simp [intOf]; omega
                        · obtain ⟨lb, lo, e1, hcb⟩ := word_cell (HW3.out wr H5.out.2).1 b hbw
                          have hn2 := HNext.out
                          rw [htx] at hn2 c4 hle
                          have hy7 := (HNe.out _ (Sg.getD_mem hbw)).2.2
                          subst e1
                          have HN2 := hide2 hn2
                          clear hn2 htx HNext ht1
                          generalize ws.getD b [] = y at *
                          generalize (x.drop a).take 1 = z at *
                          have hbl : b < ln := by rw [HLn.out]; exact hbw
                          go_wp2
                          go_roundw
                          case rel => exact ⟨j + 1, a + y.length, by go_num, by go_num, by omega, by omega, hide2 ⟨HN2.out, H5.out.2⟩⟩
                          case measure => simp [intOf]; omega
                  · have hd : ts.drop j = [] := List.drop_of_length_le (by omega)
                    have hL := H4.out.1
                    rw [hd] at hL
                    have hL : a = x.length := hL
                    subst hL
                    go_wp2
                    go_ret
                    exact ⟨rfl, (HW3.out wr H4.out.2).2.2⟩)
end Go.Proofs.YtlhokghgicgppaaGreatDoor
