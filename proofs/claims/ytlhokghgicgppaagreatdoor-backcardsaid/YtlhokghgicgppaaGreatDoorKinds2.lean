/- kinds, whole. -/
import Derived.Test.YtlhokghgicgppaaGreatDoorStates2
set_option linter.unusedSimpArgs false
set_option linter.unusedVariables false
set_option maxRecDepth 100000
set_option maxHeartbeats 4000000
namespace Go.Proofs.YtlhokghgicgppaaGreatDoor
open Go.RowKit Go.Extern Go.Maps
theorem kinds_any (hLows : LowsAny) (B p : Nat) (w : World) (lo : Sg.Lo) (hlo : LoAt B w p lo) (hrg : rgOk lo = true) :
    Calls Tryz.prog 73 #[.pointer (some ⟨p, 0, none⟩)] w fun e w' => ∃ ca cc ka kc, e = .returned (.tuple #[.slice ca (Sg.kindRows lo).1.length cc, .slice ka (Sg.kindRows lo).2.length kc]) ∧ RowAt 2 w' ca cc (Sg.kindRows lo).1.length ((Sg.kindRows lo).1.flatMap ctCells) ∧ RowAt 2 w' ka kc (Sg.kindRows lo).2.length ((Sg.kindRows lo).2.flatMap psCells) ∧ Below w.heap.size w w' ∧ (∀ x ∈ (Sg.kindRows lo).2, x < 18446744073709551616) ∧ InD (fun b => w.heap.size ≤ b) ca ∧ InD (fun b => w.heap.size ≤ b) ka := by
  have hmm := @run_makeMap Tryz.prog
  have hb0 := blw1' w (.map #[] 0)
  have HLo := hide2 (hLows B p (w.alloc (.map #[] 0)) lo (hlo.below hb0) hrg)
  have HLO := hide2 hlo
  have HM0 := hide2 (And.intro (MapAt.made w 0) hb0)
  rw [kindRows_eq]
  generalize hL : Sg.lowsOf lo = L at *
  generalize hfin : L.foldl (kStep lo) ([], []) = fin
  have HF := hide2 hfin
  clear hfin hL hLows hlo hb0 hrg
  go_enter Tryz.func73, Tryz.ntmps73
  go_wp2_with (go_at_call 106; refine HLo.out.mono ?_; clear HLo; rintro e w1 ⟨la, lc, rfl, hl1, hl2, hl4, hl3⟩)
  have hal : (w.alloc (.map #[] 0)).heap.size = w.heap.size + 1 := by simp
  rw [hal] at hl4
  have HL1 := hide2 (And.intro hl1 hl4)
  have hM1 : MapAt w1 w.heap.size [] 0 := HM0.out.1.below hl2
  have hbw1 : Below w.heap.size w w1 := HM0.out.2.trans (hl2.mono (by simp))
  have HW := hide2 (And.intro hM1 hbw1)
  have hw1s : w.heap.size < w1.heap.size := hM1.lt
  clear hl1 hl2 hl4 hal hM1 hbw1 HM0
  go_loopw [4, 5, 16] (fun cv kv iv wr => ∃ (j na nk : Nat) (ca ka : Option Addr) (cc kc : Nat) (cuts : List (Int × Int)) (ks : List Nat), cv = .slice ca na cc ∧ kv = .slice ka nk kc ∧ iv = .int .i64 j ∧ j ≤ L.length ∧ na ≤ j ∧ nk ≤ j ∧ Hid (KI w.heap.size w1.heap.size w1 wr ca ka cc kc na nk cuts ks ∧ (L.drop j).foldl (kStep lo) (cuts, ks) = fin)) (fun _ _ iv _ => L.length - (intOf iv).toNat)
  case atStart => exact ⟨0, 0, 0, none, none, 0, 0, [], [], rfl, rfl, rfl, Nat.zero_le _, Nat.le_refl _, Nat.le_refl _, hide2 ⟨⟨rfl, rfl, RowAt.nil 2 _, RowAt.nil 2 _, (fun _ _ e => by cases e), (fun _ _ e => by cases e), (fun _ _ _ e => by cases e), HW.out.1, List.nodup_nil, Kp.refl _ _ _, (fun x hx => by cases hx), hw1s, Nat.le_refl _⟩, HF.out⟩⟩
  case round =>
    obtain ⟨j, na, nk, ca, ka, cc, kc, cuts, ks, rfl, rfl, rfl, hj, hna, hnk, H⟩ := hrel
    obtain ⟨g1, g2⟩ := H.out
    clear H HF
    by_cases hlt : j < L.length
    · rw [List.drop_eq_getElem_cons hlt, List.foldl_cons, kStep_at] at g2
      have hrow := g1.kp.row HL1.out.1 (fun b o e => ⟨HL1.out.1.lt e, fun e2 => by have : w.heap.size + 1 ≤ b := HL1.out.2 _ _ e; omega⟩)
      obtain ⟨lb, lof, rfl, k0⟩ := row_cell hrow (j := j) (v := i32V L[j]) (by simp [hlt])
      unfold i32V at k0
      have hbel : Below w.heap.size w wr := HW.out.2.trans (g1.kp.below (Nat.le_of_lt hw1s) (Nat.le_refl _))
      have hmt := matching_any wr p lo.lt.cls.length (fun i => lo.lt.cls.getD i []) L[j] HLO.out.lt.n (HLO.out.below hbel).lt.clsAt
      have hsl := matF_lt (fun i => lo.lt.cls.getD i []) L[j] lo.lt.cls.length HLO.out.lt.n
      rw [← matchT_eq] at hmt hsl
      generalize L[j] = low at *
      generalize Sg.matchT lo low = s at *
      obtain ⟨a, b, hps⟩ := ps_agg s
      rw [hps] at hmt
      have HMt := hide2 hmt
      have hnk' := g1.hnk
      have HG := hide2 (And.intro g1 (And.intro hsl (And.intro g2 hps)))
      obtain ⟨k, hkk⟩ : ∃ k, ks.idxOf s = k := ⟨_, rfl⟩
      have hkl : k ≤ nk := by rw [hnk', ← hkk]; exact List.idxOf_le_length
      have hkn : ¬ ks.idxOf s < ks.length → k = nk := fun h => by rw [← hnk', hkk] at h; omega
      clear g1 g2 hbel hsl hps hmt hrow hnk'
      rcases List.eq_nil_or_concat cuts with rfl | ⟨init, c, rfl⟩
      · have hna0 : na = 0 := HG.out.1.hna
        subst hna0
        by_cases hk : ks.idxOf s < ks.length
        · have HK := hide2 hk
          have HKk := hide2 hkk
          clear hk hkk hkn
          go_wp2_with (first
            | (go_at_call 107; refine HMt.out.mono ?_; clear HMt; rintro e w2 ⟨rfl, hb2⟩)
            | (at_lookup
               have q0 : (w2.alloc (.cells #[.int .u32 a, .int .u32 b] 227)).cell? ⟨w2.heap.size, 0, none⟩ = some (.int .u32 a) := cell_of' (heap_alloc_new w2 _) 0
               have q1 : (w2.alloc (.cells #[.int .u32 a, .int .u32 b] 227)).cell? ⟨w2.heap.size, 1, none⟩ = some (.int .u32 b) := cell_of' (heap_alloc_new w2 _) 1
               have hsz := hb2.size
               have hI := HG.out.1.below (below_go hb2 (blw1' w2 (.cells #[.int .u32 a, .int .u32 b] 227)))
               clear hb2
               generalize w2.alloc (.cells #[.int .u32 a, .int .u32 b] 227) = W at *
               generalize w2.heap.size = S at *
               have hlk := hI.mp.look hI.nd HG.out.2.1
               rw [HG.out.2.2.2, if_pos HK.out, decide_eq_true HK.out, Nat.add_zero, HKk.out] at hlk
               have HI := hide2 hI
               refine wpList_lookup_run rfl _ _ _ rfl _ _ _ rfl rfl hlk ?_
               clear hlk hI)
            | (at_builtin
               obtain ⟨ca', cc', W6, hrun6, HI6⟩ := HI.out.cut (by omega) low (k : Int) 148 168
               refine wpList_append_run rfl _ _ _ _ rfl _ _ _ rfl rfl hrun6 ?_
               clear hrun6))
          refine ⟨⟨j + 1, 0 + 1, nk, ca', ka, cc', kc, _, _, rfl, rfl, by go_num, by omega, by omega, by omega, hide2 ⟨HI6.out, ?_⟩⟩, by simp [intOf]; omega⟩
          have g := HG.out.2.2.1
          rw [HKk.out, if_pos (by simp), if_pos (HKk.out ▸ HK.out)] at g
          exact g
        · have hk2 := hkn hk
          subst hk2
          have HK := hide2 hk
          have HKk := hide2 hkk
          clear hk hkk hkn
          go_wp2_with (first
            | (go_at_call 107; refine HMt.out.mono ?_; clear HMt; rintro e w2 ⟨rfl, hb2⟩)
            | (at_lookup
               have q0 : (w2.alloc (.cells #[.int .u32 a, .int .u32 b] 227)).cell? ⟨w2.heap.size, 0, none⟩ = some (.int .u32 a) := cell_of' (heap_alloc_new w2 _) 0
               have q1 : (w2.alloc (.cells #[.int .u32 a, .int .u32 b] 227)).cell? ⟨w2.heap.size, 1, none⟩ = some (.int .u32 b) := cell_of' (heap_alloc_new w2 _) 1
               have hsz := hb2.size
               have hI := HG.out.1.below (below_go hb2 (blw1' w2 (.cells #[.int .u32 a, .int .u32 b] 227)))
               clear hb2
               generalize w2.alloc (.cells #[.int .u32 a, .int .u32 b] 227) = W at *
               generalize w2.heap.size = S at *
               have hlk := hI.mp.look hI.nd HG.out.2.1
               rw [HG.out.2.2.2, if_neg HK.out, decide_eq_false HK.out] at hlk
               have HI := hide2 hI
               refine wpList_lookup_run rfl _ _ _ rfl _ _ _ rfl rfl hlk ?_
               clear hlk hI)
            | (at_mapUpdate
               obtain ⟨W4, hput, t4, ka', kc', W5, hrun, HI5⟩ := HI.out.put (by omega) HG.out.2.1 HK.out HG.out.2.2.2 161 227
               have r0 := (t4.cell (i := S) (by have := HI.out.mB; have := HG.out.1.Bw; omega) 0).trans q0
               have r1 := (t4.cell (i := S) (by have := HI.out.mB; have := HG.out.1.Bw; omega) 1).trans q1
               clear q0 q1 HI
               refine wpList_mapUpdate_run rfl _ _ _ _ rfl _ _ _ rfl rfl rfl hput ?_
               clear hput t4)
            | (at_builtin
               refine wpList_append_run rfl _ _ _ _ rfl _ _ _ rfl rfl hrun ?_
               clear hrun r0 r1)
            | (at_builtin
               obtain ⟨ca', cc', W6, hrun6, HI6⟩ := HI5.out.cut (by omega) low (k : Int) 148 168
               refine wpList_append_run rfl _ _ _ _ rfl _ _ _ rfl rfl hrun6 ?_
               clear hrun6))
          refine ⟨⟨j + 1, 0 + 1, (k + 1), ca', ka', cc', kc', _, _, rfl, rfl, by go_num, by omega, by omega, by omega, hide2 ⟨HI6.out, ?_⟩⟩, by simp [intOf]; omega⟩
          have g := HG.out.2.2.1
          rw [HKk.out, if_pos (by simp), if_neg (HKk.out ▸ HK.out)] at g
          exact g
      · rw [List.concat_eq_append] at *
        obtain ⟨n, rfl⟩ : ∃ n, na = n + 1 := ⟨init.length, by have := HG.out.1.hna; simpa using this⟩
        obtain ⟨cb, co, rfl, _⟩ := HG.out.1.last
        have HL : Hid (∀ (W : World) ka' kc' nk' ks', KI w.heap.size w1.heap.size w1 W (some ⟨cb, co, none⟩) ka' cc kc' (n + 1) nk' (init ++ [c]) ks' → W.cell? ⟨cb, co + n * 2 + 1, none⟩ = some (.int .i64 c.2)) := hide2 (fun W ka' kc' nk' ks' h => by
          obtain ⟨cb', co', e, hc⟩ := h.last
          cases e; exact hc)
        have hgl : ((init ++ [c]).getLastD (0, 0)).2 = c.2 := by simp [List.getLastD_eq_getLast?]
        have hie : (init ++ [c]).isEmpty = false := by simp
        have HGL := hide2 (And.intro hgl hie)
        clear hgl hie
        generalize c.2 = cz at *
        by_cases hk : ks.idxOf s < ks.length
        · have HK := hide2 hk
          have HKk := hide2 hkk
          clear hk hkk hkn
          by_cases hc : cz = (k : Int)
          · subst hc
            have hc : True := trivial
            go_wp2_with (first
              | (go_at_call 107; refine HMt.out.mono ?_; clear HMt; rintro e w2 ⟨rfl, hb2⟩)
              | (at_lookup
                 have q0 : (w2.alloc (.cells #[.int .u32 a, .int .u32 b] 227)).cell? ⟨w2.heap.size, 0, none⟩ = some (.int .u32 a) := cell_of' (heap_alloc_new w2 _) 0
                 have q1 : (w2.alloc (.cells #[.int .u32 a, .int .u32 b] 227)).cell? ⟨w2.heap.size, 1, none⟩ = some (.int .u32 b) := cell_of' (heap_alloc_new w2 _) 1
                 have hsz := hb2.size
                 have hI := HG.out.1.below (below_go hb2 (blw1' w2 (.cells #[.int .u32 a, .int .u32 b] 227)))
                 clear hb2
                 generalize w2.alloc (.cells #[.int .u32 a, .int .u32 b] 227) = W at *
                 generalize w2.heap.size = S at *
                 have hlk := hI.mp.look hI.nd HG.out.2.1
                 rw [HG.out.2.2.2, if_pos HK.out, decide_eq_true HK.out, Nat.add_zero, HKk.out] at hlk
                 have HI := hide2 hI
                 refine wpList_lookup_run rfl _ _ _ rfl _ _ _ rfl rfl hlk ?_
                 clear hlk hI
                 have l0 := HL.out _ _ _ _ _ HI.out))
            refine ⟨⟨j + 1, (n + 1), nk, _, ka, cc, kc, _, _, rfl, rfl, by go_num, by omega, by omega, by omega, hide2 ⟨HI.out, ?_⟩⟩, by simp [intOf]; omega⟩
            have g := HG.out.2.2.1
            rw [HKk.out, if_neg (by rw [HGL.out.1, HGL.out.2]; simp [hc]), if_pos (HKk.out ▸ HK.out)] at g
            exact g
          · have hc2 : (cz != (k : Int)) = true := by simpa using hc
            go_wp2_with (first
              | (go_at_call 107; refine HMt.out.mono ?_; clear HMt; rintro e w2 ⟨rfl, hb2⟩)
              | (at_lookup
                 have q0 : (w2.alloc (.cells #[.int .u32 a, .int .u32 b] 227)).cell? ⟨w2.heap.size, 0, none⟩ = some (.int .u32 a) := cell_of' (heap_alloc_new w2 _) 0
                 have q1 : (w2.alloc (.cells #[.int .u32 a, .int .u32 b] 227)).cell? ⟨w2.heap.size, 1, none⟩ = some (.int .u32 b) := cell_of' (heap_alloc_new w2 _) 1
                 have hsz := hb2.size
                 have hI := HG.out.1.below (below_go hb2 (blw1' w2 (.cells #[.int .u32 a, .int .u32 b] 227)))
                 clear hb2
                 generalize w2.alloc (.cells #[.int .u32 a, .int .u32 b] 227) = W at *
                 generalize w2.heap.size = S at *
                 have hlk := hI.mp.look hI.nd HG.out.2.1
                 rw [HG.out.2.2.2, if_pos HK.out, decide_eq_true HK.out, Nat.add_zero, HKk.out] at hlk
                 have HI := hide2 hI
                 refine wpList_lookup_run rfl _ _ _ rfl _ _ _ rfl rfl hlk ?_
                 clear hlk hI
                 have l0 := HL.out _ _ _ _ _ HI.out)
              | (at_builtin
                 obtain ⟨ca', cc', W6, hrun6, HI6⟩ := HI.out.cut (by omega) low (k : Int) 148 168
                 refine wpList_append_run rfl _ _ _ _ rfl _ _ _ rfl rfl hrun6 ?_
                 clear hrun6))
            refine ⟨⟨j + 1, (n + 1) + 1, nk, ca', ka, cc', kc, _, _, rfl, rfl, by go_num, by omega, by omega, by omega, hide2 ⟨HI6.out, ?_⟩⟩, by simp [intOf]; omega⟩
            have g := HG.out.2.2.1
            rw [HKk.out, if_pos (by rw [HGL.out.1]; simp [hc]), if_pos (HKk.out ▸ HK.out)] at g
            exact g
        · have hk2 := hkn hk
          subst hk2
          have HK := hide2 hk
          have HKk := hide2 hkk
          clear hk hkk hkn
          by_cases hc : cz = (k : Int)
          · subst hc
            have hc : True := trivial
            go_wp2_with (first
              | (go_at_call 107; refine HMt.out.mono ?_; clear HMt; rintro e w2 ⟨rfl, hb2⟩)
              | (at_lookup
                 have q0 : (w2.alloc (.cells #[.int .u32 a, .int .u32 b] 227)).cell? ⟨w2.heap.size, 0, none⟩ = some (.int .u32 a) := cell_of' (heap_alloc_new w2 _) 0
                 have q1 : (w2.alloc (.cells #[.int .u32 a, .int .u32 b] 227)).cell? ⟨w2.heap.size, 1, none⟩ = some (.int .u32 b) := cell_of' (heap_alloc_new w2 _) 1
                 have hsz := hb2.size
                 have hI := HG.out.1.below (below_go hb2 (blw1' w2 (.cells #[.int .u32 a, .int .u32 b] 227)))
                 clear hb2
                 generalize w2.alloc (.cells #[.int .u32 a, .int .u32 b] 227) = W at *
                 generalize w2.heap.size = S at *
                 have hlk := hI.mp.look hI.nd HG.out.2.1
                 rw [HG.out.2.2.2, if_neg HK.out, decide_eq_false HK.out] at hlk
                 have HI := hide2 hI
                 refine wpList_lookup_run rfl _ _ _ rfl _ _ _ rfl rfl hlk ?_
                 clear hlk hI)
              | (at_mapUpdate
                 obtain ⟨W4, hput, t4, ka', kc', W5, hrun, HI5⟩ := HI.out.put (by omega) HG.out.2.1 HK.out HG.out.2.2.2 161 227
                 have r0 := (t4.cell (i := S) (by have := HI.out.mB; have := HG.out.1.Bw; omega) 0).trans q0
                 have r1 := (t4.cell (i := S) (by have := HI.out.mB; have := HG.out.1.Bw; omega) 1).trans q1
                 clear q0 q1 HI
                 refine wpList_mapUpdate_run rfl _ _ _ _ rfl _ _ _ rfl rfl rfl hput ?_
                 clear hput t4)
              | (at_builtin
                 refine wpList_append_run rfl _ _ _ _ rfl _ _ _ rfl rfl hrun ?_
                 clear hrun r0 r1
                 have l0 := HL.out _ _ _ _ _ HI5.out))
            refine ⟨⟨j + 1, (n + 1), (k + 1), _, ka', cc, kc', _, _, rfl, rfl, by go_num, by omega, by omega, by omega, hide2 ⟨HI5.out, ?_⟩⟩, by simp [intOf]; omega⟩
            have g := HG.out.2.2.1
            rw [HKk.out, if_neg (by rw [HGL.out.1, HGL.out.2]; simp [hc]), if_neg (HKk.out ▸ HK.out)] at g
            exact g
          · have hc2 : (cz != (k : Int)) = true := by simpa using hc
            go_wp2_with (first
              | (go_at_call 107; refine HMt.out.mono ?_; clear HMt; rintro e w2 ⟨rfl, hb2⟩)
              | (at_lookup
                 have q0 : (w2.alloc (.cells #[.int .u32 a, .int .u32 b] 227)).cell? ⟨w2.heap.size, 0, none⟩ = some (.int .u32 a) := cell_of' (heap_alloc_new w2 _) 0
                 have q1 : (w2.alloc (.cells #[.int .u32 a, .int .u32 b] 227)).cell? ⟨w2.heap.size, 1, none⟩ = some (.int .u32 b) := cell_of' (heap_alloc_new w2 _) 1
                 have hsz := hb2.size
                 have hI := HG.out.1.below (below_go hb2 (blw1' w2 (.cells #[.int .u32 a, .int .u32 b] 227)))
                 clear hb2
                 generalize w2.alloc (.cells #[.int .u32 a, .int .u32 b] 227) = W at *
                 generalize w2.heap.size = S at *
                 have hlk := hI.mp.look hI.nd HG.out.2.1
                 rw [HG.out.2.2.2, if_neg HK.out, decide_eq_false HK.out] at hlk
                 have HI := hide2 hI
                 refine wpList_lookup_run rfl _ _ _ rfl _ _ _ rfl rfl hlk ?_
                 clear hlk hI)
              | (at_mapUpdate
                 obtain ⟨W4, hput, t4, ka', kc', W5, hrun, HI5⟩ := HI.out.put (by omega) HG.out.2.1 HK.out HG.out.2.2.2 161 227
                 have r0 := (t4.cell (i := S) (by have := HI.out.mB; have := HG.out.1.Bw; omega) 0).trans q0
                 have r1 := (t4.cell (i := S) (by have := HI.out.mB; have := HG.out.1.Bw; omega) 1).trans q1
                 clear q0 q1 HI
                 refine wpList_mapUpdate_run rfl _ _ _ _ rfl _ _ _ rfl rfl rfl hput ?_
                 clear hput t4)
              | (at_builtin
                 refine wpList_append_run rfl _ _ _ _ rfl _ _ _ rfl rfl hrun ?_
                 clear hrun r0 r1
                 have l0 := HL.out _ _ _ _ _ HI5.out)
              | (at_builtin
                 obtain ⟨ca', cc', W6, hrun6, HI6⟩ := HI5.out.cut (by omega) low (k : Int) 148 168
                 refine wpList_append_run rfl _ _ _ _ rfl _ _ _ rfl rfl hrun6 ?_
                 clear hrun6))
            refine ⟨⟨j + 1, (n + 1) + 1, (k + 1), ca', ka', cc', kc', _, _, rfl, rfl, by go_num, by omega, by omega, by omega, hide2 ⟨HI6.out, ?_⟩⟩, by simp [intOf]; omega⟩
            have g := HG.out.2.2.1
            rw [HKk.out, if_pos (by rw [HGL.out.1]; simp [hc]), if_neg (HKk.out ▸ HK.out)] at g
            exact g
    · rw [List.drop_of_length_le (by omega)] at g2
      have g2' : (cuts, ks) = fin := g2
      subst g2'
      have HX := hide2 g1
      clear g1 g2
      go_wp2
      go_ret2
      obtain ⟨x1, x2, x3, x4, x5, x6, x7, x8, x9, x10, x11, x12, x13⟩ := HX.out
      subst x1 x2
      exact ⟨ca, cc, ka, kc, rfl, x3, x4, HW.out.2.trans (x10.below (Nat.le_of_lt hw1s) (Nat.le_refl _)), x11, x5.of (fun b hb => by omega), x6.of (fun b hb => by omega)⟩
end Go.Proofs.YtlhokghgicgppaaGreatDoor
