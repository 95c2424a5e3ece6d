/- (*Scanner).fail; a scanner that has failed. -/
import Derived.Test.YtlhokghgicgppaaDoorScanner
set_option linter.unusedSimpArgs false
set_option linter.unusedVariables false
namespace Go.Proofs.YtlhokghgicgppaaDoor
open Go.RowKit Go.Extern

theorem Chg.setB {sq : Nat} {a w : World} (h : Chg (fun i _ => i = sq) a w) (o : Nat) (v : Value) : Chg (fun i _ => i = sq) a (w.setCell ⟨sq, o, none⟩ v) := Chg.setCell (T := fun i _ => i = sq) h rfl v
def tokV (t : Sg.Tok) : Value := .agg #[.int .i64 t.rule, .int .i64 t.at_, .int .i64 t.line, .int .i64 t.col, strV t.text]
def tok0 : Value := .agg #[.int .i64 0, .int .i64 0, .int .i64 0, .int .i64 0, .string ⟨#[]⟩]

set_option maxRecDepth 100000 in
set_option maxHeartbeats 800000 in
theorem fail_any (sq : Nat) (e : Int) (w : World) (hc : ∀ j, j < 15 → ∃ v, w.cell? ⟨sq, j, none⟩ = some v) (hf : ∀ j, w.frozen? ⟨sq, j, none⟩ = false) :
    Calls Tryd.prog 26 #[.pointer (some ⟨sq, 0, none⟩), errV (some e)] w fun en w' => en = .returned (.tuple #[tok0, errV (some e)]) ∧ w'.cell? ⟨sq, 14, none⟩ = some (errV (some e)) ∧ Chg (fun i _ => i = sq) w w' := by
  obtain ⟨x0, h0⟩ := hc 0 (by omega)
  obtain ⟨x1, h1⟩ := hc 1 (by omega)
  obtain ⟨x2, h2⟩ := hc 2 (by omega)
  obtain ⟨x3, h3⟩ := hc 3 (by omega)
  obtain ⟨x4, h4⟩ := hc 4 (by omega)
  obtain ⟨x5, h5⟩ := hc 5 (by omega)
  obtain ⟨x6, h6⟩ := hc 6 (by omega)
  obtain ⟨x7, h7⟩ := hc 7 (by omega)
  obtain ⟨x8, h8⟩ := hc 8 (by omega)
  obtain ⟨x9, h9⟩ := hc 9 (by omega)
  obtain ⟨x10, h10⟩ := hc 10 (by omega)
  obtain ⟨x11, h11⟩ := hc 11 (by omega)
  obtain ⟨x12, h12⟩ := hc 12 (by omega)
  obtain ⟨x13, h13⟩ := hc 13 (by omega)
  obtain ⟨x14, h14⟩ := hc 14 (by omega)
  clear hc
  have hs := cell_lt h0
  have n1 : ¬ sq = w.heap.size := by omega
  have n2 : ¬ w.heap.size = sq := by omega
  unfold errV
  go_enter Tryd.func26, Tryd.ntmps26
  go_wp2
  refine bodyPost_ret (v := .tuple #[tok0, .iface 27 (.int .i64 e)]) (by simp [results, Tryd.results26, go_sem, tok0]) rfl ⟨rfl, ?_, ?_⟩
  · rw [World.cell?_alloc_lt _ _ ⟨sq, 14, none⟩ (by simp; omega)]
    refine World.cell?_setCell_same (u := x14) _ _ _ ?_
    iterate 14 rw [World.cell?_setCell_other _ _ _ _ (by simp)]
    exact h14
  · refine Chg.alloc ?_ _
    iterate 15 refine Chg.setB ?_ _ _
    exact Chg.refl _ _
end Go.Proofs.YtlhokghgicgppaaDoor
