/- The closed facts of Cut's row, one by one. -/
import Derived.Test.YtlhokghgicgppaaGreatDoorRowBase
set_option linter.unusedSimpArgs false
set_option linter.unusedVariables false
namespace Go.Proofs.YtlhokghgicgppaaGreatDoor
open Go.ChangeShapes Go.WideShapes Go.ChangeAt Go.RowKit Go.Lib

theorem cut_k10 : (Rows.cutRow.inPlace == Tryz.prog.inPlace 10) = true := by kernel_rfl
theorem cut_k11 : (Rows.cutRow.unfollowed == Tryz.prog.unfollowed 10) = true := by kernel_rfl
theorem cut_k12 : (Rows.cutRow.recurses == Tryz.prog.recurses 10) = true := by kernel_rfl
theorem cut_k13 : (Rows.cutRow.named == Tryz.prog.varsNamed 10) = true := by kernel_rfl
theorem cut_closed : joinedFacts Tryz.prog 10 Tryz.f10 Rows.cutSpec Rows.cutRow = true := by
  unfold joinedFacts
  rw [cut_k10, cut_k11, cut_k12, cut_k13]
  simp only [Bool.and_true]
  kernel_rfl
end Go.Proofs.YtlhokghgicgppaaGreatDoor
