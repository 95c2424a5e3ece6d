/- The closed facts of Whole's row, one by one. -/
import Derived.Test.YtlhokghgicgppaaGreatDoorRowBase
set_option linter.unusedSimpArgs false
set_option linter.unusedVariables false
namespace Go.Proofs.YtlhokghgicgppaaGreatDoor
open Go.ChangeShapes Go.WideShapes Go.ChangeAt Go.RowKit Go.Lib

theorem whole_k10 : (Rows.wholeRow.inPlace == Tryz.prog.inPlace 8) = true := by kernel_rfl
theorem whole_k11 : (Rows.wholeRow.unfollowed == Tryz.prog.unfollowed 8) = true := by kernel_rfl
theorem whole_k12 : (Rows.wholeRow.recurses == Tryz.prog.recurses 8) = true := by kernel_rfl
theorem whole_k13 : (Rows.wholeRow.named == Tryz.prog.varsNamed 8) = true := by kernel_rfl
theorem whole_closed : joinedFacts Tryz.prog 8 Tryz.f8 Rows.wholeSpec Rows.wholeRow = true := by
  unfold joinedFacts
  rw [whole_k10, whole_k11, whole_k12, whole_k13]
  simp only [Bool.and_true]
  kernel_rfl
end Go.Proofs.YtlhokghgicgppaaGreatDoor
