/- The closed facts of Near's row, one by one. -/
import Derived.Test.YtlhokghgicgppaaGreatDoorRowBase
set_option linter.unusedSimpArgs false
set_option linter.unusedVariables false
namespace Go.Proofs.YtlhokghgicgppaaGreatDoor
open Go.ChangeShapes Go.WideShapes Go.ChangeAt Go.RowKit Go.Lib

theorem near_k10 : (Rows.nearRow.inPlace == Tryz.prog.inPlace 12) = true := by kernel_rfl
theorem near_k11 : (Rows.nearRow.unfollowed == Tryz.prog.unfollowed 12) = true := by kernel_rfl
theorem near_k12 : (Rows.nearRow.recurses == Tryz.prog.recurses 12) = true := by kernel_rfl
theorem near_k13 : (Rows.nearRow.named == Tryz.prog.varsNamed 12) = true := by kernel_rfl
theorem near_closed : joinedFacts Tryz.prog 12 Tryz.f12 Rows.nearSpec Rows.nearRow = true := by
  unfold joinedFacts
  rw [near_k10, near_k11, near_k12, near_k13]
  simp only [Bool.and_true]
  kernel_rfl
end Go.Proofs.YtlhokghgicgppaaGreatDoor
