/- The closed facts of Back's row, one by one. -/
import Derived.Test.YtlhokghgicgppaaGreatDoorRowBase
set_option linter.unusedSimpArgs false
set_option linter.unusedVariables false
set_option maxRecDepth 100000
set_option maxHeartbeats 4000000
namespace Go.Proofs.YtlhokghgicgppaaGreatDoor
open Go.ChangeShapes Go.WideShapes Go.ChangeAt Go.RowKit Go.Lib
theorem back_k10 : (Rows.backRow.inPlace == Tryz.prog.inPlace 13) = true := by kernel_rfl
theorem back_k11 : (Rows.backRow.unfollowed == Tryz.prog.unfollowed 13) = true := by kernel_rfl
theorem back_k12 : (Rows.backRow.recurses == Tryz.prog.recurses 13) = true := by kernel_rfl
theorem back_k13 : (Rows.backRow.named == Tryz.prog.varsNamed 13) = true := by kernel_rfl
theorem back_closed : joinedFacts Tryz.prog 13 Tryz.f13 Rows.backSpec Rows.backRow = true := by
  unfold joinedFacts
  rw [back_k10, back_k11, back_k12, back_k13]
  simp only [Bool.and_true]
  kernel_rfl
end Go.Proofs.YtlhokghgicgppaaGreatDoor
