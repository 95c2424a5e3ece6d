/- The closed facts of Letters's row, one by one. -/
import Derived.Test.YtlhokghgicgppaaGreatDoorRowBase
set_option linter.unusedSimpArgs false
set_option linter.unusedVariables false
namespace Go.Proofs.YtlhokghgicgppaaGreatDoor
open Go.ChangeShapes Go.WideShapes Go.ChangeAt Go.RowKit Go.Lib

theorem letters_k10 : (Rows.lettersRow.inPlace == Tryz.prog.inPlace 11) = true := by kernel_rfl
theorem letters_k11 : (Rows.lettersRow.unfollowed == Tryz.prog.unfollowed 11) = true := by kernel_rfl
theorem letters_k12 : (Rows.lettersRow.recurses == Tryz.prog.recurses 11) = true := by kernel_rfl
theorem letters_k13 : (Rows.lettersRow.named == Tryz.prog.varsNamed 11) = true := by kernel_rfl
theorem letters_closed : joinedFacts Tryz.prog 11 Tryz.f11 Rows.lettersSpec Rows.lettersRow = true := by
  unfold joinedFacts
  rw [letters_k10, letters_k11, letters_k12, letters_k13]
  simp only [Bool.and_true]
  kernel_rfl
end Go.Proofs.YtlhokghgicgppaaGreatDoor
