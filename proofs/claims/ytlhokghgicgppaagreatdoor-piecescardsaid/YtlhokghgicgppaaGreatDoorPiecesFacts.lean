/- The closed facts of Pieces's row, one by one. -/
import Derived.Test.YtlhokghgicgppaaGreatDoorRowBase
set_option linter.unusedSimpArgs false
set_option linter.unusedVariables false
namespace Go.Proofs.YtlhokghgicgppaaGreatDoor
open Go.ChangeShapes Go.WideShapes Go.ChangeAt Go.RowKit Go.Lib

theorem pieces_k10 : (Rows.piecesRow.inPlace == Tryz.prog.inPlace 9) = true := by kernel_rfl
theorem pieces_k11 : (Rows.piecesRow.unfollowed == Tryz.prog.unfollowed 9) = true := by kernel_rfl
theorem pieces_k12 : (Rows.piecesRow.recurses == Tryz.prog.recurses 9) = true := by kernel_rfl
theorem pieces_k13 : (Rows.piecesRow.named == Tryz.prog.varsNamed 9) = true := by kernel_rfl
theorem pieces_closed : joinedFacts Tryz.prog 9 Tryz.f9 Rows.piecesSpec Rows.piecesRow = true := by
  unfold joinedFacts
  rw [pieces_k10, pieces_k11, pieces_k12, pieces_k13]
  simp only [Bool.and_true]
  kernel_rfl
end Go.Proofs.YtlhokghgicgppaaGreatDoor
