/-
  DERIVED. GIVEN WITH THE SEED: THE CARDS: each row of YtlhokghgicgppaaDoorRows.lean that lists a variable, with what it lists TIED to the program's text (the seventh form; the later family's looks); each row that meets fmt, with fmt's text TOLD by the authors' own Lean function (tested against real Go, not proved from fmt's source: count such statements apart). THE CARD IS WHAT COUNTS. Prove the row's statement (the work); the ties are given (YtlhokghgicgppaaDoorTie.lean); close each card by the builder's one call (the guide's Derived/Test/ToyasCard.lean, 'card_holds'). Laid BY PROGRAM, IN A SANDBOX (cutbox-door.mjs). By AI agents, Wed Nov 11 2026. No macro, syntax, notation, axiom, sorry.
-/
import Derived.Test.YtlhokghgicgppaaDoorRows
import GoSem.ClaimSeven
namespace Go.Proofs.YtlhokghgicgppaaDoor
namespace Rows

/-- THE TIED CARD OF 'scangenkeep.Bytes'. -/
def bytesCard : Claim7 := { stood := { row := bytesRow, standIns := [], harness := (true, "ad194469c7ffddf45f1c8bdacbd3962b3a728201498941b7be522efcfe33c2f7"), looks := true }, kinds := [], alts := [], laidByText := true, laidKinds := [.data, .handle, .pinned], laidTests := true, laidLooks := .later }
def BytesCardSaid : Prop := Claim7.holds Tryd.pinned (.plain (OpenSpec.ofChange bytesSpec)) bytesCard

/-- THE SECOND FORM's CARD OF 'scangenkeep.Bytes'. -/
def bytesUptoCard : Claim7 := { stood := { row := bytesUptoRow, standIns := [], harness := (true, "ad194469c7ffddf45f1c8bdacbd3962b3a728201498941b7be522efcfe33c2f7"), looks := true }, kinds := [], alts := [], laidByText := true, laidKinds := [.data, .handle, .pinned], laidTests := true, laidLooks := .later }
def BytesUptoCardSaid : Prop := Claim7.holds Tryd.pinned (.plain (OpenSpec.upto bytesSpec)) bytesUptoCard
end Rows
end Go.Proofs.YtlhokghgicgppaaDoor
