/- errors.As by its contracts, at the two targets of plain.Told: a **api.Fault and a *api.Errno, the error being an api.Errno. Numbers filled in by wip/tools/inst.py. -/
import Derived.Test.YtlhokghgicgppaaGreatDoorProg
import Derived.WalkKit
import Derived.LaidEql
import Derived.Stop.Asserts
import Derived.RowKitTokens
set_option linter.unusedSimpArgs false
set_option linter.unusedVariables false
set_option maxRecDepth 100000
set_option maxHeartbeats 4000000
namespace Go.Proofs.YtlhokghgicgppaaGreatDoor
open Go.RowKit Go.Extern.Stop Go.Stop Go.Extern
namespace As
end As
end Go.Proofs.YtlhokghgicgppaaGreatDoor
