
/- That marks are still held in a row of texts. Only new blocks are made. -/
import Derived.Test.YthnlllbanfemaaaGreatDoorMg5
namespace Go.Proofs.YthnlllbanfemaaaGreatDoor
open Go.ChangeShapes Go.WideShapes Go.ChangeAt Go.RowKit
set_option linter.unusedVariables false
set_option maxRecDepth 100000

def HeldNum (q : Nat) (w : World) (e : Ending) (w' : World) : Prop := e = .returned (.int .i64 (q : Int)) ∧ Below w.heap.size w w'

end Go.Proofs.YthnlllbanfemaaaGreatDoor
