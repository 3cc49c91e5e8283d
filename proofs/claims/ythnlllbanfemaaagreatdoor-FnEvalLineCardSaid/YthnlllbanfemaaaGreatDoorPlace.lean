
/- A place below n, from the bytes of a drawing code. Nothing is written. -/
import Derived.Test.YthnlllbanfemaaaGreatDoorDraw2
namespace Go.Proofs.YthnlllbanfemaaaGreatDoor
open Go.ChangeShapes Go.WideShapes Go.ChangeAt Go.RowKit
set_option linter.unusedVariables false
set_option maxRecDepth 100000

end Go.Proofs.YthnlllbanfemaaaGreatDoor
