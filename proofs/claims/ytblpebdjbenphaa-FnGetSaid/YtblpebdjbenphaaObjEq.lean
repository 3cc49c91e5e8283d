
/- Comparing slices of Obj values that are the same. Only new blocks are made. -/
import Derived.Test.YtblpebdjbenphaaMg3
namespace Go.Proofs.Ytblpebdjbenphaa
open Go.ChangeShapes Go.WideShapes Go.ChangeAt Go.RowKit
set_option linter.unusedVariables false
set_option maxRecDepth 100000

end Go.Proofs.Ytblpebdjbenphaa
