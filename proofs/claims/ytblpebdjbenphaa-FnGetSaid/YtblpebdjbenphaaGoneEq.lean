
/- Comparing slices of Gone values that are the same. Only new blocks are made. -/
import Derived.Test.YtblpebdjbenphaaGones
namespace Go.Proofs.Ytblpebdjbenphaa
open Go.ChangeShapes Go.WideShapes Go.ChangeAt Go.RowKit
set_option linter.unusedVariables false
set_option maxRecDepth 100000

end Go.Proofs.Ytblpebdjbenphaa
