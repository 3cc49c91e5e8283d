
/- Comparing slices of records, and what RunOk computes in the program and in its model. Only new blocks are made. -/
import Derived.Test.YtldjahemgkkpbaaRuns
namespace Go.Proofs.Ytldjahemgkkpbaa
open Go.ChangeShapes Go.WideShapes Go.ChangeAt Go.RowKit
set_option linter.unusedVariables false
set_option maxRecDepth 100000

end Go.Proofs.Ytldjahemgkkpbaa
