
/- MergeRuns of both sides for slices that may be nil. Only new blocks are made. -/
import Derived.Test.YtjfbmjeekihdaaaDoorMergeS
namespace Go.Proofs.YtjfbmjeekihdaaaDoor
open Go.ChangeShapes Go.WideShapes Go.ChangeAt Go.RowKit
set_option linter.unusedVariables false
set_option maxRecDepth 100000

end Go.Proofs.YtjfbmjeekihdaaaDoor
