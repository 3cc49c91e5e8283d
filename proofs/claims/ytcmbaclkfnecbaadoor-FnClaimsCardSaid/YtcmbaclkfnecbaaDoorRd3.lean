
/- The model's reader, more: num, rec: a drawn number, a drawn record with a short key; only the reader's position and new blocks change. -/
import Derived.Test.YtcmbaclkfnecbaaDoorLine
namespace Go.Proofs.YtcmbaclkfnecbaaDoor
open Go.ChangeShapes Go.WideShapes Go.ChangeAt Go.RowKit
set_option linter.unusedVariables false
set_option maxRecDepth 100000

theorem wf_wrap64 (y : Int) : (Lit.int .i64 (wrap64 y)).wf = true := WalkArith.wf_i64 (by unfold wrap64; omega)

end Go.Proofs.YtcmbaclkfnecbaaDoor
