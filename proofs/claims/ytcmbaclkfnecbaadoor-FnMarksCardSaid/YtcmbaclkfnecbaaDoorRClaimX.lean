
/- The exact law on ReadClaim, walked: for every text that may be read it returns true and only makes new blocks. -/
import Derived.Test.YtcmbaclkfnecbaaDoorRClaimS
namespace Go.Proofs.YtcmbaclkfnecbaaDoor
open Go.ChangeShapes Go.WideShapes Go.ChangeAt Go.RowKit
set_option linter.unusedVariables false
set_option maxRecDepth 100000

def rcA : Option (Int × Int × Int) → Int × Int × Int
  | some x => x
  | none => (0, 0, 0)
theorem rcV_form (o : Option (Int × Int × Int)) : rcV o = .tuple #[.agg #[.int .i64 (rcA o).1, .int .i64 (rcA o).2.1, .int .i64 (rcA o).2.2], .bool o.isSome] := by
  cases o with
  | none => rfl
  | some x => obtain ⟨a, e, u⟩ := x; rfl

end Go.Proofs.YtcmbaclkfnecbaaDoor
