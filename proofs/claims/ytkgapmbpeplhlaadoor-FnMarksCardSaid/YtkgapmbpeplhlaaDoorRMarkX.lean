
/- The exact law on ReadMark, walked: for every text that may be read it returns true and only makes new blocks. -/
import Derived.Test.YtkgapmbpeplhlaaDoorRMarkS
namespace Go.Proofs.YtkgapmbpeplhlaaDoor
open Go.ChangeShapes Go.WideShapes Go.ChangeAt Go.RowKit
set_option linter.unusedVariables false
set_option maxRecDepth 100000

def rmA : Option (Bool × Int × Int) → Bool × Int × Int
  | some x => x
  | none => (false, 0, 0)
theorem rmV_form (o : Option (Bool × Int × Int)) : rmV o = .tuple #[.agg #[.bool (rmA o).1, .int .i64 (rmA o).2.1, .int .i64 (rmA o).2.2], .bool o.isSome] := by
  cases o with
  | none => rfl
  | some x => obtain ⟨a, e, u⟩ := x; rfl

end Go.Proofs.YtkgapmbpeplhlaaDoor
