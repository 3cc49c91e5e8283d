
/- Two short strings appended. -/
import Derived.Test.YthndoimblfccbaaDoorOwn
import Derived.Lib.AppendStr
namespace Go.Proofs.YthndoimblfccbaaDoor
open Go.ChangeShapes Go.WideShapes Go.ChangeAt Go.RowKit

theorem cat_runp {P : Program} {w : World} (a b : ByteArray) (n : Nat) (ha : a.size ≤ n) (hb : b.size ≤ n) (hn : n ≤ 4611686018427387903 := by decide) : (Op.stringOp .add a b).run P w = .ok (.string (a ++ b)) w :=
  run_string_add_sum w a b (by omega)
end Go.Proofs.YthndoimblfccbaaDoor
