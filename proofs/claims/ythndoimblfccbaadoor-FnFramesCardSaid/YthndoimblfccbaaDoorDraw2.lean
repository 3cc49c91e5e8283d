
/- A drawn text for HashOf, and a byte of a drawing code: only new blocks are made. -/
import Derived.Test.YthndoimblfccbaaDoorDraw1
namespace Go.Proofs.YthndoimblfccbaaDoor
open Go.ChangeShapes Go.WideShapes Go.ChangeAt Go.RowKit
set_option linter.unusedVariables false
set_option maxRecDepth 100000

/-- What is drawn: a text of at most m bytes. -/
def DrewStr (m : Nat) (w : World) (e : Ending) (w' : World) : Prop := ∃ s : ByteArray, s.size ≤ m ∧ e = .returned (.string s) ∧ Below w.heap.size w w'

/-- The end of a function that returns a number from lo to hi and does nothing else. -/
def PureInt (lo hi : Int) (w : World) (e : Ending) (w' : World) : Prop := ∃ x : Int, lo ≤ x ∧ x ≤ hi ∧ e = .returned (.int .i64 x) ∧ w = w'

end Go.Proofs.YthndoimblfccbaaDoor
