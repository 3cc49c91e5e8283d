
/- What KeysOf computes in the program: the keys of a run, each once, in a row of its own. Only new blocks are made. -/
import Derived.Test.YtldjahemgkkpbaaRuns5
import Derived.Test.YtldjahemgkkpbaaStrs2
import Derived.Test.YtldjahemgkkpbaaMg1
namespace Go.Proofs.Ytldjahemgkkpbaa
open Go.ChangeShapes Go.WideShapes Go.ChangeAt Go.RowKit
set_option linter.unusedVariables false
set_option maxRecDepth 100000

def newKey (l : Recs) (k : Nat) : Bool := decide (k = 0) || !((keyAt l k).toList == (keyAt l (k - 1)).toList)
def keysTo (l : Recs) : Nat → Strs
  | 0 => []
  | k + 1 => keysTo l k ++ (if newKey l k then [keyAt l k] else [])
theorem keysTo_len (l : Recs) : ∀ k, (keysTo l k).length ≤ k
  | 0 => Nat.le_refl _
  | k + 1 => by
    have := keysTo_len l k
    unfold keysTo
    split <;> simp <;> omega
theorem keysTo_yes {l : Recs} {k : Nat} (h : newKey l k = true) : keysTo l (k + 1) = keysTo l k ++ [keyAt l k] := by
  rw [keysTo, if_pos h]
theorem keysTo_no {l : Recs} {k : Nat} (h : newKey l k = false) : keysTo l (k + 1) = keysTo l k := by
  rw [keysTo, if_neg (by rw [h]; simp), List.append_nil]
def keysB (l : Recs) : Strs := if runOkB l then keysTo l l.length else []

/-- The end of KeysOf: the keys in a row of its own. -/
def MadeKeys (W : Strs) (w : World) (e : Ending) (w' : World) : Prop :=
  ∃ v, e = .returned v ∧ w'.ownsRow w.heap.size 9 1 v W.length (W.map Value.string) ∧ Below w.heap.size w w'

structure KeysSt (l : Recs) (w wr : World) (v : Value) (k : Nat) : Prop where
  own : wr.ownsRow w.heap.size 9 1 v (keysTo l k).length ((keysTo l k).map Value.string)
  below : Below w.heap.size w wr

end Go.Proofs.Ytldjahemgkkpbaa
