
/- The library's pdqsort and Sort over such a row: the records of the range, in order. -/
import Derived.Test.YtjofbeokkainlaaDoorMg19
import Derived.Test.YtjofbeokkainlaaDoorMg20
import Derived.Test.YtjofbeokkainlaaDoorSo3
import Derived.Test.YtjofbeokkainlaaDoorSo5
import Derived.Sort.AssemblyPlain
import Derived.Sort.LotD2
import Derived.Deep.Cut
namespace Go.Proofs.YtjofbeokkainlaaDoor
open Go.ChangeShapes Go.WideShapes Go.ChangeAt Go.RowKit Go.Lib
open Go.Sort hiding Below
set_option linter.unusedVariables false
set_option maxRecDepth 1000000
variable {R : RA → World → Prop} {ra : Option Addr} {rl rc n B : Nat}

/-- The end of a sort of a range. -/
def InRow (R : RA → World → Prop) (a b : Nat) (V : RA) (e : Ending) (w' : World) : Prop := e = .returned (.tuple #[]) ∧ ∃ V', R V' w' ∧ PermIn a b V V' ∧ SortedIn ltR a b V'
/-- What is left to be sorted: whoever sorts it has sorted all. -/
def Left (R : RA → World → Prop) (a b : Nat) (V : RA) (a' b' : Nat) (D : RA) (w : World) : Prop :=
  R D w ∧ Go.Sort.Below ltR a' b' D ∧ ∀ V', PermIn a' b' D V' → SortedIn ltR a' b' V' → PermIn a b V V' ∧ SortedIn ltR a b V'

end Go.Proofs.YtjofbeokkainlaaDoor
