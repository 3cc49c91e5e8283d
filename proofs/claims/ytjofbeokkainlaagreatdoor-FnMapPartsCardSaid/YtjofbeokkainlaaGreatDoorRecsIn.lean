
/- A slice of the laws' records that came in is one that may be read record by record. -/
import Derived.Test.YtjofbeokkainlaaGreatDoorMg1
import Derived.Deep.Slices
namespace Go.Proofs.YtjofbeokkainlaaGreatDoor
open Go.ChangeShapes Go.WideShapes Go.ChangeAt Go.RowKit Go.Deep
set_option linter.unusedVariables false
set_option maxRecDepth 100000

theorem add_plain (b off i : Nat) : (⟨b, off, none⟩ : Addr).add i = ⟨b, off + i, none⟩ := by
  unfold Addr.add; split <;> simp_all

end Go.Proofs.YtjofbeokkainlaaGreatDoor
