
/- What the row's list of variables gives a walk: the table of the powers of ten. -/
import Derived.Test.YtjofbeokkainlaaRows
import Derived.Lib.LaidTab
import Derived.Lib.ItoaNum
import Derived.Lib.SmallJoins
import Derived.Stop.LaidErr
import Derived.KernelRfl
import Derived.Below
import Derived.WalkKit
import Derived.ProofKit
namespace Go.Proofs.Ytjofbeokkainlaa
open Go.ChangeShapes Go.WideShapes Go.ChangeAt Go.RowKit Go.Joins

def Tabs (w : World) : Prop := Lib.TabIs Try.prog w "internal/strconv.uint64pow10" .u64 Lib.pow10Tab
theorem gU64Cells : Try.prog.cellsOf 97 = 1 := by kernel_rfl
end Go.Proofs.Ytjofbeokkainlaa
