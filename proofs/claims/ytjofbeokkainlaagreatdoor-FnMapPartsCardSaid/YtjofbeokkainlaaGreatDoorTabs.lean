
/- What the row's list of variables gives a walk: the table of the powers of ten. -/
import Derived.Test.YtjofbeokkainlaaGreatDoorRows
import Derived.Lib.LaidTab
import Derived.Lib.ItoaNum
import Derived.Lib.SmallJoins
import Derived.Stop.LaidErr
import Derived.KernelRfl
import Derived.Below
import Derived.WalkKit
import Derived.ProofKit
namespace Go.Proofs.YtjofbeokkainlaaGreatDoor
open Go.ChangeShapes Go.WideShapes Go.ChangeAt Go.RowKit Go.Joins

def Tabs (w : World) : Prop := Lib.TabIs Tryz.prog w "internal/strconv.uint64pow10" .u64 Lib.pow10Tab
theorem gPow : Tryz.prog.globalNamed "internal/strconv.uint64pow10" = some 2 := by kernel_rfl
theorem gPowType : (Tryz.prog.globals[2]?).map (·.type) = some 211 := by kernel_rfl
theorem gPowCells : Tryz.prog.cellsOf 211 = 20 := by kernel_rfl
theorem gU64Cells : Tryz.prog.cellsOf 115 = 1 := by kernel_rfl
theorem tabs_of {W : World} (h : laidMet Tryz.prog [("math/bits.deBruijn32tab", Rows.laid_math_bits_deBruijn32tab), ("math/bits.deBruijn64tab", Rows.laid_math_bits_deBruijn64tab), ("internal/strconv.uint64pow10", Rows.laid_internal_strconv_uint64pow10)] W) : Tabs W :=
  Lib.tabIs_of_head (k := .u64) (zs := Lib.pow10Tab) (rest := []) gPow gPowType Tryz.underlying211 Tryz.underlying115 gU64Cells gPowCells h.tail.tail
theorem Tabs.keep {w w' : World} (h : Tabs w) (hB : Below w.heap.size w w') : Tabs w' := tab_stays gPow h hB (Nat.le_refl _)
end Go.Proofs.YtjofbeokkainlaaGreatDoor
