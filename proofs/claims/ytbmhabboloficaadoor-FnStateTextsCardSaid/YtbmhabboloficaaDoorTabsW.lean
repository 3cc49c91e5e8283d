
/- What the rows of the laws on events and states list: the words, and the powers of ten. -/
import Derived.Test.YtbmhabboloficaaDoorTabStr
import Derived.Test.YtbmhabboloficaaDoorTabs
namespace Go.Proofs.YtbmhabboloficaaDoor
open Go.ChangeShapes Go.WideShapes Go.ChangeAt Go.RowKit
set_option linter.unusedVariables false
set_option maxRecDepth 100000

def evWords : List ByteArray := [ByteArray.empty, ⟨#[115, 116, 101, 112]⟩, ⟨#[99, 114, 97, 115, 104]⟩, ⟨#[116, 105, 99, 107]⟩]
def stWords : List ByteArray := [ByteArray.empty, ⟨#[102, 114, 101, 101]⟩, ⟨#[116, 97, 107, 101, 110]⟩, ⟨#[100, 111, 110, 101]⟩, ⟨#[102, 97, 105, 108, 101, 100]⟩]
theorem gEvW : Tryd.prog.globalNamed "loop.example/g00703/impl.eventWords" = some 0 := by kernel_rfl
theorem gEvWType : (Tryd.prog.globals[0]?).map (·.type) = some 80 := by kernel_rfl
theorem evWCells : Tryd.prog.cellsOf 80 = 4 := by kernel_rfl
theorem gStW : Tryd.prog.globalNamed "loop.example/g00703/impl.stateWords" = some 1 := by kernel_rfl
theorem gStWType : (Tryd.prog.globals[1]?).map (·.type) = some 105 := by kernel_rfl
theorem stWCells : Tryd.prog.cellsOf 105 = 5 := by kernel_rfl

structure TabsEv (w : World) : Prop where
  pow : Tabs w
  words : StrTab w 0 evWords
structure TabsSt (w : World) : Prop where
  pow : Tabs w
  words : StrTab w 1 stWords
theorem TabsEv.keep {w w' : World} (h : TabsEv w) (hB : Below w.heap.size w w') : TabsEv w' := ⟨h.pow.keep hB, h.words.keep hB⟩
theorem TabsSt.keep {w w' : World} (h : TabsSt w) (hB : Below w.heap.size w w') : TabsSt w' := ⟨h.pow.keep hB, h.words.keep hB⟩
theorem tabsev_of {W : World} (h : laidMet Tryd.prog [("math/bits.deBruijn32tab", Rows.laid_math_bits_deBruijn32tab), ("math/bits.deBruijn64tab", Rows.laid_math_bits_deBruijn64tab), ("internal/strconv.uint64pow10", Rows.laid_internal_strconv_uint64pow10), ("loop.example/g00703/impl.eventWords", Rows.laid_loop_example_g00703_impl_eventWords)] W) : TabsEv W :=
  ⟨Lib.tabIs_of_head (k := .u64) (zs := Lib.pow10Tab) gPow gPowType Tryd.underlying185 Tryd.underlying132 gU64Cells gPowCells h.tail.tail,
    strTab_of_head (ss := evWords) gEvW gEvWType Tryd.underlying80 evWCells (by decide) h.tail.tail.tail⟩
theorem tabsst_of {W : World} (h : laidMet Tryd.prog [("math/bits.deBruijn32tab", Rows.laid_math_bits_deBruijn32tab), ("math/bits.deBruijn64tab", Rows.laid_math_bits_deBruijn64tab), ("internal/strconv.uint64pow10", Rows.laid_internal_strconv_uint64pow10), ("loop.example/g00703/impl.stateWords", Rows.laid_loop_example_g00703_impl_stateWords)] W) : TabsSt W :=
  ⟨Lib.tabIs_of_head (k := .u64) (zs := Lib.pow10Tab) gPow gPowType Tryd.underlying185 Tryd.underlying132 gU64Cells gPowCells h.tail.tail,
    strTab_of_head (ss := stWords) gStW gStWType Tryd.underlying105 stWCells (by decide) h.tail.tail.tail⟩
end Go.Proofs.YtbmhabboloficaaDoor
