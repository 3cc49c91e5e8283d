
/- What the rows of the laws that read events list: the words, the powers of ten, the errors of the library's reader. -/
import Derived.Test.YtbmhabboloficaaDoorTabsW
import Derived.Test.YtbmhabboloficaaDoorTabsR
namespace Go.Proofs.YtbmhabboloficaaDoor
open Go.ChangeShapes Go.WideShapes Go.ChangeAt Go.RowKit Go.Joins
set_option linter.unusedVariables false
set_option maxRecDepth 100000

structure TabsER (w : World) : Prop where
  num : TabsR w
  ev : TabsEv w
theorem TabsER.keep {w w' : World} (h : TabsER w) (hB : Below w.heap.size w w') : TabsER w' := ⟨h.num.keep hB, h.ev.keep hB⟩
theorem tabser_of {W : World} (hsh : W.ShapedOpen Tryd.prog) (h : laidMet Tryd.prog [("math/bits.deBruijn32tab", Rows.laid_math_bits_deBruijn32tab), ("math/bits.deBruijn64tab", Rows.laid_math_bits_deBruijn64tab), ("internal/strconv.uint64pow10", Rows.laid_internal_strconv_uint64pow10), ("strconv.ErrRange", Rows.laid_strconv_ErrRange), ("strconv.ErrSyntax", Rows.laid_strconv_ErrSyntax), ("loop.example/g00703/impl.eventWords", Rows.laid_loop_example_g00703_impl_eventWords)] W) : TabsER W := by
  obtain ⟨a0, s0, hv0, -, -, -⟩ := laid_sentinel (nm := "*errors.errorString") h.tail.tail.tail gRng gRngType Tryd.underlying93 rowES Tryd.underlying198 Tryd.underlying200 rfl rfl Tryd.underlying9 cellsES cellsStr1
  obtain ⟨a1, s1, hv1, -, -, -⟩ := laid_sentinel (nm := "*errors.errorString") h.tail.tail.tail.tail gSyn gSynType Tryd.underlying93 rowES Tryd.underlying198 Tryd.underlying200 rfl rfl Tryd.underlying9 cellsES cellsStr1
  have hp : Tabs W := Lib.tabIs_of_head (k := .u64) (zs := Lib.pow10Tab) gPow gPowType Tryd.underlying185 Tryd.underlying132 gU64Cells gPowCells h.tail.tail
  exact ⟨⟨hp, ⟨_, _, by simpa using World.var?_cell gSyn hv1 0⟩, ⟨_, _, by simpa using World.var?_cell gRng hv0 0⟩,
    Go.Proofs.cell_of_shapedOpen_int (zero := #[.int .i64 0]) (t := 3) hsh (of_decide_eq_true (by kernel_rfl)) (by kernel_rfl) rfl (by kernel_rfl) (by kernel_rfl) Tryd.underlying3⟩,
    ⟨hp, strTab_of_head (ss := evWords) gEvW gEvWType Tryd.underlying80 evWCells (by decide) h.tail.tail.tail.tail.tail⟩⟩
end Go.Proofs.YtbmhabboloficaaDoor
