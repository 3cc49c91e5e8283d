/- Texts put together, as a claim holds at most sixty files. -/
import Derived.Test.YtbjlojmadellgaaGreatDoorMg3
import Derived.Test.YtbjlojmadellgaaGreatDoorTabsR
import Derived.Test.YtbjlojmadellgaaGreatDoorMg10
namespace Go.Proofs.YtbjlojmadellgaaGreatDoor
open Go.ChangeShapes Go.WideShapes Go.ChangeAt Go.RowKit Go.Joins
set_option linter.unusedVariables false
set_option maxRecDepth 100000

structure TabsRP (w : World) : Prop where
  num : TabsR w
  forms : TabsP w
theorem TabsRP.keep {w w' : World} (h : TabsRP w) (hB : Below w.heap.size w w') : TabsRP w' := ⟨h.num.keep hB, h.forms.keep hB⟩
theorem TabsRP.pt {w : World} (h : TabsRP w) : TabsPT w := ⟨h.num.pow, h.forms⟩
theorem tabsrp_of {W : World} (hsh : W.ShapedOpen Tryz.prog) (h : laidMet Tryz.prog [("math/bits.deBruijn32tab", Rows.laid_math_bits_deBruijn32tab), ("math/bits.deBruijn64tab", Rows.laid_math_bits_deBruijn64tab), ("internal/strconv.uint64pow10", Rows.laid_internal_strconv_uint64pow10), ("strconv.ErrRange", Rows.laid_strconv_ErrRange), ("strconv.ErrSyntax", Rows.laid_strconv_ErrSyntax), ("loop.example/g00703/impl.opForms", Rows.laid_loop_example_g00703_impl_opForms)] W) : TabsRP W := by
  obtain ⟨a0, s0, hv0, -, -, -⟩ := laid_sentinel (nm := "*errors.errorString") h.tail.tail.tail gRng gRngType Tryz.underlying157 rowES Tryz.underlying207 Tryz.underlying209 rfl rfl Tryz.underlying9 cellsES cellsStr1
  obtain ⟨a1, s1, hv1, -, -, -⟩ := laid_sentinel (nm := "*errors.errorString") h.tail.tail.tail.tail gSyn gSynType Tryz.underlying157 rowES Tryz.underlying207 Tryz.underlying209 rfl rfl Tryz.underlying9 cellsES cellsStr1
  have hp : Tabs W := Lib.tabIs_of_head (k := .u64) (zs := Lib.pow10Tab) gPow gPowType Tryz.underlying190 Tryz.underlying126 gU64Cells gPowCells h.tail.tail
  exact ⟨⟨hp, ⟨_, _, by simpa using World.var?_cell gSyn hv1 0⟩, ⟨_, _, by simpa using World.var?_cell gRng hv0 0⟩,
    Go.Proofs.cell_of_shapedOpen_int (zero := #[.int .i64 0]) (t := 3) hsh (of_decide_eq_true (by kernel_rfl)) (by kernel_rfl) rfl (by kernel_rfl) (by kernel_rfl) Tryz.underlying3⟩,
    tabsp_of h.tail.tail.tail.tail.tail⟩
end Go.Proofs.YtbjlojmadellgaaGreatDoor
namespace Go.Proofs.YtbjlojmadellgaaGreatDoor
open Go.ChangeShapes Go.WideShapes Go.ChangeAt Go.RowKit Go.Joins
set_option linter.unusedVariables false
set_option maxRecDepth 100000

theorem tabsru_of {W : World} (hsh : W.ShapedOpen Tryz.prog) (h : laidMet Tryz.prog [("math/bits.deBruijn32tab", Rows.laid_math_bits_deBruijn32tab), ("math/bits.deBruijn64tab", Rows.laid_math_bits_deBruijn64tab), ("internal/strconv.uint64pow10", Rows.laid_internal_strconv_uint64pow10), ("unicode/utf8.acceptRanges", Rows.laid_unicode_utf8_acceptRanges), ("strconv.ErrRange", Rows.laid_strconv_ErrRange), ("strconv.ErrSyntax", Rows.laid_strconv_ErrSyntax), ("loop.example/g00703/impl.opForms", Rows.laid_loop_example_g00703_impl_opForms), ("unicode/utf8.first", Rows.laid_unicode_utf8_first)] W) : TabsRP W := by
  obtain ⟨a0, s0, hv0, -, -, -⟩ := laid_sentinel (nm := "*errors.errorString") h.tail.tail.tail.tail gRng gRngType Tryz.underlying157 rowES Tryz.underlying207 Tryz.underlying209 rfl rfl Tryz.underlying9 cellsES cellsStr1
  obtain ⟨a1, s1, hv1, -, -, -⟩ := laid_sentinel (nm := "*errors.errorString") h.tail.tail.tail.tail.tail gSyn gSynType Tryz.underlying157 rowES Tryz.underlying207 Tryz.underlying209 rfl rfl Tryz.underlying9 cellsES cellsStr1
  have hp : Tabs W := Lib.tabIs_of_head (k := .u64) (zs := Lib.pow10Tab) gPow gPowType Tryz.underlying190 Tryz.underlying126 gU64Cells gPowCells h.tail.tail
  exact ⟨⟨hp, ⟨_, _, by simpa using World.var?_cell gSyn hv1 0⟩, ⟨_, _, by simpa using World.var?_cell gRng hv0 0⟩,
    Go.Proofs.cell_of_shapedOpen_int (zero := #[.int .i64 0]) (t := 3) hsh (of_decide_eq_true (by kernel_rfl)) (by kernel_rfl) rfl (by kernel_rfl) (by kernel_rfl) Tryz.underlying3⟩,
    tabsp_of_head h.tail.tail.tail.tail.tail.tail⟩
end Go.Proofs.YtbjlojmadellgaaGreatDoor
