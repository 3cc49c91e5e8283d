/-
  DERIVED. GIVEN WITH THE SEED: THE PROGRAM's TIES (one call each: nine closed facts by the kernel) AND EACH ROW's TIE, after the 31st guide's Derived/Test/Toyas{Tie, Card}.lean. No idea stands in it: it is a product of the set-up. Laid BY PROGRAM, IN A SANDBOX (cutbox-door.mjs). By AI agents, Wed Nov 11 2026. No macro, syntax, notation, axiom, sorry.
-/
import Derived.Test.YtblpebdjbenphaaGreatDoorRows
import Derived.LaidByTextLater
import Derived.SevenTiedAt
import Derived.LaidSub
import Derived.LaidOnce
namespace Go.Proofs.YtblpebdjbenphaaGreatDoor
open Go
set_option maxRecDepth 100000
theorem seatTie1 : Tryz.prog.laidByTextLater [("math/bits.deBruijn32tab", Rows.laid_math_bits_deBruijn32tab), ("math/bits.deBruijn64tab", Rows.laid_math_bits_deBruijn64tab), ("internal/strconv.uint64pow10", Rows.laid_internal_strconv_uint64pow10), ("loop.example/g00703/impl.errForm", Rows.laid_loop_example_g00703_impl_errForm), ("loop.example/g00703/impl.errThere", Rows.laid_loop_example_g00703_impl_errThere), ("loop.example/g00703/impl.errFull", Rows.laid_loop_example_g00703_impl_errFull), ("loop.example/g00703/impl.errNone", Rows.laid_loop_example_g00703_impl_errNone), ("loop.example/g00703/impl.errVer", Rows.laid_loop_example_g00703_impl_errVer)] [.data, .data, .data, .sentinel, .sentinel, .sentinel, .sentinel, .sentinel] true :=
  Program.laidByTextLater_by_one 119 8 65 (by kernel_rfl) (by kernel_rfl) (by kernel_rfl) (by kernel_rfl) (by kernel_rfl) (by kernel_rfl) (fun _ _ => by kernel_rfl)
theorem noOwnUnsafe : Tryz.pinned.checked.prog.headLifts.contains "ownunsafe" = false := by kernel_rfl
theorem tie : Tryz.prog.laidByTextLater [("loop.example/g00703/impl.errForm", Rows.laid_loop_example_g00703_impl_errForm), ("loop.example/g00703/impl.errThere", Rows.laid_loop_example_g00703_impl_errThere), ("loop.example/g00703/impl.errFull", Rows.laid_loop_example_g00703_impl_errFull), ("loop.example/g00703/impl.errNone", Rows.laid_loop_example_g00703_impl_errNone), ("loop.example/g00703/impl.errVer", Rows.laid_loop_example_g00703_impl_errVer)] [.sentinel, .sentinel, .sentinel, .sentinel, .sentinel] true :=
  Program.laidByTextLater.sub seatTie1 ["loop.example/g00703/impl.errForm", "loop.example/g00703/impl.errThere", "loop.example/g00703/impl.errFull", "loop.example/g00703/impl.errNone", "loop.example/g00703/impl.errVer"] (by kernel_rfl) (by kernel_rfl)
theorem fnDel_row_tie : Rows.fnDelRow.laidByTextAt .later Tryz.pinned [.sentinel, .sentinel, .sentinel, .sentinel, .sentinel] true :=
  OpenClaim.laidByTextAt_later rfl rfl tie noOwnUnsafe
theorem tie2 : Tryz.prog.laidByTextLater [("math/bits.deBruijn32tab", Rows.laid_math_bits_deBruijn32tab), ("math/bits.deBruijn64tab", Rows.laid_math_bits_deBruijn64tab), ("internal/strconv.uint64pow10", Rows.laid_internal_strconv_uint64pow10), ("loop.example/g00703/impl.errForm", Rows.laid_loop_example_g00703_impl_errForm), ("loop.example/g00703/impl.errThere", Rows.laid_loop_example_g00703_impl_errThere), ("loop.example/g00703/impl.errFull", Rows.laid_loop_example_g00703_impl_errFull), ("loop.example/g00703/impl.errNone", Rows.laid_loop_example_g00703_impl_errNone), ("loop.example/g00703/impl.errVer", Rows.laid_loop_example_g00703_impl_errVer)] [.data, .data, .data, .sentinel, .sentinel, .sentinel, .sentinel, .sentinel] true :=
  Program.laidByTextLater.sub seatTie1 ["math/bits.deBruijn32tab", "math/bits.deBruijn64tab", "internal/strconv.uint64pow10", "loop.example/g00703/impl.errForm", "loop.example/g00703/impl.errThere", "loop.example/g00703/impl.errFull", "loop.example/g00703/impl.errNone", "loop.example/g00703/impl.errVer"] (by kernel_rfl) (by kernel_rfl)
theorem fnNames_row_tie : Rows.fnNamesRow.laidByTextAt .later Tryz.pinned [.data, .data, .data, .sentinel, .sentinel, .sentinel, .sentinel, .sentinel] true :=
  OpenClaim.laidByTextAt_later rfl rfl tie2 noOwnUnsafe
theorem fnDelUpto_row_tie : Rows.fnDelUptoRow.laidByTextAt .later Tryz.pinned [.sentinel, .sentinel, .sentinel, .sentinel, .sentinel] true :=
  OpenClaim.laidByTextAt_later rfl rfl tie noOwnUnsafe
theorem fnNamesUpto_row_tie : Rows.fnNamesUptoRow.laidByTextAt .later Tryz.pinned [.data, .data, .data, .sentinel, .sentinel, .sentinel, .sentinel, .sentinel] true :=
  OpenClaim.laidByTextAt_later rfl rfl tie2 noOwnUnsafe
end Go.Proofs.YtblpebdjbenphaaGreatDoor
