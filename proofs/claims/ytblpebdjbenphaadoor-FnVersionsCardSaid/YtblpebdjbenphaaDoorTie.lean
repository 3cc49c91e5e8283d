/-
  DERIVED. GIVEN WITH THE SEED: THE PROGRAM's TIES (one call each: nine closed facts by the kernel) AND EACH ROW's TIE, after the 31st guide's Derived/Test/Toyas{Tie, Card}.lean. No idea stands in it: it is a product of the set-up. Laid BY PROGRAM, IN A SANDBOX (cutbox-door.mjs). By AI agents, Wed Nov 11 2026. No macro, syntax, notation, axiom, sorry.
-/
import Derived.Test.YtblpebdjbenphaaDoorRows
import Derived.LaidByTextLater
import Derived.SevenTiedAt
import Derived.LaidSub
import Derived.LaidOnce
namespace Go.Proofs.YtblpebdjbenphaaDoor
open Go
set_option maxRecDepth 100000
theorem seatTie1 : Tryd.prog.laidByTextLater [("loop.example/g00703/impl.errForm", Rows.laid_loop_example_g00703_impl_errForm), ("loop.example/g00703/impl.errThere", Rows.laid_loop_example_g00703_impl_errThere), ("loop.example/g00703/impl.errFull", Rows.laid_loop_example_g00703_impl_errFull), ("loop.example/g00703/impl.errNone", Rows.laid_loop_example_g00703_impl_errNone), ("loop.example/g00703/impl.errVer", Rows.laid_loop_example_g00703_impl_errVer)] [.sentinel, .sentinel, .sentinel, .sentinel, .sentinel] true :=
  Program.laidByTextLater_by_one 104 8 2 (by kernel_rfl) (by kernel_rfl) (by kernel_rfl) (by kernel_rfl) (by kernel_rfl) (by kernel_rfl) (fun _ _ => by kernel_rfl)
theorem noOwnUnsafe : Tryd.pinned.checked.prog.headLifts.contains "ownunsafe" = false := by kernel_rfl
theorem tie : Tryd.prog.laidByTextLater [("loop.example/g00703/impl.errForm", Rows.laid_loop_example_g00703_impl_errForm), ("loop.example/g00703/impl.errThere", Rows.laid_loop_example_g00703_impl_errThere), ("loop.example/g00703/impl.errFull", Rows.laid_loop_example_g00703_impl_errFull), ("loop.example/g00703/impl.errNone", Rows.laid_loop_example_g00703_impl_errNone), ("loop.example/g00703/impl.errVer", Rows.laid_loop_example_g00703_impl_errVer)] [.sentinel, .sentinel, .sentinel, .sentinel, .sentinel] true :=
  Program.laidByTextLater.sub seatTie1 ["loop.example/g00703/impl.errForm", "loop.example/g00703/impl.errThere", "loop.example/g00703/impl.errFull", "loop.example/g00703/impl.errNone", "loop.example/g00703/impl.errVer"] (by kernel_rfl) (by kernel_rfl)
theorem fnCreate_row_tie : Rows.fnCreateRow.laidByTextAt .later Tryd.pinned [.sentinel, .sentinel, .sentinel, .sentinel, .sentinel] true :=
  OpenClaim.laidByTextAt_later rfl rfl tie noOwnUnsafe
theorem fnPut_row_tie : Rows.fnPutRow.laidByTextAt .later Tryd.pinned [.sentinel, .sentinel, .sentinel, .sentinel, .sentinel] true :=
  OpenClaim.laidByTextAt_later rfl rfl tie noOwnUnsafe
theorem fnStorePlayed_row_tie : Rows.fnStorePlayedRow.laidByTextAt .later Tryd.pinned [.sentinel, .sentinel, .sentinel, .sentinel, .sentinel] true :=
  OpenClaim.laidByTextAt_later rfl rfl tie noOwnUnsafe
theorem fnVersions_row_tie : Rows.fnVersionsRow.laidByTextAt .later Tryd.pinned [.sentinel, .sentinel, .sentinel, .sentinel, .sentinel] true :=
  OpenClaim.laidByTextAt_later rfl rfl tie noOwnUnsafe
theorem fnCreateUpto_row_tie : Rows.fnCreateUptoRow.laidByTextAt .later Tryd.pinned [.sentinel, .sentinel, .sentinel, .sentinel, .sentinel] true :=
  OpenClaim.laidByTextAt_later rfl rfl tie noOwnUnsafe
theorem fnPutUpto_row_tie : Rows.fnPutUptoRow.laidByTextAt .later Tryd.pinned [.sentinel, .sentinel, .sentinel, .sentinel, .sentinel] true :=
  OpenClaim.laidByTextAt_later rfl rfl tie noOwnUnsafe
theorem fnStorePlayedUpto_row_tie : Rows.fnStorePlayedUptoRow.laidByTextAt .later Tryd.pinned [.sentinel, .sentinel, .sentinel, .sentinel, .sentinel] true :=
  OpenClaim.laidByTextAt_later rfl rfl tie noOwnUnsafe
theorem fnVersionsUpto_row_tie : Rows.fnVersionsUptoRow.laidByTextAt .later Tryd.pinned [.sentinel, .sentinel, .sentinel, .sentinel, .sentinel] true :=
  OpenClaim.laidByTextAt_later rfl rfl tie noOwnUnsafe
end Go.Proofs.YtblpebdjbenphaaDoor
