
/- A block that has just been made. -/
import Derived.Test.YthndoimblfccbaaDoorRow
namespace Go.Proofs.YthndoimblfccbaaDoor
open Go.ChangeShapes Go.WideShapes Go.ChangeAt Go.RowKit
set_option linter.unusedVariables false

theorem row_new (w : World) (cur : Array Value) (T : TypeId) : Row (w.alloc (.cells cur T)) w.heap.size T cur := by
  have := heap_alloc_new w (.cells cur T)
  simpa [Row] using this
theorem row_new1 (w : World) (o : Obj) (cur : Array Value) (T : TypeId) : Row ((w.alloc o).alloc (.cells cur T)) (w.heap.size + 1) T cur := by
  have := row_new (w.alloc o) cur T
  simpa using this
theorem Row.al {w : World} {B : Nat} {E : TypeId} {cur : Array Value} (h : Row w B E cur) (o : Obj) : Row (w.alloc o) B E cur := h.keep (below_alloc (Below.refl _ _) _)
theorem Row.put {w : World} {B : Nat} {E : TypeId} {cur : Array Value} (h : Row w B E cur) {X : Nat} (hne : B ≠ X) (j : Nat) (v : Value) : Row (w.setCell ⟨X, j, none⟩ v) B E cur := (Below.heap_setCell w ⟨X, j, none⟩ v B hne).trans h
end Go.Proofs.YthndoimblfccbaaDoor
