
/- The model's reader, more: rec: a drawn record whose key has at most 41 bytes; only the reader's position and new blocks change. -/
import Derived.Test.YtgijalecpeabjaaDoorRd3
import Derived.Test.YtgijalecpeabjaaDoorMg0
import Derived.Test.YtgijalecpeabjaaDoorLine
namespace Go.Proofs.YtgijalecpeabjaaDoor
open Go.ChangeShapes Go.WideShapes Go.ChangeAt Go.RowKit
set_option linter.unusedVariables false
set_option maxRecDepth 100000

theorem block_alloc {w : World} {B : Nat} (h : B < w.heap.size) (o : Obj) : (w.alloc o).heap[B]? = w.heap[B]? := by
  show (w.heap.push o)[B]? = _
  rw [Array.getElem?_push, if_neg (Nat.ne_of_lt h)]

theorem frozen_none {w : World} {B : Nat} {E : TypeId} {cur : Array Value} (h : w.heap[B]? = some (.cells cur E (0, 0))) {j : Nat} : w.frozen? ⟨B, j, none⟩ = false := by simp [World.frozen?, h]

theorem block_set {w : World} {B : Nat} {E : TypeId} {cur : Array Value} (h : w.heap[B]? = some (.cells cur E (0, 0))) (j : Nat) (x : Value) : (w.setCell ⟨B, j, none⟩ x).heap[B]? = some (.cells (cur.setIfInBounds j x) E (0, 0)) := by
  have hlt := lt_of_block h
  have h' : w.heap[B] = .cells cur E (0, 0) := by simpa [Array.getElem?_eq_getElem hlt] using h
  show (w.heap.modify B _)[B]? = _
  rw [Array.getElem?_eq_getElem (by simpa using hlt), Array.getElem_modify_self, h']
  rfl

theorem Went.put {w w1 : World} {r : Nat} {a : Option Addr} {len cap : Nat} (h : Went w r a len cap w1) {B : Nat} (hB : w.heap.size ≤ B) (hr : r < B) (j : Nat) (v : Value) : Went w r a len cap (w1.setCell ⟨B, j, none⟩ v) :=
  ⟨⟨h.grown.os, h.grown.tape, h.grown.output, by simpa [World.setCell] using h.grown.size, fun k hk hn => (Below.heap_setCell _ _ _ _ (show k ≠ B by omega)).trans (h.grown.block k hk hn)⟩, h.rdr.below ((Below.refl _ _).setCell (show r + 1 ≤ B by omega) _)⟩

def RdRec (w : World) (r : Nat) (a : Option Addr) (len cap : Nat) (e : Ending) (w' : World) : Prop := (∃ (s : ByteArray) (n : Int), s.size ≤ 41 ∧ (Lit.int .i64 n).wf = true ∧ e = .returned (recV s n)) ∧ Went w r a len cap w'

end Go.Proofs.YtgijalecpeabjaaDoor
