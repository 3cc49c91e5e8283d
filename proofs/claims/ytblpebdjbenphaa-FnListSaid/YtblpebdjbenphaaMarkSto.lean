
/- The laws' marks in a store: only the two rows and new blocks change. -/
import Derived.Test.YtblpebdjbenphaaObjMark
import Derived.Test.YtblpebdjbenphaaGoneMark
import Derived.Test.YtblpebdjbenphaaMg5
import Derived.Test.YtblpebdjbenphaaKs
namespace Go.Proofs.Ytblpebdjbenphaa
open Go.ChangeShapes Go.WideShapes Go.ChangeAt Go.RowKit
set_option linter.unusedVariables false
set_option maxRecDepth 100000

/-- Blocks from lo to hi alone may have turned. -/
structure ButR (lo hi : Nat) (w w' : World) : Prop where
  os : w'.os = w.os
  tape : w'.tape = w.tape
  output : w'.output = w.output
  size : w.heap.size ≤ w'.heap.size
  block : ∀ k, k < w.heap.size → k < lo ∨ hi ≤ k → w'.heap[k]? = w.heap[k]?
theorem ButR.of {lo hi : Nat} {w w1 : World} (h : Below w.heap.size w w1) : ButR lo hi w w1 := ⟨h.os, h.tape, h.output, h.size, fun k hk _ => h.block k hk⟩
theorem ButR.step {lo hi g : Nat} {w w1 w2 : World} (h : ButR lo hi w w1) (k : w1.grownBy w2 (some g)) (h1 : lo ≤ g) (h2 : g < hi) : ButR lo hi w w2 :=
  ⟨k.os.trans h.os, k.tape.trans h.tape, k.output.trans h.output, Nat.le_trans h.size k.size, fun j hj ho => (k.block j (Nat.lt_of_lt_of_le hj h.size) (by simp; omega)).trans (h.block j hj ho)⟩
theorem ButR.row {lo hi B : Nat} {w w1 : World} {E : TypeId} {cur : Array Value} (h : ButR lo hi w w1) (r : Row w B E cur) (ho : B < lo ∨ hi ≤ B) : Row w1 B E cur := (h.block B r.lt ho).trans r
theorem ButR.ks {lo hi base : Nat} {w w1 : World} {q : Option Addr} {W : Strs} (h : ButR lo hi w w1) (r : Ks base w q W) (ho : 0 < W.length → ∀ g, q = some ⟨g, 0, none⟩ → g < lo ∨ hi ≤ g) : Ks base w1 q W := by
  rcases r with h0 | ⟨g, cur, rfl, hb, hr, h1, h2⟩
  · exact .inl h0
  · by_cases h0 : W.length = 0
    · exact .inl h0
    · exact .inr ⟨g, cur, rfl, hb, h.row hr (ho (by omega) g rfl), h1, h2⟩
theorem ButR.below {lo hi : Nat} {W w w1 : World} (h : ButR lo hi w w1) (hB : Below W.heap.size W w) (hl : W.heap.size ≤ lo) : Below W.heap.size W w1 :=
  ⟨h.os.trans hB.os, h.tape.trans hB.tape, h.output.trans hB.output, Nat.le_trans hB.size h.size, fun k hk => (h.block k (Nat.lt_of_lt_of_le hk hB.size) (.inl (by omega))).trans (hB.block k hk)⟩
theorem row_grown2 {w w1 : World} {B g : Nat} {E : TypeId} {cur : Array Value} (r : Row w B E cur) (h : w.grownBy w1 (some g)) (hne : B ≠ g) : Row w1 B E cur := (h.block B r.lt (by simpa using hne)).trans r

def MadeMS (B C : Nat) (w : World) (e : Ending) (w' : World) : Prop := ∃ r : Nat, e = .returned (.int .i64 r) ∧ ButR B (C + 1) w w'

end Go.Proofs.Ytblpebdjbenphaa
