
/- A reader goes on while rows of the call's own grow. -/
import Derived.Test.YthndoimblfccbaaDoorRd2
import Derived.Test.YthndoimblfccbaaDoorOwn
namespace Go.Proofs.YthndoimblfccbaaDoor
open Go.ChangeShapes Go.WideShapes Go.ChangeAt Go.RowKit
set_option linter.unusedVariables false
set_option maxRecDepth 100000

theorem Went.more {w w1 w2 : World} {r : Nat} {a : Option Addr} {len cap : Nat} {row : Option Nat} (h : Went w r a len cap w1) (hg : w1.grownBy w2 row) (hr : r < w.heap.size) (hrow : ∀ k, row = some k → w.heap.size ≤ k) : Went w r a len cap w2 :=
  ⟨⟨hg.os.trans h.grown.os, hg.tape.trans h.grown.tape, hg.output.trans h.grown.output, Nat.le_trans h.size hg.size, fun i hi hn => (hg.block i (Nat.lt_of_lt_of_le hi h.size) (fun e => by have := hrow i e.symm; omega)).trans (h.grown.block i hi hn)⟩,
   h.rdr.below ⟨hg.os, hg.tape, hg.output, hg.size, fun k hk => hg.block k (by have := h.rdr.lt; omega) (fun e => by have := hrow k e.symm; omega)⟩⟩
theorem own_went {w w1 : World} {base r : Nat} {a : Option Addr} {len cap : Nat} {e : TypeId} {size : Nat} {v : Value} {n : Nat} {xs : List Value} (h : w.ownsRow base e size v n xs) (hw : Went w r a len cap w1) (hr : r < base) : w1.ownsRow base e size v n xs :=
  h.kept hw.grown (by
    by_cases hv : v.ownBlock = none
    · exact .inl hv
    · refine .inr fun he => ?_
      have := (h.lt r he).1
      omega)
end Go.Proofs.YthndoimblfccbaaDoor
