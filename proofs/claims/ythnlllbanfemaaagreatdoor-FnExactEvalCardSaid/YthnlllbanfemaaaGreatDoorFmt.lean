
/- Numbers in decimal: what the program writes. Only new blocks are made. -/
import Derived.Test.YthnlllbanfemaaaGreatDoorDec
import Derived.Test.YthnlllbanfemaaaGreatDoorMg2
import Derived.Test.YthnlllbanfemaaaGreatDoorShelf
import Derived.Test.YthnlllbanfemaaaGreatDoorOwn
namespace Go.Proofs.YthnlllbanfemaaaGreatDoor
open Go.ChangeShapes Go.WideShapes Go.ChangeAt Go.RowKit
set_option linter.unusedVariables false
set_option maxRecDepth 100000

theorem below_grew (w : World) (k : Nat) (os : Array Obj) : Below w.heap.size w (Sort.grow (w.drewN k) os) :=
  ⟨rfl, rfl, rfl, by simp [Sort.grow], fun i hi => by
    show (w.heap ++ os)[i]? = w.heap[i]?
    rw [Array.getElem?_append_left hi]⟩
def In64 (n : Int) : Prop := -9223372036854775808 ≤ n ∧ n ≤ 9223372036854775807
theorem fmt_any (n : Int) (hn : In64 n) (w : World) (hT : Tabs w) : Calls Tryz.prog 89 #[.int .i64 n, .int .i64 10] w (MadeTx (decB n) w) := by
  refine (Tryz.strconv_FormatInt_10 n hn.1 hn.2 w hT).mono ?_
  rintro e w' ⟨rfl, k, os, rfl⟩
  exact ⟨rfl, below_grew w k os⟩
end Go.Proofs.YthnlllbanfemaaaGreatDoor
