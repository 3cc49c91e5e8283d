
/- Words for loops that range over a function. -/
import Derived.RangeFuncNested
import Derived.RangeFuncBound
import Derived.RangeFuncCalls
import Derived.RangeFuncLeaves
import Derived.Shelf.Abstract
import Derived.Shelf.RegionOpen
import Derived.WalkKit
import Derived.OwnWalkIn
import Derived.TacticsInMore
import Derived.LoopNIn
import Derived.LoopIn
import Derived.Test.YtbjlojmadellgaaGreatDoorMg0
import Derived.Test.YtbjlojmadellgaaGreatDoorMg1
namespace Go.Proofs.YtbjlojmadellgaaGreatDoor
open Go.ChangeShapes Go.WideShapes Go.ChangeAt Go.RowKit Go.Shelf
set_option linter.unusedVariables false
set_option maxRecDepth 100000

/-- What a round keeps: the blocks below m, and the cells of block B. -/
def KpS (m B : Nat) (A C : World) : Prop := Below m A C ∧ ∀ T cur, Row A B T cur → Row C B T cur
theorem kps_t {m B : Nat} {A C D : World} (h : KpS m B A C) (k : KpS m B C D) : KpS m B A D := ⟨h.1.trans k.1, fun T cur hr => k.2 T cur (h.2 T cur hr)⟩
theorem kps_b {m B : Nat} {w : World} (hm : m ≤ w.heap.size) (hB : B < w.heap.size) (W : World) (l : Nat) (o o' : Obj) (hl : w.heap.size ≤ l) (h : W.heap[l]? = some o) (hc : o.isCells = false) (hw : o.isWalk = false) : KpS m B W (W.putObj l o') :=
  ⟨belowK_b hm W l o o' hl h hc hw, fun T cur hr => hr.grown (grownBy_putObj' W l o') (by simp; omega)⟩
theorem row_own {β : Type} (B : Nat) (T : TypeId) (f : β → Array Value) : Own (fun s W => Row W B T (f s)) := fun s X Y row hs hg hrow =>
  hs.grown hg (fun e' => by obtain ⟨o, ho, hc⟩ := hrow B e'; rw [show X.heap[B]? = _ from hs] at ho; cases ho; cases hc)
end Go.Proofs.YtbjlojmadellgaaGreatDoor
