
/- The text of a program: what the program and its model write. Only new blocks are made. -/
import Derived.Test.YthnlllbanfemaaaGreatDoorProgT
namespace Go.Proofs.YthnlllbanfemaaaGreatDoor
open Go.ChangeShapes Go.WideShapes Go.ChangeAt Go.RowKit
set_option linter.unusedVariables false
set_option maxRecDepth 100000

theorem progTo_step (l : Instrs) (k : Nat) (h : 0 < k) : progTo l (k + 1) = progTo l k ++ ⟨#[32]⟩ ++ txAt l k := by
  show (if 0 < k then progTo l k ++ ⟨#[32]⟩ else progTo l k) ++ txAt l k = _
  rw [if_pos h]

theorem field_num (y : Nat) (h : y = 1 ∨ y = 3) : fieldB y = ⟨#[78]⟩ := by rcases h with rfl | rfl <;> rfl
theorem field_other {y : Nat} (h0 : y < 15) (h1 : y ≠ 1) (h3 : y ≠ 3) : ¬ fieldB y = ⟨#[78]⟩ := by
  rcases (by omega : y = 0 ∨ y = 2 ∨ y = 4 ∨ y = 5 ∨ y = 6 ∨ y = 7 ∨ y = 8 ∨ y = 9 ∨ y = 10 ∨ y = 11 ∨ y = 12 ∨ y = 13 ∨ y = 14) with rfl | rfl | rfl | rfl | rfl | rfl | rfl | rfl | rfl | rfl | rfl | rfl | rfl <;> decide

end Go.Proofs.YthnlllbanfemaaaGreatDoor
