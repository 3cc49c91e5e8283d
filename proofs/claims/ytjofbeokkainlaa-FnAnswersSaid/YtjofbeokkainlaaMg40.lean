/- Texts put together, as a claim holds at most sixty files. -/
import Derived.Test.YtjofbeokkainlaaProgTM
import Derived.Test.YtjofbeokkainlaaMg12
import Derived.Test.YtjofbeokkainlaaMg1
namespace Go.Proofs.Ytjofbeokkainlaa
open Go.ChangeShapes Go.WideShapes Go.ChangeAt Go.RowKit
set_option linter.unusedVariables false
set_option maxRecDepth 100000

def tabNm : Array Value := #[.string ⟨#[99, 97, 116]⟩, .string ⟨#[108, 101, 110]⟩, .string ⟨#[105, 110, 116]⟩, .string ⟨#[115, 116, 114]⟩, .string ⟨#[97, 100, 100]⟩, .string ⟨#[115, 117, 98]⟩, .string ⟨#[109, 117, 108]⟩, .string ⟨#[108, 101, 115, 115]⟩, .string ⟨#[115, 97, 109, 101]⟩, .string ⟨#[101, 109, 105, 116]⟩, .string ⟨#[101, 109, 105, 116, 105, 102]⟩]
theorem tabNm_at (x : Nat) (h : x < 11) : tabNm[x]? = some (.string (textB (x + 4))) := by
  rcases (by omega : x = 0 ∨ x = 1 ∨ x = 2 ∨ x = 3 ∨ x = 4 ∨ x = 5 ∨ x = 6 ∨ x = 7 ∨ x = 8 ∨ x = 9 ∨ x = 10) with rfl | rfl | rfl | rfl | rfl | rfl | rfl | rfl | rfl | rfl | rfl <;> rfl
def MadeNames (w : World) (e : Ending) (w' : World) : Prop := e = .returned (.slice (some ⟨w.heap.size, 0, none⟩) 11 11) ∧ (∀ x, x < 11 → w'.cell? ⟨w.heap.size, x, none⟩ = some (.string (textB (x + 4)))) ∧ Below w.heap.size w w'
theorem empty_app (s : ByteArray) : ByteArray.empty ++ s = s := by
  apply ByteArray.ext
  simp
theorem app_empty {s t : ByteArray} (h : t.size = 0) : s ++ t = s := by
  have : t = ByteArray.empty := ByteArray.ext (Array.eq_empty_of_size_eq_zero h)
  rw [this]
  apply ByteArray.ext
  simp

def MadeTxtP (s : ByteArray) (w : World) (e : Ending) (w' : World) : Prop := e = .returned (.string s) ∧ Below w.heap.size w w'

end Go.Proofs.Ytjofbeokkainlaa
namespace Go.Proofs.Ytjofbeokkainlaa
open Go.ChangeShapes Go.WideShapes Go.ChangeAt Go.RowKit
set_option linter.unusedVariables false
set_option maxRecDepth 100000

theorem progTo_step (l : Instrs) (k : Nat) (h : 0 < k) : progTo l (k + 1) = progTo l k ++ ⟨#[32]⟩ ++ txAt l k := by
  show (if 0 < k then progTo l k ++ ⟨#[32]⟩ else progTo l k) ++ txAt l k = _
  rw [if_pos h]

theorem field_num (y : Nat) (h : y = 1 ∨ y = 3) : fieldB y = ⟨#[78]⟩ := by rcases h with rfl | rfl <;> rfl
theorem field_other {y : Nat} (h0 : y < 15) (h1 : y ≠ 1) (h3 : y ≠ 3) : ¬ fieldB y = ⟨#[78]⟩ := by
  rcases (by omega : y = 0 ∨ y = 2 ∨ y = 4 ∨ y = 5 ∨ y = 6 ∨ y = 7 ∨ y = 8 ∨ y = 9 ∨ y = 10 ∨ y = 11 ∨ y = 12 ∨ y = 13 ∨ y = 14) with rfl | rfl | rfl | rfl | rfl | rfl | rfl | rfl | rfl | rfl | rfl | rfl | rfl <;> decide

end Go.Proofs.Ytjofbeokkainlaa
