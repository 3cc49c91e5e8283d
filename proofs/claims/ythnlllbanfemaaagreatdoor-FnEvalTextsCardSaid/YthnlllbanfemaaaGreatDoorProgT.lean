
/- The text of an instruction and of a program: what the program and its model write. Only new blocks are made. -/
import Derived.Test.YthnlllbanfemaaaGreatDoorMg5
import Derived.Test.YthnlllbanfemaaaGreatDoorMg17
import Derived.Test.YthnlllbanfemaaaGreatDoorMg13
namespace Go.Proofs.YthnlllbanfemaaaGreatDoor
open Go.ChangeShapes Go.WideShapes Go.ChangeAt Go.RowKit
set_option linter.unusedVariables false
set_option maxRecDepth 100000

def tabNm : Array Value := #[.string ⟨#[99, 97, 116]⟩, .string ⟨#[108, 101, 110]⟩, .string ⟨#[105, 110, 116]⟩, .string ⟨#[115, 116, 114]⟩, .string ⟨#[97, 100, 100]⟩, .string ⟨#[115, 117, 98]⟩, .string ⟨#[109, 117, 108]⟩, .string ⟨#[108, 101, 115, 115]⟩, .string ⟨#[115, 97, 109, 101]⟩, .string ⟨#[101, 109, 105, 116]⟩, .string ⟨#[101, 109, 105, 116, 105, 102]⟩]
theorem tabNm_at (x : Nat) (h : x < 11) : tabNm[x]? = some (.string (textB (x + 4))) := by
  rcases (by omega : x = 0 ∨ x = 1 ∨ x = 2 ∨ x = 3 ∨ x = 4 ∨ x = 5 ∨ x = 6 ∨ x = 7 ∨ x = 8 ∨ x = 9 ∨ x = 10) with rfl | rfl | rfl | rfl | rfl | rfl | rfl | rfl | rfl | rfl | rfl <;> rfl
def MadeNames (w : World) (e : Ending) (w' : World) : Prop := e = .returned (.slice (some ⟨w.heap.size, 0, none⟩) 11 11) ∧ (∀ x, x < 11 → w'.cell? ⟨w.heap.size, x, none⟩ = some (.string (textB (x + 4)))) ∧ Below w.heap.size w w'
theorem empty_app (s : ByteArray) : ByteArray.empty ++ s = s := by
  apply ByteArray.ext
  simp
theorem app_empty {s t : ByteArray} (h : t.size = 0) : s ++ t = s := by
  have : t = ByteArray.empty := ByteArray.ext (Array.eq_empty_of_size_eq_zero h)
  rw [this]
  apply ByteArray.ext
  simp

def MadeTxtP (s : ByteArray) (w : World) (e : Ending) (w' : World) : Prop := e = .returned (.string s) ∧ Below w.heap.size w w'

end Go.Proofs.YthnlllbanfemaaaGreatDoor
