
/- A missing word equals an empty one. No code. -/
import Derived.Test.YthnlllbanfemaaaGreatDoorMg11
namespace Go.Proofs.YthnlllbanfemaaaGreatDoor
open Go.ChangeShapes Go.WideShapes Go.ChangeAt Go.RowKit
set_option linter.unusedVariables false
set_option maxRecDepth 100000

theorem putV_words (op : Nat) (n : Int) (s : ByteArray) (a : EVs) {ws ws' : Strs} (h : ∀ n, wordAt ws n = wordAt ws' n) : putV op n s a ws = putV op n s a ws' := by
  unfold putV
  split
  · rw [h]
  all_goals rfl
theorem evStep_words (op : Nat) (n : Int) (s : ByteArray) (x : EVs × Recs) {ws ws' : Strs} (h : ∀ n, wordAt ws n = wordAt ws' n) : evStep op n s ws x = evStep op n s ws' x := by
  unfold evStep; rw [putV_words _ _ _ _ h]
theorem evK_words (l : Instrs) {ws ws' : Strs} (h : ∀ n, wordAt ws n = wordAt ws' n) : ∀ k, evK l ws k = evK l ws' k
  | 0 => rfl
  | k + 1 => by
    rw [evK, evK, evK_words l h k]
    cases evK l ws' k with
    | none => rfl
    | some x => exact evStep_words _ _ _ _ h
theorem evalR_words {l : Instrs} {ws ws' : Strs} (h : ∀ n, wordAt ws n = wordAt ws' n) (h1 : ws.length ≤ 20) (h2 : ws'.length ≤ 20) : evalR l ws = evalR l ws' := by
  unfold evalR
  rw [evK_words l h]
  simp [h1, h2]
theorem wordAt_pad (ws : Strs) (k : Nat) (n : Int) : wordAt (ws ++ List.replicate k ByteArray.empty) n = wordAt ws n := by
  unfold wordAt
  by_cases h1 : n < ws.length
  · rw [if_pos h1, if_pos (by rw [List.length_append]; omega)]
    by_cases h0 : 0 ≤ n
    · unfold strAt
      rw [List.getD_eq_getElem?_getD, List.getD_eq_getElem?_getD, List.getElem?_append_left (by omega)]
    · have e : n.toNat = 0 := by omega
      unfold strAt
      rw [e]
      cases ws with
      | nil => cases k <;> simp [List.replicate]
      | cons x t => rfl
  · rw [if_neg h1]
    split
    · unfold strAt
      rw [List.getD_eq_getElem?_getD, List.getElem?_append_right (by omega), List.getElem?_replicate]
      split <;> rfl
    · rfl
theorem evalR_pad {l : Instrs} {ws : Strs} {k : Nat} (h : ws.length + k ≤ 20) : evalR l (ws ++ List.replicate k ByteArray.empty) = evalR l ws :=
  evalR_words (wordAt_pad ws k) (by rw [List.length_append, List.length_replicate]; exact h) (by omega)
end Go.Proofs.YthnlllbanfemaaaGreatDoor
