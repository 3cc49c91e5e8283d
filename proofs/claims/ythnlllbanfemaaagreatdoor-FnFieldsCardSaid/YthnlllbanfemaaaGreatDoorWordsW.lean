
/- The exact law on WordsOf, walked: for every text that may be read it returns true and only makes new blocks. -/
import Derived.Test.YthnlllbanfemaaaGreatDoorWords4
import Derived.Test.YthnlllbanfemaaaGreatDoorLinesM
namespace Go.Proofs.YthnlllbanfemaaaGreatDoor
open Go.ChangeShapes Go.WideShapes Go.ChangeAt Go.RowKit
set_option linter.unusedVariables false
set_option maxRecDepth 100000

theorem filter_le (P : List (List UInt8)) (n : Nat) (h : ∀ x ∈ P, x.length ≤ n) : ∀ x ∈ P.filter (fun y => !y.isEmpty), x.length ≤ n := fun x hx => h x (List.mem_filter.1 hx).1
theorem words_short (s : ByteArray) (hs : s.size ≤ maxLen) : Short ((wordsL s.data.toList).take 20) := by
  refine ⟨List.length_take_le _ _, fun j h => ?_⟩
  have hmem : ((wordsL s.data.toList).take 20)[j] ∈ wordsL s.data.toList := List.mem_of_mem_take (List.getElem_mem h)
  have := filter_le _ _ (split_short 32 s.data.toList) _ hmem
  simp at this
  simp
  omega

end Go.Proofs.YthnlllbanfemaaaGreatDoor
