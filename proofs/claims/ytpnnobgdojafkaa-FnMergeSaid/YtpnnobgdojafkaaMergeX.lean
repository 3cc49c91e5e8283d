
/- The exact law on MergeRuns, walked: for all records that may be read it returns true and only makes new blocks. -/
import Derived.Test.YtpnnobgdojafkaaMergeS
import Derived.Test.YtpnnobgdojafkaaRuns2
namespace Go.Proofs.Ytpnnobgdojafkaa
open Go.ChangeShapes Go.WideShapes Go.ChangeAt Go.RowKit
set_option linter.unusedVariables false
set_option maxRecDepth 100000

theorem mergeW_few (l k : Recs) : (mergeW l k).length ≤ 600 ∧ ∀ i, i < (mergeW l k).length → (keyAt (mergeW l k) i).size ≤ 40 := by
  unfold mergeW
  cases h : mergeK l k with
  | false => exact ⟨Nat.zero_le _, fun i hi => by simp at hi⟩
  | true =>
    rw [if_pos rfl]
    unfold mergeK at h
    rw [Bool.and_eq_true, Bool.and_eq_true, decide_eq_true_eq] at h
    refine ⟨by rw [mergeL_len]; exact h.2, fun i hi => ?_⟩
    have hm : (mergeL l k)[i] ∈ l ++ k := (List.merge_perm_append leR).mem_iff.1 (List.getElem_mem hi)
    have := (List.mem_append.1 hm).elim (runOk_mem h.1.1 _) (runOk_mem h.1.2 _)
    rw [at_get _ i hi] at this
    exact this

end Go.Proofs.Ytpnnobgdojafkaa
