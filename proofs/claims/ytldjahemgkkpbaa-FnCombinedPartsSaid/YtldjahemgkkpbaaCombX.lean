
/- The exact law on Combined, walked: for every op and all records that may be read it returns true and only makes new blocks. -/
import Derived.Test.YtldjahemgkkpbaaCombd3
import Derived.Test.YtldjahemgkkpbaaMg2
namespace Go.Proofs.Ytldjahemgkkpbaa
open Go.ChangeShapes Go.WideShapes Go.ChangeAt Go.RowKit
set_option linter.unusedVariables false
set_option maxRecDepth 100000

theorem cTo_keys (op : Int) (S : Recs) : ∀ k, k ≤ S.length → ∀ r ∈ cTo op S k, ∃ j, j < k ∧ r.1 = keyAt S j
  | 0, _, r, hr => by simp [cTo] at hr
  | k + 1, h, r, hr => by
    have ih := cTo_keys op S k (by omega)
    rw [cTo_succ op S k (by omega)] at hr
    unfold cStep at hr
    split at hr
    · rename_i hj
      have hpos : 0 < (cTo op S k).length := by
        unfold joinsB at hj
        rw [Bool.and_eq_true, decide_eq_true_eq] at hj
        exact hj.1
      rcases List.mem_or_eq_of_mem_set hr with h1 | h1
      · obtain ⟨j, hj, e⟩ := ih r h1
        exact ⟨j, by omega, e⟩
      · subst h1
        have hm : (cTo op S k).length - 1 < (cTo op S k).length := by omega
        obtain ⟨j, hj, e⟩ := ih _ (List.getElem_mem hm)
        rw [at_get _ _ hm] at e
        exact ⟨j, by omega, e⟩
    · rcases List.mem_append.1 hr with h1 | h1
      · obtain ⟨j, hj, e⟩ := ih r h1
        exact ⟨j, by omega, e⟩
      · simp at h1
        subst h1
        exact ⟨k, by omega, rfl⟩
theorem combW_few (op : Int) (l : Recs) : (combW op l).length ≤ 600 ∧ ∀ i, i < (combW op l).length → (keyAt (combW op l) i).size ≤ 40 := by
  unfold combW
  split
  · have hf := sortedB_few l
    refine ⟨Nat.le_trans (cTo_len op _ _ (Nat.le_refl _)) hf.1, fun i hi => ?_⟩
    obtain ⟨j, hj, e⟩ := cTo_keys op (sortedB l) _ (Nat.le_refl _) _ (List.getElem_mem hi)
    rw [at_get _ i hi] at e
    have e1 : keyAt (cTo op (sortedB l) (sortedB l).length) i = keyAt (sortedB l) j := e
    rw [e1]
    exact hf.2 j hj
  · exact ⟨Nat.zero_le _, fun i hi => by simp at hi⟩

end Go.Proofs.Ytldjahemgkkpbaa
