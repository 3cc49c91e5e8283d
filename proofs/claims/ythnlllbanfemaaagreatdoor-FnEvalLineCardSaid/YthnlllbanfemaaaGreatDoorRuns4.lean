
/- What RunOk computes in the program: whether a list is a run, by recsOk and the library's IsSorted. Only new blocks are made. -/
import Derived.Test.YthnlllbanfemaaaGreatDoorRuns3
namespace Go.Proofs.YthnlllbanfemaaaGreatDoor
open Go.ChangeShapes Go.WideShapes Go.ChangeAt Go.RowKit
set_option linter.unusedVariables false
set_option maxRecDepth 100000

def recsOkB (l : Recs) : Bool := decide (l.length ≤ 600) && (List.range l.length).all fun i => okAt l i
theorem recsOk_long {l : Recs} (h : ¬ l.length ≤ 600) : recsOkB l = false := by
  unfold recsOkB; rw [decide_eq_false h]; rfl
theorem recsOk_inv {l : Recs} {i : Nat} (hi : i < l.length) (h : okAt l i = false) : recsOkB l = false := by
  unfold recsOkB
  rw [Bool.and_eq_false_iff]
  refine .inr (List.all_eq_false.2 ⟨i, List.mem_range.2 hi, ?_⟩)
  rw [h]; simp
theorem recsOk_good {l : Recs} (h0 : l.length ≤ 600) (h : ∀ i, i < l.length → okAt l i = true) : recsOkB l = true := by
  unfold recsOkB
  rw [decide_eq_true h0, Bool.true_and, List.all_eq_true]
  exact fun i hi => h i (List.mem_range.1 hi)
theorem recsOk_parts {l : Recs} (h : recsOkB l = true) : l.length ≤ 600 ∧ ∀ i, i < l.length → okAt l i = true := by
  unfold recsOkB at h
  rw [Bool.and_eq_true, List.all_eq_true] at h
  exact ⟨of_decide_eq_true h.1, fun i hi => h.2 i (List.mem_range.2 hi)⟩
theorem recsOk_not {l : Recs} (h : recsOkB l = false) : runOkB l = false := by
  cases hr : runOkB l with
  | false => rfl
  | true =>
    unfold runOkB at hr
    rw [Bool.and_eq_true, List.all_eq_true] at hr
    have := recsOk_good (of_decide_eq_true hr.1) (fun i hi => by have := hr.2 i (List.mem_range.2 hi); rw [Bool.and_eq_true] at this; exact this.1)
    rw [this] at h; cases h

end Go.Proofs.YthnlllbanfemaaaGreatDoor
