
/- What RunOk computes in the model: whether a list is a run. Only new blocks are made. -/
import Derived.Test.YthnlllbanfemaaaGreatDoorMg25
import Derived.Test.YthnlllbanfemaaaGreatDoorMg27
namespace Go.Proofs.YthnlllbanfemaaaGreatDoor
open Go.ChangeShapes Go.WideShapes Go.ChangeAt Go.RowKit
set_option linter.unusedVariables false
set_option maxRecDepth 100000

def lessAt (l : Recs) (i j : Nat) : Bool := lessB (keyAt l i) (numAt l i) (keyAt l j) (numAt l j)
def badAt (l : Recs) (i : Nat) : Bool := decide (0 < i) && lessAt l i (i - 1)
def okAt (l : Recs) (i : Nat) : Bool := okB (keyAt l i)
/-- Whether l is a run: few, valid, in order. -/
def runOkB (l : Recs) : Bool := decide (l.length ≤ 600) && (List.range l.length).all fun i => okAt l i && !badAt l i

theorem runOk_long {l : Recs} (h : ¬ l.length ≤ 600) : runOkB l = false := by
  unfold runOkB; rw [decide_eq_false h]; rfl
theorem runOk_inv {l : Recs} {i : Nat} (hi : i < l.length) (h : okAt l i = false) : runOkB l = false := by
  unfold runOkB
  rw [Bool.and_eq_false_iff]
  refine .inr (List.all_eq_false.2 ⟨i, List.mem_range.2 hi, ?_⟩)
  rw [h]; simp
theorem runOk_bad {l : Recs} {i : Nat} (hi : i < l.length) (h : badAt l i = true) : runOkB l = false := by
  unfold runOkB
  rw [Bool.and_eq_false_iff]
  refine .inr (List.all_eq_false.2 ⟨i, List.mem_range.2 hi, ?_⟩)
  rw [h]; simp
theorem runOk_good {l : Recs} (h0 : l.length ≤ 600) (h : ∀ i, i < l.length → okAt l i = true ∧ badAt l i = false) : runOkB l = true := by
  unfold runOkB
  rw [decide_eq_true h0, Bool.true_and, List.all_eq_true]
  intro i hi
  obtain ⟨h1, h2⟩ := h i (List.mem_range.1 hi)
  rw [h1, h2]; rfl
theorem runOk_end {l : Recs} {len : Nat} (hl : l.length = len) (h : ∀ i, i < len → okAt l i = true ∧ badAt l i = false) : decide ((len : Int) ≤ 600) = runOkB l := by
  subst hl
  by_cases h0 : l.length ≤ 600
  · rw [runOk_good h0 h]; simp; omega
  · rw [runOk_long h0]; simp; omega

end Go.Proofs.YthnlllbanfemaaaGreatDoor
