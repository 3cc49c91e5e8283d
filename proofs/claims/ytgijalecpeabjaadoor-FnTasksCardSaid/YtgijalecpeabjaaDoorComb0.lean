
/- The ops of combining: which are valid, in the program and in its model. Nothing is written. -/
import Derived.Test.YtgijalecpeabjaaDoorMg0
namespace Go.Proofs.YtgijalecpeabjaaDoor
open Go.ChangeShapes Go.WideShapes Go.ChangeAt Go.RowKit
set_option linter.unusedVariables false
set_option maxRecDepth 100000

def opOkB (op : Int) : Bool := decide (1 ≤ op) && decide (op ≤ 4)
/-- The end of combiner: a function, and whether the op is valid. -/
def MadeComb (b : Bool) (w : World) (e : Ending) (w' : World) : Prop := ∃ f : Value, e = .returned (.tuple #[f, .bool b]) ∧ w = w'
theorem op_ways {op : Int} (h : opOkB op = true) : op = 1 ∨ op = 2 ∨ op = 3 ∨ op = 4 := by
  unfold opOkB at h
  rw [Bool.and_eq_true, decide_eq_true_eq, decide_eq_true_eq] at h
  omega
theorem op_none {op : Int} (h : opOkB op = false) : op ≠ 1 ∧ op ≠ 2 ∧ op ≠ 3 ∧ op ≠ 4 := by
  refine ⟨?_, ?_, ?_, ?_⟩ <;> rintro rfl <;> simp [opOkB] at h
set_option maxHeartbeats 2000000 in
theorem combiner_any (op : Int) (w : World) : Calls Tryd.prog 61 #[.int .i64 op] w (MadeComb (opOkB op) w) := by
  cases h : opOkB op with
  | true =>
    rcases op_ways h with rfl | rfl | rfl | rfl
    all_goals (
      clear h
      go_enter Tryd.func61, Tryd.ntmps61
      go_wp2
      go_ret2
      exact ⟨_, rfl, rfl⟩)
  | false =>
    obtain ⟨h1, h2, h3, h4⟩ := op_none h
    have g1 : (op == 1) = false := by simpa using h1
    have g2 : (op == 2) = false := by simpa using h2
    have g3 : (op == 3) = false := by simpa using h3
    have g4 : (op == 4) = false := by simpa using h4
    clear h h1 h2 h3 h4
    go_enter Tryd.func61, Tryd.ntmps61
    go_wp2
    go_ret2
    exact ⟨_, rfl, rfl⟩
set_option maxHeartbeats 1000000 in
theorem l4op_any (op : Int) (w : World) : Calls Tryd.prog 58 #[.int .i64 op] w fun e w' => e = .returned (.bool (opOkB op)) ∧ w = w' := by
  by_cases h1 : 1 ≤ op
  · have e : opOkB op = decide (op ≤ 4) := by unfold opOkB; rw [decide_eq_true h1, Bool.true_and]
    rw [e]
    clear e
    go_enter Tryd.func58, Tryd.ntmps58
    go_wp2
    go_ret
    exact ⟨rfl, rfl⟩
  · have e : opOkB op = false := by unfold opOkB; rw [decide_eq_false h1, Bool.false_and]
    rw [e]
    clear e
    go_enter Tryd.func58, Tryd.ntmps58
    go_wp2
    go_ret
    exact ⟨rfl, rfl⟩
end Go.Proofs.YtgijalecpeabjaaDoor
