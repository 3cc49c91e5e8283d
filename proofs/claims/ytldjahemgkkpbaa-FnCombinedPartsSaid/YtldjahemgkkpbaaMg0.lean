/- Texts put together, as a claim holds at most sixty files. -/
import Derived.Test.YtldjahemgkkpbaaRows
import Derived.WalkKit
import Derived.ProofKit
import Derived.OpenShut
import Derived.WalkLawsBesides
import Derived.OwnWalk
import Derived.Deep.QuietTactic
import Derived.BigQuiet
import Derived.Deep.RegionHeld3
import Derived.Lib.Hide
import Derived.Outline
namespace Go.Proofs.Ytldjahemgkkpbaa
open Go.ChangeShapes Go.WideShapes Go.ChangeAt Go.RowKit
set_option linter.unusedVariables false
set_option maxRecDepth 100000

/-- The end of a function that returns a bool and makes at most new blocks. -/
def MadeBool (b : Bool) (w : World) (e : Ending) (w' : World) : Prop := e = .returned (.bool b) ∧ Below w.heap.size w w'

theorem ret_bool {a b : Bool} (h : a = b) : Ending.returned (.bool a) = .returned (.bool b) := by rw [h]
theorem below_alloc {w x : World} (h : Below w.heap.size w x) (o : Obj) : Below w.heap.size w (x.alloc o) := h.alloc h.size o
theorem below_via {w x y : World} (h : Below w.heap.size w x) (k : Below x.heap.size x y) : Below w.heap.size w y := h.trans (k.mono h.size)
theorem bcell {W w1 : World} (hb : Below W.heap.size W w1) : ∀ b o, b < W.heap.size → w1.cell? ⟨b, o, none⟩ = W.cell? ⟨b, o, none⟩ := fun b o h => hb.cell (p := ⟨b, o, none⟩) h

/-- Block B is a row of cells that may be written. -/
def Row (w : World) (B : Nat) (E : TypeId) (cur : Array Value) : Prop := w.heap[B]? = some (.cells cur E (0, 0))
theorem Row.lt {w : World} {B : Nat} {E : TypeId} {cur : Array Value} (h : Row w B E cur) : B < w.heap.size := lt_of_block h
theorem Row.keep {w w1 : World} {B : Nat} {E : TypeId} {cur : Array Value} (h : Row w B E cur) (hB : Below w.heap.size w w1) : Row w1 B E cur := (hB.block B h.lt).trans h
theorem Row.cell {w : World} {B : Nat} {E : TypeId} {cur : Array Value} (h : Row w B E cur) {j : Nat} (hj : j < cur.size) : w.cell? ⟨B, j, none⟩ = some cur[j] := by
  unfold Row at h; simp [World.cell?, h, hj]
theorem Row.free {w : World} {B : Nat} {E : TypeId} {cur : Array Value} (h : Row w B E cur) (j : Nat) : w.frozen? ⟨B, j, none⟩ = false := by
  unfold Row at h; simp [World.frozen?, h]
theorem Row.set {w : World} {B : Nat} {E : TypeId} {cur : Array Value} (h : Row w B E cur) (j : Nat) (x : Value) : Row (w.setCell ⟨B, j, none⟩ x) B E (cur.setIfInBounds j x) := by
  have hlt := h.lt
  unfold Row at h ⊢
  have h' : w.heap[B] = .cells cur E (0, 0) := by simpa [Array.getElem?_eq_getElem hlt] using h
  show (w.heap.modify B _)[B]? = _
  rw [Array.getElem?_eq_getElem (by simpa using hlt), Array.getElem_modify_self, h']
  rfl

end Go.Proofs.Ytldjahemgkkpbaa
namespace Go.Proofs.Ytldjahemgkkpbaa
open Go.ChangeShapes Go.WideShapes Go.ChangeAt Go.RowKit
set_option linter.unusedVariables false
set_option maxRecDepth 100000

def combN (op a b : Int) : Int := if op = 1 ∨ op = 4 then wrap64 (a + b) else if op = 2 then (if b < a then b else a) else if op = 3 then (if a < b then b else a) else 0

def Same (x : Int) (w : World) (e : Ending) (w' : World) : Prop := e = .returned (.int .i64 x) ∧ w = w'
theorem comb_sum (op a b : Int) (h : op = 1 ∨ op = 4) : wrap64 (a + b) = combN op a b := by unfold combN; rw [if_pos h]
theorem comb_lo (a b : Int) (h : b < a) : b = combN 2 a b := by unfold combN; rw [if_neg (by decide), if_pos rfl, if_pos h]
theorem comb_lo' (a b : Int) (h : ¬ b < a) : a = combN 2 a b := by unfold combN; rw [if_neg (by decide), if_pos rfl, if_neg h]
theorem comb_hi (a b : Int) (h : a < b) : b = combN 3 a b := by unfold combN; rw [if_neg (by decide), if_neg (by decide), if_pos rfl, if_pos h]
theorem comb_hi' (a b : Int) (h : ¬ a < b) : a = combN 3 a b := by unfold combN; rw [if_neg (by decide), if_neg (by decide), if_pos rfl, if_neg h]
theorem comb_no (op a b : Int) (h1 : op ≠ 1) (h2 : op ≠ 2) (h3 : op ≠ 3) (h4 : op ≠ 4) : 0 = combN op a b := by
  unfold combN; rw [if_neg (by omega), if_neg h2, if_neg h3]
theorem same_of {x y : Int} {w : World} (h : x = y) : Same y w (.returned (.int .i64 x)) w := ⟨by rw [h], rfl⟩

theorem comb_1 (a b : Int) (w : World) : Calls Try.prog 11 #[.int .i64 1, .int .i64 a, .int .i64 b] w (Same (combN 1 a b) w) := by
  go_enter Try.func11, Try.ntmps11
  go_wp2
  go_ret
  exact same_of (comb_sum 1 a b (.inl rfl))
theorem comb_4 (a b : Int) (w : World) : Calls Try.prog 11 #[.int .i64 4, .int .i64 a, .int .i64 b] w (Same (combN 4 a b) w) := by
  go_enter Try.func11, Try.ntmps11
  go_wp2
  go_ret
  exact same_of (comb_sum 4 a b (.inr rfl))
theorem comb_2 (a b : Int) (w : World) : Calls Try.prog 11 #[.int .i64 2, .int .i64 a, .int .i64 b] w (Same (combN 2 a b) w) := by
  by_cases h : b < a
  · have H := Lib.hid (comb_lo a b h)
    go_enter Try.func11, Try.ntmps11
    go_wp2
    go_ret
    exact same_of H.out
  · have H := Lib.hid (comb_lo' a b h)
    go_enter Try.func11, Try.ntmps11
    go_wp2
    go_ret
    exact same_of H.out
theorem comb_3 (a b : Int) (w : World) : Calls Try.prog 11 #[.int .i64 3, .int .i64 a, .int .i64 b] w (Same (combN 3 a b) w) := by
  by_cases h : a < b
  · have H := Lib.hid (comb_hi a b h)
    go_enter Try.func11, Try.ntmps11
    go_wp2
    go_ret
    exact same_of H.out
  · have H := Lib.hid (comb_hi' a b h)
    go_enter Try.func11, Try.ntmps11
    go_wp2
    go_ret
    exact same_of H.out
theorem comb_0 (op a b : Int) (w : World) (h1 : op ≠ 1) (h2 : op ≠ 2) (h3 : op ≠ 3) (h4 : op ≠ 4) : Calls Try.prog 11 #[.int .i64 op, .int .i64 a, .int .i64 b] w (Same (combN op a b) w) := by
  have H := Lib.hid (comb_no op a b h1 h2 h3 h4)
  have g1 : (op == 1) = false := by simpa using h1
  have g2 : (op == 2) = false := by simpa using h2
  have g3 : (op == 3) = false := by simpa using h3
  have g4 : (op == 4) = false := by simpa using h4
  clear h1 h2 h3 h4
  go_enter Try.func11, Try.ntmps11
  go_wp2
  go_ret
  exact same_of H.out
theorem comb_any (op a b : Int) (w : World) : Calls Try.prog 11 #[.int .i64 op, .int .i64 a, .int .i64 b] w (Same (combN op a b) w) := by
  by_cases h1 : op = 1
  · subst h1; exact comb_1 a b w
  · by_cases h2 : op = 2
    · subst h2; exact comb_2 a b w
    · by_cases h3 : op = 3
      · subst h3; exact comb_3 a b w
      · by_cases h4 : op = 4
        · subst h4; exact comb_4 a b w
        · exact comb_0 op a b w h1 h2 h3 h4

theorem scomb_1 (a b : Int) (w : World) : Calls Try.prog 27 #[.int .i64 1, .int .i64 a, .int .i64 b] w (Same (combN 1 a b) w) := by
  go_enter Try.func27, Try.ntmps27
  go_wp2
  go_ret
  exact same_of (comb_sum 1 a b (.inl rfl))
theorem scomb_4 (a b : Int) (w : World) : Calls Try.prog 27 #[.int .i64 4, .int .i64 a, .int .i64 b] w (Same (combN 4 a b) w) := by
  go_enter Try.func27, Try.ntmps27
  go_wp2
  go_ret
  exact same_of (comb_sum 4 a b (.inr rfl))
theorem scomb_2 (a b : Int) (w : World) : Calls Try.prog 27 #[.int .i64 2, .int .i64 a, .int .i64 b] w (Same (combN 2 a b) w) := by
  by_cases h : b < a
  · have H := Lib.hid (comb_lo a b h)
    go_enter Try.func27, Try.ntmps27
    go_wp2
    go_ret
    exact same_of H.out
  · have H := Lib.hid (comb_lo' a b h)
    go_enter Try.func27, Try.ntmps27
    go_wp2
    go_ret
    exact same_of H.out
theorem scomb_3 (a b : Int) (w : World) : Calls Try.prog 27 #[.int .i64 3, .int .i64 a, .int .i64 b] w (Same (combN 3 a b) w) := by
  by_cases h : a < b
  · have H := Lib.hid (comb_hi a b h)
    go_enter Try.func27, Try.ntmps27
    go_wp2
    go_ret
    exact same_of H.out
  · have H := Lib.hid (comb_hi' a b h)
    go_enter Try.func27, Try.ntmps27
    go_wp2
    go_ret
    exact same_of H.out
theorem scomb_0 (op a b : Int) (w : World) (h1 : op ≠ 1) (h2 : op ≠ 2) (h3 : op ≠ 3) (h4 : op ≠ 4) : Calls Try.prog 27 #[.int .i64 op, .int .i64 a, .int .i64 b] w (Same (combN op a b) w) := by
  have H := Lib.hid (comb_no op a b h1 h2 h3 h4)
  have g1 : (op == 1) = false := by simpa using h1
  have g2 : (op == 2) = false := by simpa using h2
  have g3 : (op == 3) = false := by simpa using h3
  have g4 : (op == 4) = false := by simpa using h4
  clear h1 h2 h3 h4
  go_enter Try.func27, Try.ntmps27
  go_wp2
  go_ret
  exact same_of H.out
theorem scomb_any (op a b : Int) (w : World) : Calls Try.prog 27 #[.int .i64 op, .int .i64 a, .int .i64 b] w (Same (combN op a b) w) := by
  by_cases h1 : op = 1
  · subst h1; exact scomb_1 a b w
  · by_cases h2 : op = 2
    · subst h2; exact scomb_2 a b w
    · by_cases h3 : op = 3
      · subst h3; exact scomb_3 a b w
      · by_cases h4 : op = 4
        · subst h4; exact scomb_4 a b w
        · exact scomb_0 op a b w h1 h2 h3 h4

end Go.Proofs.Ytldjahemgkkpbaa
namespace Go.Proofs.Ytldjahemgkkpbaa
open Go.ChangeShapes Go.WideShapes Go.ChangeAt Go.RowKit
set_option linter.unusedVariables false
set_option maxRecDepth 100000

def opOkB (op : Int) : Bool := decide (1 ≤ op) && decide (op ≤ 4)
/-- The end of combiner: a function, and whether the op is valid. -/
def MadeComb (b : Bool) (w : World) (e : Ending) (w' : World) : Prop := ∃ f : Value, e = .returned (.tuple #[f, .bool b]) ∧ w = w'
theorem op_ways {op : Int} (h : opOkB op = true) : op = 1 ∨ op = 2 ∨ op = 3 ∨ op = 4 := by
  unfold opOkB at h
  rw [Bool.and_eq_true, decide_eq_true_eq, decide_eq_true_eq] at h
  omega
theorem op_none {op : Int} (h : opOkB op = false) : op ≠ 1 ∧ op ≠ 2 ∧ op ≠ 3 ∧ op ≠ 4 := by
  refine ⟨?_, ?_, ?_, ?_⟩ <;> rintro rfl <;> simp [opOkB] at h
set_option maxHeartbeats 2000000 in
theorem combiner_any (op : Int) (w : World) : Calls Try.prog 21 #[.int .i64 op] w (MadeComb (opOkB op) w) := by
  cases h : opOkB op with
  | true =>
    rcases op_ways h with rfl | rfl | rfl | rfl
    all_goals (
      clear h
      go_enter Try.func21, Try.ntmps21
      go_wp2
      go_ret2
      exact ⟨_, rfl, rfl⟩)
  | false =>
    obtain ⟨h1, h2, h3, h4⟩ := op_none h
    have g1 : (op == 1) = false := by simpa using h1
    have g2 : (op == 2) = false := by simpa using h2
    have g3 : (op == 3) = false := by simpa using h3
    have g4 : (op == 4) = false := by simpa using h4
    clear h h1 h2 h3 h4
    go_enter Try.func21, Try.ntmps21
    go_wp2
    go_ret2
    exact ⟨_, rfl, rfl⟩
set_option maxHeartbeats 1000000 in
theorem l4op_any (op : Int) (w : World) : Calls Try.prog 43 #[.int .i64 op] w fun e w' => e = .returned (.bool (opOkB op)) ∧ w = w' := by
  by_cases h1 : 1 ≤ op
  · have e : opOkB op = decide (op ≤ 4) := by unfold opOkB; rw [decide_eq_true h1, Bool.true_and]
    rw [e]
    clear e
    go_enter Try.func43, Try.ntmps43
    go_wp2
    go_ret
    exact ⟨rfl, rfl⟩
  · have e : opOkB op = false := by unfold opOkB; rw [decide_eq_false h1, Bool.false_and]
    rw [e]
    clear e
    go_enter Try.func43, Try.ntmps43
    go_wp2
    go_ret
    exact ⟨rfl, rfl⟩
end Go.Proofs.Ytldjahemgkkpbaa
