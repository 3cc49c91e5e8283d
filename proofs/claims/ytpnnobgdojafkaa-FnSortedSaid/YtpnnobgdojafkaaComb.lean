
/- Combine of the program and of its model: the same number at every op and numbers; nothing is written. -/
import Derived.Test.YtpnnobgdojafkaaRow
namespace Go.Proofs.Ytpnnobgdojafkaa
open Go.ChangeShapes Go.WideShapes Go.ChangeAt Go.RowKit
set_option linter.unusedVariables false
set_option maxRecDepth 100000

def combN (op a b : Int) : Int := if op = 1 ∨ op = 4 then wrap64 (a + b) else if op = 2 then (if b < a then b else a) else if op = 3 then (if a < b then b else a) else 0

def Same (x : Int) (w : World) (e : Ending) (w' : World) : Prop := e = .returned (.int .i64 x) ∧ w = w'
theorem comb_sum (op a b : Int) (h : op = 1 ∨ op = 4) : wrap64 (a + b) = combN op a b := by unfold combN; rw [if_pos h]
theorem comb_lo (a b : Int) (h : b < a) : b = combN 2 a b := by unfold combN; rw [if_neg (by decide), if_pos rfl, if_pos h]
theorem comb_lo' (a b : Int) (h : ¬ b < a) : a = combN 2 a b := by unfold combN; rw [if_neg (by decide), if_pos rfl, if_neg h]
theorem comb_hi (a b : Int) (h : a < b) : b = combN 3 a b := by unfold combN; rw [if_neg (by decide), if_neg (by decide), if_pos rfl, if_pos h]
theorem comb_hi' (a b : Int) (h : ¬ a < b) : a = combN 3 a b := by unfold combN; rw [if_neg (by decide), if_neg (by decide), if_pos rfl, if_neg h]
theorem comb_no (op a b : Int) (h1 : op ≠ 1) (h2 : op ≠ 2) (h3 : op ≠ 3) (h4 : op ≠ 4) : 0 = combN op a b := by
  unfold combN; rw [if_neg (by omega), if_neg h2, if_neg h3]
theorem same_of {x y : Int} {w : World} (h : x = y) : Same y w (.returned (.int .i64 x)) w := ⟨by rw [h], rfl⟩

theorem comb_1 (a b : Int) (w : World) : Calls Try.prog 24 #[.int .i64 1, .int .i64 a, .int .i64 b] w (Same (combN 1 a b) w) := by
  go_enter Try.func24, Try.ntmps24
  go_wp2
  go_ret
  exact same_of (comb_sum 1 a b (.inl rfl))
theorem comb_4 (a b : Int) (w : World) : Calls Try.prog 24 #[.int .i64 4, .int .i64 a, .int .i64 b] w (Same (combN 4 a b) w) := by
  go_enter Try.func24, Try.ntmps24
  go_wp2
  go_ret
  exact same_of (comb_sum 4 a b (.inr rfl))
theorem comb_2 (a b : Int) (w : World) : Calls Try.prog 24 #[.int .i64 2, .int .i64 a, .int .i64 b] w (Same (combN 2 a b) w) := by
  by_cases h : b < a
  · have H := Lib.hid (comb_lo a b h)
    go_enter Try.func24, Try.ntmps24
    go_wp2
    go_ret
    exact same_of H.out
  · have H := Lib.hid (comb_lo' a b h)
    go_enter Try.func24, Try.ntmps24
    go_wp2
    go_ret
    exact same_of H.out
theorem comb_3 (a b : Int) (w : World) : Calls Try.prog 24 #[.int .i64 3, .int .i64 a, .int .i64 b] w (Same (combN 3 a b) w) := by
  by_cases h : a < b
  · have H := Lib.hid (comb_hi a b h)
    go_enter Try.func24, Try.ntmps24
    go_wp2
    go_ret
    exact same_of H.out
  · have H := Lib.hid (comb_hi' a b h)
    go_enter Try.func24, Try.ntmps24
    go_wp2
    go_ret
    exact same_of H.out
theorem comb_0 (op a b : Int) (w : World) (h1 : op ≠ 1) (h2 : op ≠ 2) (h3 : op ≠ 3) (h4 : op ≠ 4) : Calls Try.prog 24 #[.int .i64 op, .int .i64 a, .int .i64 b] w (Same (combN op a b) w) := by
  have H := Lib.hid (comb_no op a b h1 h2 h3 h4)
  have g1 : (op == 1) = false := by simpa using h1
  have g2 : (op == 2) = false := by simpa using h2
  have g3 : (op == 3) = false := by simpa using h3
  have g4 : (op == 4) = false := by simpa using h4
  clear h1 h2 h3 h4
  go_enter Try.func24, Try.ntmps24
  go_wp2
  go_ret
  exact same_of H.out
theorem comb_any (op a b : Int) (w : World) : Calls Try.prog 24 #[.int .i64 op, .int .i64 a, .int .i64 b] w (Same (combN op a b) w) := by
  by_cases h1 : op = 1
  · subst h1; exact comb_1 a b w
  · by_cases h2 : op = 2
    · subst h2; exact comb_2 a b w
    · by_cases h3 : op = 3
      · subst h3; exact comb_3 a b w
      · by_cases h4 : op = 4
        · subst h4; exact comb_4 a b w
        · exact comb_0 op a b w h1 h2 h3 h4

theorem scomb_1 (a b : Int) (w : World) : Calls Try.prog 46 #[.int .i64 1, .int .i64 a, .int .i64 b] w (Same (combN 1 a b) w) := by
  go_enter Try.func46, Try.ntmps46
  go_wp2
  go_ret
  exact same_of (comb_sum 1 a b (.inl rfl))
theorem scomb_4 (a b : Int) (w : World) : Calls Try.prog 46 #[.int .i64 4, .int .i64 a, .int .i64 b] w (Same (combN 4 a b) w) := by
  go_enter Try.func46, Try.ntmps46
  go_wp2
  go_ret
  exact same_of (comb_sum 4 a b (.inr rfl))
theorem scomb_2 (a b : Int) (w : World) : Calls Try.prog 46 #[.int .i64 2, .int .i64 a, .int .i64 b] w (Same (combN 2 a b) w) := by
  by_cases h : b < a
  · have H := Lib.hid (comb_lo a b h)
    go_enter Try.func46, Try.ntmps46
    go_wp2
    go_ret
    exact same_of H.out
  · have H := Lib.hid (comb_lo' a b h)
    go_enter Try.func46, Try.ntmps46
    go_wp2
    go_ret
    exact same_of H.out
theorem scomb_3 (a b : Int) (w : World) : Calls Try.prog 46 #[.int .i64 3, .int .i64 a, .int .i64 b] w (Same (combN 3 a b) w) := by
  by_cases h : a < b
  · have H := Lib.hid (comb_hi a b h)
    go_enter Try.func46, Try.ntmps46
    go_wp2
    go_ret
    exact same_of H.out
  · have H := Lib.hid (comb_hi' a b h)
    go_enter Try.func46, Try.ntmps46
    go_wp2
    go_ret
    exact same_of H.out
theorem scomb_0 (op a b : Int) (w : World) (h1 : op ≠ 1) (h2 : op ≠ 2) (h3 : op ≠ 3) (h4 : op ≠ 4) : Calls Try.prog 46 #[.int .i64 op, .int .i64 a, .int .i64 b] w (Same (combN op a b) w) := by
  have H := Lib.hid (comb_no op a b h1 h2 h3 h4)
  have g1 : (op == 1) = false := by simpa using h1
  have g2 : (op == 2) = false := by simpa using h2
  have g3 : (op == 3) = false := by simpa using h3
  have g4 : (op == 4) = false := by simpa using h4
  clear h1 h2 h3 h4
  go_enter Try.func46, Try.ntmps46
  go_wp2
  go_ret
  exact same_of H.out
theorem scomb_any (op a b : Int) (w : World) : Calls Try.prog 46 #[.int .i64 op, .int .i64 a, .int .i64 b] w (Same (combN op a b) w) := by
  by_cases h1 : op = 1
  · subst h1; exact scomb_1 a b w
  · by_cases h2 : op = 2
    · subst h2; exact scomb_2 a b w
    · by_cases h3 : op = 3
      · subst h3; exact scomb_3 a b w
      · by_cases h4 : op = 4
        · subst h4; exact scomb_4 a b w
        · exact scomb_0 op a b w h1 h2 h3 h4

end Go.Proofs.Ytpnnobgdojafkaa
