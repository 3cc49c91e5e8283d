
/- A drawn op with two drawn numbers; and the law that numbers are combined in whatever order, walked. Only new blocks are made. -/
import Derived.Test.YtldjahemgkkpbaaRd3
import Derived.Test.YtldjahemgkkpbaaMg0
namespace Go.Proofs.Ytldjahemgkkpbaa
open Go.ChangeShapes Go.WideShapes Go.ChangeAt Go.RowKit
set_option linter.unusedVariables false
set_option maxRecDepth 100000

set_option maxHeartbeats 1000000 in
theorem rcombine_any (w : World) (r : Nat) (a : Option Addr) (len cap : Nat) (h : Rdr w r a len cap) :
    Calls Try.prog 37 #[.pointer (some ⟨r, 0, none⟩)] w (RdWf .i64 w r a len cap) := by
  have H := Lib.hid h
  clear h
  go_enter Try.func37, Try.ntmps37
  go_wp2_with fail
  refine (once_any _ _ _ _ _ _ H.out (by decide) (by decide)).mono ?_
  rintro e w1 ⟨⟨x, rfl⟩, hw⟩
  have HW := Lib.hid hw
  clear hw H
  go_wp2_with fail
  · refine (off_any _ _ _ _ _ _ _ HW.out.rdr (by decide) (by decide) (by decide)).mono ?_
    rintro e w2 ⟨⟨y, hy, rfl⟩, hw⟩
    have HY := Lib.hid hy
    have HW := Lib.hid (HW.out.trans hw)
    clear hw hy
    go_wp2
    go_ret
    exact ⟨⟨_, HY.out, rfl⟩, HW.out⟩
  · refine (below_any _ _ _ _ _ _ HW.out.rdr (by decide) (by decide)).mono ?_
    rintro e w2 ⟨⟨y, hy1, hy2, rfl⟩, hw⟩
    have HW := Lib.hid (HW.out.trans hw)
    clear hw
    go_wp2
    go_ret
    exact ⟨⟨_, WalkArith.wf_i64 (by omega), rfl⟩, HW.out⟩

def DrewComb (w : World) (e : Ending) (w' : World) : Prop := ∃ op a b : Int, (Lit.int .i64 a).wf = true ∧ (Lit.int .i64 b).wf = true ∧ e = .returned (.tuple #[.int .i64 op, .int .i64 a, .int .i64 b]) ∧ Below w.heap.size w w'

theorem comb_comm (op a b : Int) : combN op b a = combN op a b := by
  unfold combN
  split
  · rw [Int.add_comm]
  · split
    · split <;> split <;> omega
    · split
      · split <;> split <;> omega
      · rfl
theorem comb_assoc (op a b c : Int) : combN op (combN op a b) c = combN op a (combN op b c) := by
  unfold combN
  by_cases h1 : op = 1 ∨ op = 4
  · simp only [if_pos h1]; unfold wrap64; omega
  · simp only [if_neg h1]
    by_cases h2 : op = 2
    · simp only [if_pos h2]; repeat' split
      all_goals omega
    · simp only [if_neg h2]
      by_cases h3 : op = 3
      · simp only [if_pos h3]; repeat' split
        all_goals omega
      · simp only [if_neg h3]

theorem comb_val {op a b x : Int} (w : World) (h : combN op a b = x) : Calls Try.prog 11 #[.int .i64 op, .int .i64 a, .int .i64 b] w (Same x w) := h ▸ comb_any op a b w
theorem scomb_val {op a b x : Int} (w : World) (h : combN op a b = x) : Calls Try.prog 27 #[.int .i64 op, .int .i64 a, .int .i64 b] w (Same x w) := h ▸ scomb_any op a b w

end Go.Proofs.Ytldjahemgkkpbaa
