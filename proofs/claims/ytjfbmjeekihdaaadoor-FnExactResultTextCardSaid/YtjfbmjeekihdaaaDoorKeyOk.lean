
/- What the valid keys and versions are, in the program and in its model. The world is as it was. -/
import Derived.Test.YtjfbmjeekihdaaaDoorRec
import Derived.Lib.Strings
namespace Go.Proofs.YtjfbmjeekihdaaaDoor
open Go.ChangeShapes Go.WideShapes Go.ChangeAt Go.RowKit
set_option linter.unusedVariables false
set_option maxRecDepth 100000

def kbB (c : Int) : Bool := decide (97 ≤ c ∧ c ≤ 122 ∨ 48 ≤ c ∧ c ≤ 57 ∨ c = 45 ∨ c = 47)
def keyB (s : ByteArray) : Bool := decide (1 ≤ s.size ∧ s.size ≤ 40) && s.data.toList.all fun c => kbB c.toNat
def inB (n lo hi : Int) : Bool := decide (lo ≤ n ∧ n ≤ hi)
theorem inB_iff {n lo hi : Int} : inB n lo hi = true ↔ lo ≤ n ∧ n ≤ hi := by unfold inB; simp
def SameBool (b : Bool) (w : World) (e : Ending) (w' : World) : Prop := e = .returned (.bool b) ∧ w = w'

theorem within_any (n lo hi : Int) (w : World) : Calls Tryd.prog 31 #[.int .i64 n, .int .i64 lo, .int .i64 hi] w (SameBool (inB n lo hi) w) := by
  by_cases h1 : lo ≤ n
  · have H := Lib.hid (show inB n lo hi = decide (n ≤ hi) by unfold inB; simp [h1])
    go_enter Tryd.func31, Tryd.ntmps31
    go_wp2
    go_ret
    exact ⟨ret_bool H.out.symm, rfl⟩
  · have H := Lib.hid (show inB n lo hi = false by unfold inB; simp [h1])
    go_enter Tryd.func31, Tryd.ntmps31
    go_wp2
    go_ret
    exact ⟨ret_bool H.out.symm, rfl⟩
theorem l1in_any (n lo hi : Int) (w : World) : Calls Tryd.prog 28 #[.int .i64 n, .int .i64 lo, .int .i64 hi] w (SameBool (inB n lo hi) w) := by
  by_cases h1 : lo ≤ n
  · have H := Lib.hid (show inB n lo hi = decide (n ≤ hi) by unfold inB; simp [h1])
    go_enter Tryd.func28, Tryd.ntmps28
    go_wp2
    go_ret
    exact ⟨ret_bool H.out.symm, rfl⟩
  · have H := Lib.hid (show inB n lo hi = false by unfold inB; simp [h1])
    go_enter Tryd.func28, Tryd.ntmps28
    go_wp2
    go_ret
    exact ⟨ret_bool H.out.symm, rfl⟩
theorem get_list (s : ByteArray) (k : Nat) (h : k < s.size) : s.data.toList[k]'(by simpa using h) = s[k] := rfl
theorem key_all {s : ByteArray} (h1 : 1 ≤ s.size) (h2 : s.size ≤ 40) (h : ∀ k, (hk : k < s.size) → kbB s[k].toNat = true) : keyB s = true := by
  unfold keyB
  rw [decide_eq_true ⟨h1, h2⟩, Bool.true_and, List.all_eq_true]
  intro c hc
  obtain ⟨k, hk, rfl⟩ := List.mem_iff_getElem.1 hc
  exact h k (by simpa using hk)
theorem key_bad {s : ByteArray} {k : Nat} (hk : k < s.size) (h : kbB s[k].toNat = false) : keyB s = false := by
  unfold keyB
  rw [Bool.and_eq_false_iff]
  refine .inr ?_
  rw [List.all_eq_false]
  exact ⟨s[k], by rw [← get_list s k hk]; exact List.getElem_mem _, by rw [h]; simp⟩
theorem key_size {s : ByteArray} (h : ¬ (1 ≤ s.size ∧ s.size ≤ 40)) : keyB s = false := by
  unfold keyB
  rw [decide_eq_false h]; rfl
theorem key_len {s : ByteArray} (h : keyB s = true) : 1 ≤ s.size ∧ s.size ≤ 40 := by
  unfold keyB at h
  rw [Bool.and_eq_true, decide_eq_true_eq] at h
  exact h.1
theorem empty_of_size {s : ByteArray} (h : s.size = 0) : s.toList = [] := by
  have : s.data.toList = [] := List.length_eq_zero_iff.1 (by simpa using h)
  rw [Lib.toList_data]; exact this
theorem not_empty {s : ByteArray} (h : 1 ≤ s.size) : ¬ s.toList = [] := fun e => by
  rw [Lib.toList_data] at e
  have e' : s.data.toList.length = 0 := by rw [e]; rfl
  have e2 : s.size = s.data.toList.length := by simp
  omega

end Go.Proofs.YtjfbmjeekihdaaaDoor
