
/- Instructions: which are valid, in the program and in its model; what they take from the stack and put on it. -/
import Derived.Test.YtgijalecpeabjaaDoorKeyOk
import Derived.Lib.Strings
namespace Go.Proofs.YtgijalecpeabjaaDoor
open Go.ChangeShapes Go.WideShapes Go.ChangeAt Go.RowKit
set_option linter.unusedVariables false
set_option maxRecDepth 100000

def pbB (c : Nat) : Bool := decide (33 ≤ c ∧ c ≤ 126)
def pushB (s : ByteArray) : Bool := decide (s.size ≤ 20) && s.data.toList.all fun c => pbB c.toNat
theorem push_all {s : ByteArray} (h : ∀ k, (hk : k < s.size) → pbB s[k].toNat = true) : pushB s = decide (s.size ≤ 20) := by
  unfold pushB
  rw [List.all_eq_true.2, Bool.and_true]
  intro c hc
  obtain ⟨k, hk, rfl⟩ := List.getElem_of_mem hc
  exact h k (by simpa using hk)
theorem push_bad {s : ByteArray} {k : Nat} (hk : k < s.size) (h : pbB s[k].toNat = false) : pushB s = false := by
  unfold pushB
  rw [Bool.and_eq_false_iff]
  right
  rw [List.all_eq_false]
  exact ⟨s[k], by rw [← get_list s k hk]; exact List.getElem_mem _, by rw [h]; simp⟩
theorem push_long {s : ByteArray} (h : ¬ s.size ≤ 20) : pushB s = false := by
  unfold pushB
  rw [decide_eq_false h]; rfl
theorem push_none : pushB ByteArray.empty = true := by decide

set_option maxHeartbeats 1000000 in
theorem pushedok_any (s : ByteArray) (w : World) (hs : s.size ≤ maxLen) : Calls Tryd.prog 69 #[.string s] w (SameBool (pushB s) w) := by
  unfold maxLen at hs
  by_cases h20 : (20 : Int) < (s.size : Int)
  · have HK := Lib.hid (push_long (s := s) (by omega))
    go_enter Tryd.func69, Tryd.ntmps69
    go_wp2
    go_ret
    exact ⟨ret_bool HK.out.symm, rfl⟩
  · go_enter Tryd.func69, Tryd.ntmps69
    go_wp2
    go_loop [3] (fun i => ∃ k : Nat, k ≤ s.size ∧ i = .int .i64 k ∧ Hid (∀ j, (hj : j < s.size) → j < k → pbB s[j].toNat = true)) (fun i => s.size - (intOf i).toNat)
    case atStart => exact ⟨0, Nat.zero_le _, rfl, Lib.hid fun j _ h => by omega⟩
    case round =>
      obtain ⟨k, hk, rfl, HW⟩ := hrel
      by_cases hlt : k < s.size
      · by_cases h33 : (s[k].toNat : Int) < 33
        · have HK := Lib.hid (push_bad hlt (by unfold pbB; exact decide_eq_false (by omega)))
          go_wp2
          go_ret
          exact ⟨ret_bool HK.out.symm, rfl⟩
        · by_cases h126 : (126 : Int) < (s[k].toNat : Int)
          · have HK := Lib.hid (push_bad hlt (by unfold pbB; exact decide_eq_false (by omega)))
            go_wp2
            go_ret
            exact ⟨ret_bool HK.out.symm, rfl⟩
          · have HQ := Lib.hid (show pbB s[k].toNat = true by unfold pbB; exact decide_eq_true (by omega))
            go_wp2
            go_round
            case rel => exact ⟨k + 1, by omega, by go_num, Lib.hid fun j hj h => by
              rcases Nat.lt_or_ge j k with h | h
              · exact HW.out j hj h
              · obtain rfl : j = k := by omega
                exact HQ.out⟩
            case measure => simp [intOf]; omega
      · have HK := Lib.hid (show pushB s = true by rw [push_all (fun j hj => HW.out j hj (by omega))]; exact decide_eq_true (by omega))
        go_wp2
        go_ret
        exact ⟨ret_bool HK.out.symm, rfl⟩

/-- Which instructions are valid. -/
def instrB (op n : Int) (s : ByteArray) : Bool :=
  if op = 1 then decide (0 ≤ n ∧ n ≤ 19) && decide (s.size = 0)
  else if op = 2 then decide (n = 0) && pushB s
  else if op = 3 then decide (s.size = 0)
  else decide (4 ≤ op ∧ op ≤ 14) && (decide (n = 0) && decide (s.size = 0))
end Go.Proofs.YtgijalecpeabjaaDoor
