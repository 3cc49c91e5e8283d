
/- What the valid keys and versions are, in the program and in its model. The world is as it was. -/
import Derived.Test.YtblpebdjbenphaaMg3
import Derived.Lib.Strings
namespace Go.Proofs.Ytblpebdjbenphaa
open Go.ChangeShapes Go.WideShapes Go.ChangeAt Go.RowKit
set_option linter.unusedVariables false
set_option maxRecDepth 100000

def kbB (c : Int) : Bool := decide (97 ≤ c ∧ c ≤ 122 ∨ 48 ≤ c ∧ c ≤ 57 ∨ c = 45 ∨ c = 47)
def keyB (s : ByteArray) : Bool := decide (1 ≤ s.size ∧ s.size ≤ 40) && s.data.toList.all fun c => kbB c.toNat
def inB (n lo hi : Int) : Bool := decide (lo ≤ n ∧ n ≤ hi)
theorem inB_iff {n lo hi : Int} : inB n lo hi = true ↔ lo ≤ n ∧ n ≤ hi := by unfold inB; simp
def SameBool (b : Bool) (w : World) (e : Ending) (w' : World) : Prop := e = .returned (.bool b) ∧ w = w'

theorem within_any (n lo hi : Int) (w : World) : Calls Try.prog 24 #[.int .i64 n, .int .i64 lo, .int .i64 hi] w (SameBool (inB n lo hi) w) := by
  by_cases h1 : lo ≤ n
  · have H := Lib.hid (show inB n lo hi = decide (n ≤ hi) by unfold inB; simp [h1])
    go_enter Try.func24, Try.ntmps24
    go_wp2
    go_ret
    exact ⟨ret_bool H.out.symm, rfl⟩
  · have H := Lib.hid (show inB n lo hi = false by unfold inB; simp [h1])
    go_enter Try.func24, Try.ntmps24
    go_wp2
    go_ret
    exact ⟨ret_bool H.out.symm, rfl⟩
theorem l1in_any (n lo hi : Int) (w : World) : Calls Try.prog 25 #[.int .i64 n, .int .i64 lo, .int .i64 hi] w (SameBool (inB n lo hi) w) := by
  by_cases h1 : lo ≤ n
  · have H := Lib.hid (show inB n lo hi = decide (n ≤ hi) by unfold inB; simp [h1])
    go_enter Try.func25, Try.ntmps25
    go_wp2
    go_ret
    exact ⟨ret_bool H.out.symm, rfl⟩
  · have H := Lib.hid (show inB n lo hi = false by unfold inB; simp [h1])
    go_enter Try.func25, Try.ntmps25
    go_wp2
    go_ret
    exact ⟨ret_bool H.out.symm, rfl⟩
theorem l7ver_any (n : Int) (w : World) : Calls Try.prog 27 #[.int .i64 n] w (SameBool (inB n 1 1000000) w) := by
  go_enter Try.func27, Try.ntmps27
  go_wp2_with (go_at_call 25; refine (l1in_any _ _ _ _).mono ?_; rintro e w' ⟨rfl, rfl⟩)
  go_ret
  exact ⟨rfl, rfl⟩
theorem get_list (s : ByteArray) (k : Nat) (h : k < s.size) : s.data.toList[k]'(by simpa using h) = s[k] := rfl
theorem key_all {s : ByteArray} (h1 : 1 ≤ s.size) (h2 : s.size ≤ 40) (h : ∀ k, (hk : k < s.size) → kbB s[k].toNat = true) : keyB s = true := by
  unfold keyB
  rw [decide_eq_true ⟨h1, h2⟩, Bool.true_and, List.all_eq_true]
  intro c hc
  obtain ⟨k, hk, rfl⟩ := List.mem_iff_getElem.1 hc
  exact h k (by simpa using hk)
theorem key_bad {s : ByteArray} {k : Nat} (hk : k < s.size) (h : kbB s[k].toNat = false) : keyB s = false := by
  unfold keyB
  rw [Bool.and_eq_false_iff]
  refine .inr ?_
  rw [List.all_eq_false]
  exact ⟨s[k], by rw [← get_list s k hk]; exact List.getElem_mem _, by rw [h]; simp⟩
theorem key_size {s : ByteArray} (h : ¬ (1 ≤ s.size ∧ s.size ≤ 40)) : keyB s = false := by
  unfold keyB
  rw [decide_eq_false h]; rfl
theorem key_len {s : ByteArray} (h : keyB s = true) : 1 ≤ s.size ∧ s.size ≤ 40 := by
  unfold keyB at h
  rw [Bool.and_eq_true, decide_eq_true_eq] at h
  exact h.1
theorem empty_of_size {s : ByteArray} (h : s.size = 0) : s.toList = [] := by
  have : s.data.toList = [] := List.length_eq_zero_iff.1 (by simpa using h)
  rw [Lib.toList_data]; exact this
theorem not_empty {s : ByteArray} (h : 1 ≤ s.size) : ¬ s.toList = [] := fun e => by
  rw [Lib.toList_data] at e
  have e' : s.data.toList.length = 0 := by rw [e]; rfl
  have e2 : s.size = s.data.toList.length := by simp
  omega

set_option maxHeartbeats 2000000 in
theorem l7key_any (s : ByteArray) (w : World) (hs : s.size ≤ maxLen) : Calls Try.prog 26 #[.string s] w (SameBool (keyB s) w) := by
  unfold maxLen at hs
  go_enter Try.func26, Try.ntmps26
  go_wp2
  go_loop [3] (fun i => ∃ k : Nat, k ≤ s.size ∧ i = .int .i64 k ∧ Hid (∀ j, (hj : j < s.size) → j < k → kbB s[j].toNat = true)) (fun i => s.size - (intOf i).toNat)
  case atStart => exact ⟨0, Nat.zero_le _, rfl, Lib.hid fun j _ h => by omega⟩
  case round =>
    obtain ⟨k, hk, rfl, HW⟩ := hrel
    by_cases hlt : k < s.size
    · have hb0 : (0 : Int) ≤ (s[k].toNat : Int) := by omega
      have hb1 : (s[k].toNat : Int) ≤ 255 := by have := s[k].toNat_lt; omega
      cases hq : kbB s[k].toNat with
      | true =>
        have hc : 97 ≤ (s[k].toNat : Int) ∧ (s[k].toNat : Int) ≤ 122 ∨ 48 ≤ (s[k].toNat : Int) ∧ (s[k].toNat : Int) ≤ 57 ∨ (s[k].toNat : Int) = 45 ∨ (s[k].toNat : Int) = 47 := by unfold kbB at hq; simpa using hq
        have HQ := Lib.hid hq
        clear hq
        go_wp2
        all_goals first
          | (exfalso; omega)
          | (exfalso; simp only [Bool.not_eq_true', beq_eq_false_iff_ne, ne_eq] at *; omega)
          | (go_round
             case rel => exact ⟨k + 1, by omega, by go_num, Lib.hid fun j hj h => by
               rcases Nat.lt_or_ge j k with h | h
               · exact HW.out j hj h
               · obtain rfl : j = k := by omega
                 exact HQ.out⟩
             case measure => simp [intOf]; omega)
      | false =>
        have hc : ¬ (97 ≤ (s[k].toNat : Int) ∧ (s[k].toNat : Int) ≤ 122 ∨ 48 ≤ (s[k].toNat : Int) ∧ (s[k].toNat : Int) ≤ 57 ∨ (s[k].toNat : Int) = 45 ∨ (s[k].toNat : Int) = 47) := by unfold kbB at hq; simpa using hq
        have HK := Lib.hid (key_bad hlt hq)
        clear hq
        have e45 : ((s[k].toNat : Int) == 45) = false := by rw [beq_eq_false_iff_ne]; omega
        have e47 : ((s[k].toNat : Int) == 47) = false := by rw [beq_eq_false_iff_ne]; omega
        rcases (show (97 ≤ (s[k].toNat : Int) ∧ 122 < (s[k].toNat : Int) ∧ 48 ≤ (s[k].toNat : Int) ∧ 57 < (s[k].toNat : Int)) ∨ ((s[k].toNat : Int) < 97 ∧ (s[k].toNat : Int) < 48) ∨ ((s[k].toNat : Int) < 97 ∧ 48 ≤ (s[k].toNat : Int) ∧ 57 < (s[k].toNat : Int)) by omega) with ⟨a1, a2, a3, a4⟩ | ⟨a1, a2⟩ | ⟨a1, a2, a3⟩
        · have d1 : decide ((s[k].toNat : Int) ≤ 122) = false := decide_eq_false (by omega)
          have d2 : decide ((s[k].toNat : Int) ≤ 57) = false := decide_eq_false (by omega)
          clear hc
          go_wp2
          go_ret
          exact ⟨ret_bool HK.out.symm, rfl⟩
        · clear hc
          go_wp2
          go_ret
          exact ⟨ret_bool HK.out.symm, rfl⟩
        · have d2 : decide ((s[k].toNat : Int) ≤ 57) = false := decide_eq_false (by omega)
          clear hc
          go_wp2
          go_ret
          exact ⟨ret_bool HK.out.symm, rfl⟩
    · have HK := Lib.hid (show inB s.size 1 40 = keyB s by
        by_cases h : 1 ≤ s.size ∧ s.size ≤ 40
        · rw [key_all (s := s) h.1 h.2 (fun j hj => HW.out j hj (by omega)), inB_iff]; omega
        · rw [key_size h]; unfold inB; exact decide_eq_false (by omega))
      go_wp2_with (go_at_call 25; refine (l1in_any _ _ _ _).mono ?_; rintro e w' ⟨rfl, rfl⟩)
      go_ret
      exact ⟨ret_bool HK.out, rfl⟩
end Go.Proofs.Ytblpebdjbenphaa
