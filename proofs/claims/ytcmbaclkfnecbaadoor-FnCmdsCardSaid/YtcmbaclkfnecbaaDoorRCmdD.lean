
/- One digit read by the model. -/
import Derived.Test.YtcmbaclkfnecbaaDoorRCmdM
namespace Go.Proofs.YtcmbaclkfnecbaaDoor
open Go.ChangeShapes Go.WideShapes Go.ChangeAt Go.RowKit
set_option linter.unusedVariables false
set_option maxRecDepth 100000

set_option maxHeartbeats 2000000 in
theorem l7digit_int (x : Int) (w : World) (h0 : 0 ≤ x) (h8 : x < 256) : Calls Tryd.prog 54 #[.int .u8 x] w fun e w' => e = .returned (.int .i64 (if 48 ≤ x ∧ x ≤ 57 then x - 48 else if 97 ≤ x ∧ x ≤ 102 then x - 97 + 10 else 0)) ∧ w = w' := by
  by_cases a1 : 48 ≤ x
  · by_cases a2 : x ≤ 57
    · rw [if_pos ⟨a1, a2⟩]
      go_enter Tryd.func54, Tryd.ntmps54
      go_wp2
      go_ret
      exact ⟨rfl, rfl⟩
    · rw [if_neg (fun h => a2 h.2)]
      by_cases b1 : 97 ≤ x
      · by_cases b2 : x ≤ 102
        · rw [if_pos ⟨b1, b2⟩]
          go_enter Tryd.func54, Tryd.ntmps54
          go_wp2
          go_ret
          exact ⟨rfl, rfl⟩
        · rw [if_neg (fun h => b2 h.2)]
          go_enter Tryd.func54, Tryd.ntmps54
          go_wp2
          go_ret
          exact ⟨rfl, rfl⟩
      · rw [if_neg (fun h => b1 h.1)]
        go_enter Tryd.func54, Tryd.ntmps54
        go_wp2
        go_ret
        exact ⟨rfl, rfl⟩
  · rw [if_neg (fun h => a1 h.1), if_neg (fun h => a1 (by omega))]
    have b1 : ¬ 97 ≤ x := by omega
    go_enter Tryd.func54, Tryd.ntmps54
    go_wp2
    go_ret
    exact ⟨rfl, rfl⟩
theorem dgD_int (c : UInt8) : (if 48 ≤ (c.toNat : Int) ∧ (c.toNat : Int) ≤ 57 then (c.toNat : Int) - 48 else if 97 ≤ (c.toNat : Int) ∧ (c.toNat : Int) ≤ 102 then (c.toNat : Int) - 97 + 10 else 0) = (dgD c : Int) := by
  unfold dgD unD
  by_cases h1 : 48 ≤ c.toNat ∧ c.toNat ≤ 57
  · rw [if_pos (by omega), if_pos h1]
    simp only [Option.getD_some]
    omega
  · rw [if_neg (by omega), if_neg h1]
    by_cases h2 : 97 ≤ c.toNat ∧ c.toNat ≤ 102
    · rw [if_pos (by omega), if_pos h2]
      simp only [Option.getD_some]
      omega
    · rw [if_neg (by omega), if_neg h2]; rfl
theorem l7digit_any (c : UInt8) (w : World) : Calls Tryd.prog 54 #[.int .u8 (c.toNat : Int)] w fun e w' => e = .returned (.int .i64 (dgD c : Int)) ∧ w = w' := by
  have h := l7digit_int (c.toNat : Int) w (by omega) (by have := c.toNat_lt; omega)
  rw [dgD_int] at h
  exact h
end Go.Proofs.YtcmbaclkfnecbaaDoor
