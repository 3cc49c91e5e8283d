
/- What EventOk computes in the program and in its model; the exact law on it, walked. Only new blocks are made. -/
import Derived.Test.YtbmhabboloficaaDoorKeyOk
namespace Go.Proofs.YtbmhabboloficaaDoor
open Go.ChangeShapes Go.WideShapes Go.ChangeAt Go.RowKit
set_option linter.unusedVariables false
set_option maxRecDepth 100000

def evB (kind worker workers : Int) : Bool := decide (0 ≤ worker ∧ worker < workers ∧ (kind = 1 ∨ kind = 2 ∨ kind = 3 ∧ worker = 0))
theorem ev_out {k w n : Int} (h : ¬ (0 ≤ w ∧ w < n)) : evB k w n = false := by unfold evB; simp; omega
theorem ev_kind {k w n : Int} (h : ¬ (1 ≤ k ∧ k ≤ 3)) : evB k w n = false := by unfold evB; simp; omega
theorem ev_12 {k w n : Int} (h : k = 1 ∨ k = 2) : evB k w n = decide (0 ≤ w ∧ w < n) := by unfold evB; rw [decide_eq_decide]; omega
theorem ev_3 {w n : Int} : evB 3 w n = (decide (0 ≤ w ∧ w < n) && decide (w = 0)) := by unfold evB; rw [← Bool.decide_and, decide_eq_decide]; omega

set_option maxHeartbeats 1000000 in
theorem seventok_any (k v n : Int) (w : World) :
    Calls Tryd.prog 56 #[.agg #[.int .i64 k, .int .i64 v], .int .i64 n] w (MadeBool (evB k v n) w) := by
  by_cases h0 : v < 0
  · have HC := Lib.hid (ev_out (k := k) (w := v) (n := n) (by omega))
    go_enter Tryd.func56, Tryd.ntmps56
    go_wp2
    go_ret
    exact ⟨ret_bool HC.out.symm, below_alloc (Below.refl _ _) _⟩
  by_cases h1 : n ≤ v
  · have HC := Lib.hid (ev_out (k := k) (w := v) (n := n) (by omega))
    go_enter Tryd.func56, Tryd.ntmps56
    go_wp2
    go_ret
    exact ⟨ret_bool HC.out.symm, below_alloc (Below.refl _ _) _⟩
  have hin : decide (0 ≤ v ∧ v < n) = true := by simp; omega
  by_cases e1 : k = 1
  · subst e1
    have HC := Lib.hid ((ev_12 (k := 1) (w := v) (n := n) (by omega)).trans hin)
    clear hin
    go_enter Tryd.func56, Tryd.ntmps56
    go_wp2
    go_ret
    exact ⟨ret_bool HC.out.symm, below_alloc (Below.refl _ _) _⟩
  by_cases e2 : k = 2
  · subst e2
    have HC := Lib.hid ((ev_12 (k := 2) (w := v) (n := n) (by omega)).trans hin)
    clear hin
    go_enter Tryd.func56, Tryd.ntmps56
    go_wp2
    go_ret
    exact ⟨ret_bool HC.out.symm, below_alloc (Below.refl _ _) _⟩
  by_cases e3 : k = 3
  · subst e3
    have HC := Lib.hid ((ev_3 (w := v) (n := n)).trans (by rw [hin]; rfl : _ = decide (v = 0)))
    clear hin
    by_cases hv : v = 0
    · subst hv
      have HC := Lib.hid (HC.out.trans (by rfl : _ = true))
      go_enter Tryd.func56, Tryd.ntmps56
      go_wp2
      go_ret
      exact ⟨ret_bool HC.out.symm, below_alloc (Below.refl _ _) _⟩
    · have HC := Lib.hid (HC.out.trans (by simpa using hv : _ = false))
      have hv2 : ((v : Int) == 0) = false := by rw [beq_eq_false_iff_ne]; exact hv
      go_enter Tryd.func56, Tryd.ntmps56
      go_wp2
      go_ret
      exact ⟨ret_bool HC.out.symm, below_alloc (Below.refl _ _) _⟩
  have HC := Lib.hid (ev_kind (k := k) (w := v) (n := n) (by omega))
  have k1 : ((k : Int) == 1) = false := by rw [beq_eq_false_iff_ne]; exact e1
  have k2 : ((k : Int) == 2) = false := by rw [beq_eq_false_iff_ne]; exact e2
  have k3 : ((k : Int) == 3) = false := by rw [beq_eq_false_iff_ne]; exact e3
  clear e1 e2 e3 hin
  go_enter Tryd.func56, Tryd.ntmps56
  go_wp2
  go_ret
  exact ⟨ret_bool HC.out.symm, below_alloc (Below.refl _ _) _⟩

set_option maxHeartbeats 1000000 in
theorem eventok_any (k v n : Int) (w : World) :
    Calls Tryd.prog 58 #[.agg #[.int .i64 k, .int .i64 v], .int .i64 n] w (MadeBool (evB k v n) w) := by
  cases hk : inB k 1 3 with
  | false =>
    have HK := Lib.hid hk
    have HC := Lib.hid (ev_kind (k := k) (w := v) (n := n) (by rw [← inB_iff, hk]; simp))
    clear hk
    go_enter Tryd.func58, Tryd.ntmps58
    go_wp2_with (go_at_call 72; refine (within_any _ _ _ _).mono ?_; rw [HK.out]; rintro e w1 ⟨rfl, rfl⟩)
    go_ret
    exact ⟨ret_bool HC.out.symm, below_alloc (Below.refl _ _) _⟩
  | true =>
    have HK := Lib.hid hk
    have hk2 := inB_iff.1 hk
    clear hk
    by_cases e3 : k = 3
    · subst e3
      by_cases hv : v = 0
      · subst hv
        have HC := Lib.hid (show evB 3 0 n = decide (0 < n) by rw [ev_3]; simp)
        clear hk2
        go_enter Tryd.func58, Tryd.ntmps58
        go_wp2_with (go_at_call 72; refine (within_any _ _ _ _).mono ?_; rw [HK.out]; rintro e w1 ⟨rfl, rfl⟩)
        go_ret
        exact ⟨ret_bool HC.out.symm, below_alloc (Below.refl _ _) _⟩
      · have HC := Lib.hid (show evB 3 v n = false by rw [ev_3]; simp [hv])
        have hv2 : ((v : Int) == 0) = false := by rw [beq_eq_false_iff_ne]; exact hv
        clear hk2
        go_enter Tryd.func58, Tryd.ntmps58
        go_wp2_with (go_at_call 72; refine (within_any _ _ _ _).mono ?_; rw [HK.out]; rintro e w1 ⟨rfl, rfl⟩)
        go_ret
        exact ⟨ret_bool HC.out.symm, below_alloc (Below.refl _ _) _⟩
    · have HC := Lib.hid (ev_12 (k := k) (w := v) (n := n) (by omega))
      have k3 : ((k : Int) == 3) = false := by rw [beq_eq_false_iff_ne]; exact e3
      clear hk2 e3
      by_cases h0 : 0 ≤ v
      · have HC := Lib.hid (HC.out.trans (by simp [h0] : _ = decide (v < n)))
        go_enter Tryd.func58, Tryd.ntmps58
        go_wp2_with (go_at_call 72; refine (within_any _ _ _ _).mono ?_; rw [HK.out]; rintro e w1 ⟨rfl, rfl⟩)
        go_ret
        exact ⟨ret_bool HC.out.symm, below_alloc (Below.refl _ _) _⟩
      · have HC := Lib.hid (HC.out.trans (by simp [h0] : _ = false))
        go_enter Tryd.func58, Tryd.ntmps58
        go_wp2_with (go_at_call 72; refine (within_any _ _ _ _).mono ?_; rw [HK.out]; rintro e w1 ⟨rfl, rfl⟩)
        go_ret
        exact ⟨ret_bool HC.out.symm, below_alloc (Below.refl _ _) _⟩

theorem toevent_any (k v : Int) (w : World) :
    Calls Tryd.prog 16 #[.agg #[.int .i64 k, .int .i64 v]] w fun e w' => e = .returned (.agg #[.int .i64 k, .int .i64 v]) ∧ Below w.heap.size w w' := by
  go_enter Tryd.func16, Tryd.ntmps16
  go_wp2
  exact bodyPost_ret (v := .agg #[.int .i64 k, .int .i64 v]) (by simp [results, Tryd.results16, go_sem]) rfl ⟨rfl, below_alloc (below_alloc (below_alloc (Below.refl _ _) _) _) _⟩

end Go.Proofs.YtbmhabboloficaaDoor
