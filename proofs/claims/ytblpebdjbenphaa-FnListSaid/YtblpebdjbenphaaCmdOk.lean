
/- What CmdOk computes in the program and in its model. Only new blocks are made. -/
import Derived.Test.YtblpebdjbenphaaKeyOk
namespace Go.Proofs.Ytblpebdjbenphaa
open Go.ChangeShapes Go.WideShapes Go.ChangeAt Go.RowKit
set_option linter.unusedVariables false
set_option maxRecDepth 100000

def cmdB (kind : Int) (key : ByteArray) (ver : Int) (data : ByteArray) : Bool :=
  keyB key && (if kind = 1 then decide (ver = 0) && decide ((data.size : Int) ≤ 30000) else if kind = 2 then inB ver 1 1000000 && decide ((data.size : Int) ≤ 30000) else if kind = 3 then inB ver 1 1000000 && data.toList.isEmpty else false)
theorem cmd_key {kind : Int} {key : ByteArray} {ver : Int} {data : ByteArray} (h : keyB key = false) : cmdB kind key ver data = false := by unfold cmdB; rw [h]; rfl
theorem cmd_1 {key : ByteArray} {ver : Int} {data : ByteArray} (h : keyB key = true) : cmdB 1 key ver data = (decide (ver = 0) && decide ((data.size : Int) ≤ 30000)) := by unfold cmdB; rw [h]; rfl
theorem cmd_2 {key : ByteArray} {ver : Int} {data : ByteArray} (h : keyB key = true) : cmdB 2 key ver data = (inB ver 1 1000000 && decide ((data.size : Int) ≤ 30000)) := by unfold cmdB; rw [h]; rfl
theorem cmd_3 {key : ByteArray} {ver : Int} {data : ByteArray} (h : keyB key = true) : cmdB 3 key ver data = (inB ver 1 1000000 && data.toList.isEmpty) := by unfold cmdB; rw [h]; rfl
theorem cmd_no {kind : Int} {key : ByteArray} {ver : Int} {data : ByteArray} (h1 : kind ≠ 1) (h2 : kind ≠ 2) (h3 : kind ≠ 3) : cmdB kind key ver data = false := by unfold cmdB; rw [if_neg h1, if_neg h2, if_neg h3]; simp

set_option maxHeartbeats 4000000 in
theorem scmdok_any (kind : Int) (key : ByteArray) (ver : Int) (data : ByteArray) (w : World) (hs : key.size ≤ maxLen) (hd : data.size ≤ maxLen) :
    Calls Try.prog 42 #[.agg #[.int .i64 kind, .string key, .int .i64 ver, .string data]] w (MadeBool (cmdB kind key ver data) w) := by
  have HKS := Lib.hid hs
  unfold maxLen at hd
  clear hs
  by_cases e1 : kind = 1
  · subst e1
    cases hk : keyB key with
    | false =>
      have HK := Lib.hid hk
      have HC := Lib.hid (cmd_key (kind := 1) (ver := ver) (data := data) hk)
      clear hk
      go_enter Try.func42, Try.ntmps42
      go_wp2_with (first | (go_at_call 26; refine (l7key_any _ _ HKS.out).mono ?_; rw [HK.out]; rintro e w1 ⟨rfl, rfl⟩))
      go_ret
      exact ⟨ret_bool HC.out.symm, below_alloc (Below.refl _ _) _⟩
    | true =>
      have HK := Lib.hid hk
      by_cases hv : ver = 0
      · subst hv
        have HC := Lib.hid (show cmdB 1 key 0 data = decide ((data.size : Int) ≤ 30000) by rw [cmd_1 hk]; simp)
        clear hk
        go_enter Try.func42, Try.ntmps42
        go_wp2_with (first | (go_at_call 26; refine (l7key_any _ _ HKS.out).mono ?_; rw [HK.out]; rintro e w1 ⟨rfl, rfl⟩))
        go_ret
        exact ⟨ret_bool HC.out.symm, below_alloc (Below.refl _ _) _⟩
      · have HC := Lib.hid (show cmdB 1 key ver data = false by rw [cmd_1 hk]; simp [hv])
        have hv2 : ((ver : Int) == 0) = false := by rw [beq_eq_false_iff_ne]; exact hv
        clear hk
        go_enter Try.func42, Try.ntmps42
        go_wp2_with (first | (go_at_call 26; refine (l7key_any _ _ HKS.out).mono ?_; rw [HK.out]; rintro e w1 ⟨rfl, rfl⟩))
        go_ret
        exact ⟨ret_bool HC.out.symm, below_alloc (Below.refl _ _) _⟩
  by_cases e2 : kind = 2
  · subst e2
    cases hk : keyB key with
    | false =>
      have HK := Lib.hid hk
      have HC := Lib.hid (cmd_key (kind := 2) (ver := ver) (data := data) hk)
      clear hk
      cases hv : inB ver 1 1000000
      all_goals
        have HV := Lib.hid hv
        clear hv
        go_enter Try.func42, Try.ntmps42
        go_wp2_with (first | (go_at_call 26; refine (l7key_any _ _ HKS.out).mono ?_; rw [HK.out]; rintro e w1 ⟨rfl, rfl⟩) | (go_at_call 27; refine (l7ver_any _ _).mono ?_; rw [HV.out]; rintro e w1 ⟨rfl, rfl⟩))
        go_ret
        exact ⟨ret_bool HC.out.symm, below_alloc (Below.refl _ _) _⟩
    | true =>
      have HK := Lib.hid hk
      cases hv : inB ver 1 1000000 with
      | false =>
        have HC := Lib.hid (show cmdB 2 key ver data = false by rw [cmd_2 hk, hv]; rfl)
        have HV := Lib.hid hv
        clear hv hk
        go_enter Try.func42, Try.ntmps42
        go_wp2_with (first | (go_at_call 26; refine (l7key_any _ _ HKS.out).mono ?_; rw [HK.out]; rintro e w1 ⟨rfl, rfl⟩) | (go_at_call 27; refine (l7ver_any _ _).mono ?_; rw [HV.out]; rintro e w1 ⟨rfl, rfl⟩))
        go_ret
        exact ⟨ret_bool HC.out.symm, below_alloc (Below.refl _ _) _⟩
      | true =>
        have HC := Lib.hid (show cmdB 2 key ver data = decide ((data.size : Int) ≤ 30000) by rw [cmd_2 hk, hv]; rfl)
        have HV := Lib.hid hv
        clear hv hk
        go_enter Try.func42, Try.ntmps42
        go_wp2_with (first | (go_at_call 26; refine (l7key_any _ _ HKS.out).mono ?_; rw [HK.out]; rintro e w1 ⟨rfl, rfl⟩) | (go_at_call 27; refine (l7ver_any _ _).mono ?_; rw [HV.out]; rintro e w1 ⟨rfl, rfl⟩))
        go_ret
        exact ⟨ret_bool HC.out.symm, below_alloc (Below.refl _ _) _⟩
  by_cases e3 : kind = 3
  · subst e3
    cases hk : keyB key with
    | false =>
      have HK := Lib.hid hk
      have HC := Lib.hid (cmd_key (kind := 3) (ver := ver) (data := data) hk)
      clear hk
      cases hv : inB ver 1 1000000
      all_goals
        have HV := Lib.hid hv
        clear hv
        go_enter Try.func42, Try.ntmps42
        go_wp2_with (first | (go_at_call 26; refine (l7key_any _ _ HKS.out).mono ?_; rw [HK.out]; rintro e w1 ⟨rfl, rfl⟩) | (go_at_call 27; refine (l7ver_any _ _).mono ?_; rw [HV.out]; rintro e w1 ⟨rfl, rfl⟩))
        go_ret
        exact ⟨ret_bool HC.out.symm, below_alloc (Below.refl _ _) _⟩
    | true =>
      have HK := Lib.hid hk
      cases hv : inB ver 1 1000000 with
      | false =>
        have HC := Lib.hid (show cmdB 3 key ver data = false by rw [cmd_3 hk, hv]; rfl)
        have HV := Lib.hid hv
        clear hv hk
        go_enter Try.func42, Try.ntmps42
        go_wp2_with (first | (go_at_call 26; refine (l7key_any _ _ HKS.out).mono ?_; rw [HK.out]; rintro e w1 ⟨rfl, rfl⟩) | (go_at_call 27; refine (l7ver_any _ _).mono ?_; rw [HV.out]; rintro e w1 ⟨rfl, rfl⟩))
        go_ret
        exact ⟨ret_bool HC.out.symm, below_alloc (Below.refl _ _) _⟩
      | true =>
        have HC := Lib.hid (show cmdB 3 key ver data = data.toList.isEmpty by rw [cmd_3 hk, hv]; rfl)
        have HV := Lib.hid hv
        clear hv hk
        go_enter Try.func42, Try.ntmps42
        go_wp2_with (first | (go_at_call 26; refine (l7key_any _ _ HKS.out).mono ?_; rw [HK.out]; rintro e w1 ⟨rfl, rfl⟩) | (go_at_call 27; refine (l7ver_any _ _).mono ?_; rw [HV.out]; rintro e w1 ⟨rfl, rfl⟩))
        go_ret
        exact ⟨ret_bool HC.out.symm, below_alloc (Below.refl _ _) _⟩
  have HC := Lib.hid (cmd_no (key := key) (ver := ver) (data := data) e1 e2 e3)
  have k1 : ((kind : Int) == 1) = false := by rw [beq_eq_false_iff_ne]; exact e1
  have k2 : ((kind : Int) == 2) = false := by rw [beq_eq_false_iff_ne]; exact e2
  have k3 : ((kind : Int) == 3) = false := by rw [beq_eq_false_iff_ne]; exact e3
  clear e1 e2 e3
  cases hk : keyB key
  all_goals
    have HK := Lib.hid hk
    clear hk
    go_enter Try.func42, Try.ntmps42
    go_wp2_with (first | (go_at_call 26; refine (l7key_any _ _ HKS.out).mono ?_; rw [HK.out]; rintro e w1 ⟨rfl, rfl⟩))
    go_ret
    exact ⟨ret_bool HC.out.symm, below_alloc (Below.refl _ _) _⟩

end Go.Proofs.Ytblpebdjbenphaa
