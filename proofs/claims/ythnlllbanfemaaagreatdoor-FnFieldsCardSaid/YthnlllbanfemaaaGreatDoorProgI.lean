
/- The program's instrOk. Only new blocks are made. -/
import Derived.Test.YthnlllbanfemaaaGreatDoorMg13
namespace Go.Proofs.YthnlllbanfemaaaGreatDoor
open Go.ChangeShapes Go.WideShapes Go.ChangeAt Go.RowKit
set_option linter.unusedVariables false
set_option maxRecDepth 100000

theorem instr_out {op n : Int} {s : ByteArray} (h : ¬ (1 ≤ op ∧ op ≤ 14)) : instrB op n s = false := by
  cases hb : instrB op n s with
  | false => rfl
  | true => exact absurd (instr_op hb) h
theorem push_empty {s : ByteArray} (h : s.size = 0) : pushB s = true := by
  have : s = ByteArray.empty := ByteArray.ext (Array.eq_empty_of_size_eq_zero h)
  rw [this]; exact push_none

set_option maxHeartbeats 4000000 in
theorem instrok_any (op n : Int) (s : ByteArray) (w : World) (hs : s.size ≤ maxLen) (hT : TabsP w) :
    Calls Tryz.prog 53 #[.agg #[.int .i64 op, .int .i64 n, .string s]] w (MadeBool (instrB op n s) w) := by
  have HSZ := Lib.hid hs
  unfold maxLen at hs
  by_cases hlo : op < 1
  · have HC := Lib.hid (instr_out (n := n) (s := s) (by omega : ¬ (1 ≤ op ∧ op ≤ 14)))
    clear hT
    go_enter Tryz.func53, Tryz.ntmps53
    go_wp2
    go_ret
    exact ⟨ret_bool HC.out.symm, below_alloc (Below.refl _ _) _⟩
  by_cases hhi : 14 < op
  · have HC := Lib.hid (instr_out (n := n) (s := s) (by omega : ¬ (1 ≤ op ∧ op ≤ 14)))
    clear hT
    go_enter Tryz.func53, Tryz.ntmps53
    go_wp2
    go_ret
    exact ⟨ret_bool HC.out.symm, below_alloc (Below.refl _ _) _⟩
  have HT := Lib.hid (hT.keep (below_alloc (Below.refl w.heap.size w) (.cells #[.int .i64 op, .int .i64 n, .string s] 52)))
  have HB := Lib.hid (below_alloc (Below.refl w.heap.size w) (.cells #[.int .i64 op, .int .i64 n, .string s] 52))
  clear hT
  by_cases e1 : op = 1
  · subst e1
    obtain ⟨F, hF⟩ : ∃ F, fieldB 1 = F := ⟨_, rfl⟩
    have c1 := (HT.out.cell 1 (by omega)).2.1
    rw [hF] at c1
    have q1 : (F.toList == [78]) = true := lit_yes (by rw [← hF]; rfl)
    have q2 : (F.toList == [83]) = false := lit_no (by rw [← hF]; decide)
    clear hF
    by_cases h0 : s.size = 0
    · have HC := Lib.hid (show instrB 1 n s = decide (0 ≤ n ∧ n ≤ 19) by unfold instrB; rw [if_pos rfl, decide_eq_true h0, Bool.and_true])
      have he : s.toList.isEmpty = true := ba_nil h0
      by_cases hn0 : 0 ≤ n
      · have HC := Lib.hid (show instrB 1 n s = decide (n < 20) by rw [HC.out, decide_eq_decide]; omega)
        go_enter Tryz.func53, Tryz.ntmps53
        go_wp2
        go_ret
        exact ⟨ret_bool HC.out.symm, HB.out⟩
      · have HC := Lib.hid (show instrB 1 n s = false by rw [HC.out]; exact decide_eq_false (by omega))
        go_enter Tryz.func53, Tryz.ntmps53
        go_wp2
        go_ret
        exact ⟨ret_bool HC.out.symm, HB.out⟩
    · have HC := Lib.hid (show instrB 1 n s = false by unfold instrB; rw [if_pos rfl, decide_eq_false h0, Bool.and_false])
      have he : s.toList.isEmpty = false := ba_some (by omega)
      go_enter Tryz.func53, Tryz.ntmps53
      go_wp2
      go_ret
      exact ⟨ret_bool HC.out.symm, HB.out⟩
  by_cases e2 : op = 2
  · subst e2
    obtain ⟨F, hF⟩ : ∃ F, fieldB 2 = F := ⟨_, rfl⟩
    have c1 := (HT.out.cell 2 (by omega)).2.1
    rw [hF] at c1
    have q1 : (F.toList == [78]) = false := lit_no (by rw [← hF]; decide)
    have q2 : (F.toList == [83]) = true := lit_yes (by rw [← hF]; rfl)
    clear hF
    by_cases hn : n = 0
    · subst hn
      obtain ⟨q, hq⟩ : ∃ q, pushB s = q := ⟨_, rfl⟩
      have HQ := Lib.hid hq
      have HC := Lib.hid (show instrB 2 0 s = q by unfold instrB; rw [if_neg (by decide), if_pos rfl, decide_eq_true rfl, Bool.true_and, hq])
      clear hq
      go_enter Tryz.func53, Tryz.ntmps53
      go_wp2_with (go_at_call 75; refine (pushedok_any _ _ HSZ.out).mono ?_; rw [HQ.out]; rintro e w1 ⟨rfl, rfl⟩)
      go_ret
      exact ⟨ret_bool HC.out.symm, HB.out⟩
    · have HC := Lib.hid (show instrB 2 n s = false by unfold instrB; rw [if_neg (by decide), if_pos rfl, decide_eq_false hn, Bool.false_and])
      have hv2 : ((n : Int) == 0) = false := by rw [beq_eq_false_iff_ne]; exact hn

      go_enter Tryz.func53, Tryz.ntmps53
      go_wp2
      go_ret
      exact ⟨ret_bool HC.out.symm, HB.out⟩
  by_cases e3 : op = 3
  · subst e3
    obtain ⟨F, hF⟩ : ∃ F, fieldB 3 = F := ⟨_, rfl⟩
    have c1 := (HT.out.cell 3 (by omega)).2.1
    rw [hF] at c1
    have q1 : (F.toList == [78]) = true := lit_yes (by rw [← hF]; rfl)
    have q2 : (F.toList == [83]) = false := lit_no (by rw [← hF]; decide)
    clear hF
    have HC := Lib.hid (show instrB 3 n s = decide (s.size = 0) by unfold instrB; rw [if_neg (by decide), if_neg (by decide), if_pos rfl])
    by_cases h0 : s.size = 0
    · rw [decide_eq_true h0] at HC
      have HQ := Lib.hid (push_empty h0)
      have he : s.toList.isEmpty = true := ba_nil h0
      go_enter Tryz.func53, Tryz.ntmps53
      go_wp2_with (go_at_call 75; refine (pushedok_any _ _ HSZ.out).mono ?_; rw [HQ.out]; rintro e w1 ⟨rfl, rfl⟩)
      go_ret
      exact ⟨ret_bool HC.out.symm, HB.out⟩
    · rw [decide_eq_false h0] at HC
      have he : s.toList.isEmpty = false := ba_some (by omega)
      go_enter Tryz.func53, Tryz.ntmps53
      go_wp2
      go_ret
      exact ⟨ret_bool HC.out.symm, HB.out⟩
  have HC := Lib.hid (show instrB op n s = (decide (n = 0) && decide (s.size = 0)) by unfold instrB; rw [if_neg e1, if_neg e2, if_neg e3, decide_eq_true (by omega : 4 ≤ op ∧ op ≤ 14), Bool.true_and])
  obtain ⟨x, hx⟩ : ∃ x : Nat, op = x := ⟨op.toNat, by omega⟩
  subst hx
  have k1 : ((x : Int) == 1) = false := by rw [beq_eq_false_iff_ne]; exact e1
  have hF0 : fieldB x = ByteArray.empty := by
    unfold fieldB
    split <;> first | rfl | (exfalso; omega)
  have x0 : (0 : Int) ≤ (x : Int) := by omega
  have x1 : (x : Int) < 15 := by omega
  have x2 : ¬ (x : Int) < 1 := by omega
  have x3 : ¬ (14 : Int) < (x : Int) := by omega
  obtain ⟨F, hF⟩ : ∃ F, fieldB x = F := ⟨_, rfl⟩
  have c1 := (HT.out.cell x (by omega)).2.1
  rw [hF] at c1
  have q1 : (F.toList == [78]) = false := lit_no (by rw [← hF, hF0]; decide)
  have q2 : (F.toList == [83]) = false := lit_no (by rw [← hF, hF0]; decide)
  clear hF hF0 e1 e2 e3 hlo hhi
  by_cases hn : n = 0
  · subst hn
    rw [decide_eq_true rfl, Bool.true_and] at HC
    by_cases h0 : s.size = 0
    · rw [decide_eq_true h0] at HC
      have HQ := Lib.hid (push_empty h0)
      have he : s.toList.isEmpty = true := ba_nil h0
      go_enter Tryz.func53, Tryz.ntmps53
      go_wp2_with (go_at_call 75; refine (pushedok_any _ _ HSZ.out).mono ?_; rw [HQ.out]; rintro e w1 ⟨rfl, rfl⟩)
      go_ret
      exact ⟨ret_bool HC.out.symm, HB.out⟩
    · rw [decide_eq_false h0] at HC
      have he : s.toList.isEmpty = false := ba_some (by omega)
      go_enter Tryz.func53, Tryz.ntmps53
      go_wp2
      go_ret
      exact ⟨ret_bool HC.out.symm, HB.out⟩
  · rw [decide_eq_false hn, Bool.false_and] at HC
    have hv2 : ((n : Int) == 0) = false := by rw [beq_eq_false_iff_ne]; exact hn

    go_enter Tryz.func53, Tryz.ntmps53
    go_wp2
    go_ret
    exact ⟨ret_bool HC.out.symm, HB.out⟩
end Go.Proofs.YthnlllbanfemaaaGreatDoor
