
/- JobOk and TasksOf of the program and of its model. Only new blocks are made. -/
import Derived.Test.YtjofbeokkainlaaGreatDoorMg2
import Derived.Test.YtjofbeokkainlaaGreatDoorMg15
import Derived.Test.YtjofbeokkainlaaGreatDoorMg16
import Derived.Test.YtjofbeokkainlaaGreatDoorMg1
namespace Go.Proofs.YtjofbeokkainlaaGreatDoor
open Go.ChangeShapes Go.WideShapes Go.ChangeAt Go.RowKit
set_option linter.unusedVariables false
set_option maxRecDepth 100000

def splitB (m : Strs) (i : Nat) : Bool := linesK (strAt m i).data.toList
def allB (m : Strs) : Nat → Bool
  | 0 => true
  | k + 1 => allB m k && splitB m k
theorem allB_step {m : Strs} {k : Nat} (h : allB m k = true) (h1 : splitB m k = true) : allB m (k + 1) = true := by
  show (allB m k && splitB m k) = true
  rw [h, h1]; rfl
theorem allB_bad {m : Strs} {k : Nat} : ∀ {n : Nat}, k < n → splitB m k = false → allB m n = false
  | n + 1, hk, h => by
    show (allB m n && splitB m n) = false
    by_cases hn : k = n
    · subst hn; rw [h, Bool.and_false]
    · rw [allB_bad (by omega) h, Bool.false_and]
def splitsB (m : Strs) (n : Nat) : Bool := inB n 1 4 && allB m n
def jobB (l : Instrs) (o1 n1 : Int) (m : Strs) (sl : Nat) : Bool := progB l && (opOkB o1 && (inB n1 1 3 && splitsB m sl))

set_option maxHeartbeats 2000000 in
theorem splitsok_any (s : Option Addr) (sl sc : Nat) (m : Strs) (w : World) (h : StrsAt w s sl m) (hsz : ∀ i, i < sl → (strAt m i).size ≤ 1048576) :
    Calls Tryz.prog 48 #[.slice s sl sc] w (MadeBool (splitsB m sl) w) := by
  have HR := Lib.hid h
  have HZ := Lib.hid hsz
  clear h hsz
  by_cases h1 : (sl : Int) < 1
  · have HQ := Lib.hid (show splitsB m sl = false by unfold splitsB inB; rw [decide_eq_false (by omega), Bool.false_and])
    go_enter Tryz.func48, Tryz.ntmps48
    go_wp2
    go_ret
    exact ⟨ret_bool HQ.out.symm, Below.refl _ _⟩
  by_cases h4 : (4 : Int) < sl
  · have HQ := Lib.hid (show splitsB m sl = false by unfold splitsB inB; rw [decide_eq_false (by omega), Bool.false_and])
    go_enter Tryz.func48, Tryz.ntmps48
    go_wp2
    go_ret
    exact ⟨ret_bool HQ.out.symm, Below.refl _ _⟩
  have HI := Lib.hid (show splitsB m sl = allB m sl by unfold splitsB inB; rw [decide_eq_true (by omega), Bool.true_and])
  go_enter Tryz.func48, Tryz.ntmps48
  go_wp2
  go_loopw [17] (fun i wr => ∃ k : Nat, k ≤ sl ∧ i = .int .i64 k ∧ Hid (allB m k = true) ∧ Hid (Below w.heap.size w wr)) (fun i _ => sl - (intOf i).toNat)
  case atStart => exact ⟨0, Nat.zero_le _, rfl, Lib.hid rfl, Lib.hid (Below.refl _ _)⟩
  case round =>
    obtain ⟨k, hk, rfl, HA, HW⟩ := hrel
    by_cases hlt : k < sl
    · rcases (HR.out.keep HW.out).src with hz | ⟨b, off, rfl, hb, hc⟩
      · omega
      have c0 := hc k hlt
      have hi0 : (0 : Int) ≤ (k : Int) := by omega
      have hi1 : (k : Int) < (sl : Int) := by omega
      obtain ⟨t, ht⟩ : ∃ t, strAt m k = t := ⟨_, rfl⟩
      have HT := Lib.hid ht
      have hts := HZ.out k hlt
      rw [ht] at c0 hts
      clear hc hb ht
      go_wp2_with fail
      refine (linesof_any t _ hts).mono ?_
      obtain ⟨q, hq⟩ : ∃ q, linesK t.data.toList = q := ⟨_, rfl⟩
      have HQ := Lib.hid (show splitB m k = q by unfold splitB; rw [HT.out]; exact hq)
      rw [hq]
      rintro e w3 ⟨q3, cp3, rfl, _, hB⟩
      have HW := Lib.hid (below_via HW.out hB)
      clear hB c0 hq
      cases q
      · have HC := Lib.hid (HI.out.trans (allB_bad hlt HQ.out))
        go_wp2
        go_ret
        exact ⟨ret_bool HC.out.symm, HW.out⟩
      · go_wp2
        go_roundw
        case rel => exact ⟨k + 1, by omega, by go_num, Lib.hid (allB_step HA.out HQ.out), HW⟩
        case measure => simp [intOf]; omega
    · obtain rfl : k = sl := by omega
      have HC := Lib.hid (HI.out.trans HA.out)
      go_wp2
      go_ret
      exact ⟨ret_bool HC.out.symm, HW.out⟩

set_option maxHeartbeats 2000000 in
theorem jobok_any (p s : Option Addr) (pl pc sl sc : Nat) (e1 : Bool) (o1 n1 : Int) (l : Instrs) (m : Strs) (w : World) (h : JobAt w p pl l s sl m) (hsz : ∀ i, i < sl → (strAt m i).size ≤ 1048576) (hT : TabsP w) :
    Calls Tryz.prog 22 #[.agg #[.slice p pl pc, .bool e1, .int .i64 o1, .int .i64 n1, .slice s sl sc]] w (MadeBool (jobB l o1 n1 m sl) w) := by
  have HB := Lib.hid (below_alloc (Below.refl w.heap.size w) (.cells #[.slice p pl pc, .bool e1, .int .i64 o1, .int .i64 n1, .slice s sl sc] 27))
  have HX := Lib.hid (row_new w #[.slice p pl pc, .bool e1, .int .i64 o1, .int .i64 n1, .slice s sl sc] 27)
  have HS := Lib.hid (h.keep HB.out)
  have HT := Lib.hid (hT.keep HB.out)
  have HZ := Lib.hid hsz
  obtain ⟨q0, hq0⟩ : ∃ q0, jobB l o1 n1 m sl = q0 := ⟨_, rfl⟩
  obtain ⟨q1, hq1⟩ : ∃ q1, progB l = q1 := ⟨_, rfl⟩
  obtain ⟨q2, hq2⟩ : ∃ q2, opOkB o1 = q2 := ⟨_, rfl⟩
  obtain ⟨q4, hq4⟩ : ∃ q4, splitsB m sl = q4 := ⟨_, rfl⟩
  have H0 := Lib.hid hq0
  have H1 := Lib.hid hq1
  have H2 := Lib.hid hq2
  have H4 := Lib.hid hq4
  have HJ := Lib.hid (show q0 = (q1 && (q2 && (inB n1 1 3 && q4))) by rw [← hq0, ← hq1, ← hq2, ← hq4]; rfl)
  rw [hq0]
  clear h hsz hT hq0 hq1 hq2 hq4
  go_enter Tryz.func22, Tryz.ntmps22
  go_wp2_with fail
  refine (combiner_any o1 _).mono ?_
  rw [H2.out]
  rintro e w1 ⟨f, rfl, rfl⟩
  go_wp2_with fail
  refine (progok_any _ _ _ _ _ HS.out.i HT.out).mono ?_
  rw [H1.out]
  rintro e w2 ⟨rfl, hB⟩
  have HX := Lib.hid (HX.out.keep hB)
  have HS := Lib.hid (HS.out.keep hB)
  have HB := Lib.hid (below_via HB.out hB)
  have c3 := HX.out.cell (j := 3) (by simp)
  have c4 := HX.out.cell (j := 4) (by simp)
  simp at c3 c4
  clear hB
  cases q1
  · go_wp2
    go_ret
    exact ⟨ret_bool (by rw [HJ.out]; rfl), HB.out⟩
  cases q2
  · go_wp2
    go_ret
    exact ⟨ret_bool (by rw [HJ.out]; rfl), HB.out⟩
  by_cases g1 : 1 ≤ n1
  · by_cases g3 : n1 ≤ 3
    · have HI := Lib.hid (show inB n1 1 3 = true by unfold inB; exact decide_eq_true ⟨g1, g3⟩)
      go_wp2_with fail
      refine (splitsok_any _ _ _ _ _ HS.out.t HZ.out).mono ?_
      rw [H4.out]
      rintro e w3 ⟨rfl, hB⟩
      have HB := Lib.hid (below_via HB.out hB)
      clear hB
      go_wp2
      go_ret
      exact ⟨ret_bool (by rw [HJ.out, HI.out]; rfl), HB.out⟩
    · have HI := Lib.hid (show inB n1 1 3 = false by unfold inB; exact decide_eq_false (by omega))
      go_wp2
      go_ret
      exact ⟨ret_bool (by rw [HJ.out, HI.out]; rfl), HB.out⟩
  · have HI := Lib.hid (show inB n1 1 3 = false by unfold inB; exact decide_eq_false (by omega))
    go_wp2
    go_ret
    exact ⟨ret_bool (by rw [HJ.out, HI.out]; rfl), HB.out⟩

set_option maxHeartbeats 2000000 in
theorem sjobok_any (p s : Option Addr) (pl pc sl sc : Nat) (e1 : Bool) (o1 n1 : Int) (l : Instrs) (m : Strs) (w : World) (h : JobAt w p pl l s sl m) (hsz : ∀ i, i < sl → (strAt m i).size ≤ 1048576) :
    Calls Tryz.prog 24 #[.agg #[.slice p pl pc, .bool e1, .int .i64 o1, .int .i64 n1, .slice s sl sc]] w (MadeBool (jobB l o1 n1 m sl) w) := by
  have HB := Lib.hid (below_alloc (Below.refl w.heap.size w) (.cells #[.slice p pl pc, .bool e1, .int .i64 o1, .int .i64 n1, .slice s sl sc] 27))
  have HX := Lib.hid (row_new w #[.slice p pl pc, .bool e1, .int .i64 o1, .int .i64 n1, .slice s sl sc] 27)
  have HS := Lib.hid (h.keep HB.out)
  have HZ := Lib.hid hsz
  have hm := h.t.max
  unfold maxLen at hm
  obtain ⟨q0, hq0⟩ : ∃ q0, jobB l o1 n1 m sl = q0 := ⟨_, rfl⟩
  obtain ⟨q1, hq1⟩ : ∃ q1, progB l = q1 := ⟨_, rfl⟩
  obtain ⟨q2, hq2⟩ : ∃ q2, opOkB o1 = q2 := ⟨_, rfl⟩
  obtain ⟨q3, hq3⟩ : ∃ q3, inB n1 1 3 = q3 := ⟨_, rfl⟩
  obtain ⟨q4, hq4⟩ : ∃ q4, inB sl 1 4 = q4 := ⟨_, rfl⟩
  have H1 := Lib.hid hq1
  have H2 := Lib.hid hq2
  have H3 := Lib.hid hq3
  have H4 := Lib.hid hq4
  have HJ := Lib.hid (show q0 = (q1 && (q2 && (q3 && (q4 && allB m sl)))) by rw [← hq0, ← hq1, ← hq2, ← hq3, ← hq4]; rfl)
  rw [hq0]
  clear h hsz hq0 hq1 hq2 hq3 hq4
  obtain ⟨W0, hW0⟩ : ∃ W0, w.alloc (.cells #[.slice p pl pc, .bool e1, .int .i64 o1, .int .i64 n1, .slice s sl sc] 27) = W0 := ⟨_, rfl⟩
  have HW0 := Lib.hid hW0
  rw [hW0] at HB HX HS
  clear hW0
  go_enter Tryz.func24, Tryz.ntmps24
  go_wp2
  rw [HW0.out]
  go_loopw [3] (fun i wr => ∃ k : Nat, k ≤ sl ∧ i = .int .i64 k ∧ Hid (allB m k = true) ∧ Hid (Below W0.heap.size W0 wr)) (fun i _ => sl - (intOf i).toNat)
  case atStart => exact ⟨0, Nat.zero_le _, rfl, Lib.hid rfl, Lib.hid (Below.refl _ _)⟩
  case round =>
    obtain ⟨k, hk, rfl, HA, HW⟩ := hrel
    have HX := Lib.hid (HX.out.keep HW.out)
    have x0 := HX.out.cell (j := 0) (by simp)
    have x2 := HX.out.cell (j := 2) (by simp)
    have x3 := HX.out.cell (j := 3) (by simp)
    have x4 := HX.out.cell (j := 4) (by simp)
    simp at x0 x2 x3 x4
    by_cases hlt : k < sl
    · rcases (HS.out.keep HW.out).t.src with hz | ⟨b, off, rfl, hb, hc⟩
      · omega
      have c0 := hc k hlt
      have hi0 : (0 : Int) ≤ (k : Int) := by omega
      have hi1 : (k : Int) < (sl : Int) := by omega
      obtain ⟨t, ht⟩ : ∃ t, strAt m k = t := ⟨_, rfl⟩
      have HT := Lib.hid ht
      have hts := HZ.out k hlt
      rw [ht] at c0 hts
      clear hc hb ht x0 x2 x3
      go_wp2_with fail
      refine (slinesof_any t _ hts).mono ?_
      obtain ⟨q, hq⟩ : ∃ q, linesK t.data.toList = q := ⟨_, rfl⟩
      have HQ := Lib.hid (show splitB m k = q by unfold splitB; rw [HT.out]; exact hq)
      rw [hq]
      rintro e w3 ⟨q5, cp5, rfl, _, hB⟩
      have HW := Lib.hid (below_via HW.out hB)
      clear hB c0 hq x4
      cases q
      · have HC := Lib.hid (show q0 = false by rw [HJ.out, allB_bad hlt HQ.out]; simp)
        go_wp2
        go_ret
        exact ⟨ret_bool HC.out.symm, below_via HB.out HW.out⟩
      · go_wp2
        go_roundw
        case rel => exact ⟨k + 1, by omega, by go_num, Lib.hid (allB_step HA.out HQ.out), HW⟩
        case measure => simp [intOf]; omega
    · obtain rfl : k = sl := by omega
      have HJ := Lib.hid (HJ.out.trans (by rw [HA.out, Bool.and_true]))
      have HS := Lib.hid (HS.out.keep HW.out)
      have HB := Lib.hid (below_via HB.out HW.out)
      clear HW
      go_wp2_with fail
      refine (sprogok_any _ _ _ _ _ HS.out.i).mono ?_
      rw [H1.out]
      rintro e w2 ⟨rfl, hB⟩
      have HX := Lib.hid (HX.out.keep hB)
      have HB := Lib.hid (below_via HB.out hB)
      clear x0 x2 x3 x4 hB
      have x2 := HX.out.cell (j := 2) (by simp)
      have x3 := HX.out.cell (j := 3) (by simp)
      have x4 := HX.out.cell (j := 4) (by simp)
      simp at x2 x3 x4
      cases q1
      · go_wp2
        go_ret
        exact ⟨ret_bool (by rw [HJ.out]; rfl), HB.out⟩
      go_wp2_with fail
      refine (l4op_any _ _).mono ?_
      rw [H2.out]
      rintro e w3 ⟨rfl, rfl⟩
      cases q2
      · go_wp2
        go_ret
        exact ⟨ret_bool (by rw [HJ.out]; rfl), HB.out⟩
      go_wp2_with fail
      refine (l1in_any _ _ _ _).mono ?_
      rw [H3.out]
      rintro e w3 ⟨rfl, rfl⟩
      cases q3
      · go_wp2
        go_ret
        exact ⟨ret_bool (by rw [HJ.out]; rfl), HB.out⟩
      go_wp2_with fail
      refine (l1in_any _ _ _ _).mono ?_
      rw [H4.out]
      rintro e w3 ⟨rfl, rfl⟩
      go_wp2
      go_ret
      exact ⟨ret_bool (by rw [HJ.out]; rfl), HB.out⟩
end Go.Proofs.YtjofbeokkainlaaGreatDoor
