/- Texts put together, as a claim holds at most sixty files. -/
import Derived.Test.YtdphganbnlmgcaaGreatDoorMg33
import Derived.Test.YtdphganbnlmgcaaGreatDoorMg13
import Derived.Test.YtdphganbnlmgcaaGreatDoorMg21
import Derived.Test.YtdphganbnlmgcaaGreatDoorMg20
import Derived.Test.YtdphganbnlmgcaaGreatDoorMg0
import Derived.Test.YtdphganbnlmgcaaGreatDoorMg19
import Derived.Test.YtdphganbnlmgcaaGreatDoorEvalS
import Derived.Test.YtdphganbnlmgcaaGreatDoorMg30
import Derived.Test.YtdphganbnlmgcaaGreatDoorMg32
import Derived.Test.YtdphganbnlmgcaaGreatDoorMg10
namespace Go.Proofs.YtdphganbnlmgcaaGreatDoor
open Go.ChangeShapes Go.WideShapes Go.ChangeAt Go.RowKit
set_option linter.unusedVariables false
set_option maxRecDepth 100000

def splitB (m : Strs) (i : Nat) : Bool := linesK (strAt m i).data.toList
def allB (m : Strs) : Nat → Bool
  | 0 => true
  | k + 1 => allB m k && splitB m k
theorem allB_step {m : Strs} {k : Nat} (h : allB m k = true) (h1 : splitB m k = true) : allB m (k + 1) = true := by
  show (allB m k && splitB m k) = true
  rw [h, h1]; rfl
theorem allB_bad {m : Strs} {k : Nat} : ∀ {n : Nat}, k < n → splitB m k = false → allB m n = false
  | n + 1, hk, h => by
    show (allB m n && splitB m n) = false
    by_cases hn : k = n
    · subst hn; rw [h, Bool.and_false]
    · rw [allB_bad (by omega) h, Bool.false_and]
def splitsB (m : Strs) (n : Nat) : Bool := inB n 1 4 && allB m n
def jobB (l : Instrs) (o1 n1 : Int) (m : Strs) (sl : Nat) : Bool := progB l && (opOkB o1 && (inB n1 1 3 && splitsB m sl))

set_option maxHeartbeats 2000000 in
theorem splitsok_any (s : Option Addr) (sl sc : Nat) (m : Strs) (w : World) (h : StrsAt w s sl m) (hsz : ∀ i, i < sl → (strAt m i).size ≤ 1048576) :
    Calls Tryz.prog 47 #[.slice s sl sc] w (MadeBool (splitsB m sl) w) := by
  have HR := Lib.hid h
  have HZ := Lib.hid hsz
  clear h hsz
  by_cases h1 : (sl : Int) < 1
  · have HQ := Lib.hid (show splitsB m sl = false by unfold splitsB inB; rw [decide_eq_false (by omega), Bool.false_and])
    go_enter Tryz.func47, Tryz.ntmps47
    go_wp2
    go_ret
    exact ⟨ret_bool HQ.out.symm, Below.refl _ _⟩
  by_cases h4 : (4 : Int) < sl
  · have HQ := Lib.hid (show splitsB m sl = false by unfold splitsB inB; rw [decide_eq_false (by omega), Bool.false_and])
    go_enter Tryz.func47, Tryz.ntmps47
    go_wp2
    go_ret
    exact ⟨ret_bool HQ.out.symm, Below.refl _ _⟩
  have HI := Lib.hid (show splitsB m sl = allB m sl by unfold splitsB inB; rw [decide_eq_true (by omega), Bool.true_and])
  go_enter Tryz.func47, Tryz.ntmps47
  go_wp2
  go_loopw [17] (fun i wr => ∃ k : Nat, k ≤ sl ∧ i = .int .i64 k ∧ Hid (allB m k = true) ∧ Hid (Below w.heap.size w wr)) (fun i _ => sl - (intOf i).toNat)
  case atStart => exact ⟨0, Nat.zero_le _, rfl, Lib.hid rfl, Lib.hid (Below.refl _ _)⟩
  case round =>
    obtain ⟨k, hk, rfl, HA, HW⟩ := hrel
    by_cases hlt : k < sl
    · rcases (HR.out.keep HW.out).src with hz | ⟨b, off, rfl, hb, hc⟩
      · omega
      have c0 := hc k hlt
      have hi0 : (0 : Int) ≤ (k : Int) := by omega
      have hi1 : (k : Int) < (sl : Int) := by omega
      obtain ⟨t, ht⟩ : ∃ t, strAt m k = t := ⟨_, rfl⟩
      have HT := Lib.hid ht
      have hts := HZ.out k hlt
      rw [ht] at c0 hts
      clear hc hb ht
      go_wp2_with fail
      refine (linesof_any t _ hts).mono ?_
      obtain ⟨q, hq⟩ : ∃ q, linesK t.data.toList = q := ⟨_, rfl⟩
      have HQ := Lib.hid (show splitB m k = q by unfold splitB; rw [HT.out]; exact hq)
      rw [hq]
      rintro e w3 ⟨q3, cp3, rfl, _, hB⟩
      have HW := Lib.hid (below_via HW.out hB)
      clear hB c0 hq
      cases q
      · have HC := Lib.hid (HI.out.trans (allB_bad hlt HQ.out))
        go_wp2
        go_ret
        exact ⟨ret_bool HC.out.symm, HW.out⟩
      · go_wp2
        go_roundw
        case rel => exact ⟨k + 1, by omega, by go_num, Lib.hid (allB_step HA.out HQ.out), HW⟩
        case measure => simp [intOf]; omega
    · obtain rfl : k = sl := by omega
      have HC := Lib.hid (HI.out.trans HA.out)
      go_wp2
      go_ret
      exact ⟨ret_bool HC.out.symm, HW.out⟩

set_option maxHeartbeats 2000000 in
theorem jobok_any (p s : Option Addr) (pl pc sl sc : Nat) (e1 : Bool) (o1 n1 : Int) (l : Instrs) (m : Strs) (w : World) (h : JobAt w p pl l s sl m) (hsz : ∀ i, i < sl → (strAt m i).size ≤ 1048576) (hT : TabsP w) :
    Calls Tryz.prog 24 #[.agg #[.slice p pl pc, .bool e1, .int .i64 o1, .int .i64 n1, .slice s sl sc]] w (MadeBool (jobB l o1 n1 m sl) w) := by
  have HB := Lib.hid (below_alloc (Below.refl w.heap.size w) (.cells #[.slice p pl pc, .bool e1, .int .i64 o1, .int .i64 n1, .slice s sl sc] 32))
  have HX := Lib.hid (row_new w #[.slice p pl pc, .bool e1, .int .i64 o1, .int .i64 n1, .slice s sl sc] 32)
  have HS := Lib.hid (h.keep HB.out)
  have HT := Lib.hid (hT.keep HB.out)
  have HZ := Lib.hid hsz
  obtain ⟨q0, hq0⟩ : ∃ q0, jobB l o1 n1 m sl = q0 := ⟨_, rfl⟩
  obtain ⟨q1, hq1⟩ : ∃ q1, progB l = q1 := ⟨_, rfl⟩
  obtain ⟨q2, hq2⟩ : ∃ q2, opOkB o1 = q2 := ⟨_, rfl⟩
  obtain ⟨q4, hq4⟩ : ∃ q4, splitsB m sl = q4 := ⟨_, rfl⟩
  have H0 := Lib.hid hq0
  have H1 := Lib.hid hq1
  have H2 := Lib.hid hq2
  have H4 := Lib.hid hq4
  have HJ := Lib.hid (show q0 = (q1 && (q2 && (inB n1 1 3 && q4))) by rw [← hq0, ← hq1, ← hq2, ← hq4]; rfl)
  rw [hq0]
  clear h hsz hT hq0 hq1 hq2 hq4
  go_enter Tryz.func24, Tryz.ntmps24
  go_wp2_with fail
  refine (combiner_any o1 _).mono ?_
  rw [H2.out]
  rintro e w1 ⟨f, rfl, rfl⟩
  go_wp2_with fail
  refine (progok_any _ _ _ _ _ HS.out.i HT.out).mono ?_
  rw [H1.out]
  rintro e w2 ⟨rfl, hB⟩
  have HX := Lib.hid (HX.out.keep hB)
  have HS := Lib.hid (HS.out.keep hB)
  have HB := Lib.hid (below_via HB.out hB)
  have c3 := HX.out.cell (j := 3) (by simp)
  have c4 := HX.out.cell (j := 4) (by simp)
  simp at c3 c4
  clear hB
  cases q1
  · go_wp2
    go_ret
    exact ⟨ret_bool (by rw [HJ.out]; rfl), HB.out⟩
  cases q2
  · go_wp2
    go_ret
    exact ⟨ret_bool (by rw [HJ.out]; rfl), HB.out⟩
  by_cases g1 : 1 ≤ n1
  · by_cases g3 : n1 ≤ 3
    · have HI := Lib.hid (show inB n1 1 3 = true by unfold inB; exact decide_eq_true ⟨g1, g3⟩)
      go_wp2_with fail
      refine (splitsok_any _ _ _ _ _ HS.out.t HZ.out).mono ?_
      rw [H4.out]
      rintro e w3 ⟨rfl, hB⟩
      have HB := Lib.hid (below_via HB.out hB)
      clear hB
      go_wp2
      go_ret
      exact ⟨ret_bool (by rw [HJ.out, HI.out]; rfl), HB.out⟩
    · have HI := Lib.hid (show inB n1 1 3 = false by unfold inB; exact decide_eq_false (by omega))
      go_wp2
      go_ret
      exact ⟨ret_bool (by rw [HJ.out, HI.out]; rfl), HB.out⟩
  · have HI := Lib.hid (show inB n1 1 3 = false by unfold inB; exact decide_eq_false (by omega))
    go_wp2
    go_ret
    exact ⟨ret_bool (by rw [HJ.out, HI.out]; rfl), HB.out⟩

set_option maxHeartbeats 2000000 in
theorem sjobok_any (p s : Option Addr) (pl pc sl sc : Nat) (e1 : Bool) (o1 n1 : Int) (l : Instrs) (m : Strs) (w : World) (h : JobAt w p pl l s sl m) (hsz : ∀ i, i < sl → (strAt m i).size ≤ 1048576) :
    Calls Tryz.prog 15 #[.agg #[.slice p pl pc, .bool e1, .int .i64 o1, .int .i64 n1, .slice s sl sc]] w (MadeBool (jobB l o1 n1 m sl) w) := by
  have HB := Lib.hid (below_alloc (Below.refl w.heap.size w) (.cells #[.slice p pl pc, .bool e1, .int .i64 o1, .int .i64 n1, .slice s sl sc] 32))
  have HX := Lib.hid (row_new w #[.slice p pl pc, .bool e1, .int .i64 o1, .int .i64 n1, .slice s sl sc] 32)
  have HS := Lib.hid (h.keep HB.out)
  have HZ := Lib.hid hsz
  have hm := h.t.max
  unfold maxLen at hm
  obtain ⟨q0, hq0⟩ : ∃ q0, jobB l o1 n1 m sl = q0 := ⟨_, rfl⟩
  obtain ⟨q1, hq1⟩ : ∃ q1, progB l = q1 := ⟨_, rfl⟩
  obtain ⟨q2, hq2⟩ : ∃ q2, opOkB o1 = q2 := ⟨_, rfl⟩
  obtain ⟨q3, hq3⟩ : ∃ q3, inB n1 1 3 = q3 := ⟨_, rfl⟩
  obtain ⟨q4, hq4⟩ : ∃ q4, inB sl 1 4 = q4 := ⟨_, rfl⟩
  have H1 := Lib.hid hq1
  have H2 := Lib.hid hq2
  have H3 := Lib.hid hq3
  have H4 := Lib.hid hq4
  have HJ := Lib.hid (show q0 = (q1 && (q2 && (q3 && (q4 && allB m sl)))) by rw [← hq0, ← hq1, ← hq2, ← hq3, ← hq4]; rfl)
  rw [hq0]
  clear h hsz hq0 hq1 hq2 hq3 hq4
  obtain ⟨W0, hW0⟩ : ∃ W0, w.alloc (.cells #[.slice p pl pc, .bool e1, .int .i64 o1, .int .i64 n1, .slice s sl sc] 32) = W0 := ⟨_, rfl⟩
  have HW0 := Lib.hid hW0
  rw [hW0] at HB HX HS
  clear hW0
  go_enter Tryz.func15, Tryz.ntmps15
  go_wp2
  rw [HW0.out]
  go_loopw [3] (fun i wr => ∃ k : Nat, k ≤ sl ∧ i = .int .i64 k ∧ Hid (allB m k = true) ∧ Hid (Below W0.heap.size W0 wr)) (fun i _ => sl - (intOf i).toNat)
  case atStart => exact ⟨0, Nat.zero_le _, rfl, Lib.hid rfl, Lib.hid (Below.refl _ _)⟩
  case round =>
    obtain ⟨k, hk, rfl, HA, HW⟩ := hrel
    have HX := Lib.hid (HX.out.keep HW.out)
    have x0 := HX.out.cell (j := 0) (by simp)
    have x2 := HX.out.cell (j := 2) (by simp)
    have x3 := HX.out.cell (j := 3) (by simp)
    have x4 := HX.out.cell (j := 4) (by simp)
    simp at x0 x2 x3 x4
    by_cases hlt : k < sl
    · rcases (HS.out.keep HW.out).t.src with hz | ⟨b, off, rfl, hb, hc⟩
      · omega
      have c0 := hc k hlt
      have hi0 : (0 : Int) ≤ (k : Int) := by omega
      have hi1 : (k : Int) < (sl : Int) := by omega
      obtain ⟨t, ht⟩ : ∃ t, strAt m k = t := ⟨_, rfl⟩
      have HT := Lib.hid ht
      have hts := HZ.out k hlt
      rw [ht] at c0 hts
      clear hc hb ht x0 x2 x3
      go_wp2_with fail
      refine (slinesof_any t _ hts).mono ?_
      obtain ⟨q, hq⟩ : ∃ q, linesK t.data.toList = q := ⟨_, rfl⟩
      have HQ := Lib.hid (show splitB m k = q by unfold splitB; rw [HT.out]; exact hq)
      rw [hq]
      rintro e w3 ⟨q5, cp5, rfl, _, hB⟩
      have HW := Lib.hid (below_via HW.out hB)
      clear hB c0 hq x4
      cases q
      · have HC := Lib.hid (show q0 = false by rw [HJ.out, allB_bad hlt HQ.out]; simp)
        go_wp2
        go_ret
        exact ⟨ret_bool HC.out.symm, below_via HB.out HW.out⟩
      · go_wp2
        go_roundw
        case rel => exact ⟨k + 1, by omega, by go_num, Lib.hid (allB_step HA.out HQ.out), HW⟩
        case measure => simp [intOf]; omega
    · obtain rfl : k = sl := by omega
      have HJ := Lib.hid (HJ.out.trans (by rw [HA.out, Bool.and_true]))
      have HS := Lib.hid (HS.out.keep HW.out)
      have HB := Lib.hid (below_via HB.out HW.out)
      clear HW
      go_wp2_with fail
      refine (sprogok_any _ _ _ _ _ HS.out.i).mono ?_
      rw [H1.out]
      rintro e w2 ⟨rfl, hB⟩
      have HX := Lib.hid (HX.out.keep hB)
      have HB := Lib.hid (below_via HB.out hB)
      clear x0 x2 x3 x4 hB
      have x2 := HX.out.cell (j := 2) (by simp)
      have x3 := HX.out.cell (j := 3) (by simp)
      have x4 := HX.out.cell (j := 4) (by simp)
      simp at x2 x3 x4
      cases q1
      · go_wp2
        go_ret
        exact ⟨ret_bool (by rw [HJ.out]; rfl), HB.out⟩
      go_wp2_with fail
      refine (l4op_any _ _).mono ?_
      rw [H2.out]
      rintro e w3 ⟨rfl, rfl⟩
      cases q2
      · go_wp2
        go_ret
        exact ⟨ret_bool (by rw [HJ.out]; rfl), HB.out⟩
      go_wp2_with fail
      refine (l1in_any _ _ _ _).mono ?_
      rw [H3.out]
      rintro e w3 ⟨rfl, rfl⟩
      cases q3
      · go_wp2
        go_ret
        exact ⟨ret_bool (by rw [HJ.out]; rfl), HB.out⟩
      go_wp2_with fail
      refine (l1in_any _ _ _ _).mono ?_
      rw [H4.out]
      rintro e w3 ⟨rfl, rfl⟩
      go_wp2
      go_ret
      exact ⟨ret_bool (by rw [HJ.out]; rfl), HB.out⟩
end Go.Proofs.YtdphganbnlmgcaaGreatDoor
namespace Go.Proofs.YtdphganbnlmgcaaGreatDoor
open Go.ChangeShapes Go.WideShapes Go.ChangeAt Go.RowKit
set_option linter.unusedVariables false
set_option maxRecDepth 100000

theorem row_ne {w : World} {A B : Nat} {S T : TypeId} {x y : Array Value} (h : Row w A S x) (k : Row w B T y) (hne : S ≠ T) : A ≠ B := fun e => by
  subst e
  unfold Row at h k
  rw [h] at k
  simp at k
  exact hne k.2
theorem rk_of_rck {base : Nat} {w : World} {q : Option Addr} {W : Recs} (h : RcK base w q W) : Rs base w q W := h
theorem liftW_few (op : Int) (l : Recs) : (liftW op l).length ≤ 600 ∧ ∀ i, i < (liftW op l).length → (keyAt (liftW op l) i).size ≤ 40 := by
  unfold liftW
  cases h : (opOkB op && recsOkB l) with
  | false => exact ⟨by simp, fun i hi => absurd hi (by simp)⟩
  | true =>
    rw [Bool.and_eq_true] at h
    have hr := recsOk_parts h.2
    rw [if_pos rfl, liftL_len]
    refine ⟨hr.1, fun i hi => ?_⟩
    rw [(liftL_at op l i hi).1]
    have := hr.2 i hi
    unfold okAt okB at this
    simpa using this
theorem recs_lift {base : Nat} {w : World} {q : Option Addr} {op : Int} {l : Recs} {n : Nat} (h : Rs base w q (liftW op l)) (hn : (liftW op l).length = n) : RecsAt w q n (liftW op l) := by
  have hf := liftW_few op l
  rw [hn] at hf
  exact recs_of_rs h hn (by have := hf.1; unfold maxLen; omega) (fun i hi => by have := hf.2 i hi; unfold maxLen; omega)
/-- The run of part p. -/
def ofR (op n1 : Int) (V : Recs) (p : Nat) : Recs := combW op (liftW op (partL V n1 p))
/-- The runs of the first k parts. -/
def runsR (op n1 : Int) (V : Recs) (k : Nat) : List Recs := (List.range k).map (ofR op n1 V)
theorem runsR_len (op n1 : Int) (V : Recs) (k : Nat) : (runsR op n1 V k).length = k := by simp [runsR]
theorem runsR_at {op n1 : Int} {V : Recs} {k i : Nat} (h : i < k) : (runsR op n1 V k).getD i [] = ofR op n1 V i := by
  unfold runsR
  rw [List.getD_eq_getElem?_getD, List.getElem?_map, List.getElem?_range h]; rfl
/-- What a split of a valid job yields. -/
def mapR (l : Instrs) (each : Bool) (op n1 : Int) (s : ByteArray) : List Recs × Int :=
  if (emitR l each (strsOf (linesW s.data.toList))).2 = 0 then (runsR op n1 (emitR l each (strsOf (linesW s.data.toList))).1 n1.toNat, 0) else ([], (emitR l each (strsOf (linesW s.data.toList))).2)
theorem mapR_go {l : Instrs} {each : Bool} {op n1 : Int} {s : ByteArray} {V : Recs} (h : emitR l each (strsOf (linesW s.data.toList)) = (V, 0)) : mapR l each op n1 s = (runsR op n1 V n1.toNat, 0) := by
  unfold mapR; rw [h, if_pos rfl]
theorem mapR_stop {l : Instrs} {each : Bool} {op n1 : Int} {s : ByteArray} {V : Recs} {c : Int} (h : emitR l each (strsOf (linesW s.data.toList)) = (V, c)) (hc : c ≠ 0) : mapR l each op n1 s = ([], c) := by
  unfold mapR; rw [h, if_neg hc]
/-- What a map task yields. -/
def mapJ (l : Instrs) (each : Bool) (op n1 : Int) (m : Strs) (sl : Nat) (t : Int) : List Recs × Int :=
  if jobB l op n1 m sl = true ∧ 0 ≤ t ∧ t < sl then mapR l each op n1 (strAt m t.toNat) else ([], 1)
theorem mapJ_no {l : Instrs} {each : Bool} {op n1 : Int} {m : Strs} {sl : Nat} {t : Int} (h : ¬ (jobB l op n1 m sl = true ∧ 0 ≤ t ∧ t < sl)) : mapJ l each op n1 m sl t = ([], 1) := by
  unfold mapJ; rw [if_neg h]
theorem mapJ_yes {l : Instrs} {each : Bool} {op n1 : Int} {m : Strs} {sl : Nat} {t : Int} (h : jobB l op n1 m sl = true) (h0 : 0 ≤ t) (h1 : t < sl) : mapJ l each op n1 m sl t = mapR l each op n1 (strAt m t.toNat) := by
  unfold mapJ; rw [if_pos ⟨h, h0, h1⟩]
/-- Few runs, each short. -/
structure FewSS (LS : List Recs) : Prop where
  few : LS.length ≤ 3
  recs : ∀ i, i < LS.length → nAt LS i ≤ 600
  keys : ∀ i, i < LS.length → ∀ j, j < nAt LS i → (keyAt (LS.getD i []) j).size ≤ 40
theorem fewSS_nil : FewSS [] := ⟨by simp, fun i hi => absurd hi (by simp), fun i hi => absurd hi (by simp)⟩
theorem runsR_few {op n1 : Int} {V : Recs} {k : Nat} (hk : k ≤ 3) : FewSS (runsR op n1 V k) := by
  refine ⟨by rw [runsR_len]; exact hk, fun i hi => ?_, fun i hi j hj => ?_⟩
  · rw [runsR_len] at hi
    unfold nAt
    rw [runsR_at hi]
    exact (combW_few _ _).1
  · rw [runsR_len] at hi
    unfold nAt at hj
    rw [runsR_at hi] at hj ⊢
    exact (combW_few _ _).2 j hj
theorem jobB_parts {l : Instrs} {op n1 : Int} {m : Strs} {sl : Nat} (h : jobB l op n1 m sl = true) : 1 ≤ n1 ∧ n1 ≤ 3 ∧ 1 ≤ sl ∧ sl ≤ 4 ∧ opOkB op = true ∧ progB l = true := by
  unfold jobB splitsB inB at h
  simp only [Bool.and_eq_true, decide_eq_true_eq] at h
  obtain ⟨h1, h2, ⟨h3, h4⟩, ⟨h5, h6⟩, h7⟩ := h
  exact ⟨h3, h4, by omega, by omega, h2, h1⟩
theorem mapJ_few (l : Instrs) (each : Bool) (op n1 : Int) (m : Strs) (sl : Nat) (t : Int) : FewSS (mapJ l each op n1 m sl t).1 := by
  unfold mapJ
  split
  · rename_i h
    have hp := jobB_parts h.1
    unfold mapR
    split
    · exact runsR_few (by omega)
    · exact fewSS_nil
  · exact fewSS_nil
/-- The slice (q, length of LS) holds runs, each in a row of its own, from block base on. -/
def RunsB (base : Nat) (w : World) (q : Option Addr) (LS : List Recs) : Prop :=
  LS.length = 0 ∨ ∃ (G : Nat) (cur : Array Value) (g : Nat → Nat), q = some ⟨G, 0, none⟩ ∧ base ≤ G ∧ Row w G 45 cur ∧
    (∀ i, i < LS.length → ∃ p c, cur[i]? = some (.slice p (nAt LS i) c) ∧ (nAt LS i = 0 ∨ ∃ rc, p = some ⟨g i, 0, none⟩ ∧ base ≤ g i ∧ Row w (g i) 50 rc ∧ nAt LS i * 2 ≤ rc.size ∧ Laid rc (LS.getD i []) (nAt LS i))) ∧
    ∀ i j, i < j → j < LS.length → 0 < nAt LS i → 0 < nAt LS j → g i ≠ g j
theorem runsB_nil (base : Nat) (w : World) (q : Option Addr) : RunsB base w q [] := .inl rfl
theorem RunsB.keep {base : Nat} {w w1 : World} {q : Option Addr} {LS : List Recs} (h : RunsB base w q LS) (hB : Below w.heap.size w w1) : RunsB base w1 q LS := by
  rcases h with h | ⟨G, cur, g, hq, hb, hr, hi, hd⟩
  · exact .inl h
  · refine .inr ⟨G, cur, g, hq, hb, hr.keep hB, fun i hi2 => ?_, hd⟩
    obtain ⟨p, c, e1, e2⟩ := hi i hi2
    refine ⟨p, c, e1, ?_⟩
    rcases e2 with e2 | ⟨rc, r1, r2, r3, r4, r5⟩
    · exact .inl e2
    · exact .inr ⟨rc, r1, r2, r3.keep hB, r4, r5⟩
theorem RunsB.low {b1 b2 : Nat} {w : World} {q : Option Addr} {LS : List Recs} (h : RunsB b1 w q LS) (hb : b2 ≤ b1) : RunsB b2 w q LS := by
  rcases h with h | ⟨G, cur, g, hq, hb1, hr, hi, hd⟩
  · exact .inl h
  · refine .inr ⟨G, cur, g, hq, by omega, hr, fun i hi2 => ?_, hd⟩
    obtain ⟨p, c, e1, e2⟩ := hi i hi2
    refine ⟨p, c, e1, ?_⟩
    rcases e2 with e2 | ⟨rc, r1, r2, r3, r4, r5⟩
    · exact .inl e2
    · exact .inr ⟨rc, r1, by omega, r3, r4, r5⟩
theorem RunsB.grown {base : Nat} {w w1 : World} {q : Option Addr} {LS : List Recs} {X : Nat} (h : RunsB base w q LS) (hg : w.grownBy w1 (some X)) (hX : X < base) : RunsB base w1 q LS := by
  rcases h with h | ⟨G, cur, g, hq, hb, hr, hi, hd⟩
  · exact .inl h
  · refine .inr ⟨G, cur, g, hq, hb, hr.grown hg (by simp; omega), fun i hi2 => ?_, hd⟩
    obtain ⟨p, c, e1, e2⟩ := hi i hi2
    refine ⟨p, c, e1, ?_⟩
    rcases e2 with e2 | ⟨rc, r1, r2, r3, r4, r5⟩
    · exact .inl e2
    · exact .inr ⟨rc, r1, r2, r3.grown hg (by simp; omega), r4, r5⟩
theorem RunsB.ls {base : Nat} {w : World} {q : Option Addr} {LS : List Recs} (h : RunsB base w q LS) (hf : FewSS LS) : RunLs w q LS.length LS := by
  refine ⟨rfl, by have := hf.few; unfold maxLen; omega, ?_⟩
  rcases h with h | ⟨G, cur, g, hq, hb, hr, hi, hd⟩
  · exact .inl h
  · refine .inr ⟨G, 0, hq, hr.lt, fun i hi2 => ?_⟩
    obtain ⟨p, c, e1, e2⟩ := hi i hi2
    refine ⟨p, nAt LS i, c, by unfold Row at hr; simp [World.cell?, hr, e1], rfl, by have := hf.recs i hi2; unfold maxLen; omega, fun j hj => by have := hf.keys i hi2 j hj; unfold maxLen; omega, ?_⟩
    rcases e2 with e2 | ⟨rc, r1, r2, r3, r4, r5⟩
    · exact .inl e2
    · refine .inr ⟨g i, 0, r1, r3.lt, fun j hj => ?_⟩
      obtain ⟨x1, x2⟩ := r5 j hj
      unfold Row at r3
      constructor
      · simp [World.cell?, r3, x1]
      · simp [World.cell?, r3, x2]
/-- The end of a map task: its runs, in rows of their own, and its code. -/
def MadeSS (o : List Recs × Int) (w : World) (e : Ending) (w' : World) : Prop :=
  ∃ q cp, e = .returned (.tuple #[.slice q o.1.length cp, .int .i64 o.2]) ∧ Below w.heap.size w w' ∧ RunsB w.heap.size w' q o.1
theorem ss_none {o : List Recs × Int} {c : Int} {w w' : World} (h : o = ([], c)) (hB : Below w.heap.size w w') : MadeSS o w (.returned (.tuple #[.slice none 0 0, .int .i64 c])) w' := by
  subst h; exact ⟨none, 0, rfl, hB, runsB_nil _ _ _⟩
end Go.Proofs.YtdphganbnlmgcaaGreatDoor
namespace Go.Proofs.YtdphganbnlmgcaaGreatDoor
open Go.ChangeShapes Go.WideShapes Go.ChangeAt Go.RowKit Go.MuLone
set_option linter.unusedVariables false
set_option maxRecDepth 100000

/-- The program's runs so far, in row G. -/
def MpSt (R : List Recs) (N1 : Nat) (w3 wr : World) (G k : Nat) : Prop :=
  Below w3.heap.size w3 wr ∧ w3.heap.size ≤ G ∧ ∃ (cur : Array Value) (g : Nat → Nat), Row wr G 45 cur ∧ cur.size = N1 ∧
    (∀ i, i < k → ∃ p c, cur[i]? = some (.slice p (nAt R i) c) ∧ (nAt R i = 0 ∨ ∃ rc, p = some ⟨g i, 0, none⟩ ∧ w3.heap.size ≤ g i ∧ Row wr (g i) 50 rc ∧ nAt R i * 2 ≤ rc.size ∧ Laid rc (R.getD i []) (nAt R i))) ∧
    ∀ i j, i < j → j < k → 0 < nAt R i → 0 < nAt R j → g i ≠ g j
theorem MpSt.keep {R : List Recs} {N1 : Nat} {w3 wr w1 : World} {G k : Nat} (h : MpSt R N1 w3 wr G k) (hB : Below wr.heap.size wr w1) : MpSt R N1 w3 w1 G k := by
  obtain ⟨h1, h2, cur, g, h3, h4, h5, h6⟩ := h
  refine ⟨below_via h1 hB, h2, cur, g, h3.keep hB, h4, fun i hi => ?_, h6⟩
  obtain ⟨p, c, e1, e2⟩ := h5 i hi
  refine ⟨p, c, e1, ?_⟩
  rcases e2 with e2 | ⟨rc, r1, r2, r3, r4, r5⟩
  · exact .inl e2
  · exact .inr ⟨rc, r1, r2, r3.keep hB, r4, r5⟩
theorem MpSt.step {R : List Recs} {N1 : Nat} {w3 wr w8 : World} {G k : Nat} {q : Option Addr} {c : Nat} (h : MpSt R N1 w3 wr G k) (hB : Below wr.heap.size wr w8) (hr : Rs wr.heap.size w8 q (R.getD k [])) (hk : k < N1) : MpSt R N1 w3 (w8.setCell ⟨G, k, none⟩ (.slice q (nAt R k) c)) G (k + 1) := by
  obtain ⟨h1, h2, cur, g, h3, h4, h5, h6⟩ := h
  have h38 := h3.keep hB
  have hne : ∀ (b : Nat) (rc : Array Value), Row w8 b 50 rc → b ≠ G := fun b rc hb e => by
    subst e
    unfold Row at hb h38
    rw [hb] at h38
    simp at h38
  obtain ⟨gn, hgn⟩ : ∃ gn : Nat, nAt R k = 0 ∨ ∃ rc, q = some ⟨gn, 0, none⟩ ∧ wr.heap.size ≤ gn ∧ Row w8 gn 50 rc ∧ nAt R k * 2 ≤ rc.size ∧ Laid rc (R.getD k []) (nAt R k) := by
    rcases hr with h0 | ⟨gn, rc, e1, e2, e3, e4, e5⟩
    · exact ⟨0, .inl h0⟩
    · exact ⟨gn, .inr ⟨rc, e1, e2, e3, e4, e5⟩⟩
  obtain ⟨gf, hf1, hf2⟩ : ∃ gf : Nat → Nat, gf k = gn ∧ ∀ i, i ≠ k → gf i = g i := ⟨fun i => if i = k then gn else g i, if_pos rfl, fun i h => if_neg h⟩
  refine ⟨(below_via h1 hB).setCell (p := ⟨G, k, none⟩) h2 _, h2, _, gf, h38.set k _, by simpa using h4, fun i hi => ?_, fun i j hij hj hi0 hj0 => ?_⟩
  · rcases Nat.lt_or_ge i k with hlt | hge
    · obtain ⟨p, c1, e1, e2⟩ := h5 i hlt
      refine ⟨p, c1, by rw [Array.getElem?_setIfInBounds_ne (by omega)]; exact e1, ?_⟩
      rw [hf2 i (by omega)]
      rcases e2 with e2 | ⟨rc, r1, r2, r3, r4, r5⟩
      · exact .inl e2
      · exact .inr ⟨rc, r1, r2, (r3.keep hB).other (hne _ _ (r3.keep hB)) _ _, r4, r5⟩
    · obtain rfl : i = k := by omega
      refine ⟨q, c, by simp [h4, hk], ?_⟩
      rw [hf1]
      rcases hgn with h0 | ⟨rc, r1, r2, r3, r4, r5⟩
      · exact .inl h0
      · exact .inr ⟨rc, r1, by have := h1.size; omega, r3.other (hne _ _ r3) _ _, r4, r5⟩
  · have hik : i < k := by omega
    rw [hf2 i (by omega)]
    obtain ⟨p, c1, e1, e2⟩ := h5 i hik
    rcases e2 with e2 | ⟨rc, r1, r2, r3, r4, r5⟩
    · omega
    · have hl := r3.lt
      rcases Nat.lt_or_ge j k with hjk | hjk
      · rw [hf2 j (by omega)]
        exact h6 i j hij hjk hi0 hj0
      · obtain rfl : j = k := by omega
        rw [hf1]
        rcases hgn with h0 | ⟨rc2, s1, s2, s3, s4, s5⟩
        · omega
        · omega
theorem MpSt.runs {R : List Recs} {N1 : Nat} {w3 wr : World} {G : Nat} (h : MpSt R N1 w3 wr G N1) (hn : R.length = N1) : RunsB w3.heap.size wr (some ⟨G, 0, none⟩) R := by
  obtain ⟨h1, h2, cur, g, h3, h4, h5, h6⟩ := h
  exact .inr ⟨G, cur, g, rfl, h2, h3, fun i hi => h5 i (by omega), fun i j hij hj => h6 i j hij (by omega)⟩
theorem RunsB.set {base : Nat} {w : World} {q : Option Addr} {LS : List Recs} {X : Nat} (h : RunsB base w q LS) (hX : X < base) (j : Nat) (v : Value) : RunsB base (w.setCell ⟨X, j, none⟩ v) q LS :=
  h.grown (growS (World.grownBy.refl _ _) j v) hX
theorem RunsB.putT {base : Nat} {w : World} {q : Option Addr} {LS : List Recs} {X : Nat} {T : TypeId} {cx : Array Value} (h : RunsB base w q LS) (hX : Row w X T cx) (h1 : 45 ≠ T) (h2 : 50 ≠ T) (j : Nat) (v : Value) : RunsB base (w.setCell ⟨X, j, none⟩ v) q LS := by
  rcases h with h | ⟨G, cur, g, hq, hb, hr, hi, hd⟩
  · exact .inl h
  · refine .inr ⟨G, cur, g, hq, hb, hr.other (row_ne hr hX h1) _ _, fun i hi2 => ?_, hd⟩
    obtain ⟨p, c, e1, e2⟩ := hi i hi2
    refine ⟨p, c, e1, ?_⟩
    rcases e2 with e2 | ⟨rc, r1, r2, r3, r4, r5⟩
    · exact .inl e2
    · exact .inr ⟨rc, r1, r2, r3.other (row_ne r3 hX h2) _ _, r4, r5⟩
/-- The end of mapSplit. -/
def MadeRunM (o : List Recs × Int) (P : Nat) (w : World) (e : Ending) (w' : World) : Prop :=
  ∃ q cp, e = .returned (.agg #[.slice q o.1.length cp, .int .i64 o.2]) ∧ w.grownBy w' (some P) ∧ RunsB w.heap.size w' q o.1

set_option maxHeartbeats 8000000 in
theorem mapsplit_any (P : Nat) (a s : Option Addr) (len cap sl sc : Nat) (l : Instrs) (each : Bool) (op n1 : Int) (str : ByteArray) (w0 w : World) (hs : ProgS P a len cap l w) (hI : InstrsAt w0 a len l) (hn : ∀ i, i < len → In64 (ins1 l i)) (hsz : str.size ≤ 1048576) (hT : TabsRP w0) (h0 : Below w0.heap.size w0 w) (hP : w0.heap.size ≤ P) (hn1 : 1 ≤ n1) (hn3 : n1 ≤ 3) :
    Calls Tryz.prog 25 #[.pointer (some ⟨P, 0, none⟩), .agg #[.slice a len cap, .bool each, .int .i64 op, .int .i64 n1, .slice s sl sc], .string str] w (MadeRunM (mapR l each op n1 str) P w) := by
  obtain ⟨i0, hi, hz0, hz1, hz2⟩ := info_parts infoRecS
  have HN := Lib.hid (show ∀ i, i < l.length → In64 (ins1 l i) from fun i hi => hn i (by rw [← hI.length]; exact hi))
  have HPW := Lib.hid (show P < w.heap.size from by obtain ⟨cur, hr⟩ := hs.row; exact hr.lt)
  obtain ⟨N1, rfl⟩ : ∃ N1 : Nat, n1 = (N1 : Int) := ⟨n1.toNat, by omega⟩
  obtain ⟨B0, hB0⟩ : ∃ B0, w.heap.size = B0 := ⟨_, rfl⟩
  obtain ⟨W2, hW2⟩ : ∃ x, (w.alloc (.cells #[.slice a len cap, .bool each, .int .i64 op, .int .i64 (N1 : Int), .slice s sl sc] 32)).alloc (.cells #[.slice none 0 0, .int .i64 0] 55) = x := ⟨_, rfl⟩
  have HB2 := Lib.hid (show Below w.heap.size w W2 from by rw [← hW2]; exact below_alloc (below_alloc (Below.refl _ _) _) _)
  have HX := Lib.hid (show Row W2 B0 32 #[.slice a len cap, .bool each, .int .i64 op, .int .i64 (N1 : Int), .slice s sl sc] from by rw [← hW2, ← hB0]; exact (row_new w _ _).al _)
  have HM := Lib.hid (show Row W2 (B0 + 1) 55 #[.slice none 0 0, .int .i64 0] from by rw [← hW2, ← hB0]; exact row_new1 w _ _ _)
  have HW2 := Lib.hid hW2
  have HEM := Lib.hid (emitted_any P a len cap l each str w0 W2 (hs.keep HB2.out) hI hn hsz hT (below_via h0 HB2.out) hP)
  have HPB := Lib.hid (show P < B0 from by rw [← hB0]; exact HPW.out)
  have HBZ := Lib.hid hB0
  have x1 := HX.out.cell (j := 1) (by simp)
  simp at x1
  obtain ⟨V, hV⟩ : ∃ V, (emitR l each (strsOf (linesW str.data.toList))).1 = V := ⟨_, rfl⟩
  obtain ⟨c, hc⟩ : ∃ c, (emitR l each (strsOf (linesW str.data.toList))).2 = c := ⟨_, rfl⟩
  have HRES := Lib.hid (show emitR l each (strsOf (linesW str.data.toList)) = (V, c) by rw [← hV, ← hc])
  have HF := Lib.hid (emitR_facts (each := each) (strsOf (linesW str.data.toList)) HN.out)
  rw [HRES.out] at HF HEM
  clear hs hI hn hsz hT h0 hP hW2 hV hc
  go_enter Tryz.func25, Tryz.ntmps25
  go_wp2_with fail
  rw [HW2.out]
  try rw [hB0]
  clear hB0
  refine HEM.out.mono ?_
  rintro e w3 ⟨q, cp, rfl, hg, hpr, hkk, hq, hcp⟩
  have HX := Lib.hid (HX.out.grown hg (by have := HPB.out; simp; omega))
  have HM := Lib.hid (HM.out.grown hg (by have := HPB.out; simp; omega))
  have HMW := Lib.hid HM.out.lt
  have HG := Lib.hid (growT (growB (World.grownBy.refl w (some P)) HB2.out) hg)
  obtain ⟨no, hno⟩ : ∃ n, V.length = n := ⟨_, rfl⟩
  have hno6 : no ≤ 600 := by rw [← hno]; exact HF.out.1
  have HV := Lib.hid (rck_recs hkk hno HF.out.2.1 (by omega))
  rw [hno]
  clear hg hpr hkk hq hcp HEM x1
  have m0 := HM.out.cell (j := 0) (by simp)
  have m1 := HM.out.cell (j := 1) (by simp)
  have mf0 := HM.out.free 0
  have mf1 := HM.out.free 1
  have x3 := HX.out.cell (j := 3) (by simp)
  simp at m0 m1 x3
  by_cases hc0 : c = 0
  · subst hc0
    have HFIN := Lib.hid (mapR_go (op := op) (n1 := (N1 : Int)) HRES.out)
    rw [Int.toNat_natCast] at HFIN
    have HR := Lib.hid (runsR_len op (N1 : Int) V N1)
    have HRA := Lib.hid (fun i (h : i < N1) => runsR_at (op := op) (n1 := (N1 : Int)) (V := V) (k := N1) h)
    obtain ⟨R, hRR⟩ : ∃ R, runsR op (N1 : Int) V N1 = R := ⟨_, rfl⟩
    rw [hRR] at HR HRA HFIN
    clear hRR m0 m1 mf0 mf1
    go_wp2_with (at_make; refine wpList_make_full _ rfl _ _ 27 rfl w3.heap.size 45 i0 _ 1 Tryz.underlying27 hi hz0 hz1 .i64 .i64 _ _ N1 rfl rfl rfl rfl (by rw [hz2]; omega) (by unfold maxLen; omega) (Nat.le_refl _) ?_; intro w4 hown hgrow)
    obtain ⟨G, hG⟩ : ∃ G, w3.heap.size = G := ⟨_, rfl⟩
    have HST := Lib.hid (show MpSt R N1 w3 w4 G 0 from ⟨(Below.refl w3.heap.size w3).grown hgrow (Nat.le_refl _) (by simp), by omega, by
      rcases hown.2 with ⟨h, _⟩ | ⟨g, cp, cur, hv, _, hh, _, _, hs, _⟩
      · simp at h
      · simp only [Value.slice.injEq, Option.some.injEq, Addr.mk.injEq, true_and, and_true] at hv
        obtain ⟨rfl, rfl⟩ := hv
        exact ⟨cur, fun _ => 0, hG ▸ hh, by simpa using hs, fun i hi => by omega, fun i j _ hj => by omega⟩⟩)
    rw [hG]
    have HGW := Lib.hid (show B0 + 1 < G from by rw [← hG]; exact HM.out.lt)
    clear hown hgrow x3 hG
    go_wp2_with fail
    go_loopw [28] (fun i wr => ∃ k : Nat, k ≤ N1 ∧ i = .int .i64 k ∧ Hid (MpSt R N1 w3 wr G k)) (fun i _ => N1 - (intOf i).toNat)
    case atStart => exact ⟨0, Nat.zero_le _, rfl, HST⟩
    case round =>
      clear HST
      obtain ⟨k, hk, rfl, HST⟩ := hrel
      have HXR := Lib.hid (HX.out.keep HST.out.1)
      by_cases hlt : k < N1
      · have hi1 : (k : Int) < (N1 : Int) := by omega
        have hi0 : (0 : Int) ≤ (k : Int) := by omega
        have HVR := Lib.hid (HV.out.keep HST.out.1)
        have HRK := Lib.hid (HRA.out k hlt)
        obtain ⟨PV, hPV⟩ : ∃ PV, partL V (N1 : Int) (k : Int) = PV := ⟨_, rfl⟩
        have HMEM := Lib.hid (show ∀ r ∈ PV, r.1.size ≤ 40 ∧ In64 r.2 from fun r hr => HF.out.2.1 r (partL_mem (by rw [hPV]; exact hr)))
        have HPL := Lib.hid (show PV.length ≤ 600 from by have := partL_few V (N1 : Int) (k : Int); rw [hPV] at this; omega)
        have HOFR := Lib.hid (show R.getD k [] = combW op (liftW op PV) by rw [HRK.out]; unfold ofR; rw [hPV])
        have HPVE := Lib.hid hPV
        have d2 := HXR.out.cell (j := 2) (by simp)
        have d3 := HXR.out.cell (j := 3) (by simp)
        simp at d2 d3
        clear hPV HRK
        go_wp2_with fail
        refine wp_region_noPanic ?_
        obtain ⟨v0, hv0⟩ : ∃ x, wr.drew = x := ⟨_, rfl⟩
        have HB0 := Lib.hid (show Below wr.heap.size wr v0 from by rw [← hv0]; exact below_drewN (Below.refl _ _) 1)
        have HVR := Lib.hid (HVR.out.keep HB0.out)
        have d2 : v0.cell? ⟨B0, 2, none⟩ = some (.int .i64 op) := by rw [← hv0]; exact d2
        have d3 : v0.cell? ⟨B0, 3, none⟩ = some (.int .i64 (N1 : Int)) := by rw [← hv0]; exact d3
        refine wp_region_held_drew (S := (fun w' => Hid (Below w3.heap.size w3 w') ∧ w'.cell? ⟨B0, 2, none⟩ = some (.int .i64 op) ∧ w'.cell? ⟨B0, 3, none⟩ = some (.int .i64 (N1 : Int)))) (by kernel_rfl) (by rw [hv0]; exact ⟨Lib.hid (below_via HST.out.1 HB0.out), d2, d3⟩) (fun HS => ?_)
        rw [hv0] at HS ⊢
        clear hv0
        refine held_take (i := 0) (d := 31) (v := .slice (some ⟨G, 0, none⟩) N1 N1) rfl rfl (by kernel_rfl) (by kernel_rfl) (by kernel_rfl) (by kernel_rfl) (fun wx hS => by go_simp) HS ?_
        refine held_take (i := 1) (d := 32) (v := .int .i64 (k : Int)) rfl rfl (by kernel_rfl) (by kernel_rfl) (by kernel_rfl) (by kernel_rfl) (fun wx hS => by go_simp) HS ?_
        refine held_take (i := 2) (d := 33) (v := .pointer (some ⟨B0, 2, none⟩)) rfl rfl (by kernel_rfl) (by kernel_rfl) (by kernel_rfl) (by kernel_rfl) (fun wx hS => by go_simp) HS ?_
        refine held_take (i := 3) (d := 34) (v := .int .i64 op) rfl rfl (by kernel_rfl) (by kernel_rfl) (by kernel_rfl) (by kernel_rfl) (fun wx hS => by have h2 := hS.2.1; have h3 := hS.2.2; go_simp) HS ?_
        refine held_take (i := 4) (d := 35) (v := .pointer (some ⟨B0, 2, none⟩)) rfl rfl (by kernel_rfl) (by kernel_rfl) (by kernel_rfl) (by kernel_rfl) (fun wx hS => by go_simp) HS ?_
        refine held_take (i := 5) (d := 36) (v := .int .i64 op) rfl rfl (by kernel_rfl) (by kernel_rfl) (by kernel_rfl) (by kernel_rfl) (fun wx hS => by have h2 := hS.2.1; have h3 := hS.2.2; go_simp) HS ?_
        refine held_take (i := 6) (d := 37) (v := .slice q no cp) rfl rfl (by kernel_rfl) (by kernel_rfl) (by kernel_rfl) (by kernel_rfl) (fun wx hS => by go_simp) HS ?_
        refine held_take (i := 7) (d := 38) (v := .int .i64 (k : Int)) rfl rfl (by kernel_rfl) (by kernel_rfl) (by kernel_rfl) (by kernel_rfl) (fun wx hS => by go_simp) HS ?_
        refine held_take (i := 8) (d := 39) (v := .pointer (some ⟨B0, 3, none⟩)) rfl rfl (by kernel_rfl) (by kernel_rfl) (by kernel_rfl) (by kernel_rfl) (fun wx hS => by go_simp) HS ?_
        refine held_take (i := 9) (d := 40) (v := .int .i64 (N1 : Int)) rfl rfl (by kernel_rfl) (by kernel_rfl) (by kernel_rfl) (by kernel_rfl) (fun wx hS => by have h2 := hS.2.1; have h3 := hS.2.2; go_simp) HS ?_
        refine wpAnyH_ready (rs := [10]) (by kernel_rfl) (by simp) (AllReadyH.cons rfl (fun K hK => ?_) AllReadyH.nil)
        go_simp
        refine (ofpart_any q no cp V (k : Int) (N1 : Int) _ HVR.out hno6).mono ?_
        rw [HPVE.out]
        rintro e w5 ⟨q5, c5, rfl, hB, hk5, hq5, hc5⟩
        obtain ⟨n5, hn5⟩ : ∃ n5, PV.length = n5 := ⟨_, rfl⟩
        have hn56 : n5 ≤ 600 := by rw [← hn5]; exact HPL.out
        have HR5 := Lib.hid (rck_recs hk5 hn5 HMEM.out (by omega))
        rw [hn5]
        have HB5 := Lib.hid (below_via HB0.out hB)
        have HC := Lib.hid (below_via HS.1.out hB)
        have d2 := (hB.cell (p := ⟨B0, 2, none⟩) (World.block_lt_of_cell? _ _ d2)).trans d2
        have d3 := (hB.cell (p := ⟨B0, 3, none⟩) (World.block_lt_of_cell? _ _ d3)).trans d3
        clear hB hk5 hq5 hc5 hn5
        refine hK.out _ _ ⟨HC, d2, d3⟩ (fun HS => ?_)
        clear hK K
        refine wpAnyH_ready (rs := [11]) (by kernel_rfl) (by simp) (AllReadyH.cons rfl (fun K hK => ?_) AllReadyH.nil)
        go_simp
        refine (lifted_any op q5 n5 c5 PV _ HR5.out).mono ?_
        rintro e w7 ⟨q7, c7, rfl, hr7, hB⟩
        obtain ⟨n7, hn7⟩ : ∃ n7, (liftW op PV).length = n7 := ⟨_, rfl⟩
        have HR7 := Lib.hid (recs_lift hr7 hn7)
        rw [hn7]
        have HB7 := Lib.hid (below_via HB5.out hB)
        have HC := Lib.hid (below_via HS.1.out hB)
        have d2 := (hB.cell (p := ⟨B0, 2, none⟩) (World.block_lt_of_cell? _ _ d2)).trans d2
        have d3 := (hB.cell (p := ⟨B0, 3, none⟩) (World.block_lt_of_cell? _ _ d3)).trans d3
        clear hB hr7 hn7
        refine hK.out _ _ ⟨HC, d2, d3⟩ (fun HS => ?_)
        clear hK K
        refine wpAnyH_ready (rs := [12]) (by kernel_rfl) (by simp) (AllReadyH.cons rfl (fun K hK => ?_) AllReadyH.nil)
        go_simp
        refine (combined_any op q7 n7 c7 _ _ HR7.out).mono ?_
        rintro e w8 ⟨q8, c8, rfl, hr8, hB, _, _, _⟩
        have HRS := Lib.hid (show Rs wr.heap.size w8 q8 (R.getD k []) from by rw [HOFR.out]; exact Rs.base hr8 HB7.out.size)
        have HNA := Lib.hid (show (combW op (liftW op PV)).length = nAt R k by unfold nAt; rw [HOFR.out])
        rw [HNA.out]
        have HB8 := Lib.hid (below_via HB7.out hB)
        have HC := Lib.hid (below_via HS.1.out hB)
        have d2 := (hB.cell (p := ⟨B0, 2, none⟩) (World.block_lt_of_cell? _ _ d2)).trans d2
        have d3 := (hB.cell (p := ⟨B0, 3, none⟩) (World.block_lt_of_cell? _ _ d3)).trans d3
        clear hB hr8
        refine hK.out _ _ ⟨HC, d2, d3⟩ (fun HS => ?_)
        clear hK K
        have HNX := Lib.hid (MpSt.step (c := c8) HST.out HB8.out HRS.out hlt)
        obtain ⟨n8, hn8⟩ : ∃ n8, nAt R k = n8 := ⟨_, rfl⟩
        rw [hn8] at HNX ⊢
        obtain ⟨_, hG3, cur, g, hrow, hcs, _⟩ := HST.out.keep HB8.out
        have hA0 := hrow.cell (j := k) (by omega)
        have hf0 := hrow.free k
        generalize cur[k] = u0 at hA0
        have d2 : (w8.setCell ⟨G, k, none⟩ (.slice q8 n8 c8)).cell? ⟨B0, 2, none⟩ = some (.int .i64 op) := (World.cell?_setCell_other _ _ _ _ (by have := HGW.out; simp <;> omega)).trans d2
        have d3 : (w8.setCell ⟨G, k, none⟩ (.slice q8 n8 c8)).cell? ⟨B0, 3, none⟩ = some (.int .i64 (N1 : Int)) := (World.cell?_setCell_other _ _ _ _ (by have := HGW.out; simp <;> omega)).trans d3
        clear hrow hcs
        refine held_take (i := 13) (d := 44) (v := .pointer (some ⟨G, k, none⟩)) rfl rfl (by kernel_rfl) (by kernel_rfl) (by kernel_rfl) (by kernel_rfl) (fun wx hS => by go_simp) HS ?_
        refine wpAnyH_ready (rs := [14]) (by kernel_rfl) (by simp) (AllReadyH.cons rfl (fun K hK => ?_) AllReadyH.nil)
        go_simp
        refine hK.out _ _ ⟨Lib.hid HNX.out.1, d2, d3⟩ (fun HS => ?_)
        clear hK K
        refine wpAnyH_done (by kernel_rfl) (NoPanic.normal ?_) _
        clear d2 d3 hA0 hf0
        go_wp2
        go_roundw
        case rel => exact ⟨k + 1, by omega, by go_num, HNX⟩
        case measure => simp [intOf]; omega
      · obtain rfl : k = N1 := by omega
        have HMR := Lib.hid (HM.out.keep HST.out.1)
        have m0 := HMR.out.cell (j := 0) (by simp)
        have m1 := HMR.out.cell (j := 1) (by simp)
        have mf0 := HMR.out.free 0
        have mf1 := HMR.out.free 1
        simp at m0 m1
        go_wp2
        have hb := (HMR.out.set 0 (.slice (some ⟨G, 0, none⟩) k k)).set 1 (.int .i64 0)
        unfold Row at hb
        rw [HFIN.out]
        refine bodyPost_ret (v := .agg #[.slice (some ⟨G, 0, none⟩) k k, .int .i64 0]) (by simp [results, Tryz.results25, go_sem, World.cell?, hb]) rfl ⟨some ⟨G, 0, none⟩, k, by rw [HR.out], ?_, ?_⟩
        · exact growP (growP (growB HG.out HST.out.1) (by have := HBZ.out; omega) _ _) (by have := HBZ.out; omega) _ _
        · exact (((HST.out.runs HR.out).set HMW.out 0 _).set HMW.out 1 _).low (by have := HBZ.out; have := HMW.out; omega)
  · have HFIN := Lib.hid (mapR_stop (op := op) (n1 := (N1 : Int)) HRES.out hc0)
    have hz2 : (c == (0 : Int)) = false := by rw [beq_eq_false_iff_ne]; exact hc0
    have hz3 : (c != (0 : Int)) = true := by rw [bne_iff_ne]; exact hc0
    go_wp2
    have hb := (HM.out.set 0 (.slice none 0 0)).set 1 (.int .i64 c)
    unfold Row at hb
    rw [HFIN.out]
    refine bodyPost_ret (v := .agg #[.slice none 0 0, .int .i64 c]) (by simp [results, Tryz.results25, go_sem, World.cell?, hb]) rfl ⟨none, 0, rfl, ?_, runsB_nil _ _ _⟩
    exact growP (growP HG.out (by have := HBZ.out; omega) _ _) (by have := HBZ.out; omega) _ _

set_option maxHeartbeats 8000000 in
theorem mapof_any (p s : Option Addr) (pl pc sl sc : Nat) (each : Bool) (op n1 : Int) (l : Instrs) (m : Strs) (t : Int) (w : World) (h : JobAt w p pl l s sl m) (hn : ∀ i, i < pl → In64 (ins1 l i)) (hsz : ∀ i, i < sl → (strAt m i).size ≤ 1048576) (hT : TabsRP w) :
    Calls Tryz.prog 7 #[.agg #[.slice p pl pc, .bool each, .int .i64 op, .int .i64 n1, .slice s sl sc], .int .i64 t] w (MadeSS (mapJ l each op n1 m sl t) w) := by
  have hm := h.t.max
  unfold maxLen at hm
  have HN := Lib.hid hn
  have HT := Lib.hid hT
  have HJ := Lib.hid h
  have HB0 := Lib.hid (below_alloc (Below.refl w.heap.size w) (.cells #[.slice p pl pc, .bool each, .int .i64 op, .int .i64 n1, .slice s sl sc] 32))
  have HX := Lib.hid (row_new w #[.slice p pl pc, .bool each, .int .i64 op, .int .i64 n1, .slice s sl sc] 32)
  have HS := Lib.hid (h.keep HB0.out)
  have HZ := Lib.hid hsz
  obtain ⟨W0, hW0⟩ : ∃ W0, w.alloc (.cells #[.slice p pl pc, .bool each, .int .i64 op, .int .i64 n1, .slice s sl sc] 32) = W0 := ⟨_, rfl⟩
  have HW0 := Lib.hid hW0
  rw [hW0] at HB0 HX HS
  obtain ⟨B0, hB0⟩ : ∃ B0, w.heap.size = B0 := ⟨_, rfl⟩
  have HBZ := Lib.hid hB0
  rw [hB0] at HX
  obtain ⟨q0, hq0⟩ : ∃ q0, jobB l op n1 m sl = q0 := ⟨_, rfl⟩
  have HQ0 := Lib.hid hq0
  have x0 := HX.out.cell (j := 0) (by simp)
  have x1 := HX.out.cell (j := 1) (by simp)
  have x2 := HX.out.cell (j := 2) (by simp)
  have x3 := HX.out.cell (j := 3) (by simp)
  have x4 := HX.out.cell (j := 4) (by simp)
  simp at x0 x1 x2 x3 x4
  clear h hsz hW0 hq0 hn hT
  go_enter Tryz.func7, Tryz.ntmps7
  go_wp2_with fail
  rw [HW0.out]
  try rw [hB0]
  clear hB0
  refine (jobok_any p s pl pc sl sc each op n1 l m _ HS.out HZ.out (HT.out.forms.keep HB0.out)).mono ?_
  rw [HQ0.out]
  rintro e w1 ⟨rfl, hB⟩
  have HB := Lib.hid hB
  have HX1 := Lib.hid (HX.out.keep hB)
  clear hB x0 x1 x2 x3 x4
  have x0 := HX1.out.cell (j := 0) (by simp)
  have x1 := HX1.out.cell (j := 1) (by simp)
  have x2 := HX1.out.cell (j := 2) (by simp)
  have x3 := HX1.out.cell (j := 3) (by simp)
  have x4 := HX1.out.cell (j := 4) (by simp)
  simp at x0 x1 x2 x3 x4
  cases q0 with
  | false =>
    have HC := Lib.hid (mapJ_no (each := each) (t := t) (show ¬ (jobB l op n1 m sl = true ∧ 0 ≤ t ∧ t < sl) from fun h => by rw [HQ0.out] at h; cases h.1))
    go_wp2
    go_ret2
    exact ss_none HC.out (below_via HB0.out HB.out)
  | true =>
  by_cases ht0 : t < 0
  · have HC := Lib.hid (mapJ_no (each := each) (t := t) (show ¬ (jobB l op n1 m sl = true ∧ 0 ≤ t ∧ t < sl) from fun h => by omega))
    go_wp2
    go_ret2
    exact ss_none HC.out (below_via HB0.out HB.out)
  by_cases ht1 : (sl : Int) ≤ t
  · have HC := Lib.hid (mapJ_no (each := each) (t := t) (show ¬ (jobB l op n1 m sl = true ∧ 0 ≤ t ∧ t < sl) from fun h => by omega))
    go_wp2
    go_ret2
    exact ss_none HC.out (below_via HB0.out HB.out)
  obtain ⟨tn, rfl⟩ : ∃ tn : Nat, t = (tn : Int) := ⟨t.toNat, by omega⟩
  have htn : tn < sl := by omega
  have hti : (tn : Int) < (sl : Int) := by omega
  have HJP := Lib.hid (jobB_parts HQ0.out)
  have HM := Lib.hid (show mapJ l each op n1 m sl (tn : Int) = mapR l each op n1 (strAt m tn) from mapJ_yes HQ0.out (by omega) (by omega))
  rcases HS.out.t.src with hz | ⟨sb, off, rfl, hb, hc⟩
  · omega
  have c0 := hc tn htn
  have hts := HZ.out tn htn
  obtain ⟨x, hx⟩ : ∃ x, strAt m tn = x := ⟨_, rfl⟩
  rw [hx] at c0 hts HM
  have HMS := Lib.hid (fun P w1 (hs : ProgS P p pl pc l w1) (h0 : Below w.heap.size w w1) (hP : w.heap.size ≤ P) => mapsplit_any P p (some ⟨sb, off, none⟩) pl pc sl sc l each op n1 x w w1 hs HJ.out.i HN.out hts HT.out h0 hP HJP.out.1 HJP.out.2.1)
  obtain ⟨R, hR⟩ : ∃ R, (mapR l each op n1 x).1 = R := ⟨_, rfl⟩
  obtain ⟨c, hcc⟩ : ∃ c, (mapR l each op n1 x).2 = c := ⟨_, rfl⟩
  have HRES := Lib.hid (show mapR l each op n1 x = (R, c) by rw [← hR, ← hcc])
  obtain ⟨n, hnn⟩ : ∃ n, R.length = n := ⟨_, rfl⟩
  have HNN := Lib.hid hnn
  unfold MadeRunM at HMS
  simp only [HRES.out, HNN.out] at HMS
  have HFIN := Lib.hid (HM.out.trans HRES.out)
  clear hc hb hx hR hcc hnn HX1 HZ HJ HN HT HQ0 HJP
  go_wp2_with fail
  have HALL := Lib.hid (fun w' (hb : Below W0.heap.size W0 w') => (show (fun w' => Hid (Below W0.heap.size W0 w') ∧ w'.cell? ⟨B0, 0, none⟩ = some (.slice p pl pc) ∧ w'.cell? ⟨B0, 1, none⟩ = some (.bool each) ∧ w'.cell? ⟨B0, 2, none⟩ = some (.int .i64 op) ∧ w'.cell? ⟨B0, 3, none⟩ = some (.int .i64 n1) ∧ w'.cell? ⟨B0, 4, none⟩ = some (.slice (some ⟨sb, off, none⟩) sl sc) ∧ w'.cell? ⟨sb, off + tn, none⟩ = some (.string x)) w' from by
    have hr := HX.out.keep hb
    have k0 := hr.cell (j := 0) (by simp)
    have k1 := hr.cell (j := 1) (by simp)
    have k2 := hr.cell (j := 2) (by simp)
    have k3 := hr.cell (j := 3) (by simp)
    have k4 := hr.cell (j := 4) (by simp)
    simp at k0 k1 k2 k3 k4
    exact ⟨Lib.hid hb, k0, k1, k2, k3, k4, (hb.cell (World.block_lt_of_cell? _ _ c0)).trans c0⟩))
  clear x0 x1 x2 x3 x4
  refine wp_region_noPanic ?_
  obtain ⟨v0, hv0⟩ : ∃ x, w1.drew = x := ⟨_, rfl⟩
  have HV := Lib.hid (show Below W0.heap.size W0 v0 from by rw [← hv0]; exact below_via HB.out (below_drewN (Below.refl _ _) 1))
  refine wp_region_held_drew (S := (fun w' => Hid (Below W0.heap.size W0 w') ∧ w'.cell? ⟨B0, 0, none⟩ = some (.slice p pl pc) ∧ w'.cell? ⟨B0, 1, none⟩ = some (.bool each) ∧ w'.cell? ⟨B0, 2, none⟩ = some (.int .i64 op) ∧ w'.cell? ⟨B0, 3, none⟩ = some (.int .i64 n1) ∧ w'.cell? ⟨B0, 4, none⟩ = some (.slice (some ⟨sb, off, none⟩) sl sc) ∧ w'.cell? ⟨sb, off + tn, none⟩ = some (.string x))) (by kernel_rfl) (by rw [hv0]; exact HALL.out _ HV.out) (fun HS3 => ?_)
  rw [hv0] at HS3 ⊢
  clear hv0
  refine held_take (i := 0) (d := 21) (v := .pointer (some ⟨B0, 0, none⟩)) rfl rfl (by kernel_rfl) (by kernel_rfl) (by kernel_rfl) (by kernel_rfl) (fun wx hS => by go_simp) HS3 ?_
  refine held_take (i := 1) (d := 22) (v := .slice p pl pc) rfl rfl (by kernel_rfl) (by kernel_rfl) (by kernel_rfl) (by kernel_rfl) (fun wx hS => by obtain ⟨_, h0, h1, h2, h3, h4, h5⟩ := hS; go_simp) HS3 ?_
  refine held_take (i := 2) (d := 23) (v := _) rfl rfl (by kernel_rfl) (by kernel_rfl) (by kernel_rfl) (by kernel_rfl) (fun wx hS => by go_simp <;> rfl) HS3 ?_
  refine held_take (i := 4) (d := 25) (v := .agg #[.slice p pl pc, .bool each, .int .i64 op, .int .i64 n1, .slice (some ⟨sb, off, none⟩) sl sc]) rfl rfl (by kernel_rfl) (by kernel_rfl) (by kernel_rfl) (by kernel_rfl) (fun wx hS => by obtain ⟨_, h0, h1, h2, h3, h4, h5⟩ := hS; go_simp) HS3 ?_
  refine held_take (i := 5) (d := 26) (v := .pointer (some ⟨B0, 4, none⟩)) rfl rfl (by kernel_rfl) (by kernel_rfl) (by kernel_rfl) (by kernel_rfl) (fun wx hS => by go_simp) HS3 ?_
  refine held_take (i := 6) (d := 27) (v := .slice (some ⟨sb, off, none⟩) sl sc) rfl rfl (by kernel_rfl) (by kernel_rfl) (by kernel_rfl) (by kernel_rfl) (fun wx hS => by obtain ⟨_, h0, h1, h2, h3, h4, h5⟩ := hS; go_simp) HS3 ?_
  refine held_take (i := 7) (d := 28) (v := .int .i64 (tn : Int)) rfl rfl (by kernel_rfl) (by kernel_rfl) (by kernel_rfl) (by kernel_rfl) (fun wx hS => by go_simp) HS3 ?_
  refine held_take (i := 8) (d := 29) (v := .pointer (some ⟨sb, off + tn, none⟩)) rfl rfl (by kernel_rfl) (by kernel_rfl) (by kernel_rfl) (by kernel_rfl) (fun wx hS => by go_simp) HS3 ?_
  refine held_take (i := 9) (d := 30) (v := .string x) rfl rfl (by kernel_rfl) (by kernel_rfl) (by kernel_rfl) (by kernel_rfl) (fun wx hS => by obtain ⟨_, h0, h1, h2, h3, h4, h5⟩ := hS; go_simp) HS3 ?_
  refine wpAnyH_ready (rs := [3, 11]) (by kernel_rfl) (by simp) (AllReadyH.cons rfl (fun K hK => ?_) (AllReadyH.cons rfl (fun K hK => ?_) AllReadyH.nil))
  · skip
    go_simp
    refine hK.out _ _ (HALL.out _ (below_alloc HV.out _)) (fun HS3 => ?_)
    clear hK K
    have HPR0 := Lib.hid (row_new v0 #[.slice p pl pc, .int .u32 0, .int .i32 0, .int .u32 0, .bool false, .slice none 0 0] 72)
    have HBa0 := Lib.hid (below_alloc HV.out (.cells #[.slice p pl pc, .int .u32 0, .int .i32 0, .int .u32 0, .bool false, .slice none 0 0] 72))
    obtain ⟨va, hva⟩ : ∃ x, v0.alloc (.cells #[.slice p pl pc, .int .u32 0, .int .i32 0, .int .u32 0, .bool false, .slice none 0 0] 72) = x := ⟨_, rfl⟩
    obtain ⟨P, hP⟩ : ∃ x, v0.heap.size = x := ⟨_, rfl⟩
    have HPP := Lib.hid (show W0.heap.size ≤ P from by rw [← hP]; exact HV.out.size)
    rw [hva, hP] at HPR0
    rw [hva] at HBa0 HS3
    rw [hva, hP]
    clear hva hP
    refine wpAnyH_ready (rs := [10, 11]) (by kernel_rfl) (by simp) (AllReadyH.cons rfl (fun K hK => ?_) (AllReadyH.cons rfl (fun K hK => ?_) AllReadyH.nil))
    · skip
      have HPR := HPR0
      have HBa := HBa0
      go_simp
      refine (HMS.out P va (.inl HPR.out) (below_via HB0.out HBa.out) (Nat.le_trans HB0.out.size HPP.out)).mono ?_
      rintro e w4 ⟨q, cp, rfl, hg, hr⟩
      have HB4 := Lib.hid (HBa.out.grown hg HBa.out.size (fun k hk => by cases hk; exact HPP.out))
      have HR4 := Lib.hid (hr.low (Nat.le_trans HB0.out.size HBa.out.size))
      refine hK.out _ _ (HALL.out _ HB4.out) (fun HS3 => ?_)
      clear hK K
      refine wpAnyH_ready (rs := [11]) (by kernel_rfl) (by simp) (AllReadyH.cons rfl (fun K hK => ?_) AllReadyH.nil)
      go_simp
      refine hK.out _ _ (HALL.out _ (below_alloc HB4.out _)) (fun HS3 => ?_)
      clear hK K
      have HMX0 := Lib.hid (row_new w4 #[.slice none 0 0, .int .i64 0] 55)
      have HBX := Lib.hid (below_alloc HB4.out (.cells #[.slice none 0 0, .int .i64 0] 55))
      have HRX := Lib.hid (HR4.out.keep (below_alloc (Below.refl _ _) (.cells #[.slice none 0 0, .int .i64 0] 55)))
      obtain ⟨X, hX⟩ : ∃ x, w4.heap.size = x := ⟨_, rfl⟩
      have HXL : W0.heap.size ≤ X := by rw [← hX]; exact HB4.out.size
      obtain ⟨wX, hwX⟩ : ∃ x, w4.alloc (.cells #[.slice none 0 0, .int .i64 0] 55) = x := ⟨_, rfl⟩
      rw [hX, hwX] at HMX0
      rw [hwX] at HBX HRX HS3
      rw [hX, hwX]
      clear hX hwX
      have HMX := HMX0
      have HXW := Lib.hid HXL
      have m0 := HMX.out.cell (j := 0) (by simp)
      have m1 := HMX.out.cell (j := 1) (by simp)
      have mf0 := HMX.out.free 0
      have mf1 := HMX.out.free 1
      simp at m0 m1
      refine wpAnyH_ready (rs := [12]) (by kernel_rfl) (by simp) (AllReadyH.cons rfl (fun K hK => ?_) AllReadyH.nil)
      go_simp
      have HBF := Lib.hid ((HBX.out.setCell (p := ⟨X, 0, none⟩) HXW.out (.slice q n cp)).setCell (p := ⟨X, 1, none⟩) HXW.out (.int .i64 c))
      have HMF := Lib.hid ((HMX.out.set 0 (.slice q n cp)).set 1 (.int .i64 c))
      have HRF := Lib.hid ((HRX.out.putT HMX.out (by decide) (by decide) 0 (.slice q n cp)).putT (HMX.out.set 0 (.slice q n cp)) (by decide) (by decide) 1 (.int .i64 c))
      clear m0 m1 mf0 mf1
      generalize ((wX.setCell ⟨X, 0, none⟩ (.slice q n cp)).setCell ⟨X, 1, none⟩ (.int .i64 c)) = wF at HBF HMF HRF ⊢
      refine hK.out _ _ (HALL.out _ HBF.out) (fun HS3 => ?_)
      clear hK K
      refine wpAnyH_done (by kernel_rfl) (NoPanic.normal ?_) _
      have m0 := HMF.out.cell (j := 0) (by simp)
      have m1 := HMF.out.cell (j := 1) (by simp)
      simp at m0 m1
      clear HS3
      go_wp2_with fail
      go_quiet (fail)
      go_wp2
      go_ret2
      rw [HFIN.out]
      exact ⟨q, cp, by rw [← HNN.out]; rfl, below_via HB0.out (below_drewN HBF.out _), HRF.out.keep (below_drewN (Below.refl _ _) _)⟩
    · skip
      go_simp
      refine hK.out _ _ (HALL.out _ (below_alloc HBa0.out _)) (fun HS3 => ?_)
      clear hK K
      have HBa := Lib.hid (below_alloc HBa0.out (.cells #[.slice none 0 0, .int .i64 0] 55))
      have HPR := Lib.hid (HPR0.out.al (.cells #[.slice none 0 0, .int .i64 0] 55))
      have HMX0 := Lib.hid (row_new va #[.slice none 0 0, .int .i64 0] 55)
      obtain ⟨X, hX⟩ : ∃ x, va.heap.size = x := ⟨_, rfl⟩
      have HXL : W0.heap.size ≤ X := by rw [← hX]; exact HBa0.out.size
      obtain ⟨vb, hvb⟩ : ∃ x, va.alloc (.cells #[.slice none 0 0, .int .i64 0] 55) = x := ⟨_, rfl⟩
      rw [hX, hvb] at HMX0
      rw [hvb] at HBa HPR HS3
      rw [hX, hvb]
      clear hX hvb
      refine wpAnyH_ready (rs := [10]) (by kernel_rfl) (by simp) (AllReadyH.cons rfl (fun K hK => ?_) AllReadyH.nil)
      go_simp
      refine (HMS.out P vb (.inl HPR.out) (below_via HB0.out HBa.out) (Nat.le_trans HB0.out.size HPP.out)).mono ?_
      rintro e w4 ⟨q, cp, rfl, hg, hr⟩
      have HB4 := Lib.hid (HBa.out.grown hg HBa.out.size (fun k hk => by cases hk; exact HPP.out))
      have HR4 := Lib.hid (hr.low (Nat.le_trans HB0.out.size HBa.out.size))
      refine hK.out _ _ (HALL.out _ HB4.out) (fun HS3 => ?_)
      clear hK K
      have HMX := Lib.hid (HMX0.out.grown hg (fun e => row_ne HPR.out HMX0.out (by decide) (Option.some.inj e)))
      obtain ⟨wX, rfl⟩ : ∃ x, x = w4 := ⟨_, rfl⟩
      have HBX := HB4
      have HRX := HR4
      have HXW := Lib.hid HXL
      have m0 := HMX.out.cell (j := 0) (by simp)
      have m1 := HMX.out.cell (j := 1) (by simp)
      have mf0 := HMX.out.free 0
      have mf1 := HMX.out.free 1
      simp at m0 m1
      refine wpAnyH_ready (rs := [12]) (by kernel_rfl) (by simp) (AllReadyH.cons rfl (fun K hK => ?_) AllReadyH.nil)
      go_simp
      have HBF := Lib.hid ((HBX.out.setCell (p := ⟨X, 0, none⟩) HXW.out (.slice q n cp)).setCell (p := ⟨X, 1, none⟩) HXW.out (.int .i64 c))
      have HMF := Lib.hid ((HMX.out.set 0 (.slice q n cp)).set 1 (.int .i64 c))
      have HRF := Lib.hid ((HRX.out.putT HMX.out (by decide) (by decide) 0 (.slice q n cp)).putT (HMX.out.set 0 (.slice q n cp)) (by decide) (by decide) 1 (.int .i64 c))
      clear m0 m1 mf0 mf1
      generalize ((wX.setCell ⟨X, 0, none⟩ (.slice q n cp)).setCell ⟨X, 1, none⟩ (.int .i64 c)) = wF at HBF HMF HRF ⊢
      refine hK.out _ _ (HALL.out _ HBF.out) (fun HS3 => ?_)
      clear hK K
      refine wpAnyH_done (by kernel_rfl) (NoPanic.normal ?_) _
      have m0 := HMF.out.cell (j := 0) (by simp)
      have m1 := HMF.out.cell (j := 1) (by simp)
      simp at m0 m1
      clear HS3
      go_wp2_with fail
      go_quiet (fail)
      go_wp2
      go_ret2
      rw [HFIN.out]
      exact ⟨q, cp, by rw [← HNN.out]; rfl, below_via HB0.out (below_drewN HBF.out _), HRF.out.keep (below_drewN (Below.refl _ _) _)⟩
  · skip
    go_simp
    refine hK.out _ _ (HALL.out _ (below_alloc HV.out _)) (fun HS3 => ?_)
    clear hK K
    have HMX0 := Lib.hid (row_new v0 #[.slice none 0 0, .int .i64 0] 55)
    have HBa0 := Lib.hid (below_alloc HV.out (.cells #[.slice none 0 0, .int .i64 0] 55))
    obtain ⟨va, hva⟩ : ∃ x, v0.alloc (.cells #[.slice none 0 0, .int .i64 0] 55) = x := ⟨_, rfl⟩
    obtain ⟨X, hX⟩ : ∃ x, v0.heap.size = x := ⟨_, rfl⟩
    have HXL : W0.heap.size ≤ X := by rw [← hX]; exact HV.out.size
    rw [hva, hX] at HMX0
    rw [hva] at HBa0 HS3
    rw [hva, hX]
    clear hva hX
    refine wpAnyH_ready (rs := [3]) (by kernel_rfl) (by simp) (AllReadyH.cons rfl (fun K hK => ?_) AllReadyH.nil)
    go_simp
    refine hK.out _ _ (HALL.out _ (below_alloc HBa0.out _)) (fun HS3 => ?_)
    clear hK K
    have HPR := Lib.hid (row_new va #[.slice p pl pc, .int .u32 0, .int .i32 0, .int .u32 0, .bool false, .slice none 0 0] 72)
    have HMX1 := Lib.hid (HMX0.out.al (.cells #[.slice p pl pc, .int .u32 0, .int .i32 0, .int .u32 0, .bool false, .slice none 0 0] 72))
    have HBa := Lib.hid (below_alloc HBa0.out (.cells #[.slice p pl pc, .int .u32 0, .int .i32 0, .int .u32 0, .bool false, .slice none 0 0] 72))
    obtain ⟨vb, hvb⟩ : ∃ x, va.alloc (.cells #[.slice p pl pc, .int .u32 0, .int .i32 0, .int .u32 0, .bool false, .slice none 0 0] 72) = x := ⟨_, rfl⟩
    obtain ⟨P, hP⟩ : ∃ x, va.heap.size = x := ⟨_, rfl⟩
    have HPP := Lib.hid (show W0.heap.size ≤ P from by rw [← hP]; exact HBa0.out.size)
    rw [hvb, hP] at HPR
    rw [hvb] at HBa HMX1 HS3
    rw [hvb, hP]
    clear hvb hP
    refine wpAnyH_ready (rs := [10]) (by kernel_rfl) (by simp) (AllReadyH.cons rfl (fun K hK => ?_) AllReadyH.nil)
    go_simp
    refine (HMS.out P vb (.inl HPR.out) (below_via HB0.out HBa.out) (Nat.le_trans HB0.out.size HPP.out)).mono ?_
    rintro e w4 ⟨q, cp, rfl, hg, hr⟩
    have HB4 := Lib.hid (HBa.out.grown hg HBa.out.size (fun k hk => by cases hk; exact HPP.out))
    have HR4 := Lib.hid (hr.low (Nat.le_trans HB0.out.size HBa.out.size))
    refine hK.out _ _ (HALL.out _ HB4.out) (fun HS3 => ?_)
    clear hK K
    have HMX := Lib.hid (HMX1.out.grown hg (fun e => row_ne HPR.out HMX1.out (by decide) (Option.some.inj e)))
    obtain ⟨wX, rfl⟩ : ∃ x, x = w4 := ⟨_, rfl⟩
    have HBX := HB4
    have HRX := HR4
    have HXW := Lib.hid HXL
    have m0 := HMX.out.cell (j := 0) (by simp)
    have m1 := HMX.out.cell (j := 1) (by simp)
    have mf0 := HMX.out.free 0
    have mf1 := HMX.out.free 1
    simp at m0 m1
    refine wpAnyH_ready (rs := [12]) (by kernel_rfl) (by simp) (AllReadyH.cons rfl (fun K hK => ?_) AllReadyH.nil)
    go_simp
    have HBF := Lib.hid ((HBX.out.setCell (p := ⟨X, 0, none⟩) HXW.out (.slice q n cp)).setCell (p := ⟨X, 1, none⟩) HXW.out (.int .i64 c))
    have HMF := Lib.hid ((HMX.out.set 0 (.slice q n cp)).set 1 (.int .i64 c))
    have HRF := Lib.hid ((HRX.out.putT HMX.out (by decide) (by decide) 0 (.slice q n cp)).putT (HMX.out.set 0 (.slice q n cp)) (by decide) (by decide) 1 (.int .i64 c))
    clear m0 m1 mf0 mf1
    generalize ((wX.setCell ⟨X, 0, none⟩ (.slice q n cp)).setCell ⟨X, 1, none⟩ (.int .i64 c)) = wF at HBF HMF HRF ⊢
    refine hK.out _ _ (HALL.out _ HBF.out) (fun HS3 => ?_)
    clear hK K
    refine wpAnyH_done (by kernel_rfl) (NoPanic.normal ?_) _
    have m0 := HMF.out.cell (j := 0) (by simp)
    have m1 := HMF.out.cell (j := 1) (by simp)
    simp at m0 m1
    clear HS3
    go_wp2_with fail
    go_quiet (fail)
    go_wp2
    go_ret2
    rw [HFIN.out]
    exact ⟨q, cp, by rw [← HNN.out]; rfl, below_via HB0.out (below_drewN HBF.out _), HRF.out.keep (below_drewN (Below.refl _ _) _)⟩
end Go.Proofs.YtdphganbnlmgcaaGreatDoor
