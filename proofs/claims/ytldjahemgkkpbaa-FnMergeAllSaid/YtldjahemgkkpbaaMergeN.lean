
/- MergeRuns of both sides for slices that may be nil. Only new blocks are made. -/
import Derived.Test.YtldjahemgkkpbaaMergeS
namespace Go.Proofs.Ytldjahemgkkpbaa
open Go.ChangeShapes Go.WideShapes Go.ChangeAt Go.RowKit
set_option linter.unusedVariables false
set_option maxRecDepth 100000

set_option maxHeartbeats 8000000 in
theorem merged_nil (pa pb : Addr) (la ca lb cb : Nat) (l k : Recs) (w : World) (ha : RecsAt w (some pa) la l) (hb : RecsAt w (some pb) lb k) (h0 : la = 0 ∨ lb = 0) (h6 : la + lb ≤ 600) :
    Calls Try.prog 35 #[.slice (some pa) la ca, .slice (some pb) lb cb, .func (Fn.func 36) #[] #[]] w (MadeRs (mergeL l k) w) := by
  obtain ⟨i0, hi, hz0, hz1, hz2⟩ := info_parts infoRec
  have HA := Lib.hid ha
  have HC := Lib.hid hb
  have HM := Lib.hid (show mergeL l k = l ++ k from mergeL_nil (h0.imp (fun h => List.length_eq_zero_iff.1 (ha.length.trans h)) (fun h => List.length_eq_zero_iff.1 (hb.length.trans h))))
  have HL := Lib.hid (show (mergeL l k).length = la + lb by rw [mergeL_len, ha.length, hb.length])
  clear ha hb
  go_enter Try.func35, Try.ntmps35
  go_wp2_with (at_make; (refine wpList_make_own _ rfl _ _ 24 rfl w.heap.size 30 i0 _ 2 Try.underlying24 hi hz0 hz1 .i64 .i64 _ (la + lb) rfl rfl (by omega) (by rw [hz2]; omega) (by unfold maxLen; omega) (Nat.le_refl _) ?_); intro w1 hown hgrow; have HO := Lib.hid hown; have HB := Lib.hid ((Below.refl w.heap.size w).grown hgrow (Nat.le_refl _) (fun k hk => by cases hk)); clear hown hgrow)
  go_loopw [0, 1, 7] (fun sa sb v wr => sa = .slice (some pa) la ca ∧ sb = .slice (some pb) lb cb ∧ v = .slice (some ⟨w.heap.size, 0, none⟩) 0 (la + lb) ∧ Hid (wr.ownsRow w.heap.size 30 2 (.slice (some ⟨w.heap.size, 0, none⟩) 0 (la + lb)) 0 [] ∧ Below w.heap.size w wr)) (fun _ _ _ _ => 0)
  case atStart => exact ⟨rfl, rfl, rfl, HO.out, HB.out⟩
  case round =>
    obtain ⟨rfl, rfl, rfl, HW⟩ := hrel
    clear HO HB
    have HO := Lib.hid HW.out.1
    have HB := Lib.hid HW.out.2
    have RA := Lib.hid (HA.out.keep HB.out)
    rcases h0 with rfl | rfl
    · go_wp2_with (first | (at_builtin; (refine wpList_append_own _ rfl _ _ 24 rfl w.heap.size 30 i0 _ 2 24 Try.underlying24 hi hz0 hz1 hz2 rfl (by decide) _ _ _ rfl HO1.out pb lb cb (cellsL k) rfl (by rw [cellsL_len, RB.out.length]) (recs_cellsO RB.out) (cellsL_one _) (by unfold maxLen; omega) (by omega) HB1.out.size ?_); intro v' w5 hown1 hgrow hnil; have HO2 := Lib.hid hown1; have HB2 := Lib.hid (HB1.out.grown hgrow HB1.out.size (fun j hj => (HO1.out.lt j hj).1)); have RB := Lib.hid (HC.out.keep HB2.out); clear hown1 hgrow hnil) | (at_builtin; (refine wpList_append_own _ rfl _ _ 24 rfl w.heap.size 30 i0 _ 2 24 Try.underlying24 hi hz0 hz1 hz2 rfl (by decide) _ _ _ rfl HO.out pa 0 ca (cellsL l) rfl (by rw [cellsL_len, RA.out.length]) (recs_cellsO RA.out) (cellsL_one _) (by unfold maxLen; omega) (by omega) HB.out.size ?_); intro v' w4 hown1 hgrow hnil; have HO1 := Lib.hid hown1; have HB1 := Lib.hid (HB.out.grown hgrow HB.out.size (fun j hj => (HO.out.lt j hj).1)); have RB := Lib.hid (HC.out.keep HB1.out); clear hown1 hgrow hnil))
      all_goals (
        obtain ⟨q1, cp1, rfl⟩ := own_form HO2.out
        have HF := Lib.hid (show w5.ownsRow w.heap.size 30 2 (.slice q1 (mergeL l k).length cp1) (mergeL l k).length (cellsL (mergeL l k)) by
          have h := HO2.out
          rw [List.nil_append, ← cellsL_append, ← HM.out] at h
          have e : 0 + 0 + lb = (mergeL l k).length := by have := HL.out; omega
          rw [e] at h; exact h)
        go_ret
        exact ⟨q1, cp1, by rw [HL.out]; first | rfl | (simp), rs_of_own HF.out, HB2.out, (own_cap HF.out).1, (own_cap HF.out).2⟩)
    · go_wp2_with (first | (at_builtin; (refine wpList_append_own _ rfl _ _ 24 rfl w.heap.size 30 i0 _ 2 24 Try.underlying24 hi hz0 hz1 hz2 rfl (by decide) _ _ _ rfl HO1.out pb 0 cb (cellsL k) rfl (by rw [cellsL_len, RB.out.length]) (recs_cellsO RB.out) (cellsL_one _) (by unfold maxLen; omega) (by omega) HB1.out.size ?_); intro v' w5 hown1 hgrow hnil; have HO2 := Lib.hid hown1; have HB2 := Lib.hid (HB1.out.grown hgrow HB1.out.size (fun j hj => (HO1.out.lt j hj).1)); have RB := Lib.hid (HC.out.keep HB2.out); clear hown1 hgrow hnil) | (at_builtin; (refine wpList_append_own _ rfl _ _ 24 rfl w.heap.size 30 i0 _ 2 24 Try.underlying24 hi hz0 hz1 hz2 rfl (by decide) _ _ _ rfl HO.out pa la ca (cellsL l) rfl (by rw [cellsL_len, RA.out.length]) (recs_cellsO RA.out) (cellsL_one _) (by unfold maxLen; omega) (by omega) HB.out.size ?_); intro v' w4 hown1 hgrow hnil; have HO1 := Lib.hid hown1; have HB1 := Lib.hid (HB.out.grown hgrow HB.out.size (fun j hj => (HO.out.lt j hj).1)); have RB := Lib.hid (HC.out.keep HB1.out); clear hown1 hgrow hnil))
      all_goals (
        obtain ⟨q1, cp1, rfl⟩ := own_form HO2.out
        have HF := Lib.hid (show w5.ownsRow w.heap.size 30 2 (.slice q1 (mergeL l k).length cp1) (mergeL l k).length (cellsL (mergeL l k)) by
          have h := HO2.out
          rw [List.nil_append, ← cellsL_append, ← HM.out] at h
          have e : 0 + la + 0 = (mergeL l k).length := by have := HL.out; omega
          rw [e] at h; exact h)
        go_ret
        exact ⟨q1, cp1, by rw [HL.out]; first | rfl | (simp), rs_of_own HF.out, HB2.out, (own_cap HF.out).1, (own_cap HF.out).2⟩)

set_option maxHeartbeats 4000000 in
theorem merged_ns (pb : Addr) (lb cb : Nat) (l k : Recs) (w : World) (ha : RecsAt w none 0 l) (hb : RecsAt w (some pb) lb k) (h6 : 0 + lb ≤ 600) :
    Calls Try.prog 35 #[.slice none 0 0, .slice (some pb) lb cb, .func (Fn.func 36) #[] #[]] w (MadeRs (mergeL l k) w) := by
  obtain ⟨i0, hi, hz0, hz1, hz2⟩ := info_parts infoRec
  have HA := Lib.hid ha
  have HC := Lib.hid hb
  have HM := Lib.hid (show mergeL l k = k by rw [mergeL_nil (.inl (List.length_eq_zero_iff.1 ha.length)), List.length_eq_zero_iff.1 ha.length]; rfl)
  have HL := Lib.hid (show (k : Recs).length = lb from hb.length)
  clear ha hb
  go_enter Try.func35, Try.ntmps35
  go_wp2_with (at_make; (refine wpList_make_own _ rfl _ _ 24 rfl w.heap.size 30 i0 _ 2 Try.underlying24 hi hz0 hz1 .i64 .i64 _ (lb) rfl rfl (by omega) (by rw [hz2]; omega) (by unfold maxLen; omega) (Nat.le_refl _) ?_); intro w1 hown hgrow; have HO := Lib.hid hown; have HB := Lib.hid ((Below.refl w.heap.size w).grown hgrow (Nat.le_refl _) (fun k hk => by cases hk)); clear hown hgrow)
  go_loopw [0, 1, 7] (fun sa sb v wr => sa = .slice none 0 0 ∧ sb = .slice (some pb) lb cb ∧ v = .slice (some ⟨w.heap.size, 0, none⟩) 0 (lb) ∧ Hid (wr.ownsRow w.heap.size 30 2 (.slice (some ⟨w.heap.size, 0, none⟩) 0 (lb)) 0 [] ∧ Below w.heap.size w wr)) (fun _ _ _ _ => 0)
  case atStart => exact ⟨rfl, rfl, rfl, HO.out, HB.out⟩
  case round =>
    obtain ⟨rfl, rfl, rfl, HW⟩ := hrel
    clear HO HB
    have HO := Lib.hid HW.out.1
    have HB := Lib.hid HW.out.2
    have RA := Lib.hid (HA.out.keep HB.out)
    have RB := Lib.hid (HC.out.keep HB.out)
    go_wp2_with (first | (at_builtin; (refine wpList_append_own _ rfl _ _ 24 rfl w.heap.size 30 i0 _ 2 24 Try.underlying24 hi hz0 hz1 hz2 rfl (by decide) _ _ _ rfl HO1.out pb lb cb (cellsL k) rfl (by rw [cellsL_len, RB.out.length]) (recs_cellsO RB.out) (cellsL_one _) (by unfold maxLen; omega) (by omega) HB1.out.size ?_); intro v' w5 hown1 hgrow hnil; have HO2 := Lib.hid hown1; have HB2 := Lib.hid (HB1.out.grown hgrow HB1.out.size (fun j hj => (HO1.out.lt j hj).1)); clear hown1 hgrow hnil) | (at_builtin; (refine wpList_append_own_none rfl _ _ 24 rfl w.heap.size 30 i0 2 Try.underlying24 hi _ _ _ rfl HO.out rfl ?_); have HO1 := Lib.hid HO.out; have HB1 := Lib.hid HB.out))
    all_goals (
      obtain ⟨q1, cp1, hq1⟩ := own_form HO2.out
      have HF := Lib.hid HO2.out
      rw [hq1] at HF
      rw [HM.out]
      first
        | (go_ret; exact ⟨q1, cp1, by rw [HL.out]; simp [hq1], rs_of_own (cp := cp1) (by have h := HF.out; (try simp only [List.nil_append, Nat.zero_add] at h); rw [HL.out]; exact h), HB2.out, by have := (own_cap HF.out).1; rw [HL.out]; omega, (own_cap HF.out).2⟩))

set_option maxHeartbeats 4000000 in
theorem merged_sn (pa : Addr) (la ca : Nat) (l k : Recs) (w : World) (ha : RecsAt w (some pa) la l) (hb : RecsAt w none 0 k) (h6 : la + 0 ≤ 600) :
    Calls Try.prog 35 #[.slice (some pa) la ca, .slice none 0 0, .func (Fn.func 36) #[] #[]] w (MadeRs (mergeL l k) w) := by
  obtain ⟨i0, hi, hz0, hz1, hz2⟩ := info_parts infoRec
  have HA := Lib.hid ha
  have HC := Lib.hid hb
  have HM := Lib.hid (show mergeL l k = l by rw [mergeL_nil (.inr (List.length_eq_zero_iff.1 hb.length)), List.length_eq_zero_iff.1 hb.length, List.append_nil])
  have HL := Lib.hid (show (l : Recs).length = la from ha.length)
  clear ha hb
  go_enter Try.func35, Try.ntmps35
  go_wp2_with (at_make; (refine wpList_make_own _ rfl _ _ 24 rfl w.heap.size 30 i0 _ 2 Try.underlying24 hi hz0 hz1 .i64 .i64 _ (la) rfl rfl (by omega) (by rw [hz2]; omega) (by unfold maxLen; omega) (Nat.le_refl _) ?_); intro w1 hown hgrow; have HO := Lib.hid hown; have HB := Lib.hid ((Below.refl w.heap.size w).grown hgrow (Nat.le_refl _) (fun k hk => by cases hk)); clear hown hgrow)
  go_loopw [0, 1, 7] (fun sa sb v wr => sa = .slice (some pa) la ca ∧ sb = .slice none 0 0 ∧ v = .slice (some ⟨w.heap.size, 0, none⟩) 0 (la) ∧ Hid (wr.ownsRow w.heap.size 30 2 (.slice (some ⟨w.heap.size, 0, none⟩) 0 (la)) 0 [] ∧ Below w.heap.size w wr)) (fun _ _ _ _ => 0)
  case atStart => exact ⟨rfl, rfl, rfl, HO.out, HB.out⟩
  case round =>
    obtain ⟨rfl, rfl, rfl, HW⟩ := hrel
    clear HO HB
    have HO := Lib.hid HW.out.1
    have HB := Lib.hid HW.out.2
    have RA := Lib.hid (HA.out.keep HB.out)
    have RB := Lib.hid (HC.out.keep HB.out)
    go_wp2_with (first | (at_builtin; (refine wpList_append_own_none rfl _ _ 24 rfl w.heap.size 30 i0 2 Try.underlying24 hi _ _ _ rfl HO1.out rfl ?_); have HO2 := Lib.hid HO1.out; have HB2 := Lib.hid HB1.out) | (at_builtin; (refine wpList_append_own _ rfl _ _ 24 rfl w.heap.size 30 i0 _ 2 24 Try.underlying24 hi hz0 hz1 hz2 rfl (by decide) _ _ _ rfl HO.out pa la ca (cellsL l) rfl (by rw [cellsL_len, RA.out.length]) (recs_cellsO RA.out) (cellsL_one _) (by unfold maxLen; omega) (by omega) HB.out.size ?_); intro v' w4 hown1 hgrow hnil; have HO1 := Lib.hid hown1; have HB1 := Lib.hid (HB.out.grown hgrow HB.out.size (fun j hj => (HO.out.lt j hj).1)); clear hown1 hgrow hnil))
    all_goals (
      obtain ⟨q1, cp1, hq1⟩ := own_form HO2.out
      have HF := Lib.hid HO2.out
      rw [hq1] at HF
      rw [HM.out]
      first
        | (go_ret; exact ⟨q1, cp1, by rw [HL.out]; simp [hq1], rs_of_own (cp := cp1) (by have h := HF.out; (try simp only [List.nil_append, Nat.zero_add] at h); rw [HL.out]; exact h), HB2.out, by have := (own_cap HF.out).1; rw [HL.out]; omega, (own_cap HF.out).2⟩))

set_option maxHeartbeats 4000000 in
theorem merged_nn  (l k : Recs) (w : World) (ha : RecsAt w none 0 l) (hb : RecsAt w none 0 k) :
    Calls Try.prog 35 #[.slice none 0 0, .slice none 0 0, .func (Fn.func 36) #[] #[]] w (MadeRs (mergeL l k) w) := by
  obtain ⟨i0, hi, hz0, hz1, hz2⟩ := info_parts infoRec
  have HA := Lib.hid ha
  have HC := Lib.hid hb
  have HM := Lib.hid (show mergeL l k = [] by rw [mergeL_nil (.inl (List.length_eq_zero_iff.1 ha.length)), List.length_eq_zero_iff.1 ha.length, List.length_eq_zero_iff.1 hb.length]; rfl)
  have HL := Lib.hid (show ([] : Recs).length = 0 from rfl)
  clear ha hb
  go_enter Try.func35, Try.ntmps35
  go_wp2_with (at_make; (refine wpList_make_own _ rfl _ _ 24 rfl w.heap.size 30 i0 _ 2 Try.underlying24 hi hz0 hz1 .i64 .i64 _ (0) rfl rfl (by omega) (by rw [hz2]; omega) (by unfold maxLen; omega) (Nat.le_refl _) ?_); intro w1 hown hgrow; have HO := Lib.hid hown; have HB := Lib.hid ((Below.refl w.heap.size w).grown hgrow (Nat.le_refl _) (fun k hk => by cases hk)); clear hown hgrow)
  go_loopw [0, 1, 7] (fun sa sb v wr => sa = .slice none 0 0 ∧ sb = .slice none 0 0 ∧ v = .slice (some ⟨w.heap.size, 0, none⟩) 0 (0) ∧ Hid (wr.ownsRow w.heap.size 30 2 (.slice (some ⟨w.heap.size, 0, none⟩) 0 (0)) 0 [] ∧ Below w.heap.size w wr)) (fun _ _ _ _ => 0)
  case atStart => exact ⟨rfl, rfl, rfl, HO.out, HB.out⟩
  case round =>
    obtain ⟨rfl, rfl, rfl, HW⟩ := hrel
    clear HO HB
    have HO := Lib.hid HW.out.1
    have HB := Lib.hid HW.out.2
    have RA := Lib.hid (HA.out.keep HB.out)
    have RB := Lib.hid (HC.out.keep HB.out)
    go_wp2_with (first | (at_builtin; (refine wpList_append_own_none rfl _ _ 24 rfl w.heap.size 30 i0 2 Try.underlying24 hi _ _ _ rfl HO1.out rfl ?_); have HO2 := Lib.hid HO1.out; have HB2 := Lib.hid HB1.out) | (at_builtin; (refine wpList_append_own_none rfl _ _ 24 rfl w.heap.size 30 i0 2 Try.underlying24 hi _ _ _ rfl HO.out rfl ?_); have HO1 := Lib.hid HO.out; have HB1 := Lib.hid HB.out))
    all_goals (
      obtain ⟨q1, cp1, hq1⟩ := own_form HO2.out
      have HF := Lib.hid HO2.out
      rw [hq1] at HF
      rw [HM.out]
      first
        | (go_ret; exact ⟨q1, cp1, by rw [HL.out]; simp [hq1], rs_of_own (cp := cp1) (by have h := HF.out; (try simp only [List.nil_append, Nat.zero_add] at h); rw [HL.out]; exact h), HB2.out, by have := (own_cap HF.out).1; rw [HL.out]; omega, (own_cap HF.out).2⟩))

theorem mergedN_any (a b : Option Addr) (la ca lb cb : Nat) (l k : Recs) (w : World) (ha : RecsAt w a la l) (hb : RecsAt w b lb k) (hca : la ≤ ca) (hcb : lb ≤ cb) (hcam : ca ≤ maxLen) (hcbm : cb ≤ maxLen) (h6 : la + lb ≤ 600)
    (hka : ∀ r ∈ l, r.1.size ≤ 40) (hkb : ∀ r ∈ k, r.1.size ≤ 40) (hna : a = none → la = 0 ∧ ca = 0) (hnb : b = none → lb = 0 ∧ cb = 0) :
    Calls Try.prog 35 #[.slice a la ca, .slice b lb cb, .func (Fn.func 36) #[] #[]] w (MadeRs (mergeL l k) w) := by
  cases a with
  | none =>
    obtain ⟨rfl, rfl⟩ := hna rfl
    cases b with
    | none =>
      obtain ⟨rfl, rfl⟩ := hnb rfl
      exact merged_nn l k w ha hb
    | some pb => exact merged_ns pb lb cb l k w ha hb h6
  | some pa =>
    cases b with
    | none =>
      obtain ⟨rfl, rfl⟩ := hnb rfl
      exact merged_sn pa la ca l k w ha hb h6
    | some pb =>
      by_cases h0 : la = 0 ∨ lb = 0
      · exact merged_nil pa pb la ca lb cb l k w ha hb h0 h6
      · rcases ha.src with h1 | ⟨ba, oa, hq, _, _⟩
        · exact absurd (.inl h1) h0
        · rcases hb.src with h1 | ⟨bb, ob, hq2, _, _⟩
          · exact absurd (.inr h1) h0
          · simp only [Option.some.injEq] at hq hq2
            subst hq
            subst hq2
            exact merged_any ba oa la ca bb ob lb cb l k w ha hb hca hcb hcam hcbm h6 hka hkb

end Go.Proofs.Ytldjahemgkkpbaa
