
/- The exact law on MergeAll, walked: for all slices of records that may be read it returns true and only makes new blocks. -/
import Derived.Test.YtkpkifghjkmhoaaSS2
import Derived.Test.YtkpkifghjkmhoaaRuns2
namespace Go.Proofs.Ytkpkifghjkmhoaa
open Go.ChangeShapes Go.WideShapes Go.ChangeAt Go.RowKit
set_option linter.unusedVariables false
set_option maxRecDepth 100000

theorem mallW_few (LS : List Recs) : (mallW LS).length ≤ 600 ∧ ∀ i, i < (mallW LS).length → (keyAt (mallW LS) i).size ≤ 40 := by
  unfold mallW
  cases h : mallK LS with
  | false => exact ⟨Nat.zero_le _, fun i hi => by simp at hi⟩
  | true =>
    rw [if_pos rfl]
    unfold mallK at h
    rw [Bool.and_eq_true, decide_eq_true_eq, List.all_eq_true] at h
    refine ⟨by rw [sortL_len]; exact h.2, fun i hi => ?_⟩
    have hm := (sortL_perm LS.flatten).mem_iff.1 (List.getElem_mem hi)
    obtain ⟨r, hr, hx⟩ := List.mem_flatten.1 hm
    have := runOk_mem (h.1 r hr) _ hx
    rw [at_get _ i hi] at this
    exact this
theorem ls_of_sc {w : World} {a : Option Addr} {len : Nat} {LS : List Recs} (h : RunSc w a len LS) (hl : len ≤ 1048576) : RunLs w a len LS := by
  refine ⟨h.1, by unfold maxLen; omega, ?_⟩
  rcases h.2 with h0 | ⟨b, off, ha, hb, hc⟩
  · exact .inl h0
  · refine .inr ⟨b, off, ha, hb, fun i hi => ?_⟩
    obtain ⟨q, n, c, h1, h2, _⟩ := hc i hi
    exact ⟨q, n, c, h1, h2⟩

set_option maxHeartbeats 8000000 in
theorem fnExactMergeAll_walk (a : Option Addr) (la ca : Nat) (LS : List Recs) (w : World) (ha : RunLs w a la LS) :
    Calls Try.prog 3 #[.slice a la ca] w fun e w' => e = .returned (.bool true) ∧ Below w.heap.size w w' := by
  obtain ⟨V, hV⟩ : ∃ V, mallW LS = V := ⟨_, rfl⟩
  have hfew := mallW_few LS
  rw [hV] at hfew
  obtain ⟨n, hn⟩ : ∃ n, V.length = n := ⟨_, rfl⟩
  have hn600 : n ≤ 600 := by rw [← hn]; exact hfew.1
  have hnm : n ≤ maxLen := by unfold maxLen; omega
  have HSH := Lib.hid (show ∀ i, i < n → (keyAt V i).size ≤ maxLen from fun i hi => by
    have := hfew.2 i (by rw [hn]; exact hi)
    unfold maxLen; omega)
  obtain ⟨z, hz⟩ : ∃ z, mallK LS = z := ⟨_, rfl⟩
  have HV := Lib.hid hV
  have HZ := Lib.hid hz
  have HN := Lib.hid hn
  have HLL := Lib.hid ha.1
  have HA := Lib.hid ha
  clear hV hfew hn hz ha
  go_enter Try.func3, Try.ntmps3
  go_wp2_with fail
  refine (szrecss_any _ _ _ _ _ _ HA.out (by decide) (by decide)).mono ?_
  rintro e w1 ⟨x, hx1, hx2, rfl, hB, hsz⟩
  have HB := Lib.hid hB
  have HSZ := Lib.hid hsz
  clear hB hsz
  by_cases hx : x < 0
  · go_wp2
    go_ret
    exact ⟨rfl, HB.out⟩
  · have hla : la ≤ 1048576 := (HSZ.out (by omega)).1
    have HSI := Lib.hid (show ∀ i, i < la → nAt LS i ≤ 1048576 from (HSZ.out (by omega)).2.2)
    have htot : LS.flatten.length ≤ 1048576 := (HSZ.out (by omega)).2.1
    clear HSZ
    go_wp2_with fail
    refine (torecss_any _ _ _ _ _ (HA.out.keep HB.out) hla HSI.out).mono ?_
    rintro e w3 ⟨rfl, hB, cu, hr, hs, hin⟩
    have HG := Lib.hid (sc_of_made HLL.out hr hs hin HSI.out)
    have HB := Lib.hid (below_via HB.out hB)
    clear hB hr hs hin
    go_wp2_with fail
    refine (smergeall_any _ _ _ _ _ HG.out.runs hla).mono ?_
    rw [HV.out, HZ.out]
    rintro e w5 ⟨q0, cp0, rfl, h0, hB⟩
    obtain ⟨X, hX⟩ : ∃ X, w5.heap.size = X := ⟨_, rfl⟩
    have HLT := Lib.hid (show 0 < n → ∀ g, q0 = some ⟨g, 0, none⟩ → g < X from fun hp g hg => by rw [← hX]; exact (rs_lt h0 (by rw [HN.out]; exact hp) g hg).2)
    have H0 := Lib.hid h0
    have HB := Lib.hid (below_via HB.out hB)
    have HWX := Lib.hid (show w.heap.size ≤ X by rw [← hX]; exact HB.out.size)
    clear h0 hB HG
    rw [HN.out]
    go_wp2_with fail
    refine (torecss_any _ _ _ _ _ (HA.out.keep HB.out) hla HSI.out).mono ?_
    rintro e w6 ⟨rfl, hB, curA, hrA, hsA, hinA⟩
    have H0 := Lib.hid (rs_keep H0.out hB)
    have HB := Lib.hid (below_via HB.out hB)
    rw [hX] at hrA hinA ⊢
    obtain ⟨Z, hZs⟩ : ∃ Z, w6.heap.size = Z := ⟨_, rfl⟩
    have HGA := Lib.hid (sc_of_made HLL.out hrA hsA hinA HSI.out)
    have HRA := Lib.hid hrA
    have HIA := Lib.hid (show ∀ i, i < la → InnerB LS (X + 1) Z w6 curA i from fun i hi => hZs ▸ (hinA i hi).toB)
    have HSA := Lib.hid hsA
    have HXZ := Lib.hid (show X < Z by rw [← hZs]; exact hrA.lt)
    clear hB hrA hsA hinA hX
    go_wp2_with fail
    refine (mergeall_any _ _ _ _ _ HGA.out hla).mono ?_
    rw [HV.out, HZ.out]
    rintro e w8 ⟨q1, cp1, rfl, h1, hB, _⟩
    rw [hZs] at h1
    have H1 := Lib.hid h1
    have H0 := Lib.hid (rs_keep H0.out hB)
    have HGA := Lib.hid (HGA.out.keep hB)
    have HRA := Lib.hid (HRA.out.keep hB)
    have HIA := Lib.hid (fun i (hi : i < la) => (HIA.out i hi).keep hB)
    have HB := Lib.hid (below_via HB.out hB)
    clear h1 hB hZs
    rw [HN.out]
    go_wp2_with fail
    refine (eqrecs_same _ _ _ _ _ _ _ (recs_of_rs H1.out HN.out hnm HSH.out) (recs_of_rs H0.out HN.out hnm HSH.out)).mono ?_
    rintro e w9 ⟨rfl, hB⟩
    have H1 := Lib.hid (rs_keep H1.out hB)
    have H0 := Lib.hid (rs_keep H0.out hB)
    have HGA := Lib.hid (HGA.out.keep hB)
    have HRA := Lib.hid (HRA.out.keep hB)
    have HIA := Lib.hid (fun i (hi : i < la) => (HIA.out i hi).keep hB)
    have HB := Lib.hid (below_via HB.out hB)
    clear hB
    go_wp2_with fail
    refine (torecss_any _ _ _ _ _ (HA.out.keep HB.out) hla HSI.out).mono ?_
    rintro e w10 ⟨rfl, hB, cu, hr, hs, hin⟩
    have H1 := Lib.hid (rs_keep H1.out hB)
    have H0 := Lib.hid (rs_keep H0.out hB)
    have HGA := Lib.hid (HGA.out.keep hB)
    have HRA := Lib.hid (HRA.out.keep hB)
    have HIA := Lib.hid (fun i (hi : i < la) => (HIA.out i hi).keep hB)
    have HB := Lib.hid (below_via HB.out hB)
    have HG := Lib.hid (sc_of_made HLL.out hr hs hin HSI.out)
    clear hB hr hs hin
    go_wp2_with fail
    refine (eqss_same _ _ _ _ _ _ _ (ls_of_sc HGA.out hla) (ls_of_sc HG.out hla)).mono ?_
    rintro e w11 ⟨rfl, hB⟩
    have H1 := Lib.hid (rs_keep H1.out hB)
    have H0 := Lib.hid (rs_keep H0.out hB)
    have HRA := Lib.hid (HRA.out.keep hB)
    have HIA := Lib.hid (fun i (hi : i < la) => (HIA.out i hi).keep hB)
    have HB := Lib.hid (below_via HB.out hB)
    clear hB HG HGA
    go_wp2_with fail
    refine (markss_any X la la (X + 1) Z LS curA _ HLL.out HRA.out (by omega) HSA.out HIA.out hla htot).mono ?_
    rintro e w14 ⟨he, hg⟩
    obtain ⟨m1, hm1⟩ : ∃ m1, 1 + 2 * LS.flatten.length = m1 := ⟨_, rfl⟩
    rw [hm1] at he
    subst he
    have H0 := Lib.hid (hg.rs H0.out (fun hp g' hg' => by rw [HN.out] at hp; have := HLT.out hp g' hg'; omega))
    have H1 := Lib.hid (hg.rs H1.out (fun hp g' hg' => by have := (rs_lt H1.out hp g' hg').1; omega))
    have HB := Lib.hid (hg.below HB.out (by have := HWX.out; omega))
    have hm1b : 1 ≤ m1 ∧ m1 ≤ 2097153 := by omega
    clear hg HRA HIA HSA hm1
    go_wp2_with fail
    refine (eqrecs_same _ _ _ _ _ _ _ (recs_of_rs H1.out HN.out hnm HSH.out) (recs_of_rs H0.out HN.out hnm HSH.out)).mono ?_
    rintro e w16 ⟨rfl, hB⟩
    have H1 := Lib.hid (rs_keep H1.out hB)
    have H0 := Lib.hid (rs_keep H0.out hB)
    have HB := Lib.hid (below_via HB.out hB)
    clear hB
    go_wp2_with fail
    by_cases hn0 : n = 0
    · subst hn0
      refine (markr_none q1 cp1 1 _).mono ?_
      rintro e w4 ⟨rfl, rfl⟩
      go_wp2_with fail
      refine (heldr_none q1 cp1 1 _).mono ?_
      rintro e w4 ⟨rfl, rfl⟩
      go_wp2_with fail
      refine (torecss_any _ _ _ _ _ (HA.out.keep HB.out) hla HSI.out).mono ?_
      rintro e w17 ⟨rfl, hB, cu, hr, hs, hin⟩
      have H0 := Lib.hid (rs_keep H0.out hB)
      have HB := Lib.hid (below_via HB.out hB)
      have HG := Lib.hid (sc_of_made HLL.out hr hs hin HSI.out)
      clear hB hr hs hin
      go_wp2_with fail
      refine (mergeall_any _ _ _ _ _ HG.out hla).mono ?_
      rw [HV.out, HZ.out]
      rintro e w19 ⟨q2, cp2, rfl, h2, hB, _⟩
      have H2 := Lib.hid h2
      have H0 := Lib.hid (rs_keep H0.out hB)
      have HB := Lib.hid (below_via HB.out hB)
      clear h2 hB
      rw [HN.out]
      go_wp2_with fail
      refine (eqrecs_same _ _ _ _ _ _ _ (recs_of_rs H2.out HN.out hnm HSH.out) (recs_of_rs H0.out HN.out hnm HSH.out)).mono ?_
      rintro e w20 ⟨rfl, hB⟩
      have HB := Lib.hid (below_via HB.out hB)
      clear hB
      go_wp2_with fail
      refine (heldr_none q1 cp1 1 _).mono ?_
      rintro e w6 ⟨rfl, rfl⟩
      go_wp2
      go_ret
      exact ⟨rfl, HB.out⟩
    · have hpos : 0 < n := by omega
      obtain ⟨g, cur, rfl, hbg, hrow, hsz⟩ : ∃ g cur, q1 = some ⟨g, 0, none⟩ ∧ Z ≤ g ∧ Row w16 g 51 cur ∧ n * 2 ≤ cur.size := by
        rcases H1.out with h0 | ⟨g, cur, hq, hb, hr, h1, _⟩
        · rw [HN.out] at h0; omega
        · exact ⟨g, cur, hq, hb, hr, by rw [← HN.out]; exact h1⟩
      have HNE := Lib.hid (show ∀ g', q0 = some ⟨g', 0, none⟩ → g' ≠ g from fun g' hg' => by have := HLT.out hpos g' hg'; have := HXZ.out; omega)
      have HGE := Lib.hid (show w.heap.size ≤ g by have := HWX.out; have := HXZ.out; omega)
      refine (markr_any g n cp1 1 _ _ cur _ hrow rfl hsz (Nat.le_refl 1) (by omega)).mono ?_
      clear hrow hsz hbg
      obtain ⟨m, hm⟩ : ∃ m, 1 + 2 * n = m := ⟨_, rfl⟩
      rintro e w17 ⟨he, hg, cur1, hr1, hmk⟩
      rw [hm] at he
      subst he
      have H0 := Lib.hid (rs_grown H0.out hg (fun _ => HNE.out))
      have HB := Lib.hid (HB.out.grown hg HB.out.size (fun k hk => by cases hk; exact HGE.out))
      have HR := Lib.hid hr1
      have HM := Lib.hid hmk
      have HMM := Lib.hid hm
      clear hg hr1 hmk hm
      go_wp2_with fail
      refine (heldr_any g n cp1 1 _ cur1 _ HR.out HM.out (Nat.le_refl 1) (by omega)).mono ?_
      rintro e w18 ⟨he, hB⟩
      rw [HMM.out] at he
      subst he
      have H0 := Lib.hid (rs_keep H0.out hB)
      have HR := Lib.hid (HR.out.keep hB)
      have HB := Lib.hid (below_via HB.out hB)
      clear hB
      go_wp2_with fail
      refine (torecss_any _ _ _ _ _ (HA.out.keep HB.out) hla HSI.out).mono ?_
      rintro e w19 ⟨rfl, hB, cu, hr, hs, hin⟩
      have H0 := Lib.hid (rs_keep H0.out hB)
      have HR := Lib.hid (HR.out.keep hB)
      have HB := Lib.hid (below_via HB.out hB)
      have HG := Lib.hid (sc_of_made HLL.out hr hs hin HSI.out)
      clear hB hr hs hin
      go_wp2_with fail
      refine (mergeall_any _ _ _ _ _ HG.out hla).mono ?_
      rw [HV.out, HZ.out]
      rintro e w21 ⟨q2, cp2, rfl, h2, hB, _⟩
      have H2 := Lib.hid h2
      have H0 := Lib.hid (rs_keep H0.out hB)
      have HR := Lib.hid (HR.out.keep hB)
      have HB := Lib.hid (below_via HB.out hB)
      clear h2 hB
      rw [HN.out]
      go_wp2_with fail
      refine (eqrecs_same _ _ _ _ _ _ _ (recs_of_rs H2.out HN.out hnm HSH.out) (recs_of_rs H0.out HN.out hnm HSH.out)).mono ?_
      rintro e w22 ⟨rfl, hB⟩
      have HR := Lib.hid (HR.out.keep hB)
      have HB := Lib.hid (below_via HB.out hB)
      clear hB
      go_wp2_with fail
      refine (heldr_any g n cp1 1 _ cur1 _ HR.out HM.out (Nat.le_refl 1) (by omega)).mono ?_
      rintro e w23 ⟨he, hB⟩
      rw [HMM.out] at he
      subst he
      have HB := Lib.hid (below_via HB.out hB)
      clear hB
      go_wp2
      go_ret
      exact ⟨rfl, HB.out⟩
end Go.Proofs.Ytkpkifghjkmhoaa
