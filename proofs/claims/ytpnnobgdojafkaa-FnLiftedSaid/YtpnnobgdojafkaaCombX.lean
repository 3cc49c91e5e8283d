
/- The exact law on Combined, walked: for every op and all records that may be read it returns true and only makes new blocks. -/
import Derived.Test.YtpnnobgdojafkaaCombd3
import Derived.Test.YtpnnobgdojafkaaRuns2
namespace Go.Proofs.Ytpnnobgdojafkaa
open Go.ChangeShapes Go.WideShapes Go.ChangeAt Go.RowKit
set_option linter.unusedVariables false
set_option maxRecDepth 100000

theorem cTo_keys (op : Int) (S : Recs) : ∀ k, k ≤ S.length → ∀ r ∈ cTo op S k, ∃ j, j < k ∧ r.1 = keyAt S j
  | 0, _, r, hr => by simp [cTo] at hr
  | k + 1, h, r, hr => by
    have ih := cTo_keys op S k (by omega)
    rw [cTo_succ op S k (by omega)] at hr
    unfold cStep at hr
    split at hr
    · rename_i hj
      have hpos : 0 < (cTo op S k).length := by
        unfold joinsB at hj
        rw [Bool.and_eq_true, decide_eq_true_eq] at hj
        exact hj.1
      rcases List.mem_or_eq_of_mem_set hr with h1 | h1
      · obtain ⟨j, hj, e⟩ := ih r h1
        exact ⟨j, by omega, e⟩
      · subst h1
        have hm : (cTo op S k).length - 1 < (cTo op S k).length := by omega
        obtain ⟨j, hj, e⟩ := ih _ (List.getElem_mem hm)
        rw [at_get _ _ hm] at e
        exact ⟨j, by omega, e⟩
    · rcases List.mem_append.1 hr with h1 | h1
      · obtain ⟨j, hj, e⟩ := ih r h1
        exact ⟨j, by omega, e⟩
      · simp at h1
        subst h1
        exact ⟨k, by omega, rfl⟩
theorem combW_few (op : Int) (l : Recs) : (combW op l).length ≤ 600 ∧ ∀ i, i < (combW op l).length → (keyAt (combW op l) i).size ≤ 40 := by
  unfold combW
  split
  · have hf := sortedB_few l
    refine ⟨Nat.le_trans (cTo_len op _ _ (Nat.le_refl _)) hf.1, fun i hi => ?_⟩
    obtain ⟨j, hj, e⟩ := cTo_keys op (sortedB l) _ (Nat.le_refl _) _ (List.getElem_mem hi)
    rw [at_get _ i hi] at e
    have e1 : keyAt (cTo op (sortedB l) (sortedB l).length) i = keyAt (sortedB l) j := e
    rw [e1]
    exact hf.2 j hj
  · exact ⟨Nat.zero_le _, fun i hi => by simp at hi⟩

set_option maxHeartbeats 8000000 in
theorem fnExactCombined_walk (op : Int) (a : Option Addr) (la ca : Nat) (l : Recs) (w : World) (ha : RecsAt w a la l) :
    Calls Try.prog 5 #[.int .i64 op, .slice a la ca] w fun e w' => e = .returned (.bool true) ∧ Below w.heap.size w w' := by
  have HA := Lib.hid ha
  clear ha
  obtain ⟨V, hV⟩ : ∃ V, combW op l = V := ⟨_, rfl⟩
  have hfew := combW_few op l
  rw [hV] at hfew
  obtain ⟨n, hn⟩ : ∃ n, V.length = n := ⟨_, rfl⟩
  have hn600 : n ≤ 600 := by rw [← hn]; exact hfew.1
  have hnm : n ≤ maxLen := by unfold maxLen; omega
  have HSH := Lib.hid (show ∀ i, i < n → (keyAt V i).size ≤ maxLen from fun i hi => by
    have := hfew.2 i (by rw [hn]; exact hi)
    unfold maxLen; omega)
  have HV := Lib.hid hV
  have HN := Lib.hid hn
  clear hV hfew hn
  go_enter Try.func5, Try.ntmps5
  go_wp2_with fail
  refine (szrecs_any _ _ _ _ _ _ HA.out (by decide) (by decide)).mono ?_
  rintro e w1 ⟨x, hx1, hx2, rfl, hB, hsz⟩
  have HB := Lib.hid hB
  have HSZ := Lib.hid hsz
  clear hB hsz
  by_cases hx : x < 0
  · go_wp2
    go_ret
    exact ⟨rfl, HB.out⟩
  · have hla : la ≤ 1048576 := (HSZ.out (by omega)).1
    clear HSZ
    go_wp2_with fail
    refine (torecs_any _ _ _ _ _ (HA.out.keep HB.out) hla).mono ?_
    rintro e w3 ⟨rfl, hG, hB, _⟩
    have HG := Lib.hid hG
    have HB := Lib.hid (below_via HB.out hB)
    clear hG hB
    go_wp2_with fail
    refine (scombined_any _ _ _ _ _ _ HG.out).mono ?_
    rw [HV.out]
    rintro e w5 ⟨q0, cp0, rfl, h0, hB, _, _, _⟩
    obtain ⟨X, hX⟩ : ∃ X, w5.heap.size = X := ⟨_, rfl⟩
    have HLT := Lib.hid (show 0 < n → ∀ g, q0 = some ⟨g, 0, none⟩ → g < X from fun hp g hg => by rw [← hX]; exact (rs_lt h0 (by rw [HN.out]; exact hp) g hg).2)
    have H0 := Lib.hid h0
    have HB := Lib.hid (below_via HB.out hB)
    have HWX := Lib.hid (show w.heap.size ≤ X by rw [← hX]; exact HB.out.size)
    clear h0 hB HG
    rw [HN.out]
    go_wp2_with fail
    refine (torecs_any _ _ _ _ _ (HA.out.keep HB.out) hla).mono ?_
    rintro e w6 ⟨rfl, hG, hB, curA, hrA, hsA⟩
    have H0 := Lib.hid (rs_keep H0.out hB)
    have HB := Lib.hid (below_via HB.out hB)
    rw [hX] at hG hrA ⊢
    have HGA := Lib.hid hG
    have HRA := Lib.hid hrA
    clear hG hB hrA hX
    obtain ⟨Z, hZs⟩ : ∃ Z, w6.heap.size = Z := ⟨_, rfl⟩
    have HXZ := Lib.hid (show X < Z by rw [← hZs]; exact HRA.out.lt)
    go_wp2_with fail
    refine (combined_any _ _ _ _ _ _ HGA.out).mono ?_
    rw [HV.out]
    rintro e w8 ⟨q1, cp1, rfl, h1, hB, _, _, _⟩
    rw [hZs] at h1
    have H1 := Lib.hid h1
    have H0 := Lib.hid (rs_keep H0.out hB)
    have HGA := Lib.hid (HGA.out.keep hB)
    have HRA := Lib.hid (HRA.out.keep hB)
    have HB := Lib.hid (below_via HB.out hB)
    clear h1 hB hZs
    rw [HN.out]
    go_wp2_with fail
    refine (eqrecs_same _ _ _ _ _ _ _ (recs_of_rs H1.out HN.out hnm HSH.out) (recs_of_rs H0.out HN.out hnm HSH.out)).mono ?_
    rintro e w9 ⟨rfl, hB⟩
    have H1 := Lib.hid (rs_keep H1.out hB)
    have H0 := Lib.hid (rs_keep H0.out hB)
    have HGA := Lib.hid (HGA.out.keep hB)
    have HRA := Lib.hid (HRA.out.keep hB)
    have HB := Lib.hid (below_via HB.out hB)
    clear hB
    go_wp2_with fail
    refine (torecs_any _ _ _ _ _ (HA.out.keep HB.out) hla).mono ?_
    rintro e w10 ⟨rfl, hG, hB, _⟩
    have H1 := Lib.hid (rs_keep H1.out hB)
    have H0 := Lib.hid (rs_keep H0.out hB)
    have HGA := Lib.hid (HGA.out.keep hB)
    have HRA := Lib.hid (HRA.out.keep hB)
    have HB := Lib.hid (below_via HB.out hB)
    have HG := Lib.hid hG
    clear hB hG
    go_wp2_with fail
    refine (eqrecs_same _ _ _ _ _ _ _ HGA.out HG.out).mono ?_
    rintro e w11 ⟨rfl, hB⟩
    have H1 := Lib.hid (rs_keep H1.out hB)
    have H0 := Lib.hid (rs_keep H0.out hB)
    have HRA := Lib.hid (HRA.out.keep hB)
    have HB := Lib.hid (below_via HB.out hB)
    clear hB HG HGA
    go_wp2_with fail
    refine (markr_any X la la 1 _ _ curA _ HRA.out rfl (by rw [hsA]; exact Nat.le_refl _) (Nat.le_refl 1) (by omega)).mono ?_
    rintro e w14 ⟨he, hg, _, _, _⟩
    obtain ⟨m1, hm1⟩ : ∃ m1, 1 + 2 * la = m1 := ⟨_, rfl⟩
    rw [hm1] at he
    subst he
    have H0 := Lib.hid (rs_grown H0.out hg (fun hp g' hg' => by rw [HN.out] at hp; have := HLT.out hp g' hg'; omega))
    have H1 := Lib.hid (rs_grown H1.out hg (fun hp g' hg' => by have := (rs_lt H1.out hp g' hg').1; have := HXZ.out; omega))
    have HB := Lib.hid (HB.out.grown hg HB.out.size (fun k hk => by cases hk; exact HWX.out))
    clear hg HRA hm1 hsA
    go_wp2_with fail
    refine (eqrecs_same _ _ _ _ _ _ _ (recs_of_rs H1.out HN.out hnm HSH.out) (recs_of_rs H0.out HN.out hnm HSH.out)).mono ?_
    rintro e w16 ⟨rfl, hB⟩
    have H1 := Lib.hid (rs_keep H1.out hB)
    have H0 := Lib.hid (rs_keep H0.out hB)
    have HB := Lib.hid (below_via HB.out hB)
    clear hB
    go_wp2_with fail
    by_cases hn0 : n = 0
    · subst hn0
      refine (markr_none q1 cp1 1 _).mono ?_
      rintro e w4 ⟨rfl, rfl⟩
      go_wp2_with fail
      refine (heldr_none q1 cp1 1 _).mono ?_
      rintro e w4 ⟨rfl, rfl⟩
      go_wp2_with fail
      refine (torecs_any _ _ _ _ _ (HA.out.keep HB.out) hla).mono ?_
      rintro e w17 ⟨rfl, hG, hB, _⟩
      have H0 := Lib.hid (rs_keep H0.out hB)
      have HB := Lib.hid (below_via HB.out hB)
      have HG := Lib.hid hG
      clear hB hG
      go_wp2_with fail
      refine (combined_any _ _ _ _ _ _ HG.out).mono ?_
      rw [HV.out]
      rintro e w19 ⟨q2, cp2, rfl, h2, hB, _, _, _⟩
      have H2 := Lib.hid h2
      have H0 := Lib.hid (rs_keep H0.out hB)
      have HB := Lib.hid (below_via HB.out hB)
      clear h2 hB
      rw [HN.out]
      go_wp2_with fail
      refine (eqrecs_same _ _ _ _ _ _ _ (recs_of_rs H2.out HN.out hnm HSH.out) (recs_of_rs H0.out HN.out hnm HSH.out)).mono ?_
      rintro e w20 ⟨rfl, hB⟩
      have HB := Lib.hid (below_via HB.out hB)
      clear hB
      go_wp2_with fail
      refine (heldr_none q1 cp1 1 _).mono ?_
      rintro e w6 ⟨rfl, rfl⟩
      go_wp2
      go_ret
      exact ⟨rfl, HB.out⟩
    · have hpos : 0 < n := by omega
      obtain ⟨g, cur, rfl, hbg, hrow, hsz⟩ : ∃ g cur, q1 = some ⟨g, 0, none⟩ ∧ Z ≤ g ∧ Row w16 g 29 cur ∧ n * 2 ≤ cur.size := by
        rcases H1.out with h0 | ⟨g, cur, hq, hb, hr, h1, _⟩
        · rw [HN.out] at h0; omega
        · exact ⟨g, cur, hq, hb, hr, by rw [← HN.out]; exact h1⟩
      have HNE := Lib.hid (show ∀ g', q0 = some ⟨g', 0, none⟩ → g' ≠ g from fun g' hg' => by have := HLT.out hpos g' hg'; have := HXZ.out; omega)
      have HGE := Lib.hid (show w.heap.size ≤ g by have := HWX.out; have := HXZ.out; omega)
      refine (markr_any g n cp1 1 _ _ cur _ hrow rfl hsz (Nat.le_refl 1) (by omega)).mono ?_
      clear hrow hsz hbg
      obtain ⟨m, hm⟩ : ∃ m, 1 + 2 * n = m := ⟨_, rfl⟩
      rintro e w17 ⟨he, hg, cur1, hr1, hmk⟩
      rw [hm] at he
      subst he
      have H0 := Lib.hid (rs_grown H0.out hg (fun _ => HNE.out))
      have HB := Lib.hid (HB.out.grown hg HB.out.size (fun k hk => by cases hk; exact HGE.out))
      have HR := Lib.hid hr1
      have HM := Lib.hid hmk
      have HMM := Lib.hid hm
      clear hg hr1 hmk hm
      go_wp2_with fail
      refine (heldr_any g n cp1 1 _ cur1 _ HR.out HM.out (Nat.le_refl 1) (by omega)).mono ?_
      rintro e w18 ⟨he, hB⟩
      rw [HMM.out] at he
      subst he
      have H0 := Lib.hid (rs_keep H0.out hB)
      have HR := Lib.hid (HR.out.keep hB)
      have HB := Lib.hid (below_via HB.out hB)
      clear hB
      go_wp2_with fail
      refine (torecs_any _ _ _ _ _ (HA.out.keep HB.out) hla).mono ?_
      rintro e w19 ⟨rfl, hG, hB, _⟩
      have H0 := Lib.hid (rs_keep H0.out hB)
      have HR := Lib.hid (HR.out.keep hB)
      have HB := Lib.hid (below_via HB.out hB)
      have HG := Lib.hid hG
      clear hB hG
      go_wp2_with fail
      refine (combined_any _ _ _ _ _ _ HG.out).mono ?_
      rw [HV.out]
      rintro e w21 ⟨q2, cp2, rfl, h2, hB, _, _, _⟩
      have H2 := Lib.hid h2
      have H0 := Lib.hid (rs_keep H0.out hB)
      have HR := Lib.hid (HR.out.keep hB)
      have HB := Lib.hid (below_via HB.out hB)
      clear h2 hB
      rw [HN.out]
      go_wp2_with fail
      refine (eqrecs_same _ _ _ _ _ _ _ (recs_of_rs H2.out HN.out hnm HSH.out) (recs_of_rs H0.out HN.out hnm HSH.out)).mono ?_
      rintro e w22 ⟨rfl, hB⟩
      have HR := Lib.hid (HR.out.keep hB)
      have HB := Lib.hid (below_via HB.out hB)
      clear hB
      go_wp2_with fail
      refine (heldr_any g n cp1 1 _ cur1 _ HR.out HM.out (Nat.le_refl 1) (by omega)).mono ?_
      rintro e w23 ⟨he, hB⟩
      rw [HMM.out] at he
      subst he
      have HB := Lib.hid (below_via HB.out hB)
      clear hB
      go_wp2
      go_ret
      exact ⟨rfl, HB.out⟩
end Go.Proofs.Ytpnnobgdojafkaa
