
/- The exact law on ReadRun, walked: for every text that may be read it returns true and only makes new blocks. -/
import Derived.Test.YtonipfhigkkhnaaReadRun2
namespace Go.Proofs.Ytonipfhigkkhnaa
open Go.ChangeShapes Go.WideShapes Go.ChangeAt Go.RowKit
set_option linter.unusedVariables false
set_option maxRecDepth 100000

theorem read_short (s : ByteArray) (hs : s.size ≤ maxLen) : (readW s).length ≤ 600 ∧ ∀ i, i < (readW s).length → (keyAt (readW s) i).size ≤ maxLen := by
  unfold readW
  cases h : readB s with
  | none => exact ⟨Nat.zero_le _, fun i hi => by simp at hi⟩
  | some W =>
    unfold readB at h
    obtain ⟨k, hf, rfl⟩ := Option.map_eq_some_iff.1 h
    have hk := List.mem_range.1 (List.mem_of_find?_eq_some hf)
    show (recsK s k).length ≤ 600 ∧ _
    rw [recsK_len]
    refine ⟨by omega, fun i hi => ?_⟩
    have := recsK_keys s k i (by simpa [recsK_len] using hi)
    show (keyAt (recsK s k) i).size ≤ maxLen
    omega

set_option maxHeartbeats 2000000 in
theorem fnExactReadRun_walk (s : ByteArray) (w : World) (hs : s.size ≤ maxLen) :
    Calls Try.prog 11 #[.string s] w fun e w' => e = .returned (.bool true) ∧ Below w.heap.size w w' := by
  have hsh := read_short s hs
  unfold maxLen at hs
  obtain ⟨W, hW⟩ : ∃ W, readW s = W := ⟨_, rfl⟩
  rw [hW] at hsh
  obtain ⟨b, hb⟩ : ∃ b, readK s = b := ⟨_, rfl⟩
  have HW := Lib.hid hW
  have HBK := Lib.hid hb
  have HSH := Lib.hid hsh
  obtain ⟨n, hn⟩ : ∃ n, W.length = n := ⟨_, rfl⟩
  have hn600 : n ≤ 600 := by rw [← hn]; exact hsh.1
  have hnm : n ≤ maxLen := by unfold maxLen; omega
  have hsh := hsh.2
  rw [hn] at hsh
  have HSH := Lib.hid hsh
  have HN := Lib.hid hn
  clear hW hsh hn hb
  by_cases hbig : 1048576 < s.size
  · go_enter Try.func11, Try.ntmps11
    go_wp2
    go_ret
    exact ⟨rfl, Below.refl _ _⟩
  · have hsm : s.size ≤ 1048576 := by omega
    go_enter Try.func11, Try.ntmps11
    go_wp2_with fail
    refine (sreadrun_any s _ hsm).mono ?_
    rw [HW.out, HBK.out]
    rintro e w1 ⟨q0, cp0, rfl, h0, hB⟩
    have H0 := Lib.hid h0
    have HB := Lib.hid hB
    have HLT := Lib.hid (show 0 < n → ∀ g, q0 = some ⟨g, 0, none⟩ → g < w1.heap.size from fun hp g hg => (rs_lt h0 (by rw [HN.out]; exact hp) g hg).2)
    clear h0 hB
    rw [HN.out]
    go_wp2_with fail
    refine (readrun_any s _ hsm).mono ?_
    rw [HW.out, HBK.out]
    rintro e w2 ⟨q1, cp1, rfl, h1, hB⟩
    have H1 := Lib.hid h1
    have H0 := Lib.hid (rs_keep H0.out hB)
    have HS1 := Lib.hid HB.out.size
    have HB := Lib.hid (below_via HB.out hB)
    clear h1 hB
    rw [HN.out]
    go_wp2_with fail
    refine (eqrecs_same _ _ _ _ _ _ _ (recs_of_rs H1.out HN.out hnm HSH.out) (recs_of_rs H0.out HN.out hnm HSH.out)).mono ?_
    rintro e w3 ⟨rfl, hB⟩
    have H1 := Lib.hid (rs_keep H1.out hB)
    have H0 := Lib.hid (rs_keep H0.out hB)
    have HB := Lib.hid (below_via HB.out hB)
    clear hB
    go_wp2_with fail
    by_cases hn0 : n = 0
    · subst hn0
      refine (markr_none q1 cp1 1 _).mono ?_
      rintro e w4 ⟨rfl, rfl⟩
      go_wp2_with fail
      refine (heldr_none q1 cp1 1 _).mono ?_
      rintro e w4 ⟨rfl, rfl⟩
      go_wp2_with fail
      refine (readrun_any s _ hsm).mono ?_
      rw [HW.out, HBK.out]
      rintro e w4 ⟨q2, cp2, rfl, h2, hB⟩
      have H2 := Lib.hid h2
      have H0 := Lib.hid (rs_keep H0.out hB)
      have HB := Lib.hid (below_via HB.out hB)
      clear h2 hB
      rw [HN.out]
      go_wp2_with fail
      refine (eqrecs_same _ _ _ _ _ _ _ (recs_of_rs H2.out HN.out hnm HSH.out) (recs_of_rs H0.out HN.out hnm HSH.out)).mono ?_
      rintro e w5 ⟨rfl, hB⟩
      have HB := Lib.hid (below_via HB.out hB)
      clear hB
      go_wp2_with fail
      refine (heldr_none q1 cp1 1 _).mono ?_
      rintro e w6 ⟨rfl, rfl⟩
      go_wp2
      go_ret
      exact ⟨rfl, HB.out⟩
    · have hpos : 0 < n := by omega
      obtain ⟨g, cur, rfl, hbg, hrow, hsz⟩ : ∃ g cur, q1 = some ⟨g, 0, none⟩ ∧ w1.heap.size ≤ g ∧ Row w3 g 33 cur ∧ n * 2 ≤ cur.size := by
        rcases H1.out with h0 | ⟨g, cur, hq, hb, hr, h1, _⟩
        · rw [HN.out] at h0; omega
        · exact ⟨g, cur, hq, hb, hr, by rw [← HN.out]; exact h1⟩
      have HNE := Lib.hid (show ∀ g', q0 = some ⟨g', 0, none⟩ → g' ≠ g from fun g' hg' => by have := HLT.out hpos g' hg'; omega)
      have HGE := Lib.hid (show w.heap.size ≤ g from Nat.le_trans HS1.out hbg)
      refine (markr_any g n cp1 1 _ _ cur _ hrow rfl hsz (Nat.le_refl 1) (by omega)).mono ?_
      clear hrow hsz hbg
      obtain ⟨m, hm⟩ : ∃ m, 1 + 2 * n = m := ⟨_, rfl⟩
      rintro e w4 ⟨he, hg, cur1, hr1, hmk⟩
      rw [hm] at he
      subst he
      have H0 := Lib.hid (rs_grown H0.out hg (fun _ => HNE.out))
      have HB := Lib.hid (HB.out.grown hg HB.out.size (fun k hk => by cases hk; exact HGE.out))
      have HR := Lib.hid hr1
      have HM := Lib.hid hmk
      have HMM := Lib.hid hm
      clear hg hr1 hmk hm
      go_wp2_with fail
      refine (heldr_any g n cp1 1 _ cur1 _ HR.out HM.out (Nat.le_refl 1) (by omega)).mono ?_
      rintro e w5 ⟨he, hB⟩
      rw [HMM.out] at he
      subst he
      have H0 := Lib.hid (rs_keep H0.out hB)
      have HR := Lib.hid (HR.out.keep hB)
      have HB := Lib.hid (below_via HB.out hB)
      clear hB
      go_wp2_with fail
      refine (readrun_any s _ hsm).mono ?_
      rw [HW.out, HBK.out]
      rintro e w6 ⟨q2, cp2, rfl, h2, hB⟩
      have H2 := Lib.hid h2
      have H0 := Lib.hid (rs_keep H0.out hB)
      have HR := Lib.hid (HR.out.keep hB)
      have HB := Lib.hid (below_via HB.out hB)
      clear h2 hB
      rw [HN.out]
      go_wp2_with fail
      refine (eqrecs_same _ _ _ _ _ _ _ (recs_of_rs H2.out HN.out hnm HSH.out) (recs_of_rs H0.out HN.out hnm HSH.out)).mono ?_
      rintro e w7 ⟨rfl, hB⟩
      have HR := Lib.hid (HR.out.keep hB)
      have HB := Lib.hid (below_via HB.out hB)
      clear hB
      go_wp2_with fail
      refine (heldr_any g n cp1 1 _ cur1 _ HR.out HM.out (Nat.le_refl 1) (by omega)).mono ?_
      rintro e w8 ⟨he, hB⟩
      rw [HMM.out] at he
      subst he
      have HB := Lib.hid (below_via HB.out hB)
      clear hB
      go_wp2
      go_ret
      exact ⟨rfl, HB.out⟩
end Go.Proofs.Ytonipfhigkkhnaa
