
/- The law on the keys of merged runs, walked: a merged run has just the keys of both. Only new blocks are made. -/
import Derived.Test.YtkpkifghjkmhoaaKeysN
import Derived.Test.YtkpkifghjkmhoaaKeysW
import Derived.Test.YtkpkifghjkmhoaaDrawMM
import Derived.Test.YtkpkifghjkmhoaaMergeA
import Derived.Test.YtkpkifghjkmhoaaMergeX
import Derived.Test.YtkpkifghjkmhoaaDraw1
namespace Go.Proofs.Ytkpkifghjkmhoaa
open Go.ChangeShapes Go.WideShapes Go.ChangeAt Go.RowKit
set_option linter.unusedVariables false
set_option maxRecDepth 100000

theorem find_got {l : Recs} {key : ByteArray} {p : Int} {b : Bool} (h : findB l key = (p, b)) {w : World} {e : Ending} {w' : World} (hm : MadeFind (findB l key) w e w') : e = .returned (.tuple #[.int .i64 p, .bool b]) ∧ Below w.heap.size w w' := by
  rw [h] at hm; exact hm

set_option maxHeartbeats 8000000 in
theorem fnMergeKeys_walk (w : World) (a : Option Addr) (len cap : Nat) (h : Src w a len) :
    Calls Try.prog 5 #[.slice a len cap] w fun e w' => e = .returned (.bool true) ∧ Below w.heap.size w w' := by
  have S := Lib.hid h
  clear h
  by_cases hb : 1048576 < len
  · go_enter Try.func5, Try.ntmps5
    go_wp2_with (go_at_call 15; refine (big_yes _ _ _ _ hb).mono ?_; rintro e w' ⟨rfl, rfl⟩)
    go_ret
    exact ⟨rfl, Below.refl _ _⟩
  · go_enter Try.func5, Try.ntmps5
    go_wp2_with (go_at_call 15; refine (big_no _ _ _ _ hb).mono ?_; rintro e w' ⟨rfl, rfl⟩)
    refine (drawtwo_any _ _ _ _ S.out).mono ?_
    rintro e w1 ⟨q1, q2, n1, c1, n2, c2, V1, V2, rfl, hd1, hd2, hB⟩
    have H1 := Lib.hid hd1
    have H2 := Lib.hid hd2
    have HB := Lib.hid hB
    have hn1 := hd1.few
    have hn2 := hd2.few
    obtain ⟨M, hM⟩ : ∃ M, mergeW V1 V2 = M := ⟨_, rfl⟩
    obtain ⟨z, hz⟩ : ∃ z, mergeK V1 V2 = z := ⟨_, rfl⟩
    have HM := Lib.hid hM
    have HZ := Lib.hid hz
    clear hd1 hd2 hB hM hz
    go_wp2_with fail
    refine (mergerunsN_any _ _ _ _ _ _ _ _ _ H1.out.recs H2.out.recs H1.out.cap.1 H2.out.cap.1 H1.out.cap.2.1 H2.out.cap.2.1 (by omega) (by omega) H1.out.none H2.out.none).mono ?_
    rw [HM.out, HZ.out]
    rintro e w2 ⟨qm, cm, rfl, hrs, hB, _⟩
    have H1 := Lib.hid (H1.out.keep hB)
    have H2 := Lib.hid (H2.out.keep hB)
    have HRS := Lib.hid hrs
    have HB := Lib.hid (below_via HB.out hB)
    clear hrs hB
    go_wp2_with fail
    refine (smergerunsN_any _ _ _ _ _ _ _ _ _ H1.out.recs H2.out.recs H1.out.none H2.out.none).mono ?_
    rw [HM.out, HZ.out]
    rintro e w3 ⟨qs, cs, rfl, _, hB⟩
    have H1 := Lib.hid (H1.out.keep hB)
    have H2 := Lib.hid (H2.out.keep hB)
    have HRS := Lib.hid (rs_keep HRS.out hB)
    have HB := Lib.hid (below_via HB.out hB)
    clear hB
    cases z with
    | false =>
      go_wp2
      go_ret
      exact ⟨rfl, HB.out⟩
    | true =>
      have hk6 := mergeW_few V1 V2
      have hml : M.length = n1 + n2 := by
        have hw : mergeW V1 V2 = mergeL V1 V2 := by unfold mergeW; rw [HZ.out]; rfl
        rw [← HM.out, hw, mergeL_len, H1.out.recs.length, H2.out.recs.length]
      rw [HM.out] at hk6
      obtain ⟨nm, hnm⟩ : ∃ nm, M.length = nm := ⟨_, rfl⟩
      rw [hnm] at hk6 hml
      have HRM := Lib.hid (recs_of_rs HRS.out hnm (by unfold maxLen; omega) (fun i hi => by have := hk6.2 i hi; unfold maxLen; omega))
      have hnm6 := hk6.1
      have HNM := Lib.hid hnm
      obtain ⟨hks, hkl⟩ := keysB_short HRM.out
      obtain ⟨K, hK⟩ : ∃ K, keysB M = K := ⟨_, rfl⟩
      rw [hK] at hks hkl
      obtain ⟨n, hn⟩ : ∃ n, K.length = n := ⟨_, rfl⟩
      rw [hn] at hkl
      have HK := Lib.hid hK
      have HN := Lib.hid hn
      have HKS := Lib.hid hks
      have hnx : n ≤ maxLen := by unfold maxLen; omega
      have HCT := Lib.hid (keys_count HZ.out (by rw [HM.out]; exact hK) hn)
      obtain ⟨hks1, hkl1⟩ := keysB_short H1.out.recs
      obtain ⟨hks2, hkl2⟩ := keysB_short H2.out.recs
      obtain ⟨k1, hk1⟩ : ∃ k1, (keysB V1).length = k1 := ⟨_, rfl⟩
      obtain ⟨k2, hk2⟩ : ∃ k2, (keysB V2).length = k2 := ⟨_, rfl⟩
      rw [hk1] at hkl1
      rw [hk2] at hkl2
      have HK1 := Lib.hid hk1
      have HK2 := Lib.hid hk2
      rw [hnm]
      have HML := Lib.hid hml
      clear hK hn hks hk6 hnm hks1 hks2 hk1 hk2 HRS hml
      go_wp2_with fail
      refine (keys_ks _ _ _ _ _ HRM.out (by omega)).mono ?_
      rw [HK.out]
      rintro e w4 ⟨qk, ck, rfl, hk, hB⟩
      have H1 := Lib.hid (H1.out.keep hB)
      have H2 := Lib.hid (H2.out.keep hB)
      have HS := Lib.hid (strs_of_ks hk HN.out hnx HKS.out)
      have HB := Lib.hid (below_via HB.out hB)
      rw [HN.out]
      clear hk hB HRM HKS
      go_wp2_with fail
      go_loopw [10, 11] (fun t i wr => ∃ k : Nat, k ≤ n ∧ i = .int .i64 k ∧ t = .int .i64 ((bothN V1 V2 K k : Nat) : Int) ∧ Hid (Below w.heap.size w wr ∧ Drawn wr q1 n1 c1 V1 ∧ Drawn wr q2 n2 c2 V2 ∧ StrsAt wr qk n K)) (fun _ i _ => n - (intOf i).toNat)
      case atStart => exact ⟨0, Nat.zero_le _, rfl, by simp [bothN], HB.out, H1.out, H2.out, HS.out⟩
      case round =>
        obtain ⟨k, hk, rfl, rfl, HW⟩ := hrel
        clear HB H1 H2 HS
        have hbl := both_le V1 V2 K k
        by_cases hlt : k < n
        · rcases HW.out.2.2.2.src with hz | ⟨bb, off, rfl, hbb, hc⟩
          · omega
          · have c0 := hc k hlt
            have hi1 : (k : Int) < (n : Int) := by omega
            have hi0 : (0 : Int) ≤ (k : Int) := by omega
            have HBB := Lib.hid hbb
            obtain ⟨u, hu⟩ : ∃ u, strAt K k = u := ⟨_, rfl⟩
            have hst := both_step V1 V2 K k (by rw [HN.out]; exact hlt)
            have hor := merge_found (K := K) HZ.out (by rw [HM.out]; exact HK.out) (i := k) (by rw [HN.out]; exact hlt)
            obtain ⟨p1, b1, hf1⟩ : ∃ p b, findB V1 u = (p, b) := ⟨_, _, rfl⟩
            obtain ⟨p2, b2, hf2⟩ : ∃ p b, findB V2 u = (p, b) := ⟨_, _, rfl⟩
            have e1 : fnd V1 u = b1 := by unfold fnd; rw [hf1]
            have e2 : fnd V2 u = b2 := by unfold fnd; rw [hf2]
            rw [hu] at c0 hst hor
            rw [e1, e2] at hst hor
            obtain ⟨B, hBn⟩ : ∃ B, bothN V1 V2 K k = B := ⟨_, rfl⟩
            rw [hBn] at hst hbl ⊢
            have HST := Lib.hid hst
            have HF1 := Lib.hid hf1
            have HF2 := Lib.hid hf2
            clear hc hbb hu hst hf1 hf2 e1 e2 hBn
            go_wp2_with fail
            refine (find_any _ _ _ _ _ _ HW.out.2.1.recs).mono ?_
            intro e w5 hf
            obtain ⟨rfl, hB⟩ := find_got HF1.out hf
            have c0 := (hB.cell (p := ⟨bb, off + k, none⟩) HBB.out).trans c0
            have HB := Lib.hid (below_via HW.out.1 hB)
            have H1 := Lib.hid (HW.out.2.1.keep hB)
            have H2 := Lib.hid (HW.out.2.2.1.keep hB)
            have HS := Lib.hid (HW.out.2.2.2.keep hB)
            clear hB hf HW
            go_wp2_with fail
            refine (find_any _ _ _ _ _ _ H2.out.recs).mono ?_
            intro e w6 hf
            obtain ⟨rfl, hB⟩ := find_got HF2.out hf
            have HB := Lib.hid (below_via HB.out hB)
            have H1 := Lib.hid (H1.out.keep hB)
            have H2 := Lib.hid (H2.out.keep hB)
            have HS := Lib.hid (HS.out.keep hB)
            clear hB hf c0
            have hbb6 : (B : Int) + 1 ≤ 1048576 := by omega
            cases b1 <;> cases b2
            · cases hor
            · go_wp2
              go_roundw
              case rel => exact ⟨k + 1, by omega, by go_num, by rw [HST.out]; simp, HB.out, H1.out, H2.out, HS.out⟩
              case measure => simp [intOf]; omega
            · go_wp2
              go_roundw
              case rel => exact ⟨k + 1, by omega, by go_num, by rw [HST.out]; simp, HB.out, H1.out, H2.out, HS.out⟩
              case measure => simp [intOf]; omega
            · go_wp2
              go_roundw
              case rel => exact ⟨k + 1, by omega, by go_num, by rw [HST.out]; simp, HB.out, H1.out, H2.out, HS.out⟩
              case measure => simp [intOf]; omega
        · obtain rfl : k = n := by omega
          obtain ⟨B, hBn⟩ : ∃ B, bothN V1 V2 K k = B := ⟨_, rfl⟩
          have hct := HCT.out
          rw [HK1.out, HK2.out, hBn] at hct
          rw [hBn] at hbl ⊢
          have hs1 : (k1 : Int) + (k2 : Int) = (k : Int) + (B : Int) := by omega
          have hs2 : (nm : Int) = (n1 : Int) + (n2 : Int) := by have := HML.out; omega
          have HS1 := Lib.hid hs1
          have HS2 := Lib.hid hs2
          clear hct hBn hs1 hs2
          go_wp2_with fail
          refine (keys_ks _ _ _ _ _ HW.out.2.1.recs (by omega)).mono ?_
          rintro e w5 ⟨qa, ca, rfl, _, hB⟩
          have HB := Lib.hid (below_via HW.out.1 hB)
          have H2 := Lib.hid (HW.out.2.2.1.keep hB)
          rw [HK1.out]
          clear hB HW
          go_wp2_with fail
          refine (keys_ks _ _ _ _ _ H2.out.recs (by omega)).mono ?_
          rintro e w6 ⟨qb, cb, rfl, _, hB⟩
          have HB := Lib.hid (below_via HB.out hB)
          rw [HK2.out]
          clear hB
          have t1 : ((k1 : Int) + (k2 : Int) == (k : Int) + (B : Int)) = true := by rw [HS1.out]; simp
          have t2 : ((nm : Int) == (n1 : Int) + (n2 : Int)) = true := by rw [HS2.out]; simp
          go_wp2
          go_ret
          exact ⟨rfl, HB.out⟩
end Go.Proofs.Ytkpkifghjkmhoaa
