
/- The law on the keys of a run, walked: they are strictly increasing, and just they are found. Only new blocks are made. -/
import Derived.Test.YtonipfhigkkhnaaKeysM2
import Derived.Test.YtonipfhigkkhnaaKeysW
import Derived.Test.YtonipfhigkkhnaaDrawR2
import Derived.Test.YtonipfhigkkhnaaSame
namespace Go.Proofs.Ytonipfhigkkhnaa
open Go.ChangeShapes Go.WideShapes Go.ChangeAt Go.RowKit
set_option linter.unusedVariables false
set_option maxRecDepth 100000

theorem find_val {l : Recs} {key : ByteArray} {p : Int} {b : Bool} (h : findB l key = (p, b)) {w : World} {e : Ending} {w' : World} (hm : MadeFind (findB l key) w e w') : e = .returned (.tuple #[.int .i64 p, .bool b]) ∧ Below w.heap.size w w' := by
  rw [h] at hm; exact hm

set_option maxHeartbeats 4000000 in
theorem fnKeys_walk (w : World) (a : Option Addr) (len cap : Nat) (h : Src w a len) :
    Calls Try.prog 6 #[.slice a len cap] w fun e w' => e = .returned (.bool true) ∧ Below w.heap.size w w' := by
  have S := Lib.hid h
  clear h
  by_cases hb : 1048576 < len
  · go_enter Try.func6, Try.ntmps6
    go_wp2_with (go_at_call 15; refine (big_yes _ _ _ _ hb).mono ?_; rintro e w' ⟨rfl, rfl⟩)
    go_ret
    exact ⟨rfl, Below.refl _ _⟩
  · go_enter Try.func6, Try.ntmps6
    go_wp2_with (go_at_call 15; refine (big_no _ _ _ _ hb).mono ?_; rintro e w' ⟨rfl, rfl⟩)
    refine (drawfind_any _ _ _ _ S.out).mono ?_
    rintro e w1 ⟨q, cp, l, key, rfl, hkey, h6, hsh, hre, hB⟩
    obtain ⟨nl, hnl⟩ : ∃ nl, l.length = nl := ⟨_, rfl⟩
    rw [hnl] at h6 hre ⊢
    have HR := Lib.hid hre
    have HB := Lib.hid hB
    obtain ⟨hks, hkl⟩ := keysB_short hre
    obtain ⟨K, hK⟩ : ∃ K, keysB l = K := ⟨_, rfl⟩
    have hgood := keys_good l key
    rw [hK] at hgood hks hkl
    obtain ⟨n, hn⟩ : ∃ n, K.length = n := ⟨_, rfl⟩
    rw [hn] at hkl
    have HK := Lib.hid hK
    have HN := Lib.hid hn
    have HG := Lib.hid hgood
    have HKS := Lib.hid hks
    have hnm : n ≤ maxLen := by unfold maxLen; omega
    obtain ⟨p, b, hp⟩ : ∃ p b, findB l key = (p, b) := ⟨_, _, rfl⟩
    have HP := Lib.hid hp
    have HJ := Lib.hid (show (K.any fun x => x.toList == key.toList) = b by rw [hgood.just, hp])
    have hfew : nl ≤ 1048576 := by omega
    clear hre hB hnl hsh hK hn hgood hks hp
    go_wp2_with fail
    refine (keys_ks _ _ _ _ _ HR.out hfew).mono ?_
    rw [HK.out]
    rintro e w2 ⟨q1, cp1, rfl, h1, hB⟩
    have H1 := Lib.hid (strs_of_ks h1 HN.out hnm HKS.out)
    have HR := Lib.hid (HR.out.keep hB)
    have HB := Lib.hid (below_via HB.out hB)
    clear h1 hB
    rw [HN.out]
    go_wp2_with fail
    refine (find_any _ _ _ _ _ _ HR.out).mono ?_
    intro e w3 hf
    obtain ⟨rfl, hB⟩ := find_val HP.out hf
    have H1 := Lib.hid (H1.out.keep hB)
    have HR := Lib.hid (HR.out.keep hB)
    have HB := Lib.hid (below_via HB.out hB)
    clear hB hf
    go_wp2_with fail
    refine (sfind_any _ _ _ _ _ _ HR.out).mono ?_
    intro e w4 hf
    obtain ⟨rfl, hB⟩ := find_val HP.out hf
    have H1 := Lib.hid (H1.out.keep hB)
    have HR := Lib.hid (HR.out.keep hB)
    have HB := Lib.hid (below_via HB.out hB)
    clear hB hf
    go_wp2_with fail
    refine (skeys_ks _ _ _ _ _ HR.out hfew).mono ?_
    rw [HK.out]
    rintro e w5 ⟨q2, cp2, rfl, h2, hB⟩
    have H2 := Lib.hid (strs_of_ks h2 HN.out hnm HKS.out)
    have H1 := Lib.hid (H1.out.keep hB)
    have HR := Lib.hid (HR.out.keep hB)
    have HB := Lib.hid (below_via HB.out hB)
    clear h2 hB
    rw [HN.out]
    go_wp2_with fail
    refine (sametexts_same _ _ _ _ _ _ _ H1.out H2.out).mono ?_
    rintro e w6 ⟨rfl, hB⟩
    have H1 := Lib.hid (H1.out.keep hB)
    have HR := Lib.hid (HR.out.keep hB)
    have HB := Lib.hid (below_via HB.out hB)
    clear hB H2
    go_wp2_with fail
    go_loopw [10, 11] (fun t i wr => ∃ k : Nat, k ≤ n ∧ i = .int .i64 k ∧ (∃ x : Bool, t = .bool x ∧ Hid (x = (K.take k).any fun x => x.toList == key.toList)) ∧ Hid (Below w.heap.size w wr ∧ RecsAt wr q nl l ∧ StrsAt wr q1 n K)) (fun _ i _ => n - (intOf i).toNat)
    case atStart => exact ⟨0, Nat.zero_le _, rfl, ⟨false, rfl, Lib.hid (by simp)⟩, HB.out, HR.out, H1.out⟩
    case round =>
      obtain ⟨k, hk, rfl, ⟨x, rfl, HX⟩, HW⟩ := hrel
      clear HB HR H1
      by_cases hlt : k < n
      · rcases HW.out.2.2.src with hz | ⟨bb, off, rfl, hbb, hc⟩
        · omega
        · have HC := Lib.hid hc
          have HBB := Lib.hid hbb
          have c0 := hc k hlt
          have HF := Lib.hid (HG.out.found k (by rw [HN.out]; exact hlt))
          have HAT := Lib.hid (any_take K key k (by rw [HN.out]; exact hlt))
          rw [← HX.out] at HAT
          obtain ⟨u, hu⟩ : ∃ u, strAt K k = u := ⟨_, rfl⟩
          obtain ⟨p2, hp2⟩ : ∃ p2, findB l u = (p2, true) := ⟨(findB l u).1, by have := HF.out; rw [hu] at this; rw [← this]⟩
          rw [hu] at c0 HAT
          have HU := Lib.hid hu
          have HP2 := Lib.hid hp2
          clear hc hbb hu hp2
          go_wp2_with fail
          refine (find_any _ _ _ _ _ _ HW.out.2.1).mono ?_
          intro e w7 hf
          obtain ⟨rfl, hB⟩ := find_val HP2.out hf
          have c0 := (hB.cell (p := ⟨bb, off + k, none⟩) HBB.out).trans c0
          have HB := Lib.hid (below_via HW.out.1 hB)
          have HR := Lib.hid (HW.out.2.1.keep hB)
          have H1 := Lib.hid (HW.out.2.2.keep hB)
          have HBL := Lib.hid hB
          clear hB hf
          have hi0 : (0 : Int) ≤ (k : Int) := by omega
          have hi1 : (k : Int) < (n : Int) := by omega
          by_cases hk0 : 0 < k
          · obtain ⟨m, hm1, hm2⟩ : ∃ m : Nat, (k : Int) - 1 = (m : Int) ∧ m + 1 = k := ⟨k - 1, by omega, by omega⟩
            have d0 := (HBL.out.cell (p := ⟨bb, off + m, none⟩) HBB.out).trans (HC.out m (by omega))
            obtain ⟨v, hv⟩ : ∃ v, strAt K m = v := ⟨_, rfl⟩
            have hless : Op.bytesLess v.toList u.toList = true := by
              rw [bless_iff, ← hv, ← HU.out]
              exact HG.out.rise m k (by omega) (by rw [HN.out]; exact hlt)
            rw [hv] at d0
            have hm0 : (0 : Int) ≤ (m : Int) := by omega
            have hmn : (m : Int) < (n : Int) := by omega
            have hg1 : decide ((0 : Int) < (k : Int)) = true := by simp; omega
            clear hv
            go_wp2_with fail
            have hw1 : IntKind.i64.wrap (m : Int) = (m : Int) := IntWalk.i64_in _ (by omega)
            have HM2 := Lib.hid hm2
            clear hm2
            go_quiet (fail)
            clear hw1
            cases x with
            | true =>
              go_wp2
              go_roundw
              case rel => exact ⟨k + 1, by omega, by go_num, ⟨true, rfl, Lib.hid (by rw [HAT.out]; rfl)⟩, below_drewN HB.out _, HR.out.keep (below_drewN (Below.refl _ _) _), H1.out.keep (below_drewN (Below.refl _ _) _)⟩
              case measure => simp [intOf]; omega
            | false =>
              go_wp2
              go_roundw
              case rel => exact ⟨k + 1, by omega, by go_num, ⟨_, rfl, Lib.hid (by rw [HAT.out, Bool.false_or])⟩, below_drewN HB.out _, HR.out.keep (below_drewN (Below.refl _ _) _), H1.out.keep (below_drewN (Below.refl _ _) _)⟩
              case measure => simp [intOf]; omega
          · have hd1 : decide ((0 : Int) < (k : Int)) = false := by simp; omega
            have hd2 : decide (0 < k) = false := by simp; omega
            go_wp2_with fail
            go_quiet (fail)
            cases x with
            | true =>
              go_wp2
              go_roundw
              case rel => exact ⟨k + 1, by omega, by go_num, ⟨true, rfl, Lib.hid (by rw [HAT.out]; rfl)⟩, below_drewN HB.out _, HR.out.keep (below_drewN (Below.refl _ _) _), H1.out.keep (below_drewN (Below.refl _ _) _)⟩
              case measure => simp [intOf]; omega
            | false =>
              go_wp2
              go_roundw
              case rel => exact ⟨k + 1, by omega, by go_num, ⟨_, rfl, Lib.hid (by rw [HAT.out, Bool.false_or])⟩, below_drewN HB.out _, HR.out.keep (below_drewN (Below.refl _ _) _), H1.out.keep (below_drewN (Below.refl _ _) _)⟩
              case measure => simp [intOf]; omega
      · obtain rfl : k = n := by omega
        have HE := Lib.hid (show x = b by rw [HX.out, ← HN.out, List.take_length]; exact HJ.out)
        clear HX
        obtain rfl : x = b := HE.out
        go_wp2
        go_ret
        exact ⟨by simp, HW.out.1⟩
end Go.Proofs.Ytonipfhigkkhnaa
