
/- A drawn text for ReadRun: at most 29401 bytes; only new blocks are made. -/
import Derived.Test.YtonipfhigkkhnaaRunBytes
import Derived.Test.YtonipfhigkkhnaaDrawR2
namespace Go.Proofs.Ytonipfhigkkhnaa
open Go.ChangeShapes Go.WideShapes Go.ChangeAt Go.RowKit
set_option linter.unusedVariables false
set_option maxRecDepth 100000

theorem runBytesB_size (l : Recs) : (runBytesB l).size ≤ 29400 := by
  unfold runBytesB
  cases h : runOkB l with
  | false => exact Nat.zero_le _
  | true =>
    obtain ⟨h6, hk⟩ := runOk_keys h
    have := sizeTo_le l hk l.length (Nat.le_refl _)
    rw [if_pos rfl, strOfNums_size, bytesTo_len]
    omega

set_option maxHeartbeats 1000000 in
theorem drawreadrun_any (w : World) (a : Option Addr) (len cap : Nat) (h : Src w a len) :
    Calls Try.prog 30 #[.slice a len cap] w (DrewText 29401 w) := by
  have H := Lib.hid h
  clear h
  go_enter Try.func30, Try.ntmps30
  go_wp2_with fail
  refine (open_any _ _ _ _ H.out).mono ?_
  rintro e w1 ⟨rfl, hb, hr⟩
  have HB := Lib.hid hb
  have HR := Lib.hid hr
  clear hb hr
  go_wp2_with fail
  refine (rrun_any _ _ _ _ _ HR.out).mono ?_
  rintro e w2 ⟨q, cp, V, rfl, h6, hs, hre, hw, hwf, hap⟩
  have HRE := Lib.hid hre
  have HW := Lib.hid hw
  clear hs hre hw hap hwf
  obtain ⟨T, hT⟩ : ∃ T, runBytesB V = T := ⟨_, rfl⟩
  have HT := Lib.hid hT
  have hts : T.size ≤ 29400 := by rw [← hT]; exact runBytesB_size V
  clear hT
  go_wp2_with fail
  refine (srunbytes_any _ _ _ _ _ HRE.out).mono ?_
  rw [HT.out]
  rintro e w3 ⟨rfl, hB⟩
  have HW := Lib.hid (HW.out.on hB)
  clear hB HRE
  by_cases h4 : 4000 < T.size
  · have hd : (4000 : Int) < (T.size : Int) := by omega
    go_wp2
    go_ret
    exact ⟨T, by omega, rfl, HW.out.under HB.out (Nat.le_refl _) HB.out.size⟩
  · have hd : ¬ (4000 : Int) < (T.size : Int) := by omega
    go_wp2_with fail
    refine (below_any _ _ _ _ _ _ HW.out.rdr (by decide) (by decide)).mono ?_
    rintro e w4 ⟨⟨y, hy1, hy2, rfl⟩, hw⟩
    have HW := Lib.hid (HW.out.trans hw)
    clear hw
    go_wp2_with fail
    · refine (hurt_any _ 29400 _ _ _ _ _ HW.out.rdr hts (by decide)).mono ?_
      rintro e w5 ⟨⟨u, hu, rfl⟩, hw⟩
      have HU := Lib.hid hu
      have HW := Lib.hid (HW.out.trans hw)
      clear hw hu
      go_wp2
      go_ret
      exact ⟨u, HU.out, rfl, HW.out.under HB.out (Nat.le_refl _) HB.out.size⟩
    · refine (below_any _ _ _ _ _ _ HW.out.rdr (by omega) (by omega)).mono ?_
      rintro e w5 ⟨⟨z, hz1, hz2, rfl⟩, hw⟩
      have HW := Lib.hid (HW.out.trans hw)
      clear hw
      obtain ⟨k, rfl⟩ : ∃ k : Nat, z = k := ⟨z.toNat, by omega⟩
      have hk : k ≤ T.size := by omega
      clear hz1 hz2
      go_wp2
      go_ret
      exact ⟨_, by rw [ByteArray.size_extract]; omega, rfl, HW.out.under HB.out (Nat.le_refl _) HB.out.size⟩
    · go_ret
      exact ⟨T, by omega, rfl, HW.out.under HB.out (Nat.le_refl _) HB.out.size⟩
end Go.Proofs.Ytonipfhigkkhnaa
