/- The exact law on RunOk, walked: for every slice of records that may be read it returns true and only makes new blocks. -/
import Derived.Test.YtlemnjphinppbaaRuns5
namespace Go.Proofs.Ytlemnjphinppbaa
open Go.ChangeShapes Go.WideShapes Go.ChangeAt Go.RowKit
set_option linter.unusedVariables false

set_option maxHeartbeats 2000000 in
theorem fnExactRunOk_walk (a : Option Addr) (len cap : Nat) (l : Recs) (w : World) (h : RecsAt w a len l) :
    Calls Try.prog 6 #[.slice a len cap] w fun e w' => e = .returned (.bool true) ∧ Below w.heap.size w w' := by
  have HR := Lib.hid h
  clear h
  obtain ⟨bb, hbb⟩ : ∃ bb, runOkB l = bb := ⟨_, rfl⟩
  have HBB := Lib.hid hbb
  clear hbb
  go_enter Try.func6, Try.ntmps6
  go_wp2_with (go_at_call 29; refine (szrecs_any _ _ _ _ _ _ HR.out (by decide) (by decide)).mono ?_; rintro e w1 ⟨x, hx1, hx2, rfl, hB, hz⟩; have HZ := Lib.hid hz; have HB := Lib.hid hB; have HR := Lib.hid (HR.out.keep hB); clear hB hz)
  · go_ret
    exact ⟨rfl, HB.out⟩
  · have hfew := (HZ.out (by omega)).1
    refine (torecs_any _ _ _ _ _ HR.out hfew).mono ?_
    rintro e w2 ⟨rfl, hG, hB, _⟩
    have HG := Lib.hid hG
    have HB := Lib.hid (below_via HB.out hB)
    have HR := Lib.hid (HR.out.keep hB)
    clear hG hB
    go_wp2_with fail
    refine (srunok_any _ _ _ _ _ HG.out).mono ?_
    rw [HBB.out]
    rintro e w3 ⟨rfl, hB⟩
    have HB := Lib.hid (below_via HB.out hB)
    have HR := Lib.hid (HR.out.keep hB)
    clear hB HG
    go_wp2_with fail
    refine (torecs_any _ _ _ _ _ HR.out hfew).mono ?_
    rintro e w4 ⟨rfl, hG, hB, _⟩
    have HX := Lib.hid hG
    have HB := Lib.hid (below_via HB.out hB)
    have HR := Lib.hid (HR.out.keep hB)
    clear hG hB
    go_wp2_with fail
    refine (runok_any _ _ _ _ _ HX.out).mono ?_
    rw [HBB.out]
    rintro e w5 ⟨rfl, hB⟩
    have HX := Lib.hid (HX.out.keep hB)
    have HB := Lib.hid (below_via HB.out hB)
    have HR := Lib.hid (HR.out.keep hB)
    clear hB
    go_wp2_with fail
    refine (torecs_any _ _ _ _ _ HR.out hfew).mono ?_
    rintro e w6 ⟨rfl, hG, hB, _⟩
    have HY := Lib.hid hG
    have HX := Lib.hid (HX.out.keep hB)
    have HB := Lib.hid (below_via HB.out hB)
    clear hG hB
    go_wp2_with fail
    refine (eqrecs_same _ _ _ _ _ _ _ HX.out HY.out).mono ?_
    rintro e w7 ⟨rfl, hB⟩
    have HB := Lib.hid (below_via HB.out hB)
    clear hB
    go_wp2
    go_ret
    exact ⟨rfl, HB.out⟩
end Go.Proofs.Ytlemnjphinppbaa
