
/- The law on ProgText, walked: both sides write the list alike, and it stays what it was. -/
import Derived.Test.YtgijalecpeabjaaDoorProgTP
import Derived.Test.YtgijalecpeabjaaDoorInstrEq
import Derived.Test.YtgijalecpeabjaaDoorInstrInN
namespace Go.Proofs.YtgijalecpeabjaaDoor
open Go.ChangeShapes Go.WideShapes Go.ChangeAt Go.RowKit
set_option linter.unusedVariables false
set_option maxRecDepth 100000

set_option maxHeartbeats 4000000 in
theorem fnExactProgText_walk (a : Option Addr) (len cap : Nat) (l : Instrs) (w : World) (h : InstrsAt w a len l) (hn : ∀ i, i < len → In64 (ins1 l i)) (hT : TabsPT w) :
    Calls Tryd.prog 4 #[.slice a len cap] w fun x w' => x = .returned (.bool true) ∧ Below w.heap.size w w' := by
  obtain ⟨q, hq⟩ : ∃ q, progTx l = q := ⟨_, rfl⟩
  have HQ := Lib.hid hq
  have HR := Lib.hid h
  have HT := Lib.hid hT
  have HN := Lib.hid hn
  clear hq h hT hn
  go_enter Tryd.func4, Tryd.ntmps4
  go_wp2_with fail
  refine (szinss_any _ _ _ _ _ _ HR.out (by omega) (by omega)).mono ?_
  rintro e w1 ⟨x, hx0, hx1, rfl, hB, hfew⟩
  have HB := Lib.hid hB
  have HFEW := Lib.hid hfew
  clear hB hfew
  by_cases hneg : x < 0
  · go_wp2
    go_ret
    exact ⟨rfl, HB.out⟩
  have hlen : len ≤ 1048576 := (HFEW.out (by omega)).1
  clear hx0 hx1
  go_wp2_with fail
  refine (toinss_any _ _ _ _ _ (HR.out.keep HB.out) hlen).mono ?_
  rintro e w2 ⟨rfl, hS, hB, _⟩
  have HS := Lib.hid hS
  have HB := Lib.hid (below_via HB.out hB)
  clear hB hS
  go_wp2_with fail
  refine (sprogtext_any _ _ _ _ _ HS.out HN.out).mono ?_
  rw [HQ.out]
  rintro e w3 ⟨rfl, hB⟩
  have HB := Lib.hid (below_via HB.out hB)
  clear hB HS
  go_wp2_with fail
  refine (toinss_any _ _ _ _ _ (HR.out.keep HB.out) hlen).mono ?_
  rintro e w4 ⟨rfl, hS, hB, _⟩
  have HS := Lib.hid hS
  have HB := Lib.hid (below_via HB.out hB)
  clear hB hS
  go_wp2_with fail
  refine (progtext_any _ _ _ _ _ HS.out HN.out (HT.out.keep HB.out)).mono ?_
  rw [HQ.out]
  rintro e w5 ⟨rfl, hB⟩
  have HS := Lib.hid (HS.out.keep hB)
  have HB := Lib.hid (below_via HB.out hB)
  clear hB
  go_wp2_with fail
  refine (toinss_any _ _ _ _ _ (HR.out.keep HB.out) hlen).mono ?_
  rintro e w6 ⟨rfl, hS2, hB, _⟩
  have HS := Lib.hid (HS.out.keep hB)
  have HS2 := Lib.hid hS2
  have HB := Lib.hid (below_via HB.out hB)
  clear hB hS2
  go_wp2_with fail
  refine (eqinss_same _ _ _ _ _ _ _ HS.out HS2.out).mono ?_
  rintro e w7 ⟨rfl, hB⟩
  have HB := Lib.hid (below_via HB.out hB)
  clear hB
  go_wp2
  go_ret
  exact ⟨rfl, HB.out⟩
end Go.Proofs.YtgijalecpeabjaaDoor
