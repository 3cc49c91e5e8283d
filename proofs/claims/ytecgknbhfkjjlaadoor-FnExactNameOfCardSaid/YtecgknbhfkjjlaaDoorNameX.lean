
/- The exact law on NameOf, walked: for every five numbers it returns true and only makes new blocks. -/
import Derived.Test.YtecgknbhfkjjlaaDoorNameS
namespace Go.Proofs.YtecgknbhfkjjlaaDoor
open Go.ChangeShapes Go.WideShapes Go.ChangeAt Go.RowKit
set_option linter.unusedVariables false
set_option maxRecDepth 100000

set_option maxHeartbeats 4000000 in
theorem fnExactNameOf_walk (kind t e k p : Int) (w : World) (hT : Tabs w) :
    Calls Tryd.prog 9 #[.int .i64 kind, .int .i64 t, .int .i64 e, .int .i64 k, .int .i64 p] w fun x w' => x = .returned (.bool true) ∧ Below w.heap.size w w' := by
  obtain ⟨q, hq⟩ : ∃ q, nameB kind t e k p = q := ⟨_, rfl⟩
  have HQ := Lib.hid hq
  have HT := Lib.hid hT
  clear hq hT
  go_enter Tryd.func9, Tryd.ntmps9
  go_wp2_with fail
  refine (snameof_any kind t e k p _).mono ?_
  rw [HQ.out]
  rintro x w1 ⟨rfl, hB⟩
  have HB := Lib.hid hB
  clear hB
  go_wp2_with fail
  refine (nameof_any kind t e k p _ (HT.out.keep HB.out)).mono ?_
  rw [HQ.out]
  rintro x w2 ⟨rfl, hB⟩
  have HB := Lib.hid (below_via HB.out hB)
  clear hB HQ
  go_wp2
  go_ret
  exact ⟨rfl, HB.out⟩
end Go.Proofs.YtecgknbhfkjjlaaDoor
