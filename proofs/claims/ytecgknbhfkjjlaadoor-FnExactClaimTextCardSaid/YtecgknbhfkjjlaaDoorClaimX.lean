
/- The exact law on ClaimText, walked: for every claim it returns true and only makes new blocks. -/
import Derived.Test.YtecgknbhfkjjlaaDoorClaim
namespace Go.Proofs.YtecgknbhfkjjlaaDoor
open Go.ChangeShapes Go.WideShapes Go.ChangeAt Go.RowKit
set_option linter.unusedVariables false
set_option maxRecDepth 100000

def MadeVal (v : Value) (w : World) (e : Ending) (w' : World) : Prop := e = .returned v ∧ Below w.heap.size w w'
theorem toclaim_any (a e u : Int) (w : World) : Calls Tryd.prog 23 #[.agg #[.int .i64 a, .int .i64 e, .int .i64 u]] w (MadeVal (.agg #[.int .i64 a, .int .i64 e, .int .i64 u]) w) := by
  go_enter Tryd.func23, Tryd.ntmps23
  go_wp2
  exact bodyPost_ret (v := .agg #[.int .i64 a, .int .i64 e, .int .i64 u]) (by simp [results, Tryd.results23, go_sem]) rfl ⟨rfl, below_alloc (below_alloc (below_alloc (Below.refl _ _) _) _) _⟩

set_option maxHeartbeats 4000000 in
theorem fnExactClaimText_walk (a e u : Int) (w : World) (hT : Tabs w) :
    Calls Tryd.prog 5 #[.agg #[.int .i64 a, .int .i64 e, .int .i64 u]] w fun x w' => x = .returned (.bool true) ∧ Below w.heap.size w w' := by
  obtain ⟨q, hq⟩ : ∃ q, claimTx a e u = q := ⟨_, rfl⟩
  have HQ := Lib.hid hq
  have HT := Lib.hid hT
  clear hq hT
  have HX : Hid (Row (w.alloc (.cells #[.int .i64 a, .int .i64 e, .int .i64 u] 37)) w.heap.size 37 #[.int .i64 a, .int .i64 e, .int .i64 u]) := Lib.hid (by
    have := heap_alloc_new w (.cells #[.int .i64 a, .int .i64 e, .int .i64 u] 37)
    simpa [Row] using this)
  have HB := Lib.hid (below_alloc (Below.refl w.heap.size w) (.cells #[.int .i64 a, .int .i64 e, .int .i64 u] 37))
  go_enter Tryd.func5, Tryd.ntmps5
  go_wp2_with fail
  refine (toclaim_any a e u _).mono ?_
  rintro x w1 ⟨rfl, hB⟩
  have HX := Lib.hid (HX.out.keep hB)
  have HB := Lib.hid (below_via HB.out hB)
  clear hB
  go_wp2_with fail
  refine (sclaimtext_any a e u _).mono ?_
  rw [HQ.out]
  rintro x w2 ⟨rfl, hB⟩
  have HX := Lib.hid (HX.out.keep hB)
  have HB := Lib.hid (below_via HB.out hB)
  have y0 := HX.out.cell (j := 0) (by simp)
  have y1 := HX.out.cell (j := 1) (by simp)
  have y2 := HX.out.cell (j := 2) (by simp)
  simp at y0 y1 y2
  clear hB
  go_wp2_with fail
  refine (toclaim_any a e u _).mono ?_
  rintro x w3 ⟨rfl, hB⟩
  have HB := Lib.hid (below_via HB.out hB)
  clear hB y0 y1 y2 HX
  go_wp2_with fail
  refine (claimtext_any a e u _ (HT.out.keep HB.out)).mono ?_
  rw [HQ.out]
  rintro x w4 ⟨rfl, hB⟩
  have HB := Lib.hid (below_via HB.out hB)
  clear hB HQ
  go_wp2
  go_ret
  exact ⟨rfl, HB.out⟩
end Go.Proofs.YtecgknbhfkjjlaaDoor
