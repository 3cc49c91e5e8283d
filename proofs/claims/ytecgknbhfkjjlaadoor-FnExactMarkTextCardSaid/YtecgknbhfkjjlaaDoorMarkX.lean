
/- The exact law on MarkText, walked: for every mark it returns true and only makes new blocks. -/
import Derived.Test.YtecgknbhfkjjlaaDoorMark
import Derived.Test.YtecgknbhfkjjlaaDoorClaimX
namespace Go.Proofs.YtecgknbhfkjjlaaDoor
open Go.ChangeShapes Go.WideShapes Go.ChangeAt Go.RowKit
set_option linter.unusedVariables false
set_option maxRecDepth 100000

theorem tomark_any (ok : Bool) (e k : Int) (w : World) : Calls Tryd.prog 25 #[.agg #[.bool ok, .int .i64 e, .int .i64 k]] w (MadeVal (.agg #[.bool ok, .int .i64 e, .int .i64 k]) w) := by
  go_enter Tryd.func25, Tryd.ntmps25
  go_wp2
  exact bodyPost_ret (v := .agg #[.bool ok, .int .i64 e, .int .i64 k]) (by simp [results, Tryd.results25, go_sem]) rfl ⟨rfl, below_alloc (below_alloc (below_alloc (Below.refl _ _) _) _) _⟩

set_option maxHeartbeats 4000000 in
theorem fnExactMarkText_walk (ok : Bool) (e k : Int) (w : World) (hT : Tabs w) :
    Calls Tryd.prog 7 #[.agg #[.bool ok, .int .i64 e, .int .i64 k]] w fun x w' => x = .returned (.bool true) ∧ Below w.heap.size w w' := by
  obtain ⟨q, hq⟩ : ∃ q, markTx ok e k = q := ⟨_, rfl⟩
  have HQ := Lib.hid hq
  have HT := Lib.hid hT
  clear hq hT
  have HX : Hid (Row (w.alloc (.cells #[.bool ok, .int .i64 e, .int .i64 k] 42)) w.heap.size 42 #[.bool ok, .int .i64 e, .int .i64 k]) := Lib.hid (by
    have := heap_alloc_new w (.cells #[.bool ok, .int .i64 e, .int .i64 k] 42)
    simpa [Row] using this)
  have HB := Lib.hid (below_alloc (Below.refl w.heap.size w) (.cells #[.bool ok, .int .i64 e, .int .i64 k] 42))
  go_enter Tryd.func7, Tryd.ntmps7
  go_wp2_with fail
  refine (tomark_any ok e k _).mono ?_
  rintro x w1 ⟨rfl, hB⟩
  have HX := Lib.hid (HX.out.keep hB)
  have HB := Lib.hid (below_via HB.out hB)
  clear hB
  go_wp2_with fail
  refine (smarktxt_any ok e k _).mono ?_
  rw [HQ.out]
  rintro x w2 ⟨rfl, hB⟩
  have HX := Lib.hid (HX.out.keep hB)
  have HB := Lib.hid (below_via HB.out hB)
  have y0 := HX.out.cell (j := 0) (by simp)
  have y1 := HX.out.cell (j := 1) (by simp)
  have y2 := HX.out.cell (j := 2) (by simp)
  simp at y0 y1 y2
  clear hB
  go_wp2_with fail
  refine (tomark_any ok e k _).mono ?_
  rintro x w3 ⟨rfl, hB⟩
  have HB := Lib.hid (below_via HB.out hB)
  clear hB y0 y1 y2 HX
  go_wp2_with fail
  refine (marktxt_any ok e k _ (HT.out.keep HB.out)).mono ?_
  rw [HQ.out]
  rintro x w4 ⟨rfl, hB⟩
  have HB := Lib.hid (below_via HB.out hB)
  clear hB HQ
  go_wp2
  go_ret
  exact ⟨rfl, HB.out⟩
end Go.Proofs.YtecgknbhfkjjlaaDoor
