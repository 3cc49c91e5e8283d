
/- The exact law on StateText, walked: for every state it returns true and only makes new blocks. -/
import Derived.Test.YtbmhabboloficaaDoorStTxS
namespace Go.Proofs.YtbmhabboloficaaDoor
open Go.ChangeShapes Go.WideShapes Go.ChangeAt Go.RowKit
set_option linter.unusedVariables false
set_option maxRecDepth 100000

set_option maxHeartbeats 1000000 in
theorem sstatetext_any (k e v : Int) (w : World) (he : In64 e) (hv : In64 v) : Calls Tryd.prog 30 #[.agg #[.int .i64 k, .int .i64 e, .int .i64 v]] w (MadeTx (stateTx k e v) w) := by
  cases hk : inB k 1 4 with
  | false =>
    have HK := Lib.hid hk
    have HR := Lib.hid (state_out (e := e) (v := v) hk)
    clear hk
    go_enter Tryd.func30, Tryd.ntmps30
    go_wp2_with (go_at_call 70; refine (l1in_any _ _ _ _).mono ?_; rw [HK.out]; rintro x w1 ⟨rfl, rfl⟩)
    go_ret
    exact ⟨congrArg (fun s => Ending.returned (.string s)) HR.out.symm, below_alloc (Below.refl _ _) _⟩
  | true =>
    have hk2 := inB_iff.1 hk
    exact sstatetext_n k e v w hk2.1 hk2.2 he hv

theorem tostate_any (k e v : Int) (w : World) : Calls Tryd.prog 31 #[.agg #[.int .i64 k, .int .i64 e, .int .i64 v]] w fun x w' => x = .returned (.agg #[.int .i64 k, .int .i64 e, .int .i64 v]) ∧ Below w.heap.size w w' := by
  go_enter Tryd.func31, Tryd.ntmps31
  go_wp2
  exact bodyPost_ret (v := .agg #[.int .i64 k, .int .i64 e, .int .i64 v]) (by simp [results, Tryd.results31, go_sem]) rfl ⟨rfl, below_alloc (below_alloc (below_alloc (Below.refl _ _) _) _) _⟩

theorem in64_wf {n : Int} (h : (Lit.int .i64 n).wf = true) : In64 n := by
  exact bounds_i64 h

set_option maxHeartbeats 4000000 in
theorem fnExactStateText_walk (k e v : Int) (w : World) (he : In64 e) (hv : In64 v) (hT : TabsSt w) :
    Calls Tryd.prog 7 #[.agg #[.int .i64 k, .int .i64 e, .int .i64 v]] w fun x w' => x = .returned (.bool true) ∧ Below w.heap.size w w' := by
  obtain ⟨q, hq⟩ : ∃ q, stateTx k e v = q := ⟨_, rfl⟩
  have HQ := Lib.hid hq
  have HT := Lib.hid hT
  have HE := Lib.hid he
  have HV := Lib.hid hv
  clear hq hT he hv
  have HX : Hid (Row (w.alloc (.cells #[.int .i64 k, .int .i64 e, .int .i64 v] 43)) w.heap.size 43 #[.int .i64 k, .int .i64 e, .int .i64 v]) := Lib.hid (by
    have := heap_alloc_new w (.cells #[.int .i64 k, .int .i64 e, .int .i64 v] 43)
    simpa [Row] using this)
  have HB := Lib.hid (below_alloc (Below.refl w.heap.size w) (.cells #[.int .i64 k, .int .i64 e, .int .i64 v] 43))
  go_enter Tryd.func7, Tryd.ntmps7
  go_wp2_with fail
  refine (tostate_any k e v _).mono ?_
  rintro x w1 ⟨rfl, hB⟩
  have HX := Lib.hid (HX.out.keep hB)
  have HB := Lib.hid (below_via HB.out hB)
  clear hB
  go_wp2_with fail
  refine (sstatetext_any k e v _ HE.out HV.out).mono ?_
  rw [HQ.out]
  rintro x w2 ⟨rfl, hB⟩
  have HX := Lib.hid (HX.out.keep hB)
  have HB := Lib.hid (below_via HB.out hB)
  have y0 := HX.out.cell (j := 0) (by simp)
  have y1 := HX.out.cell (j := 1) (by simp)
  have y2 := HX.out.cell (j := 2) (by simp)
  simp at y0 y1 y2
  clear hB
  go_wp2_with fail
  refine (tostate_any k e v _).mono ?_
  rintro x w3 ⟨rfl, hB⟩
  have HB := Lib.hid (below_via HB.out hB)
  clear hB y0 y1 y2 HX
  go_wp2_with fail
  refine (statetext_any k e v _ HE.out HV.out (HT.out.keep HB.out)).mono ?_
  rw [HQ.out]
  rintro x w4 ⟨rfl, hB⟩
  have HB := Lib.hid (below_via HB.out hB)
  clear hB HQ
  go_wp2
  go_ret
  exact ⟨rfl, HB.out⟩
end Go.Proofs.YtbmhabboloficaaDoor
