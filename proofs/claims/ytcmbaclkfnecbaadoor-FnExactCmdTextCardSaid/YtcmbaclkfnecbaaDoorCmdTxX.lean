
/- The exact law on CmdText, walked: for every command that may be read it returns true and only makes new blocks. -/
import Derived.Test.YtcmbaclkfnecbaaDoorCmdTx
import Derived.Test.YtcmbaclkfnecbaaDoorCmds
namespace Go.Proofs.YtcmbaclkfnecbaaDoor
open Go.ChangeShapes Go.WideShapes Go.ChangeAt Go.RowKit
set_option linter.unusedVariables false
set_option maxRecDepth 100000

set_option maxHeartbeats 4000000 in
theorem fnExactCmdText_walk (kind : Int) (key : ByteArray) (ver : Int) (data : ByteArray) (w : World) (hs : key.size ≤ maxLen) (hd : data.size ≤ maxLen) (hT : Tabs w) :
    Calls Tryd.prog 6 #[.agg #[.int .i64 kind, .string key, .int .i64 ver, .string data]] w fun e w' => e = .returned (.bool true) ∧ Below w.heap.size w w' := by
  obtain ⟨q, hq⟩ : ∃ q, cmdTx kind key ver data = q := ⟨_, rfl⟩
  have HQ := Lib.hid hq
  have HT := Lib.hid hT
  clear hq hT
  have HX : Hid (Row (w.alloc (.cells #[.int .i64 kind, .string key, .int .i64 ver, .string data] 44)) w.heap.size 44 #[.int .i64 kind, .string key, .int .i64 ver, .string data]) := Lib.hid (by
    have := heap_alloc_new w (.cells #[.int .i64 kind, .string key, .int .i64 ver, .string data] 44)
    simpa [Row] using this)
  have HB := Lib.hid (below_alloc (Below.refl w.heap.size w) (.cells #[.int .i64 kind, .string key, .int .i64 ver, .string data] 44))
  have HS := Lib.hid (And.intro hs hd)
  clear hs hd
  go_enter Tryd.func6, Tryd.ntmps6
  go_wp2_with fail
  refine (szcmd_any kind key ver data _ _ HS.out.1 HS.out.2 (by decide) (by decide)).mono ?_
  rintro e w1 ⟨x, hx0, hx1, rfl, hB, _⟩
  have HX := Lib.hid (HX.out.keep hB)
  have HB := Lib.hid (below_via HB.out hB)
  have y0 := HX.out.cell (j := 0) (by simp)
  have y1 := HX.out.cell (j := 1) (by simp)
  have y2 := HX.out.cell (j := 2) (by simp)
  have y3 := HX.out.cell (j := 3) (by simp)
  simp at y0 y1 y2 y3
  clear hB
  by_cases hx : x < 0
  · go_wp2
    go_ret
    exact ⟨rfl, HB.out⟩
  go_wp2_with fail
  refine (tocmd_any kind key ver data _).mono ?_
  rintro e w2 ⟨rfl, hB⟩
  have HX := Lib.hid (HX.out.keep hB)
  have HB := Lib.hid (below_via HB.out hB)
  clear hB y0 y1 y2 y3
  go_wp2_with fail
  refine (scmdtext_any kind key ver data _ HS.out.1 HS.out.2).mono ?_
  rw [HQ.out]
  rintro e w3 ⟨rfl, hB⟩
  have HX := Lib.hid (HX.out.keep hB)
  have HB := Lib.hid (below_via HB.out hB)
  have y0 := HX.out.cell (j := 0) (by simp)
  have y1 := HX.out.cell (j := 1) (by simp)
  have y2 := HX.out.cell (j := 2) (by simp)
  have y3 := HX.out.cell (j := 3) (by simp)
  simp at y0 y1 y2 y3
  clear hB
  go_wp2_with fail
  refine (tocmd_any kind key ver data _).mono ?_
  rintro e w4 ⟨rfl, hB⟩
  have HB := Lib.hid (below_via HB.out hB)
  clear hB y0 y1 y2 y3 HX
  go_wp2_with fail
  refine (cmdtext_any kind key ver data _ HS.out.1 HS.out.2 (HT.out.keep HB.out)).mono ?_
  rw [HQ.out]
  rintro e w5 ⟨rfl, hB⟩
  have HB := Lib.hid (below_via HB.out hB)
  clear hB
  clear HQ
  go_wp2
  go_ret
  exact ⟨rfl, HB.out⟩
end Go.Proofs.YtcmbaclkfnecbaaDoor
