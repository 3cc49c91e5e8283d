
/- Drawn commands for CmdText and CmdOk: only new blocks are made. -/
import Derived.Test.YtcmbaclkfnecbaaDoorDrawCm3
namespace Go.Proofs.YtcmbaclkfnecbaaDoor
open Go.ChangeShapes Go.WideShapes Go.ChangeAt Go.RowKit
set_option linter.unusedVariables false
set_option maxRecDepth 100000

def DrewCmd (w : World) (e : Ending) (w' : World) : Prop := ∃ (k : Int) (b : ByteArray) (v : Int) (d : ByteArray), b.size ≤ 41 ∧ d.size ≤ 30001 ∧ e = .returned (.agg #[.int .i64 k, .string b, .int .i64 v, .string d]) ∧ Below w.heap.size w w'

set_option maxHeartbeats 2000000 in
theorem drawcmdok_any (w : World) (a : Option Addr) (len cap : Nat) (h : Src w a len) :
    Calls Tryd.prog 49 #[.slice a len cap] w (DrewCmd w) := by
  have H := Lib.hid h
  have HX := Lib.hid (Row.new w 38 #[.int .i64 0, .string ⟨#[]⟩, .int .i64 0, .string ⟨#[]⟩])
  have HB := Lib.hid (below_alloc (Below.refl w.heap.size w) (.cells #[.int .i64 0, .string ⟨#[]⟩, .int .i64 0, .string ⟨#[]⟩] 38))
  clear h
  go_enter Tryd.func49, Tryd.ntmps49
  go_wp2_with fail
  refine (open_any _ _ _ _ (H.out.below HB.out)).mono ?_
  rintro e w1 ⟨rfl, hb, hr⟩
  have HX := Lib.hid (HX.out.keep hb)
  have HB := Lib.hid (below_via HB.out hb)
  have HR := Lib.hid hr
  have hne : w.heap.size ≠ (w.alloc (.cells #[.int .i64 0, .string ⟨#[]⟩, .int .i64 0, .string ⟨#[]⟩] 38)).heap.size := by simp
  have hle : w.heap.size ≤ (w.alloc (.cells #[.int .i64 0, .string ⟨#[]⟩, .int .i64 0, .string ⟨#[]⟩] 38)).heap.size := by simp
  obtain ⟨r, hr9⟩ : ∃ r, (w.alloc (.cells #[.int .i64 0, .string ⟨#[]⟩, .int .i64 0, .string ⟨#[]⟩] 38)).heap.size = r := ⟨_, rfl⟩
  rw [hr9] at HR hne hle ⊢
  have hnr : some r ≠ some w.heap.size := fun e => hne (by injection e with e; exact e.symm)
  clear hb hr hr9
  go_wp2_with fail
  refine (drawcmd_any _ _ _ _ _ HR.out).mono ?_
  rintro e w2 ⟨k, b, v, d, hb, hd, rfl, hw⟩
  have HW := Lib.hid hw
  have HX := Lib.hid (HX.out.grown hw.grown hnr)
  have HS := Lib.hid (And.intro hb hd)
  clear hb hd hw
  go_wp2_with fail
  refine (hurtcmd_any k b v d _ _ _ _ _ HW.out.rdr (by have := HS.out.1; omega) HS.out.2).mono ?_
  rintro e w3 ⟨k, b, v, d, hb, hd, rfl, hw⟩
  have HX := Lib.hid (HX.out.grown hw.grown hnr)
  have HS := Lib.hid (And.intro hb hd)
  have HB := Lib.hid ((HW.out.trans hw).under HB.out hle HB.out.size)
  clear hb hd hw
  have y0 := HX.out.cell (j := 0) (by simp)
  have y1 := HX.out.cell (j := 1) (by simp)
  have y2 := HX.out.cell (j := 2) (by simp)
  have y3 := HX.out.cell (j := 3) (by simp)
  have f0 := HX.out.free 0
  have f1 := HX.out.free 1
  have f2 := HX.out.free 2
  have f3 := HX.out.free 3
  simp at y0 y1 y2 y3
  go_wp2
  have hbF := ((((HX.out.set 0 (.int .i64 k)).set 1 (.string b)).set 2 (.int .i64 v)).set 3 (.string d))
  unfold Row at hbF
  exact bodyPost_ret (v := .agg #[.int .i64 k, .string b, .int .i64 v, .string d]) (by simp [results, Tryd.results49, go_sem, World.cell?, hbF]) rfl ⟨_, _, _, _, HS.out.1, HS.out.2, rfl, (HB.out.setCell (Nat.le_refl _) _ |>.setCell (Nat.le_refl _) _ |>.setCell (Nat.le_refl _) _ |>.setCell (Nat.le_refl _) _)⟩
set_option maxHeartbeats 2000000 in
theorem drawcmdtext_any (w : World) (a : Option Addr) (len cap : Nat) (h : Src w a len) :
    Calls Tryd.prog 22 #[.slice a len cap] w (DrewCmd w) := by
  have H := Lib.hid h
  have HX := Lib.hid (Row.new w 38 #[.int .i64 0, .string ⟨#[]⟩, .int .i64 0, .string ⟨#[]⟩])
  have HB := Lib.hid (below_alloc (Below.refl w.heap.size w) (.cells #[.int .i64 0, .string ⟨#[]⟩, .int .i64 0, .string ⟨#[]⟩] 38))
  clear h
  go_enter Tryd.func22, Tryd.ntmps22
  go_wp2_with fail
  refine (drawcmdok_any _ _ _ _ (H.out.below HB.out)).mono ?_
  rintro e w3 ⟨k, b, v, d, hb, hd, rfl, hB⟩
  have HX := Lib.hid (HX.out.keep hB)
  have HS := Lib.hid (And.intro hb hd)
  have HB := Lib.hid (below_via HB.out hB)
  clear hb hd hB
  have y0 := HX.out.cell (j := 0) (by simp)
  have y1 := HX.out.cell (j := 1) (by simp)
  have y2 := HX.out.cell (j := 2) (by simp)
  have y3 := HX.out.cell (j := 3) (by simp)
  have f0 := HX.out.free 0
  have f1 := HX.out.free 1
  have f2 := HX.out.free 2
  have f3 := HX.out.free 3
  simp at y0 y1 y2 y3
  go_wp2
  have hbF := ((((HX.out.set 0 (.int .i64 k)).set 1 (.string b)).set 2 (.int .i64 v)).set 3 (.string d))
  unfold Row at hbF
  exact bodyPost_ret (v := .agg #[.int .i64 k, .string b, .int .i64 v, .string d]) (by simp [results, Tryd.results22, go_sem, World.cell?, hbF]) rfl ⟨_, _, _, _, HS.out.1, HS.out.2, rfl, (HB.out.setCell (Nat.le_refl _) _ |>.setCell (Nat.le_refl _) _ |>.setCell (Nat.le_refl _) _ |>.setCell (Nat.le_refl _) _)⟩
end Go.Proofs.YtcmbaclkfnecbaaDoor
