
/- What the draws of commands take: a name, data. -/
import Derived.Test.YtcmbaclkfnecbaaDoorMg1
import Derived.Test.YtcmbaclkfnecbaaDoorRCmdS1
import Derived.Test.YtcmbaclkfnecbaaDoorLine
namespace Go.Proofs.YtcmbaclkfnecbaaDoor
open Go.ChangeShapes Go.WideShapes Go.ChangeAt Go.RowKit
set_option linter.unusedVariables false
set_option maxRecDepth 100000

set_option maxHeartbeats 1000000 in
theorem name_any (w : World) (r : Nat) (a : Option Addr) (len cap : Nat) (h : Rdr w r a len cap) :
    Calls Tryd.prog 71 #[.pointer (some ⟨r, 0, none⟩)] w (RdStr 3 w r a len cap) := by
  have H := Lib.hid h
  clear h
  go_enter Tryd.func71, Tryd.ntmps71
  go_wp2_with fail
  refine (below_any _ _ _ _ _ _ (H.out.alloc _) (by decide) (by decide)).mono ?_
  rintro e w1 ⟨⟨y, hy1, hy2, rfl⟩, hw⟩
  obtain ⟨t, ht, hct⟩ := tab_cell (m := 3) (hw.block (k := w.heap.size) (heap_alloc_new _ _) (Nat.ne_of_gt H.out.lt)) (by decide) y hy1 (by show y < 6; omega)
  have HW := Lib.hid (((Went.refl H.out).alloc _).trans hw)
  have HT := Lib.hid ht
  clear hw ht
  go_wp2_with fail
  go_ret
  exact ⟨⟨t, HT.out, rfl⟩, HW.out⟩

set_option maxHeartbeats 2000000 in
theorem data_any (w : World) (r : Nat) (a : Option Addr) (len cap : Nat) (h : Rdr w r a len cap) :
    Calls Tryd.prog 72 #[.pointer (some ⟨r, 0, none⟩)] w (RdStr 30001 w r a len cap) := by
  have H := Lib.hid h
  clear h
  obtain ⟨i0, hi, hz0, hz1, hz2⟩ := infoByteX
  go_enter Tryd.func72, Tryd.ntmps72
  go_wp2_with fail
  refine (once_any _ _ _ _ _ _ H.out (by decide) (by decide)).mono ?_
  rintro e w1 ⟨⟨b, rfl⟩, hw⟩
  have HW := Lib.hid hw
  clear hw
  cases b with
  | true =>
    go_wp2_with fail
    refine (below_any _ _ _ _ _ _ HW.out.rdr (by decide) (by decide)).mono ?_
    rintro e w2 ⟨⟨x, hx1, hx2, rfl⟩, hw⟩
    have HW := Lib.hid (HW.out.trans hw)
    clear hw
    go_wp2_with fail
    refine (below_any _ _ _ _ _ _ HW.out.rdr (by decide) (by decide)).mono ?_
    rintro e w3 ⟨⟨y, hy1, hy2, rfl⟩, hw⟩
    have HW := Lib.hid (HW.out.trans hw)
    clear hw
    obtain ⟨N, hN⟩ : ∃ N : Nat, 30000 - x + y = (N : Int) := ⟨(30000 - x + y).toNat, by omega⟩
    have hNs : N ≤ 30001 := by omega
    go_wp2_with (at_make; go_loud (refine wpList_make_full _ rfl _ _ 22 rfl w3.heap.size 5 i0 _ 1 Tryd.underlying22 hi hz0 hz1 .i64 .i64 _ _ N rfl rfl rfl rfl (by rw [hz2]; omega) (by unfold maxLen; omega) (Nat.le_refl _) ?_); intro w4 hown hgrow; have hzt := zeros_text hown; have hzs : (strOfNums (List.replicate N 0)).size ≤ 30001 := (by simp [strOfNums, ByteArray.size]; omega); have HW4 := Lib.hid (Went.mk (grown_trans HW.out.grown ⟨hgrow.os, hgrow.tape, hgrow.output, hgrow.size, fun k hk _ => hgrow.block k hk (by simp)⟩) (HW.out.rdr.below ⟨hgrow.os, hgrow.tape, hgrow.output, hgrow.size, fun k hk => hgrow.block k (by have := HW.out.rdr.lt; omega) (by simp)⟩) : Went w r a len cap w4); clear hown hgrow)
    go_ret
    exact ⟨⟨_, hzs, rfl⟩, HW4.out⟩
  | false =>
    go_wp2_with fail
    refine (below_any _ _ _ _ _ _ (HW.out.rdr.alloc _) (by decide) (by decide)).mono ?_
    rintro e w2 ⟨⟨y, hy1, hy2, rfl⟩, hw⟩
    obtain ⟨t, ht, hct⟩ := tab_cell (m := 6) (hw.block (k := w1.heap.size) (heap_alloc_new _ _) (Nat.ne_of_gt HW.out.rdr.lt)) (by decide) y hy1 (by show y < 5; omega)
    have HW := Lib.hid ((HW.out.alloc _).trans hw)
    have HT := Lib.hid ht
    clear hw ht
    go_wp2_with fail
    go_ret
    exact ⟨⟨t, Nat.le_trans HT.out (by decide), rfl⟩, HW.out⟩
end Go.Proofs.YtcmbaclkfnecbaaDoor
