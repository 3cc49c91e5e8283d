
/- Drawn texts of claims and marks, and drawn marks: only new blocks are made. -/
import Derived.Test.YtcmbaclkfnecbaaDoorDrawClm
import Derived.Test.YtcmbaclkfnecbaaDoorMark
import Derived.Test.YtcmbaclkfnecbaaDoorRMarkM
namespace Go.Proofs.YtcmbaclkfnecbaaDoor
open Go.ChangeShapes Go.WideShapes Go.ChangeAt Go.RowKit
set_option linter.unusedVariables false
set_option maxRecDepth 100000

theorem claimTx_size (a e u : Int) : (claimTx a e u).size ≤ 40 := by
  unfold claimTx
  split
  · rename_i hc
    exact rclaim_size (rclaim_iff.2 ⟨hc, rfl⟩)
  · exact Nat.zero_le _
theorem markTx_size (b : Bool) (e k : Int) : (markTx b e k).size ≤ 40 := by
  unfold markTx
  split
  · rename_i hc
    exact rmark_size (rmark_iff.2 ⟨hc, rfl⟩)
  · exact Nat.zero_le _
def DrewTx (m : Nat) (w : World) (e : Ending) (w' : World) : Prop := ∃ s : ByteArray, s.size ≤ m ∧ e = .returned (.string s) ∧ Below w.heap.size w w'
def DrewMk (w : World) (e : Ending) (w' : World) : Prop := ∃ (b : Bool) (x y : Int), e = .returned (.agg #[.bool b, .int .i64 x, .int .i64 y]) ∧ Below w.heap.size w w'

set_option maxHeartbeats 2000000 in
theorem drawreadclaim_any (w : World) (a : Option Addr) (len cap : Nat) (h : Src w a len) :
    Calls Tryd.prog 12 #[.slice a len cap] w (DrewTx 41 w) := by
  have H := Lib.hid h
  clear h
  go_enter Tryd.func12, Tryd.ntmps12
  go_wp2_with fail
  refine (open_any _ _ _ _ H.out).mono ?_
  rintro e w1 ⟨rfl, hb, hr⟩
  have HB := Lib.hid hb
  have HR := Lib.hid hr
  have HL := Lib.hid hr.lt
  clear hb hr
  go_wp2_with fail
  refine (drawclaim_any _ _ _ _ (H.out.below HB.out)).mono ?_
  rintro e w2 ⟨x, y, z, rfl, hb⟩
  have HR := Lib.hid (HR.out.below (hb.mono HL.out))
  have HB := Lib.hid (below_via HB.out hb)
  clear hb
  go_wp2_with fail
  refine (sclaimtext_any _ _ _ _).mono ?_
  rintro e w3 ⟨rfl, hb⟩
  have HR := Lib.hid (HR.out.below (hb.mono (Nat.succ_le_of_lt HR.out.lt)))
  have HB := Lib.hid (below_via HB.out hb)
  have HS := Lib.hid (claimTx_size x y z)
  generalize claimTx x y z = s at HS ⊢
  clear hb
  go_wp2_with fail
  refine (below_any _ _ _ _ _ _ HR.out (by decide) (by decide)).mono ?_
  rintro e w4 ⟨⟨k, hk1, hk2, rfl⟩, hw⟩
  have HW := Lib.hid hw
  clear hw
  go_wp2_with fail
  · refine (hurt_any s 40 _ _ _ _ _ HW.out.rdr HS.out (by decide)).mono ?_
    rintro e w5 ⟨⟨t, ht, rfl⟩, hw⟩
    have HB := Lib.hid ((HW.out.trans hw).under HB.out (Nat.le_refl _) HB.out.size)
    have HT := Lib.hid ht
    clear hw ht
    go_wp2_with fail
    go_ret
    exact ⟨t, HT.out, rfl, HB.out⟩
  · refine (below_any _ _ _ _ _ _ (HW.out.rdr.alloc _) (by decide) (by decide)).mono ?_
    rintro e w5 ⟨⟨j, hj1, hj2, rfl⟩, hw⟩
    obtain ⟨t, ht, hct⟩ := tab_cell (m := 41) (hw.block (k := w4.heap.size) (heap_alloc_new _ _) (Nat.ne_of_gt HW.out.rdr.lt)) (by decide) j hj1 (by show j < 7; omega)
    have HB := Lib.hid (((HW.out.alloc _).trans hw).under HB.out (Nat.le_refl _) HB.out.size)
    have HT := Lib.hid ht
    clear hw ht
    go_wp2_with fail
    go_ret
    exact ⟨t, HT.out, rfl, HB.out⟩
  · go_ret
    exact ⟨s, Nat.le_trans HS.out (by decide), rfl, HW.out.under HB.out (Nat.le_refl _) HB.out.size⟩

set_option maxHeartbeats 2000000 in
theorem drawmark_any (w : World) (a : Option Addr) (len cap : Nat) (h : Src w a len) :
    Calls Tryd.prog 16 #[.slice a len cap] w (DrewMk w) := by
  have H := Lib.hid h
  clear h
  go_enter Tryd.func16, Tryd.ntmps16
  go_wp2_with fail
  refine (drawclaim_any _ _ _ _ (H.out.below ((Below.refl _ _).alloc (Nat.le_refl _) _))).mono ?_
  rintro e w2 ⟨x, y, z, rfl, hb⟩
  have h0 : w2.heap[w.heap.size]? = _ := (hb.block w.heap.size (by simp)).trans (heap_alloc_new _ _)
  have HB := Lib.hid (((Below.refl w.heap.size w).alloc (Nat.le_refl _) _).trans (hb.mono (show w.heap.size ≤ _ by simp)))
  have h1 := (block_alloc (lt_of_block h0) (Obj.cells #[.int .i64 x, .int .i64 y, .int .i64 z] 25)).trans h0
  have h2 := heap_alloc_new w2 (Obj.cells #[.int .i64 x, .int .i64 y, .int .i64 z] 25)
  have HB := Lib.hid (below_alloc HB.out (Obj.cells #[.int .i64 x, .int .i64 y, .int .i64 z] 25))
  have H1 := Lib.hid h1
  obtain ⟨w3, hw3⟩ : ∃ w3, w2.alloc (Obj.cells #[.int .i64 x, .int .i64 y, .int .i64 z] 25) = w3 := ⟨_, rfl⟩
  rw [hw3] at h1 h2 HB
  rw [hw3] at H1
  have c0 : w3.cell? ⟨w.heap.size, 0, none⟩ = some (.bool false) := by simp [World.cell?, h1]
  have c1 : w3.cell? ⟨w.heap.size, 1, none⟩ = some (.int .i64 0) := by simp [World.cell?, h1]
  have c2 : w3.cell? ⟨w.heap.size, 2, none⟩ = some (.int .i64 0) := by simp [World.cell?, h1]
  have f0 : w3.frozen? ⟨w.heap.size, 0, none⟩ = false := frozen_none h1
  have f1 : w3.frozen? ⟨w.heap.size, 1, none⟩ = false := frozen_none h1
  have f2 : w3.frozen? ⟨w.heap.size, 2, none⟩ = false := frozen_none h1
  have b0 : w3.cell? ⟨w2.heap.size, 0, none⟩ = some (.int .i64 x) := by simp [World.cell?, h2]
  have b1 : w3.cell? ⟨w2.heap.size, 1, none⟩ = some (.int .i64 y) := by simp [World.cell?, h2]
  have b2 : w3.cell? ⟨w2.heap.size, 2, none⟩ = some (.int .i64 z) := by simp [World.cell?, h2]
  have hd := block_set (block_set (block_set H1.out 0 (.bool (decide (0 < Int.tmod z 3)))) 1 (.int .i64 y)) 2 (.int .i64 x)
  have HB2 := Lib.hid (((HB.out.setCell (p := ⟨w.heap.size, 0, none⟩) (Nat.le_refl _) (.bool (decide (0 < Int.tmod z 3)))).setCell (p := ⟨w.heap.size, 1, none⟩) (Nat.le_refl _) (.int .i64 y)).setCell (p := ⟨w.heap.size, 2, none⟩) (Nat.le_refl _) (.int .i64 x))
  have HDD := Lib.hid hd
  clear hb h0 h1 h2 HB H1 hd
  go_wp2_with fail
  have hb := HDD.out
  exact bodyPost_ret (v := .agg #[.bool (decide (0 < Int.tmod z 3)), .int .i64 y, .int .i64 x]) (by simp [results, Tryd.results16, go_sem, World.cell?, hb]) rfl ⟨_, _, _, rfl, HB2.out⟩

set_option maxHeartbeats 2000000 in
theorem drawreadmark_any (w : World) (a : Option Addr) (len cap : Nat) (h : Src w a len) :
    Calls Tryd.prog 18 #[.slice a len cap] w (DrewTx 41 w) := by
  have H := Lib.hid h
  clear h
  go_enter Tryd.func18, Tryd.ntmps18
  go_wp2_with fail
  refine (open_any _ _ _ _ H.out).mono ?_
  rintro e w1 ⟨rfl, hb, hr⟩
  have HB := Lib.hid hb
  have HR := Lib.hid hr
  have HL := Lib.hid hr.lt
  clear hb hr
  go_wp2_with fail
  refine (drawmark_any _ _ _ _ (H.out.below HB.out)).mono ?_
  rintro e w2 ⟨x, y, z, rfl, hb⟩
  have HR := Lib.hid (HR.out.below (hb.mono HL.out))
  have HB := Lib.hid (below_via HB.out hb)
  clear hb
  go_wp2_with fail
  refine (smarktxt_any _ _ _ _).mono ?_
  rintro e w3 ⟨rfl, hb⟩
  have HR := Lib.hid (HR.out.below (hb.mono (Nat.succ_le_of_lt HR.out.lt)))
  have HB := Lib.hid (below_via HB.out hb)
  have HS := Lib.hid (markTx_size x y z)
  generalize markTx x y z = s at HS ⊢
  clear hb
  go_wp2_with fail
  refine (below_any _ _ _ _ _ _ HR.out (by decide) (by decide)).mono ?_
  rintro e w4 ⟨⟨k, hk1, hk2, rfl⟩, hw⟩
  have HW := Lib.hid hw
  clear hw
  go_wp2_with fail
  · refine (hurt_any s 40 _ _ _ _ _ HW.out.rdr HS.out (by decide)).mono ?_
    rintro e w5 ⟨⟨t, ht, rfl⟩, hw⟩
    have HB := Lib.hid ((HW.out.trans hw).under HB.out (Nat.le_refl _) HB.out.size)
    have HT := Lib.hid ht
    clear hw ht
    go_wp2_with fail
    go_ret
    exact ⟨t, HT.out, rfl, HB.out⟩
  · refine (below_any _ _ _ _ _ _ (HW.out.rdr.alloc _) (by decide) (by decide)).mono ?_
    rintro e w5 ⟨⟨j, hj1, hj2, rfl⟩, hw⟩
    obtain ⟨t, ht, hct⟩ := tab_cell (m := 41) (hw.block (k := w4.heap.size) (heap_alloc_new _ _) (Nat.ne_of_gt HW.out.rdr.lt)) (by decide) j hj1 (by show j < 7; omega)
    have HB := Lib.hid (((HW.out.alloc _).trans hw).under HB.out (Nat.le_refl _) HB.out.size)
    have HT := Lib.hid ht
    clear hw ht
    go_wp2_with fail
    go_ret
    exact ⟨t, HT.out, rfl, HB.out⟩
  · go_ret
    exact ⟨s, Nat.le_trans HS.out (by decide), rfl, HW.out.under HB.out (Nat.le_refl _) HB.out.size⟩

end Go.Proofs.YtcmbaclkfnecbaaDoor
