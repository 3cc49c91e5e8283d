
/- What is drawn for the frames' laws: short texts. Only the reader's position and new blocks change. -/
import Derived.Test.YthndoimblfccbaaDoorDraw1
import Derived.Test.YthndoimblfccbaaDoorWentM
import Derived.Test.YthndoimblfccbaaDoorHexM
import Derived.Test.YthndoimblfccbaaDoorOwn
import Derived.RangeFuncBox
namespace Go.Proofs.YthndoimblfccbaaDoor
open Go.ChangeShapes Go.WideShapes Go.ChangeAt Go.RowKit Go
set_option linter.unusedVariables false
set_option maxRecDepth 100000

set_option maxHeartbeats 1000000 in
theorem rdtext_any (w : World) (r : Nat) (a : Option Addr) (len cap : Nat) (h : Rdr w r a len cap) :
    Calls Tryd.prog 23 #[.pointer (some ⟨r, 0, none⟩)] w (RdStr 3 w r a len cap) := by
  have H := Lib.hid h
  clear h
  go_enter Tryd.func23, Tryd.ntmps23
  go_wp2_with (go_at_call 22; refine (below_any _ _ _ _ _ _ (H.out.alloc _) (by omega) (by omega)).mono ?_; rintro e w1 ⟨⟨x, hx1, hx2, rfl⟩, hw⟩; obtain ⟨s, hs, hcs⟩ := tab_cell (m := 3) (hw.block (k := w.heap.size) (heap_alloc_new _ _) (Nat.ne_of_gt H.out.lt)) (by decide) x hx1 (by show x < 5; omega); have HS := Lib.hid hs; have HW := Lib.hid (((Went.refl H.out).alloc _).trans hw); clear hw hs)
  go_ret
  exact ⟨⟨s, HS.out, rfl⟩, HW.out⟩

structure DrawnB (w wr : World) (r : Nat) (a : Option Addr) (len cap : Nat) (v : Value) (n : Nat) (X : List Int) : Prop where
  own : wr.ownsRow w.heap.size 5 1 v n (byteCs X)
  length : X.length = n
  went : Went w r a len cap wr
theorem DrawnB.trans {w wr w1 : World} {r : Nat} {a : Option Addr} {len cap n : Nat} {v : Value} {X : List Int} (h : DrawnB w wr r a len cap v n X) (hr : r < w.heap.size) (hw : Went wr r a len cap w1) : DrawnB w w1 r a len cap v n X :=
  ⟨own_went h.own hw hr, h.length, h.went.trans hw⟩
theorem DrawnB.add {w wr w1 : World} {r : Nat} {a : Option Addr} {len cap n : Nat} {v v' : Value} {X : List Int} {y : Int} {o : Obj} (h : DrawnB w wr r a len cap v n X) (hr : r < w.heap.size)
    (hown : w1.ownsRow w.heap.size 5 1 v' (n + 1) (byteCs X ++ [.int .u8 y])) (hg : (wr.alloc o).grownBy w1 v.ownBlock) : DrawnB w w1 r a len cap v' (n + 1) (X ++ [y]) :=
  ⟨by simpa [byteCs] using hown, by simp [h.length], (h.went.alloc o).more hg hr (fun k hk => (h.own.lt k hk).1)⟩
theorem DrawnB.text {w wr : World} {r : Nat} {a : Option Addr} {len cap g n cp : Nat} {X : List Int} (h : DrawnB w wr r a len cap (.slice (some ⟨g, 0, none⟩) n cp) n X) :
    (convert 29 9 (.slice (some ⟨g, 0, none⟩) n cp)).run Tryd.prog wr = .ok (.string (strOfNums X)) wr :=
  run_convert_bytes_arg _ _ _ Tryd.underlying29 Tryd.underlying5 g 0 n cp X h.length (fun i hi => by
    rw [Nat.zero_add]
    have hl := h.length
    have hiX : i < X.length := by omega
    rw [h.own.cellAt i (by omega)]
    rw [List.getD_eq_getElem?_getD]
    simp [byteCs, hiX]) _ Tryd.underlying9

set_option maxHeartbeats 4000000 in
theorem rdbytes_any (m : Int) (w : World) (r : Nat) (a : Option Addr) (len cap : Nat) (h : Rdr w r a len cap) (hm0 : 0 ≤ m) (hm1 : m ≤ 1000) :
    Calls Tryd.prog 25 #[.pointer (some ⟨r, 0, none⟩), .int .i64 m] w (RdStr 1000 w r a len cap) := by
  obtain ⟨i0, hi, hz0, hz1, hz2⟩ := infoByteX
  have HRL := Lib.hid h.lt
  have H0 := Lib.hid (show DrawnB w (w.alloc (.cells #[] 5)) r a len cap (.slice (some ⟨w.heap.size, 0, none⟩) 0 0) 0 [] from ⟨World.ownsRow_lit w #[] 0 (Nat.le_refl _) (Nat.zero_le _) rfl, rfl, (Went.refl h).alloc _⟩)
  clear h
  go_enter Tryd.func25, Tryd.ntmps25
  go_wp2_with fail
  refine (below_any _ _ _ _ _ _ H0.out.went.rdr (by omega) (by omega)).mono ?_
  rintro e w1 ⟨⟨x, hx1, hx2, rfl⟩, hw⟩
  have HD := Lib.hid (H0.out.trans HRL.out hw)
  clear hw H0
  go_wp2_with fail
  go_loopw [5, 6] (fun v i wr => ∃ (k g n cp : Nat) (X : List Int), i = .int .i64 k ∧ v = .slice (some ⟨g, 0, none⟩) n cp ∧ n + k ≤ 1000 ∧ Hid (DrawnB w wr r a len cap (.slice (some ⟨g, 0, none⟩) n cp) n X)) (fun _ i _ => (intOf i).toNat)
  case atStart => exact ⟨x.toNat, _, _, _, [], by rw [Int.toNat_of_nonneg hx1], rfl, by omega, HD.out⟩
  case round =>
    obtain ⟨k, g, n, cp, X, rfl, rfl, hk4, HS⟩ := hrel
    clear HD
    by_cases hk : 0 < k
    · go_wp2_with fail
      refine (below_any _ _ _ _ _ _ HS.out.went.rdr (by decide) (by decide)).mono ?_
      rintro e w2 ⟨⟨y, hy1, hy2, rfl⟩, hw⟩
      have HS2 := Lib.hid (HS.out.trans HRL.out hw)
      have HZ := Lib.hid (show w.heap.size ≤ w2.heap.size from HS2.out.went.grown.size)
      have hyw : IntKind.u8.wrap y = y := by simp [IntKind.wrap, IntKind.bits, IntKind.signed]; omega
      clear hw HS
      go_wp2_with (at_builtin; (refine wpList_append_own _ rfl _ _ 29 rfl w.heap.size 5 i0 _ 1 1 Tryd.underlying29 hi hz0 hz1 hz2 rfl (by decide) _ _ _ rfl (HS2.out.own.alloc _) ⟨w2.heap.size, 0, none⟩ 1 1 [.int .u8 y] rfl rfl (one_new _ _ _) (fun u hu => by simp at hu; subst hu; rfl) (by unfold maxLen; omega) (by omega) (Nat.le_trans HZ.out (by simp)) ?_); intro v' w3 hown1 hgrow hnil; have HO1 := Lib.hid (HS2.out.add HRL.out hown1 hgrow); obtain ⟨g1, cp1, rfl⟩ := ownsRow_succ hown1; clear hown1 hgrow hnil)
      go_roundw
      case rel => exact ⟨k - 1, g1, n + 1, cp1, X ++ [y], by go_num, rfl, by omega, HO1⟩
      case measure => simp [intOf]; omega
    · obtain rfl : k = 0 := by omega
      have hcv := HS.out.text
      have HX := Lib.hid (show (strOfNums X).size ≤ 1000 by have := HS.out.length; simp [strOfNums, ByteArray.size]; omega)
      go_wp2
      go_ret
      exact ⟨⟨_, HX.out, rfl⟩, HS.out.went⟩
end Go.Proofs.YthndoimblfccbaaDoor
