
/- Drawn events and their texts, drawn states: only new blocks are made. -/
import Derived.Test.YtbmhabboloficaaDoorDrawClm
import Derived.Test.YtbmhabboloficaaDoorEvsM
import Derived.Test.YtbmhabboloficaaDoorEvTx
namespace Go.Proofs.YtbmhabboloficaaDoor
open Go.ChangeShapes Go.WideShapes Go.ChangeAt Go.RowKit
set_option linter.unusedVariables false
set_option maxRecDepth 100000

def DrewTx (m : Nat) (w : World) (e : Ending) (w' : World) : Prop := ∃ s : ByteArray, s.size ≤ m ∧ e = .returned (.string s) ∧ Below w.heap.size w w'
def DrewEv (w : World) (e : Ending) (w' : World) : Prop := ∃ x y : Int, e = .returned (.agg #[.int .i64 x, .int .i64 y]) ∧ Below w.heap.size w w'
def DrewSt (w : World) (e : Ending) (w' : World) : Prop := ∃ x y z : Int, In64 x ∧ In64 y ∧ In64 z ∧ e = .returned (.agg #[.int .i64 x, .int .i64 y, .int .i64 z]) ∧ Below w.heap.size w w'
theorem dc_new {w w1 : World} {a : Option Addr} {len cap : Nat} {t : TypeId} {cur : Array Value} (H : Src w a len) (hb : Below (w.alloc (.cells cur t (0, 0))).heap.size (w.alloc (.cells cur t (0, 0))) w1) (hr : Rdr w1 (w.alloc (.cells cur t (0, 0))).heap.size a len cap) :
    DC w t cur (w.heap.size + 1) a len cap w1 := by
  have h1 := hb.mono (show w.heap.size ≤ _ by simp)
  refine ⟨((Below.refl w.heap.size w).alloc (Nat.le_refl _) _).trans h1, by simpa using hr, (hb.block _ (by simp)).trans (heap_alloc_new _ _), by omega, ?_⟩
  rcases H.2 with h0 | ⟨b, off, ha, hlt, _⟩
  · exact .inl h0
  · exact .inr ⟨b, off, ha, hlt⟩

/-- A drawn event of a reader: only new blocks, and the reader goes on. -/
def RdEv (w : World) (r : Nat) (a : Option Addr) (len cap : Nat) (e : Ending) (w' : World) : Prop := (∃ x y : Int, e = .returned (.agg #[.int .i64 x, .int .i64 y])) ∧ Went w r a len cap w'

set_option maxHeartbeats 2000000 in
theorem event_any (n : Int) (w : World) (r : Nat) (a : Option Addr) (len cap : Nat) (h : Rdr w r a len cap) (h1 : 1 ≤ n) (h2 : n ≤ 1000) :
    Calls Tryd.prog 81 #[.pointer (some ⟨r, 0, none⟩), .int .i64 n] w (RdEv w r a len cap) := by
  have H := Lib.hid h
  have HX := Lib.hid (Row.new w 25 #[.int .i64 0, .int .i64 0])
  have HW0 := Lib.hid ((Went.refl h).alloc (.cells #[.int .i64 0, .int .i64 0] 25))
  have HLT := Lib.hid h.lt
  clear h
  go_enter Tryd.func81, Tryd.ntmps81
  go_wp2_with fail
  refine (below_any _ _ _ _ _ _ HW0.out.rdr (by decide) (by decide)).mono ?_
  rintro e w1 ⟨⟨x, hx1, hx2, rfl⟩, hw⟩
  have HX := Lib.hid (show Row w1 w.heap.size 25 #[.int .i64 0, .int .i64 0] from hw.block HX.out (Nat.ne_of_gt HLT.out))
  have HW := Lib.hid (HW0.out.trans hw)
  clear hw
  have c0 := HX.out.cell (j := 0) (by simp)
  have c1 := HX.out.cell (j := 1) (by simp)
  have f0 := HX.out.free 0
  have f1 := HX.out.free 1
  simp at c0 c1
  by_cases e0 : x = 0
  · subst e0
    go_wp2_with fail
    have hbF := (HX.out.set 0 (.int .i64 3)).set 1 (.int .i64 0)
    unfold Row at hbF
    exact bodyPost_ret (v := .agg #[.int .i64 3, .int .i64 0]) (by simp [results, Tryd.results81, go_sem, World.cell?, hbF]) rfl ⟨⟨_, _, rfl⟩, (HW.out.put (Nat.le_refl _) HLT.out _ _).put (Nat.le_refl _) HLT.out _ _⟩
  by_cases e1 : x = 1
  · subst e1
    clear e0 c0 c1 f0 f1
    go_wp2_with fail
    refine (once_any _ _ _ _ _ _ HW.out.rdr (by decide) (by decide)).mono ?_
    rintro e w2 ⟨⟨q, rfl⟩, hw⟩
    have HX := Lib.hid (show Row w2 w.heap.size 25 #[.int .i64 0, .int .i64 0] from hw.block HX.out (Nat.ne_of_gt HLT.out))
    have HW := Lib.hid (HW.out.trans hw)
    clear hw
    cases q
    all_goals
      go_wp2_with fail
      refine (below_any _ _ _ _ _ _ HW.out.rdr (by omega) (by omega)).mono ?_
      rintro e w3 ⟨⟨y, hy1, hy2, rfl⟩, hw⟩
      have HX := Lib.hid (show Row w3 w.heap.size 25 #[.int .i64 0, .int .i64 0] from hw.block HX.out (Nat.ne_of_gt HLT.out))
      have HW := Lib.hid (HW.out.trans hw)
      clear hw
      have c0 := HX.out.cell (j := 0) (by simp)
      have c1 := HX.out.cell (j := 1) (by simp)
      have f0 := HX.out.free 0
      have f1 := HX.out.free 1
      simp at c0 c1
      go_wp2_with fail
    · have hbF := (HX.out.set 0 (.int .i64 1)).set 1 (.int .i64 y)
      unfold Row at hbF
      exact bodyPost_ret (v := .agg #[.int .i64 1, .int .i64 y]) (by simp [results, Tryd.results81, go_sem, World.cell?, hbF]) rfl ⟨⟨_, _, rfl⟩, (HW.out.put (Nat.le_refl _) HLT.out _ _).put (Nat.le_refl _) HLT.out _ _⟩
    · have hbF := (HX.out.set 0 (.int .i64 2)).set 1 (.int .i64 y)
      unfold Row at hbF
      exact bodyPost_ret (v := .agg #[.int .i64 2, .int .i64 y]) (by simp [results, Tryd.results81, go_sem, World.cell?, hbF]) rfl ⟨⟨_, _, rfl⟩, (HW.out.put (Nat.le_refl _) HLT.out _ _).put (Nat.le_refl _) HLT.out _ _⟩
  have q0 : ((x : Int) == 0) = false := by rw [beq_eq_false_iff_ne]; exact e0
  have q1 : ((x : Int) == 1) = false := by rw [beq_eq_false_iff_ne]; exact e1
  clear e0 e1 c0 c1 f0 f1
  go_wp2_with fail
  refine (below_any _ _ _ _ _ _ HW.out.rdr (by omega) (by omega)).mono ?_
  rintro e w3 ⟨⟨y, hy1, hy2, rfl⟩, hw⟩
  have HX := Lib.hid (show Row w3 w.heap.size 25 #[.int .i64 0, .int .i64 0] from hw.block HX.out (Nat.ne_of_gt HLT.out))
  have HW := Lib.hid (HW.out.trans hw)
  clear hw
  have c0 := HX.out.cell (j := 0) (by simp)
  have c1 := HX.out.cell (j := 1) (by simp)
  have f0 := HX.out.free 0
  have f1 := HX.out.free 1
  simp at c0 c1
  go_wp2_with fail
  have hbF := (HX.out.set 0 (.int .i64 1)).set 1 (.int .i64 y)
  unfold Row at hbF
  exact bodyPost_ret (v := .agg #[.int .i64 1, .int .i64 y]) (by simp [results, Tryd.results81, go_sem, World.cell?, hbF]) rfl ⟨⟨_, _, rfl⟩, (HW.out.put (Nat.le_refl _) HLT.out _ _).put (Nat.le_refl _) HLT.out _ _⟩

set_option maxHeartbeats 2000000 in
theorem drawevtext_any (w : World) (a : Option Addr) (len cap : Nat) (h : Src w a len) :
    Calls Tryd.prog 39 #[.slice a len cap] w (DrewEv w) := by
  have H := Lib.hid h
  clear h
  go_enter Tryd.func39, Tryd.ntmps39
  go_wp2_with fail
  refine (open_any _ _ _ _ (H.out.below ((Below.refl _ _).alloc (Nat.le_refl _) _))).mono ?_
  rintro e w1 ⟨rfl, hb, hr⟩
  have HD := Lib.hid (dc_new H.out hb hr)
  clear hb hr
  have e0 : (w.alloc (Obj.cells #[Value.int IntKind.i64 0, Value.int IntKind.i64 0] 25)).heap.size = w.heap.size + 1 := by simp
  rw [e0]
  go_wp2_with fail
  refine (once_any _ _ _ _ _ _ HD.out.rdr (by decide) (by decide)).mono ?_
  rintro e w2 ⟨⟨q, rfl⟩, hw⟩
  have HD := Lib.hid (HD.out.call hw)
  clear hw
  cases q
  · go_wp2_with fail
    refine (event_any _ _ _ _ _ _ HD.out.rdr (by decide) (by decide)).mono ?_
    rintro e w3 ⟨⟨x, y, rfl⟩, hw⟩
    have HD := Lib.hid (HD.out.call hw)
    clear hw
    have c0 := HD.out.cell (j := 0) (by decide)
    have c1 := HD.out.cell (j := 1) (by decide)
    have f0 := HD.out.free (j := 0)
    have f1 := HD.out.free (j := 1)
    simp only [List.getElem_toArray, List.getElem_cons_zero, List.getElem_cons_succ] at c0 c1
    go_wp2_with fail
    have hd := (HD.out.put 0 (.int .i64 x)).put 1 (.int .i64 y)
    have hb := hd.blk
    exact bodyPost_ret (v := .agg #[.int .i64 x, .int .i64 y]) (by simp [results, Tryd.results39, go_sem, World.cell?, hb]) rfl ⟨_, _, rfl, hd.below⟩
  · go_wp2_with fail
    refine (off_any _ _ _ _ _ _ _ HD.out.rdr (by decide) (by decide) (by decide)).mono ?_
    rintro e w3 ⟨⟨x, hx, rfl⟩, hw⟩
    have HD := Lib.hid (HD.out.call hw)
    clear hw hx
    go_wp2_with fail
    refine (off_any _ _ _ _ _ _ _ HD.out.rdr (by decide) (by decide) (by decide)).mono ?_
    rintro e w4 ⟨⟨y, hy, rfl⟩, hw⟩
    have HD := Lib.hid (HD.out.call hw)
    clear hw hy
    have c0 := HD.out.cell (j := 0) (by decide)
    have c1 := HD.out.cell (j := 1) (by decide)
    have f0 := HD.out.free (j := 0)
    have f1 := HD.out.free (j := 1)
    simp only [List.getElem_toArray, List.getElem_cons_zero, List.getElem_cons_succ] at c0 c1
    go_wp2_with fail
    have hd := (HD.out.put 0 (.int .i64 x)).put 1 (.int .i64 y)
    have hb := hd.blk
    exact bodyPost_ret (v := .agg #[.int .i64 x, .int .i64 y]) (by simp [results, Tryd.results39, go_sem, World.cell?, hb]) rfl ⟨_, _, rfl, hd.below⟩

set_option maxHeartbeats 2000000 in
theorem drawreadevent_any (w : World) (a : Option Addr) (len cap : Nat) (h : Src w a len) :
    Calls Tryd.prog 40 #[.slice a len cap] w (DrewTx 41 w) := by
  have H := Lib.hid h
  clear h
  go_enter Tryd.func40, Tryd.ntmps40
  go_wp2_with fail
  refine (open_any _ _ _ _ H.out).mono ?_
  rintro e w1 ⟨rfl, hb, hr⟩
  have HB := Lib.hid hb
  have HR := Lib.hid hr
  have HL := Lib.hid hr.lt
  clear hb hr
  go_wp2_with fail
  refine (event_any _ _ _ _ _ _ HR.out (by decide) (by decide)).mono ?_
  rintro e w2 ⟨⟨x, y, rfl⟩, hw⟩
  have HW := Lib.hid hw
  clear hw
  go_wp2_with fail
  refine (seventtext_any _ _ _).mono ?_
  rintro e w3 ⟨rfl, hb⟩
  have HR := Lib.hid (HW.out.rdr.below (hb.mono (Nat.succ_le_of_lt HW.out.rdr.lt)))
  have HB := Lib.hid (below_via (HW.out.under HB.out (Nat.le_refl _) HB.out.size) hb)
  have HS := Lib.hid (Nat.le_trans (evTx_le x y) (show 7 ≤ 40 by decide))
  generalize evTx x y = s at HS ⊢
  clear hb HW
  go_wp2_with fail
  refine (below_any _ _ _ _ _ _ HR.out (by decide) (by decide)).mono ?_
  rintro e w4 ⟨⟨k, hk1, hk2, rfl⟩, hw⟩
  have HW := Lib.hid hw
  clear hw
  go_wp2_with fail
  · refine (hurt_any s 40 _ _ _ _ _ HW.out.rdr HS.out (by decide)).mono ?_
    rintro e w5 ⟨⟨t, ht, rfl⟩, hw⟩
    have HB := Lib.hid ((HW.out.trans hw).under HB.out (Nat.le_refl _) HB.out.size)
    have HT := Lib.hid ht
    clear hw ht
    go_wp2_with fail
    go_ret
    exact ⟨t, HT.out, rfl, HB.out⟩
  · refine (below_any _ _ _ _ _ _ (HW.out.rdr.alloc _) (by decide) (by decide)).mono ?_
    rintro e w5 ⟨⟨j, hj1, hj2, rfl⟩, hw⟩
    obtain ⟨t, ht, hct⟩ := tab_cell (m := 41) (hw.block (k := w4.heap.size) (heap_alloc_new _ _) (Nat.ne_of_gt HW.out.rdr.lt)) (by decide) j hj1 (by show j < 8; omega)
    have HB := Lib.hid (((HW.out.alloc _).trans hw).under HB.out (Nat.le_refl _) HB.out.size)
    have HT := Lib.hid ht
    clear hw ht
    go_wp2_with fail
    go_ret
    exact ⟨t, HT.out, rfl, HB.out⟩
  · go_ret
    exact ⟨s, Nat.le_trans HS.out (by decide), rfl, HW.out.under HB.out (Nat.le_refl _) HB.out.size⟩

set_option maxHeartbeats 2000000 in
theorem drawstate_any (w : World) (a : Option Addr) (len cap : Nat) (h : Src w a len) :
    Calls Tryd.prog 44 #[.slice a len cap] w (DrewSt w) := by
  have H := Lib.hid h
  clear h
  go_enter Tryd.func44, Tryd.ntmps44
  go_wp2_with fail
  refine (open_any _ _ _ _ (H.out.below ((Below.refl _ _).alloc (Nat.le_refl _) _))).mono ?_
  rintro e w1 ⟨rfl, hb, hr⟩
  have HD := Lib.hid (dc_new H.out hb hr)
  clear hb hr
  have e0 : (w.alloc (Obj.cells #[Value.int IntKind.i64 0, Value.int IntKind.i64 0, Value.int IntKind.i64 0] 45)).heap.size = w.heap.size + 1 := by simp
  rw [e0]
  go_wp2_with fail
  refine (off_any _ _ _ _ _ _ _ HD.out.rdr (by decide) (by decide) (by decide)).mono ?_
  rintro e w2 ⟨⟨x, hx, rfl⟩, hw⟩
  have HX := Lib.hid (bounds_i64 hx)
  have HD := Lib.hid (HD.out.call hw)
  clear hw hx
  go_wp2_with fail
  refine (below_any _ _ _ _ _ _ HD.out.rdr (by decide) (by decide)).mono ?_
  rintro e w3 ⟨⟨y, hy1, hy2, rfl⟩, hw⟩
  have HD := Lib.hid (HD.out.call hw)
  clear hw
  go_wp2_with fail
  refine (below_any _ _ _ _ _ _ HD.out.rdr (by decide) (by decide)).mono ?_
  rintro e w4 ⟨⟨z, hz1, hz2, rfl⟩, hw⟩
  have HD := Lib.hid (HD.out.call hw)
  clear hw
  have c0 := HD.out.cell (j := 0) (by decide)
  have c1 := HD.out.cell (j := 1) (by decide)
  have c2 := HD.out.cell (j := 2) (by decide)
  have f0 := HD.out.free (j := 0)
  have f1 := HD.out.free (j := 1)
  have f2 := HD.out.free (j := 2)
  simp only [List.getElem_toArray, List.getElem_cons_zero, List.getElem_cons_succ] at c0 c1 c2
  go_wp2_with fail
  have hd := ((HD.out.put 0 (.int .i64 x)).put 1 (.int .i64 y)).put 2 (.int .i64 z)
  have hb := hd.blk
  exact bodyPost_ret (v := .agg #[.int .i64 x, .int .i64 y, .int .i64 z]) (by simp [results, Tryd.results44, go_sem, World.cell?, hb]) rfl ⟨_, _, _, HX.out, by unfold In64; omega, by unfold In64; omega, rfl, hd.below⟩
end Go.Proofs.YtbmhabboloficaaDoor
