/- Texts put together, as a claim holds at most sixty files. -/
import Derived.Test.YtblpebdjbenphaaMg0
import Derived.Laws.BytesArg
import Derived.OwnWalk
import Derived.Test.YtblpebdjbenphaaRows
import Derived.WalkKit
import Derived.ProofKit
import Derived.OpenShut
import Derived.WalkLawsBesides
import Derived.Deep.QuietTactic
import Derived.BigQuiet
import Derived.Deep.RegionHeld3
import Derived.Lib.Hide
import Derived.Outline
namespace Go.Proofs.Ytblpebdjbenphaa
open Go.ChangeShapes Go.WideShapes Go.ChangeAt Go.RowKit
set_option linter.unusedVariables false
set_option maxRecDepth 100000

theorem infoByte : (Try.prog.info? 5).map (fun i => (i.zero, i.size, i.bytes)) = some (some (.int .u8 0), 1, 1) := by kernel_rfl

theorem zeros_text {w : World} {base g n : Nat} (hown : w.ownsRow base 5 1 (.slice (some ⟨g, 0, none⟩) n n) n (madeCells (Value.int .u8 0).cells (n * 1)).toList) :
    (convert 22 9 (.slice (some ⟨g, 0, none⟩) n n)).run Try.prog w = .ok (.string (strOfNums (List.replicate n 0))) w :=
  run_convert_bytes_arg _ _ _ Try.underlying22 Try.underlying5 g 0 n n (List.replicate n 0) (by simp) (fun i hi => by
    have := hown.cellAt i (by omega)
    rw [Nat.zero_add, this]
    simp [madeCells, Value.cells, hi, Nat.mod_one]
    ) _ Try.underlying9

/-- What is drawn: a text of at most m bytes. -/
def DrewText (m : Nat) (w : World) (e : Ending) (w' : World) : Prop := ∃ s : ByteArray, s.size ≤ m ∧ e = .returned (.string s) ∧ Below w.heap.size w w'

end Go.Proofs.Ytblpebdjbenphaa
namespace Go.Proofs.Ytblpebdjbenphaa
open Go.ChangeShapes Go.WideShapes Go.ChangeAt Go.RowKit
set_option linter.unusedVariables false
set_option maxRecDepth 100000

theorem infoByteC : ∃ i0, Try.prog.info? 5 = some i0 ∧ i0.zero = some (.int .u8 0) ∧ i0.size = 1 ∧ i0.bytes = 1 := by
  have h : (Try.prog.info? 5).map (fun i => (i.zero, i.size, i.bytes)) = some (some (.int .u8 0), 1, 1) := by kernel_rfl
  obtain ⟨i, hi, he⟩ := Option.map_eq_some_iff.1 h
  simp only [Prod.mk.injEq] at he
  exact ⟨i, hi, he.1, he.2.1, he.2.2⟩

set_option maxHeartbeats 1000000 in
theorem name_any (w : World) (r : Nat) (a : Option Addr) (len cap : Nat) (h : Rdr w r a len cap) :
    Calls Try.prog 34 #[.pointer (some ⟨r, 0, none⟩)] w (RdStr 3 w r a len cap) := by
  have H := Lib.hid h
  clear h
  go_enter Try.func34, Try.ntmps34
  go_wp2_with fail
  refine (below_any _ _ _ _ _ _ (H.out.alloc _) (by decide) (by decide)).mono ?_
  rintro e w1 ⟨⟨y, hy1, hy2, rfl⟩, hw⟩
  obtain ⟨t, ht, hct⟩ := tab_cell (m := 3) (hw.block (k := w.heap.size) (heap_alloc_new _ _) (Nat.ne_of_gt H.out.lt)) (by decide) y hy1 (by show y < 6; omega)
  have HW := Lib.hid (((Went.refl H.out).alloc _).trans hw)
  have HT := Lib.hid ht
  clear hw ht
  go_wp2_with fail
  go_ret
  exact ⟨⟨t, HT.out, rfl⟩, HW.out⟩

set_option maxHeartbeats 2000000 in
theorem data_any (w : World) (r : Nat) (a : Option Addr) (len cap : Nat) (h : Rdr w r a len cap) :
    Calls Try.prog 39 #[.pointer (some ⟨r, 0, none⟩)] w (RdStr 30001 w r a len cap) := by
  have H := Lib.hid h
  clear h
  obtain ⟨i0, hi, hz0, hz1, hz2⟩ := infoByteC
  go_enter Try.func39, Try.ntmps39
  go_wp2_with fail
  refine (once_any _ _ _ _ _ _ H.out (by decide) (by decide)).mono ?_
  rintro e w1 ⟨⟨b, rfl⟩, hw⟩
  have HW := Lib.hid hw
  clear hw
  cases b with
  | true =>
    go_wp2_with fail
    refine (below_any _ _ _ _ _ _ HW.out.rdr (by decide) (by decide)).mono ?_
    rintro e w2 ⟨⟨x, hx1, hx2, rfl⟩, hw⟩
    have HW := Lib.hid (HW.out.trans hw)
    clear hw
    go_wp2_with fail
    refine (below_any _ _ _ _ _ _ HW.out.rdr (by decide) (by decide)).mono ?_
    rintro e w3 ⟨⟨y, hy1, hy2, rfl⟩, hw⟩
    have HW := Lib.hid (HW.out.trans hw)
    clear hw
    obtain ⟨N, hN⟩ : ∃ N : Nat, 30000 - x + y = (N : Int) := ⟨(30000 - x + y).toNat, by omega⟩
    have hNs : N ≤ 30001 := by omega
    go_wp2_with (at_make; go_loud (refine wpList_make_full _ rfl _ _ 22 rfl w3.heap.size 5 i0 _ 1 Try.underlying22 hi hz0 hz1 .i64 .i64 _ _ N rfl rfl rfl rfl (by rw [hz2]; omega) (by unfold maxLen; omega) (Nat.le_refl _) ?_); intro w4 hown hgrow; have hzt := zeros_text hown; have hzs : (strOfNums (List.replicate N 0)).size ≤ 30001 := (by simp [strOfNums, ByteArray.size]; omega); have HW4 := Lib.hid (Went.mk (grown_trans HW.out.grown ⟨hgrow.os, hgrow.tape, hgrow.output, hgrow.size, fun k hk _ => hgrow.block k hk (by simp)⟩) (HW.out.rdr.below ⟨hgrow.os, hgrow.tape, hgrow.output, hgrow.size, fun k hk => hgrow.block k (by have := HW.out.rdr.lt; omega) (by simp)⟩) : Went w r a len cap w4); clear hown hgrow)
    go_ret
    exact ⟨⟨_, hzs, rfl⟩, HW4.out⟩
  | false =>
    go_wp2_with fail
    refine (below_any _ _ _ _ _ _ (HW.out.rdr.alloc _) (by decide) (by decide)).mono ?_
    rintro e w2 ⟨⟨y, hy1, hy2, rfl⟩, hw⟩
    obtain ⟨t, ht, hct⟩ := tab_cell (m := 6) (hw.block (k := w1.heap.size) (heap_alloc_new _ _) (Nat.ne_of_gt HW.out.rdr.lt)) (by decide) y hy1 (by show y < 5; omega)
    have HW := Lib.hid ((HW.out.alloc _).trans hw)
    have HT := Lib.hid ht
    clear hw ht
    go_wp2_with fail
    go_ret
    exact ⟨⟨t, Nat.le_trans HT.out (by decide), rfl⟩, HW.out⟩
end Go.Proofs.Ytblpebdjbenphaa
namespace Go.Proofs.Ytblpebdjbenphaa
open Go.ChangeShapes Go.WideShapes Go.ChangeAt Go.RowKit
set_option linter.unusedVariables false
set_option maxRecDepth 100000

/-- The end of a function that returns a bool and makes at most new blocks. -/
def MadeBool (b : Bool) (w : World) (e : Ending) (w' : World) : Prop := e = .returned (.bool b) ∧ Below w.heap.size w w'

theorem ret_bool {a b : Bool} (h : a = b) : Ending.returned (.bool a) = .returned (.bool b) := by rw [h]
theorem below_alloc {w x : World} (h : Below w.heap.size w x) (o : Obj) : Below w.heap.size w (x.alloc o) := h.alloc h.size o
theorem below_via {w x y : World} (h : Below w.heap.size w x) (k : Below x.heap.size x y) : Below w.heap.size w y := h.trans (k.mono h.size)
theorem bcell {W w1 : World} (hb : Below W.heap.size W w1) : ∀ b o, b < W.heap.size → w1.cell? ⟨b, o, none⟩ = W.cell? ⟨b, o, none⟩ := fun b o h => hb.cell (p := ⟨b, o, none⟩) h

/-- Block B is a row of cells that may be written. -/
def Row (w : World) (B : Nat) (E : TypeId) (cur : Array Value) : Prop := w.heap[B]? = some (.cells cur E (0, 0))
theorem Row.lt {w : World} {B : Nat} {E : TypeId} {cur : Array Value} (h : Row w B E cur) : B < w.heap.size := lt_of_block h
theorem Row.keep {w w1 : World} {B : Nat} {E : TypeId} {cur : Array Value} (h : Row w B E cur) (hB : Below w.heap.size w w1) : Row w1 B E cur := (hB.block B h.lt).trans h
theorem Row.cell {w : World} {B : Nat} {E : TypeId} {cur : Array Value} (h : Row w B E cur) {j : Nat} (hj : j < cur.size) : w.cell? ⟨B, j, none⟩ = some cur[j] := by
  unfold Row at h; simp [World.cell?, h, hj]
theorem Row.free {w : World} {B : Nat} {E : TypeId} {cur : Array Value} (h : Row w B E cur) (j : Nat) : w.frozen? ⟨B, j, none⟩ = false := by
  unfold Row at h; simp [World.frozen?, h]
theorem Row.set {w : World} {B : Nat} {E : TypeId} {cur : Array Value} (h : Row w B E cur) (j : Nat) (x : Value) : Row (w.setCell ⟨B, j, none⟩ x) B E (cur.setIfInBounds j x) := by
  have hlt := h.lt
  unfold Row at h ⊢
  have h' : w.heap[B] = .cells cur E (0, 0) := by simpa [Array.getElem?_eq_getElem hlt] using h
  show (w.heap.modify B _)[B]? = _
  rw [Array.getElem?_eq_getElem (by simpa using hlt), Array.getElem_modify_self, h']
  rfl

end Go.Proofs.Ytblpebdjbenphaa
