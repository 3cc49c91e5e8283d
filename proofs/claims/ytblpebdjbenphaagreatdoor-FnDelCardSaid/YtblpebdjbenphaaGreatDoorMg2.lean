/- Texts put together, as a claim holds at most sixty files. -/
import Derived.Test.YtblpebdjbenphaaGreatDoorMg1
import Derived.Laws.BytesArg
import Derived.OwnWalk
import Derived.Test.YtblpebdjbenphaaGreatDoorMg0
import Derived.Lib.Strings
namespace Go.Proofs.YtblpebdjbenphaaGreatDoor
open Go.ChangeShapes Go.WideShapes Go.ChangeAt Go.RowKit
set_option linter.unusedVariables false
set_option maxRecDepth 100000

theorem infoByte : (Tryz.prog.info? 5).map (fun i => (i.zero, i.size, i.bytes)) = some (some (.int .u8 0), 1, 1) := by kernel_rfl

theorem zeros_text {w : World} {base g n : Nat} (hown : w.ownsRow base 5 1 (.slice (some ⟨g, 0, none⟩) n n) n (madeCells (Value.int .u8 0).cells (n * 1)).toList) :
    (convert 22 9 (.slice (some ⟨g, 0, none⟩) n n)).run Tryz.prog w = .ok (.string (strOfNums (List.replicate n 0))) w :=
  run_convert_bytes_arg _ _ _ Tryz.underlying22 Tryz.underlying5 g 0 n n (List.replicate n 0) (by simp) (fun i hi => by
    have := hown.cellAt i (by omega)
    rw [Nat.zero_add, this]
    simp [madeCells, Value.cells, hi, Nat.mod_one]
    ) _ Tryz.underlying9

/-- What is drawn: a text of at most m bytes. -/
def DrewText (m : Nat) (w : World) (e : Ending) (w' : World) : Prop := ∃ s : ByteArray, s.size ≤ m ∧ e = .returned (.string s) ∧ Below w.heap.size w w'

end Go.Proofs.YtblpebdjbenphaaGreatDoor
namespace Go.Proofs.YtblpebdjbenphaaGreatDoor
open Go.ChangeShapes Go.WideShapes Go.ChangeAt Go.RowKit
set_option linter.unusedVariables false
set_option maxRecDepth 100000

theorem infoByteC : ∃ i0, Tryz.prog.info? 5 = some i0 ∧ i0.zero = some (.int .u8 0) ∧ i0.size = 1 ∧ i0.bytes = 1 := by
  have h : (Tryz.prog.info? 5).map (fun i => (i.zero, i.size, i.bytes)) = some (some (.int .u8 0), 1, 1) := by kernel_rfl
  obtain ⟨i, hi, he⟩ := Option.map_eq_some_iff.1 h
  simp only [Prod.mk.injEq] at he
  exact ⟨i, hi, he.1, he.2.1, he.2.2⟩

set_option maxHeartbeats 1000000 in
theorem name_any (w : World) (r : Nat) (a : Option Addr) (len cap : Nat) (h : Rdr w r a len cap) :
    Calls Tryz.prog 54 #[.pointer (some ⟨r, 0, none⟩)] w (RdStr 3 w r a len cap) := by
  have H := Lib.hid h
  clear h
  go_enter Tryz.func54, Tryz.ntmps54
  go_wp2_with fail
  refine (below_any _ _ _ _ _ _ (H.out.alloc _) (by decide) (by decide)).mono ?_
  rintro e w1 ⟨⟨y, hy1, hy2, rfl⟩, hw⟩
  obtain ⟨t, ht, hct⟩ := tab_cell (m := 3) (hw.block (k := w.heap.size) (heap_alloc_new _ _) (Nat.ne_of_gt H.out.lt)) (by decide) y hy1 (by show y < 6; omega)
  have HW := Lib.hid (((Went.refl H.out).alloc _).trans hw)
  have HT := Lib.hid ht
  clear hw ht
  go_wp2_with fail
  go_ret
  exact ⟨⟨t, HT.out, rfl⟩, HW.out⟩

set_option maxHeartbeats 2000000 in
theorem data_any (w : World) (r : Nat) (a : Option Addr) (len cap : Nat) (h : Rdr w r a len cap) :
    Calls Tryz.prog 55 #[.pointer (some ⟨r, 0, none⟩)] w (RdStr 30001 w r a len cap) := by
  have H := Lib.hid h
  clear h
  obtain ⟨i0, hi, hz0, hz1, hz2⟩ := infoByteC
  go_enter Tryz.func55, Tryz.ntmps55
  go_wp2_with fail
  refine (once_any _ _ _ _ _ _ H.out (by decide) (by decide)).mono ?_
  rintro e w1 ⟨⟨b, rfl⟩, hw⟩
  have HW := Lib.hid hw
  clear hw
  cases b with
  | true =>
    go_wp2_with fail
    refine (below_any _ _ _ _ _ _ HW.out.rdr (by decide) (by decide)).mono ?_
    rintro e w2 ⟨⟨x, hx1, hx2, rfl⟩, hw⟩
    have HW := Lib.hid (HW.out.trans hw)
    clear hw
    go_wp2_with fail
    refine (below_any _ _ _ _ _ _ HW.out.rdr (by decide) (by decide)).mono ?_
    rintro e w3 ⟨⟨y, hy1, hy2, rfl⟩, hw⟩
    have HW := Lib.hid (HW.out.trans hw)
    clear hw
    obtain ⟨N, hN⟩ : ∃ N : Nat, 30000 - x + y = (N : Int) := ⟨(30000 - x + y).toNat, by omega⟩
    have hNs : N ≤ 30001 := by omega
    go_wp2_with (at_make; go_loud (refine wpList_make_full _ rfl _ _ 22 rfl w3.heap.size 5 i0 _ 1 Tryz.underlying22 hi hz0 hz1 .i64 .i64 _ _ N rfl rfl rfl rfl (by rw [hz2]; omega) (by unfold maxLen; omega) (Nat.le_refl _) ?_); intro w4 hown hgrow; have hzt := zeros_text hown; have hzs : (strOfNums (List.replicate N 0)).size ≤ 30001 := (by simp [strOfNums, ByteArray.size]; omega); have HW4 := Lib.hid (Went.mk (grown_trans HW.out.grown ⟨hgrow.os, hgrow.tape, hgrow.output, hgrow.size, fun k hk _ => hgrow.block k hk (by simp)⟩) (HW.out.rdr.below ⟨hgrow.os, hgrow.tape, hgrow.output, hgrow.size, fun k hk => hgrow.block k (by have := HW.out.rdr.lt; omega) (by simp)⟩) : Went w r a len cap w4); clear hown hgrow)
    go_ret
    exact ⟨⟨_, hzs, rfl⟩, HW4.out⟩
  | false =>
    go_wp2_with fail
    refine (below_any _ _ _ _ _ _ (HW.out.rdr.alloc _) (by decide) (by decide)).mono ?_
    rintro e w2 ⟨⟨y, hy1, hy2, rfl⟩, hw⟩
    obtain ⟨t, ht, hct⟩ := tab_cell (m := 6) (hw.block (k := w1.heap.size) (heap_alloc_new _ _) (Nat.ne_of_gt HW.out.rdr.lt)) (by decide) y hy1 (by show y < 5; omega)
    have HW := Lib.hid ((HW.out.alloc _).trans hw)
    have HT := Lib.hid ht
    clear hw ht
    go_wp2_with fail
    go_ret
    exact ⟨⟨t, Nat.le_trans HT.out (by decide), rfl⟩, HW.out⟩
end Go.Proofs.YtblpebdjbenphaaGreatDoor
namespace Go.Proofs.YtblpebdjbenphaaGreatDoor
open Go.ChangeShapes Go.WideShapes Go.ChangeAt Go.RowKit
set_option linter.unusedVariables false
set_option maxRecDepth 100000

theorem infoStr : (Tryz.prog.info? 9).map (fun i => (i.zero, i.size, i.bytes)) = some (some (.string ByteArray.empty), 1, 16) := by kernel_rfl

theorem one_new (w : World) (x : Value) (t : TypeId) : ∀ j u, [x][j]? = some u → (w.alloc (.cells #[x] t)).cell? ((⟨w.heap.size, 0, none⟩ : Addr).add j) = some u := by
  intro j u hj
  match j, hj with
  | 0, hj => simp at hj; subst hj; simp [Addr.add]
theorem own_form {w : World} {base : Nat} {e : TypeId} {size : Nat} {v : Value} {n : Nat} {xs : List Value} (h : w.ownsRow base e size v n xs) : ∃ q cp, v = .slice q n cp := by
  rcases h.2 with ⟨rfl, rfl⟩ | ⟨g, cap, cur, rfl, _⟩
  · exact ⟨_, _, rfl⟩
  · exact ⟨_, _, rfl⟩
theorem own_below {w w1 : World} {base : Nat} {e : TypeId} {size : Nat} {v : Value} {n : Nat} {xs : List Value} (h : w.ownsRow base e size v n xs) (hB : Below w.heap.size w w1) : w1.ownsRow base e size v n xs :=
  h.kept (row := none) ⟨hB.os, hB.tape, hB.output, hB.size, fun k hk _ => hB.block k hk⟩ (by by_cases hv : v.ownBlock = none; exact .inl hv; exact .inr hv)
theorem growT {a b c : World} {row : Option Nat} (h : a.grownBy b row) (k : b.grownBy c row) : a.grownBy c row :=
  ⟨k.os.trans h.os, k.tape.trans h.tape, k.output.trans h.output, Nat.le_trans h.size k.size, fun i hi hn => (k.block i (Nat.lt_of_lt_of_le hi h.size) hn).trans (h.block i hi hn)⟩
theorem growB {a b c : World} {row : Option Nat} (h : a.grownBy b row) (k : Below b.heap.size b c) : a.grownBy c row :=
  ⟨k.os.trans h.os, k.tape.trans h.tape, k.output.trans h.output, Nat.le_trans h.size k.size, fun i hi hn => (k.block i (Nat.lt_of_lt_of_le hi h.size)).trans (h.block i hi hn)⟩
theorem growA {a b : World} {row : Option Nat} (h : a.grownBy b row) (o : Obj) : a.grownBy (b.alloc o) row := growT h (World.grownBy_alloc _ _ _)
theorem growD {a b : World} {row : Option Nat} (h : a.grownBy b row) (n : Nat) : a.grownBy (b.drewN n) row := growT h ⟨rfl, rfl, rfl, Nat.le_refl _, fun _ _ _ => rfl⟩
theorem growS {a b : World} {r : Nat} (h : a.grownBy b (some r)) (j : Nat) (v : Value) : a.grownBy (b.setCell ⟨r, j, none⟩ v) (some r) :=
  growT h ⟨rfl, rfl, rfl, by simp [World.setCell], fun k hk hn => Below.heap_setCell _ _ _ _ (fun e => hn (by rw [e]))⟩
theorem growP {a b : World} {row : Option Nat} (h : a.grownBy b row) {B : Nat} (hB : a.heap.size ≤ B) (j : Nat) (v : Value) : a.grownBy (b.setCell ⟨B, j, none⟩ v) row :=
  ⟨h.os, h.tape, h.output, by have := h.size; simpa [World.setCell] using this, fun k hk hn => (Below.heap_setCell _ _ _ _ (show k ≠ B by omega)).trans (h.block k hk hn)⟩
/-- A row of the call's own grows: nothing that was there before the call has changed. -/
theorem growO {a b c : World} {row row' : Option Nat} (h : a.grownBy b row) (k : b.grownBy c row') (hr : ∀ i, row' = some i → a.heap.size ≤ i) : a.grownBy c row :=
  ⟨k.os.trans h.os, k.tape.trans h.tape, k.output.trans h.output, Nat.le_trans h.size k.size, fun i hi hn => (k.block i (Nat.lt_of_lt_of_le hi h.size) (fun e => by have := hr i e.symm; omega)).trans (h.block i hi hn)⟩
theorem growBelow {a b : World} {row : Option Nat} (h : a.grownBy b row) (hr : ∀ i, row = some i → a.heap.size ≤ i) : Below a.heap.size a b :=
  ⟨h.os, h.tape, h.output, h.size, fun i hi => h.block i hi (fun e => by have := hr i e.symm; omega)⟩
theorem belowGrow {a b : World} (h : Below a.heap.size a b) (row : Option Nat) : a.grownBy b row := ⟨h.os, h.tape, h.output, h.size, fun i hi _ => h.block i hi⟩
theorem Row.other {w : World} {B r : Nat} {E : TypeId} {cur : Array Value} (h : Row w B E cur) (hne : B ≠ r) (j : Nat) (x : Value) : Row (w.setCell ⟨r, j, none⟩ x) B E cur := (Below.heap_setCell _ _ _ _ hne).trans h
theorem Row.grown {w w1 : World} {B : Nat} {row : Option Nat} {E : TypeId} {cur : Array Value} (h : Row w B E cur) (hg : w.grownBy w1 row) (hne : row ≠ some B) : Row w1 B E cur := (hg.block B h.lt (Ne.symm hne)).trans h
theorem Row.drewN {w : World} {B : Nat} {E : TypeId} {cur : Array Value} (h : Row w B E cur) (n : Nat) : Row (w.drewN n) B E cur := h.keep (below_drewN (Below.refl _ _) _)
theorem Row.alloc {w : World} {B : Nat} {E : TypeId} {cur : Array Value} (h : Row w B E cur) (o : Obj) : Row (w.alloc o) B E cur := h.keep (below_alloc (Below.refl _ _) o)
theorem Row.new (w : World) (E : TypeId) (cur : Array Value) : Row (w.alloc (.cells cur E (0, 0))) w.heap.size E cur := heap_alloc_new _ _
end Go.Proofs.YtblpebdjbenphaaGreatDoor
