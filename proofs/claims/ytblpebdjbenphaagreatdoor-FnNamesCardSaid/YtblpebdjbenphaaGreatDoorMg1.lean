/- Texts put together, as a claim holds at most sixty files. -/
import Derived.Test.YtblpebdjbenphaaGreatDoorMg0
import Derived.Lib.Strings
import Derived.Test.YtblpebdjbenphaaGreatDoorRows
import Derived.Lib.LaidTab
import Derived.Lib.ItoaNum
import Derived.Lib.SmallJoins
import Derived.Stop.LaidErr
import Derived.KernelRfl
import Derived.Below
import Derived.WalkKit
import Derived.ProofKit
namespace Go.Proofs.YtblpebdjbenphaaGreatDoor
open Go.ChangeShapes Go.WideShapes Go.ChangeAt Go.RowKit
set_option linter.unusedVariables false
set_option maxRecDepth 100000

/-- The end of a function that returns a text and makes at most new blocks. -/
def MadeTx (s : ByteArray) (w : World) (e : Ending) (w' : World) : Prop := e = .returned (.string s) ∧ Below w.heap.size w w'

theorem dig_cons (K : Nat) (O : ByteArray) (x : Int) (hx : x = (48 : Int) + (K : Int)) : (strOfNums [x] ++ O).data.toList = UInt8.ofNat (48 + K) :: O.data.toList := by
  subst hx
  have e : ((48 : Int) + (K : Int)).toNat = 48 + K := by omega
  simp [strOfNums, e]
theorem ba_eq {a b : ByteArray} (h : a.data.toList = b.data.toList) : a = b := by
  cases a; cases b; simp at h; congr

theorem dec_end {U M : Nat} {O : ByteArray} (h : Lib.decDigits M ++ O.data.toList = Lib.decDigits U) (hM : M < 10) (x : Int) (hx : x = (48 : Int) + (M : Int)) (n : Int) (hn : 0 ≤ n) (hU : U = n.toNat) : strOfNums [x] ++ O = decB n := by
  apply ba_eq
  rw [dig_cons M O x hx, decB_list, itoa_nat hn, ← hU, ← h, dd_one hM]
  rfl
theorem dec_end2 {U M : Nat} {O : ByteArray} (h : Lib.decDigits M ++ O.data.toList = Lib.decDigits U) (hM : M < 10) (x : Int) (hx : x = (48 : Int) + (M : Int)) (n : Int) (hn : n < 0) (hU : U = n.natAbs) : (⟨#[45]⟩ : ByteArray) ++ (strOfNums [x] ++ O) = decB n := by
  apply ba_eq
  rw [decB_list, itoa_neg hn, ← hU, ← h, dd_one hM]
  have := dig_cons M O x hx
  rw [ByteArray.data_append, Array.toList_append, this]
  rfl
theorem dec_round {U M : Nat} {O : ByteArray} (h : Lib.decDigits M ++ O.data.toList = Lib.decDigits U) (hM : 10 ≤ M) (x : Int) (hx : x = (48 : Int) + ((M % 10 : Nat) : Int)) : Lib.decDigits (M / 10) ++ (strOfNums [x] ++ O).data.toList = Lib.decDigits U := by
  rw [dig_cons (M % 10) O x hx, ← h, dd_big (by omega : ¬ M < 10), List.append_assoc]
  rfl
theorem dec_size {U M : Nat} {O : ByteArray} (h : Lib.decDigits M ++ O.data.toList = Lib.decDigits U) (hU : U ≤ 9223372036854775808) : O.size ≤ 19 := by
  have h1 := @dd_len_le U 19 (by decide) (by omega)
  have h2 := congrArg List.length h
  simp at h2
  have h3 : O.size = O.data.size := rfl
  omega

set_option maxHeartbeats 2000000 in
theorem l1dec_any (n : Int) (h0 : -9223372036854775808 ≤ n) (h1 : n < 9223372036854775808) (w : World) :
    Calls Tryz.prog 33 #[.int .i64 n] w (MadeTx (decB n) w) := by
  have kc : ∀ (wx : World) (y : Int), (convert 22 9 (.slice (some ⟨wx.heap.size, 0, none⟩) 1 1)).run Tryz.prog (wx.alloc (.cells #[.int .u8 y] 5)) = .ok (.string (strOfNums [y])) (wx.alloc (.cells #[.int .u8 y] 5)) := fun wx y =>
    run_convert_bytes_arg _ _ _ Tryz.underlying22 Tryz.underlying5 wx.heap.size 0 1 1 [y] rfl (fun i hi => by
      obtain rfl : i = 0 := by omega
      exact cell_of_one (heap_alloc_new _ _)) _ Tryz.underlying9
  obtain ⟨U, hU⟩ : ∃ U : Nat, U = n.natAbs := ⟨_, rfl⟩
  have hU2 : U ≤ 9223372036854775808 := by omega
  by_cases hneg : n < 0
  · have e1 : IntKind.u64.wrap n = n + 18446744073709551616 := by simp [IntKind.wrap, IntKind.bits, IntKind.signed]; omega
    have e2 : IntKind.u64.wrap (-(n + 18446744073709551616)) = (U : Int) := by simp [IntKind.wrap, IntKind.bits, IntKind.signed]; omega
    have HU := Lib.hid hU
    have HN := Lib.hid hneg
    clear hU
    go_enter Tryz.func33, Tryz.ntmps33
    go_wp2
    go_loopw [3, 4] (fun m o wr => ∃ (M : Nat) (O : ByteArray), m = .int .u64 M ∧ o = .string O ∧ M ≤ 9223372036854775808 ∧ Hid (Below w.heap.size w wr ∧ Lib.decDigits M ++ O.data.toList = Lib.decDigits U)) (fun m _ _ => (intOf m).toNat)
    case atStart => exact ⟨U, ByteArray.empty, rfl, rfl, hU2, Below.refl _ _, by simp⟩
    case round =>
      obtain ⟨M, O, rfl, rfl, hM, HW⟩ := hrel
      clear e1 e2
      have hO := dec_size HW.out.2 hU2
      by_cases hK : 10 ≤ M
      · have hb1 : 0 ≤ (48 : Int) + (M : Int) % 10 := by omega
        have hb2 : (48 : Int) + (M : Int) % 10 ≤ 57 := by omega
        have hso : (strOfNums [(48 : Int) + (M : Int) % 10]).size ≤ 1 := Nat.le_refl 1
        have HR := Lib.hid (dec_round HW.out.2 hK ((48 : Int) + (M : Int) % 10) (by omega))
        go_wp2
        go_roundw
        case rel => exact ⟨M / 10, _, by go_num, rfl, by omega, below_alloc HW.out.1 _, HR.out⟩
        case measure => simp [intOf]; omega
      · have hb1 : 0 ≤ (48 : Int) + (M : Int) := by omega
        have hb2 : (48 : Int) + (M : Int) ≤ 57 := by omega
        have hso : (strOfNums [(48 : Int) + (M : Int)]).size ≤ 1 := Nat.le_refl 1
        have hn2 : n < 0 := HN.out
        have HE := Lib.hid (dec_end2 HW.out.2 (by omega) ((48 : Int) + (M : Int)) rfl n HN.out HU.out)
        go_wp2
        go_ret
        exact ⟨congrArg (fun s => Ending.returned (.string s)) HE.out, below_alloc HW.out.1 _⟩
  · have e1 : IntKind.u64.wrap n = (U : Int) := by simp [IntKind.wrap, IntKind.bits, IntKind.signed]; omega
    have HU := Lib.hid hU
    have HN := Lib.hid hneg
    clear hU
    go_enter Tryz.func33, Tryz.ntmps33
    go_wp2
    go_loopw [3, 4] (fun m o wr => ∃ (M : Nat) (O : ByteArray), m = .int .u64 M ∧ o = .string O ∧ M ≤ 9223372036854775808 ∧ Hid (Below w.heap.size w wr ∧ Lib.decDigits M ++ O.data.toList = Lib.decDigits U)) (fun m _ _ => (intOf m).toNat)
    case atStart => exact ⟨U, ByteArray.empty, rfl, rfl, hU2, Below.refl _ _, by simp⟩
    case round =>
      obtain ⟨M, O, rfl, rfl, hM, HW⟩ := hrel
      clear e1
      have hO := dec_size HW.out.2 hU2
      by_cases hK : 10 ≤ M
      · have hb1 : 0 ≤ (48 : Int) + (M : Int) % 10 := by omega
        have hb2 : (48 : Int) + (M : Int) % 10 ≤ 57 := by omega
        have hso : (strOfNums [(48 : Int) + (M : Int) % 10]).size ≤ 1 := Nat.le_refl 1
        have HR := Lib.hid (dec_round HW.out.2 hK ((48 : Int) + (M : Int) % 10) (by omega))
        go_wp2
        go_roundw
        case rel => exact ⟨M / 10, _, by go_num, rfl, by omega, below_alloc HW.out.1 _, HR.out⟩
        case measure => simp [intOf]; omega
      · have hb1 : 0 ≤ (48 : Int) + (M : Int) := by omega
        have hb2 : (48 : Int) + (M : Int) ≤ 57 := by omega
        have hso : (strOfNums [(48 : Int) + (M : Int)]).size ≤ 1 := Nat.le_refl 1
        have hn0 : 0 ≤ n := by omega
        have HE := Lib.hid (dec_end HW.out.2 (by omega) ((48 : Int) + (M : Int)) rfl n hn0 (by rw [HU.out]; omega))
        go_wp2
        go_ret
        exact ⟨congrArg (fun s => Ending.returned (.string s)) HE.out, below_alloc HW.out.1 _⟩
end Go.Proofs.YtblpebdjbenphaaGreatDoor
namespace Go.Proofs.YtblpebdjbenphaaGreatDoor
open Go.ChangeShapes Go.WideShapes Go.ChangeAt Go.RowKit Go.Joins

def Tabs (w : World) : Prop := Lib.TabIs Tryz.prog w "internal/strconv.uint64pow10" .u64 Lib.pow10Tab
theorem gPow : Tryz.prog.globalNamed "internal/strconv.uint64pow10" = some 5 := by kernel_rfl
theorem gPowType : (Tryz.prog.globals[5]?).map (·.type) = some 162 := by kernel_rfl
theorem gPowCells : Tryz.prog.cellsOf 162 = 20 := by kernel_rfl
theorem gU64Cells : Tryz.prog.cellsOf 86 = 1 := by kernel_rfl
theorem tabs_of {W : World} (h : laidMet Tryz.prog [("math/bits.deBruijn32tab", Rows.laid_math_bits_deBruijn32tab), ("math/bits.deBruijn64tab", Rows.laid_math_bits_deBruijn64tab), ("internal/strconv.uint64pow10", Rows.laid_internal_strconv_uint64pow10)] W) : Tabs W :=
  Lib.tabIs_of_head (k := .u64) (zs := Lib.pow10Tab) (rest := []) gPow gPowType Tryz.underlying162 Tryz.underlying86 gU64Cells gPowCells h.tail.tail
theorem Tabs.keep {w w' : World} (h : Tabs w) (hB : Below w.heap.size w w') : Tabs w' := tab_stays gPow h hB (Nat.le_refl _)
end Go.Proofs.YtblpebdjbenphaaGreatDoor
namespace Go.Proofs.YtblpebdjbenphaaGreatDoor
open Go.ChangeShapes Go.WideShapes Go.ChangeAt Go.RowKit
set_option linter.unusedVariables false
set_option maxRecDepth 100000

theorem infoStr : (Tryz.prog.info? 9).map (fun i => (i.zero, i.size, i.bytes)) = some (some (.string ByteArray.empty), 1, 16) := by kernel_rfl

theorem one_new (w : World) (x : Value) (t : TypeId) : ∀ j u, [x][j]? = some u → (w.alloc (.cells #[x] t)).cell? ((⟨w.heap.size, 0, none⟩ : Addr).add j) = some u := by
  intro j u hj
  match j, hj with
  | 0, hj => simp at hj; subst hj; simp [Addr.add]
theorem own_form {w : World} {base : Nat} {e : TypeId} {size : Nat} {v : Value} {n : Nat} {xs : List Value} (h : w.ownsRow base e size v n xs) : ∃ q cp, v = .slice q n cp := by
  rcases h.2 with ⟨rfl, rfl⟩ | ⟨g, cap, cur, rfl, _⟩
  · exact ⟨_, _, rfl⟩
  · exact ⟨_, _, rfl⟩
theorem own_below {w w1 : World} {base : Nat} {e : TypeId} {size : Nat} {v : Value} {n : Nat} {xs : List Value} (h : w.ownsRow base e size v n xs) (hB : Below w.heap.size w w1) : w1.ownsRow base e size v n xs :=
  h.kept (row := none) ⟨hB.os, hB.tape, hB.output, hB.size, fun k hk _ => hB.block k hk⟩ (by by_cases hv : v.ownBlock = none; exact .inl hv; exact .inr hv)
theorem growT {a b c : World} {row : Option Nat} (h : a.grownBy b row) (k : b.grownBy c row) : a.grownBy c row :=
  ⟨k.os.trans h.os, k.tape.trans h.tape, k.output.trans h.output, Nat.le_trans h.size k.size, fun i hi hn => (k.block i (Nat.lt_of_lt_of_le hi h.size) hn).trans (h.block i hi hn)⟩
theorem growB {a b c : World} {row : Option Nat} (h : a.grownBy b row) (k : Below b.heap.size b c) : a.grownBy c row :=
  ⟨k.os.trans h.os, k.tape.trans h.tape, k.output.trans h.output, Nat.le_trans h.size k.size, fun i hi hn => (k.block i (Nat.lt_of_lt_of_le hi h.size)).trans (h.block i hi hn)⟩
theorem growA {a b : World} {row : Option Nat} (h : a.grownBy b row) (o : Obj) : a.grownBy (b.alloc o) row := growT h (World.grownBy_alloc _ _ _)
theorem growD {a b : World} {row : Option Nat} (h : a.grownBy b row) (n : Nat) : a.grownBy (b.drewN n) row := growT h ⟨rfl, rfl, rfl, Nat.le_refl _, fun _ _ _ => rfl⟩
theorem growS {a b : World} {r : Nat} (h : a.grownBy b (some r)) (j : Nat) (v : Value) : a.grownBy (b.setCell ⟨r, j, none⟩ v) (some r) :=
  growT h ⟨rfl, rfl, rfl, by simp [World.setCell], fun k hk hn => Below.heap_setCell _ _ _ _ (fun e => hn (by rw [e]))⟩
theorem growP {a b : World} {row : Option Nat} (h : a.grownBy b row) {B : Nat} (hB : a.heap.size ≤ B) (j : Nat) (v : Value) : a.grownBy (b.setCell ⟨B, j, none⟩ v) row :=
  ⟨h.os, h.tape, h.output, by have := h.size; simpa [World.setCell] using this, fun k hk hn => (Below.heap_setCell _ _ _ _ (show k ≠ B by omega)).trans (h.block k hk hn)⟩
/-- A row of the call's own grows: nothing that was there before the call has changed. -/
theorem growO {a b c : World} {row row' : Option Nat} (h : a.grownBy b row) (k : b.grownBy c row') (hr : ∀ i, row' = some i → a.heap.size ≤ i) : a.grownBy c row :=
  ⟨k.os.trans h.os, k.tape.trans h.tape, k.output.trans h.output, Nat.le_trans h.size k.size, fun i hi hn => (k.block i (Nat.lt_of_lt_of_le hi h.size) (fun e => by have := hr i e.symm; omega)).trans (h.block i hi hn)⟩
theorem growBelow {a b : World} {row : Option Nat} (h : a.grownBy b row) (hr : ∀ i, row = some i → a.heap.size ≤ i) : Below a.heap.size a b :=
  ⟨h.os, h.tape, h.output, h.size, fun i hi => h.block i hi (fun e => by have := hr i e.symm; omega)⟩
theorem belowGrow {a b : World} (h : Below a.heap.size a b) (row : Option Nat) : a.grownBy b row := ⟨h.os, h.tape, h.output, h.size, fun i hi _ => h.block i hi⟩
theorem Row.other {w : World} {B r : Nat} {E : TypeId} {cur : Array Value} (h : Row w B E cur) (hne : B ≠ r) (j : Nat) (x : Value) : Row (w.setCell ⟨r, j, none⟩ x) B E cur := (Below.heap_setCell _ _ _ _ hne).trans h
theorem Row.grown {w w1 : World} {B : Nat} {row : Option Nat} {E : TypeId} {cur : Array Value} (h : Row w B E cur) (hg : w.grownBy w1 row) (hne : row ≠ some B) : Row w1 B E cur := (hg.block B h.lt (Ne.symm hne)).trans h
theorem Row.drewN {w : World} {B : Nat} {E : TypeId} {cur : Array Value} (h : Row w B E cur) (n : Nat) : Row (w.drewN n) B E cur := h.keep (below_drewN (Below.refl _ _) _)
theorem Row.alloc {w : World} {B : Nat} {E : TypeId} {cur : Array Value} (h : Row w B E cur) (o : Obj) : Row (w.alloc o) B E cur := h.keep (below_alloc (Below.refl _ _) o)
theorem Row.new (w : World) (E : TypeId) (cur : Array Value) : Row (w.alloc (.cells cur E (0, 0))) w.heap.size E cur := heap_alloc_new _ _
end Go.Proofs.YtblpebdjbenphaaGreatDoor
