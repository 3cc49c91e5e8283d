
/- Numbers in decimal: what the model writes. Only new blocks are made. -/
import Derived.Test.YthndoimblfccbaaDoorDecM
import Derived.Test.YthndoimblfccbaaDoorRow
import Derived.Lib.Strings
namespace Go.Proofs.YthndoimblfccbaaDoor
open Go.ChangeShapes Go.WideShapes Go.ChangeAt Go.RowKit
set_option linter.unusedVariables false
set_option maxRecDepth 100000

/-- The end of a function that returns a text and makes at most new blocks. -/
def MadeTx (s : ByteArray) (w : World) (e : Ending) (w' : World) : Prop := e = .returned (.string s) ∧ Below w.heap.size w w'

theorem dig_cons (K : Nat) (O : ByteArray) (x : Int) (hx : x = (48 : Int) + (K : Int)) : (strOfNums [x] ++ O).data.toList = UInt8.ofNat (48 + K) :: O.data.toList := by
  subst hx
  have e : ((48 : Int) + (K : Int)).toNat = 48 + K := by omega
  simp [strOfNums, e]
theorem ba_eq {a b : ByteArray} (h : a.data.toList = b.data.toList) : a = b := by
  cases a; cases b; simp at h; congr

theorem dec_end {U M : Nat} {O : ByteArray} (h : Lib.decDigits M ++ O.data.toList = Lib.decDigits U) (hM : M < 10) (x : Int) (hx : x = (48 : Int) + (M : Int)) (n : Int) (hn : 0 ≤ n) (hU : U = n.toNat) : strOfNums [x] ++ O = decB n := by
  apply ba_eq
  rw [dig_cons M O x hx, decB_list, itoa_nat hn, ← hU, ← h, dd_one hM]
  rfl
theorem dec_end2 {U M : Nat} {O : ByteArray} (h : Lib.decDigits M ++ O.data.toList = Lib.decDigits U) (hM : M < 10) (x : Int) (hx : x = (48 : Int) + (M : Int)) (n : Int) (hn : n < 0) (hU : U = n.natAbs) : (⟨#[45]⟩ : ByteArray) ++ (strOfNums [x] ++ O) = decB n := by
  apply ba_eq
  rw [decB_list, itoa_neg hn, ← hU, ← h, dd_one hM]
  have := dig_cons M O x hx
  rw [ByteArray.data_append, Array.toList_append, this]
  rfl
theorem dec_round {U M : Nat} {O : ByteArray} (h : Lib.decDigits M ++ O.data.toList = Lib.decDigits U) (hM : 10 ≤ M) (x : Int) (hx : x = (48 : Int) + ((M % 10 : Nat) : Int)) : Lib.decDigits (M / 10) ++ (strOfNums [x] ++ O).data.toList = Lib.decDigits U := by
  rw [dig_cons (M % 10) O x hx, ← h, dd_big (by omega : ¬ M < 10), List.append_assoc]
  rfl
theorem dec_size {U M : Nat} {O : ByteArray} (h : Lib.decDigits M ++ O.data.toList = Lib.decDigits U) (hU : U ≤ 9223372036854775808) : O.size ≤ 19 := by
  have h1 := @dd_len_le U 19 (by decide) (by omega)
  have h2 := congrArg List.length h
  simp at h2
  have h3 : O.size = O.data.size := rfl
  omega

end Go.Proofs.YthndoimblfccbaaDoor
