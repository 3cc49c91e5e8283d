
/- The law on hashes, walked: for every drawing code it returns true and only makes new blocks. -/
import Derived.Test.YthndoimblfccbaaDoorHash
import Derived.Test.YthndoimblfccbaaDoorDraw2
import Derived.Laws.BytesArg
import Derived.Laws.Bits64
namespace Go.Proofs.YthndoimblfccbaaDoor
open Go.ChangeShapes Go.WideShapes Go.ChangeAt Go.RowKit
set_option linter.unusedVariables false
set_option maxRecDepth 100000

theorem xor_u32 (a b : Nat) (ha : a < 4294967296) (hb : b < 4294967296) : bits .xor .u32 (a : Int) (b : Int) = ((a ^^^ b : Nat) : Int) ∧ a ^^^ b < 4294967296 := by
  have hx : a ^^^ b < 2 ^ 32 := Nat.xor_lt_two_pow (by omega) (by omega)
  have h1 : (BitVec.ofInt 32 (a : Int)).toNat = a := by
    rw [BitVec.ofInt_natCast, BitVec.toNat_ofNat]; exact Nat.mod_eq_of_lt (by omega)
  have h2 : (BitVec.ofInt 32 (b : Int)).toNat = b := by
    rw [BitVec.ofInt_natCast, BitVec.toNat_ofNat]; exact Nat.mod_eq_of_lt (by omega)
  refine ⟨?_, by omega⟩
  show IntKind.u32.wrap ((BitVec.ofInt 32 (a : Int) ^^^ BitVec.ofInt 32 (b : Int)).toNat : Int) = _
  rw [BitVec.toNat_xor, h1, h2]
  simp [IntKind.wrap, IntKind.bits, IntKind.signed]
  omega

theorem xor_i64 (a b : Nat) (ha : a < 4294967296) (hb : b < 4294967296) : bits .xor .i64 (a : Int) (b : Int) = ((a ^^^ b : Nat) : Int) := by
  have hx : a ^^^ b < 2 ^ 32 := Nat.xor_lt_two_pow (by omega) (by omega)
  have h1 : (BitVec.ofInt 64 (a : Int)).toNat = a := by
    rw [BitVec.ofInt_natCast, BitVec.toNat_ofNat]; exact Nat.mod_eq_of_lt (by omega)
  have h2 : (BitVec.ofInt 64 (b : Int)).toNat = b := by
    rw [BitVec.ofInt_natCast, BitVec.toNat_ofNat]; exact Nat.mod_eq_of_lt (by omega)
  show IntKind.i64.wrap ((BitVec.ofInt 64 (a : Int) ^^^ BitVec.ofInt 64 (b : Int)).toNat : Int) = _
  rw [BitVec.toNat_xor, h1, h2]
  simp [IntKind.wrap, IntKind.bits, IntKind.signed]
  omega

/-- One byte more: the hash in the walk's two spellings. -/
theorem hash_byte (s : ByteArray) (x : Int) (h0 : 0 ≤ x) (h1 : x ≤ 255) :
    hashL (s ++ strOfNums [x]).data.toList = bits .xor .i64 (hashL s.data.toList) x * 16777619 % 4294967296 ∧ 0 ≤ bits .xor .i64 (hashL s.data.toList) x ∧ bits .xor .i64 (hashL s.data.toList) x ≤ 4294967295 := by
  have hb := hashL_bd s.data.toList
  obtain ⟨H, hH⟩ : ∃ H : Nat, hashL s.data.toList = H := ⟨(hashL s.data.toList).toNat, by omega⟩
  obtain ⟨X, rfl⟩ : ∃ X : Nat, x = X := ⟨x.toNat, by omega⟩
  have e1 : (s ++ strOfNums [(X : Int)]).data.toList = s.data.toList ++ [UInt8.ofNat X] := by
    simp [strOfNums]
  have e2 : ((UInt8.ofNat X).toNat : Int) = X := by
    have : (UInt8.ofNat X).toNat = X := by simp; omega
    omega
  obtain ⟨x1, x2⟩ := xor_u32 H X (by omega) (by omega)
  have x3 := xor_i64 H X (by omega) (by omega)
  rw [e1, hashL_snoc, hH, x3]
  unfold hstep
  rw [e2, show ((X : Int) % 4294967296) = X by omega, x1]
  omega

end Go.Proofs.YthndoimblfccbaaDoor
