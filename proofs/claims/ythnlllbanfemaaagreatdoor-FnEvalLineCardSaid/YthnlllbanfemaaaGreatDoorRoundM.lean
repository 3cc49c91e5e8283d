
/- A run comes back from its bytes, and what is read is these bytes again. Plain mathematics. -/
import Derived.Test.YthnlllbanfemaaaGreatDoorRunBytes
import Derived.Test.YthnlllbanfemaaaGreatDoorReadM
import Derived.Test.YthnlllbanfemaaaGreatDoorSortM
namespace Go.Proofs.YthnlllbanfemaaaGreatDoor
open Go.ChangeShapes Go.WideShapes Go.ChangeAt Go.RowKit
set_option linter.unusedVariables false
set_option maxRecDepth 100000

theorem or_u64 (a b : Nat) (ha : a < 72057594037927936) (hb : b < 256) : bits .or .u64 ((a * 256 : Nat) : Int) (b : Int) = ((a * 256 + b : Nat) : Int) := by
  have h1 : (BitVec.ofInt 64 ((a * 256 : Nat) : Int)).toNat = a * 256 := by
    rw [BitVec.ofInt_natCast, BitVec.toNat_ofNat]; exact Nat.mod_eq_of_lt (by omega)
  have h2 : (BitVec.ofInt 64 (b : Int)).toNat = b := by
    rw [BitVec.ofInt_natCast, BitVec.toNat_ofNat]; exact Nat.mod_eq_of_lt (by omega)
  have hor : a * 256 ||| b = a * 256 + b := by
    have := Nat.two_pow_add_eq_or_of_lt (i := 8) (b := b) (by omega) a
    rw [Nat.mul_comm a 256]
    exact this.symm
  show IntKind.u64.wrap ((BitVec.ofInt 64 ((a * 256 : Nat) : Int) ||| BitVec.ofInt 64 (b : Int)).toNat : Int) = _
  rw [BitVec.toNat_or, h1, h2, hor]
  simp [IntKind.wrap, IntKind.bits, IntKind.signed]
  omega
theorem wrap_u64_small (x : Nat) (h : x < 18446744073709551616) : IntKind.u64.wrap (x : Int) = (x : Int) := by
  simp [IntKind.wrap, IntKind.bits, IntKind.signed]
  omega
theorem wstep_nat (a : Nat) (y : UInt8) (ha : a < 72057594037927936) : wstep (a : Int) y = ((a * 256 + y.toNat : Nat) : Int) := by
  unfold wstep
  have hy := UInt8.toNat_lt y
  have e : (a : Int) * 256 = ((a * 256 : Nat) : Int) := by omega
  rw [e, wrap_u64_small _ (by omega), wrap_u64_small _ (by omega)]
  exact or_u64 a y.toNat ha hy
/-- The word at p as a natural number. -/
def natTo (s : ByteArray) (p : Nat) : Nat → Nat
  | 0 => 0
  | m + 1 => natTo s p m * 256 + (byteAt s (p + (7 - m))).toNat
theorem natTo_lt (s : ByteArray) (p : Nat) : ∀ m, natTo s p m < 256 ^ m
  | 0 => by simp [natTo]
  | m + 1 => by
    have := natTo_lt s p m
    have hb := UInt8.toNat_lt (byteAt s (p + (7 - m)))
    rw [natTo, Nat.pow_succ]
    omega
theorem wordTo_nat (s : ByteArray) (p : Nat) : ∀ m, m ≤ 8 → wordTo s p m = (natTo s p m : Int)
  | 0, _ => rfl
  | m + 1, h => by
    have hlt := natTo_lt s p m
    have hle : (256 : Nat) ^ m ≤ 256 ^ 7 := Nat.pow_le_pow_right (by omega) (by omega)
    have h7 : (256 : Nat) ^ 7 = 72057594037927936 := by decide
    rw [wordTo, wordTo_nat s p m (by omega), wstep_nat _ _ (by omega), natTo]
theorem natTo_8 (s : ByteArray) (p : Nat) : natTo s p 8 < 18446744073709551616 := by
  have := natTo_lt s p 8
  have h8 : (256 : Nat) ^ 8 = 18446744073709551616 := by decide
  omega
theorem wrap64_back (n : Int) (h1 : -9223372036854775808 ≤ n) (h2 : n ≤ 9223372036854775807) : wrap64 (IntKind.u64.wrap n) = n := by
  simp only [IntKind.wrap, IntKind.bits, IntKind.signed]
  unfold wrap64
  simp
  omega
theorem u64_back (x : Nat) (h : x < 18446744073709551616) : IntKind.u64.wrap (wrap64 (x : Int)) = (x : Int) := by
  simp only [IntKind.wrap, IntKind.bits, IntKind.signed]
  unfold wrap64
  simp
  omega
theorem u64_bd (n : Int) : 0 ≤ IntKind.u64.wrap n ∧ IntKind.u64.wrap n < 18446744073709551616 := by
  simp only [IntKind.wrap, IntKind.bits, IntKind.signed]
  simp
  omega
theorem wordK_nat (n : Int) (V : Nat) (h : IntKind.u64.wrap n = (V : Int)) : ∀ k, wordK n k = ((V / 256 ^ k : Nat) : Int)
  | 0 => by simp [wordK, h]
  | k + 1 => by
    rw [wordK, wordK_nat n V h k, Nat.pow_succ, ← Nat.div_div_eq_div_mul]
    omega
theorem bytesK_get (n : Int) (V : Nat) (h : IntKind.u64.wrap n = (V : Int)) : ∀ k i, (hi : i < k) → (bytesK n k)[i]? = some ((V / 256 ^ i % 256 : Nat) : Int)
  | 0, i, hi => by omega
  | k + 1, i, hi => by
    rw [bytesK]
    rcases Nat.lt_or_ge i k with hl | hl
    · rw [List.getElem?_append_left (by rw [bytesK_len]; exact hl)]
      exact bytesK_get n V h k i hl
    · obtain rfl : i = k := by omega
      rw [List.getElem?_append_right (by rw [bytesK_len]; exact Nat.le_refl _), bytesK_len, Nat.sub_self, wordK_nat n V h]
      simp
/-- The word that is read where a number's bytes lie is that number's. -/
theorem natTo_bytes (s : ByteArray) (p V : Nat) (hV : V < 18446744073709551616) (hb : ∀ i, i < 8 → (byteAt s (p + i)).toNat = V / 256 ^ i % 256) : ∀ m, m ≤ 8 → natTo s p m = V / 256 ^ (8 - m)
  | 0, _ => by
    have h8 : (256 : Nat) ^ 8 = 18446744073709551616 := by decide
    rw [natTo, Nat.sub_zero, h8]
    omega
  | m + 1, h => by
    rw [natTo, natTo_bytes s p V hV hb m (by omega), hb (7 - m) (by omega)]
    have e : 8 - m = (7 - m) + 1 := by omega
    have e2 : 8 - (m + 1) = 7 - m := by omega
    rw [e, e2, Nat.pow_succ, ← Nat.div_div_eq_div_mul]
    omega
theorem natTo_div (s : ByteArray) (p : Nat) : ∀ i m, m + i = 8 → natTo s p 8 / 256 ^ i = natTo s p m
  | 0, m, h => by obtain rfl : m = 8 := by omega
                  simp
  | i + 1, m, h => by
    have ih := natTo_div s p i (m + 1) (by omega)
    rw [Nat.pow_succ, ← Nat.div_div_eq_div_mul, ih, natTo]
    have hb := UInt8.toNat_lt (byteAt s (p + (7 - m)))
    omega
theorem natTo_byte (s : ByteArray) (p i : Nat) (hi : i < 8) : natTo s p 8 / 256 ^ i % 256 = (byteAt s (p + i)).toNat := by
  have h := natTo_div s p i (7 - i + 1) (by omega)
  rw [h, natTo]
  have hb := UInt8.toNat_lt (byteAt s (p + (7 - (7 - i))))
  rw [show 7 - (7 - i) = i by omega] at hb ⊢
  omega
end Go.Proofs.YthnlllbanfemaaaGreatDoor
