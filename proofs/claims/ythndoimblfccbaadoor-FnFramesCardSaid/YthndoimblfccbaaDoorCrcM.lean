
/- The CRC of a text: eight steps of one bit are two steps of four bits. No model in this text. -/
import Derived.Test.YthndoimblfccbaaDoorOwn
import Derived.Test.YthndoimblfccbaaDoorWordsM
import Derived.Lib.Strings
namespace Go.Proofs.YthndoimblfccbaaDoor
set_option linter.unusedVariables false
set_option maxRecDepth 100000

def bstep (c : Nat) : Nat := if c % 2 = 1 then c / 2 ^^^ 3988292384 else c / 2
def bIter : Nat → Nat → Nat
  | 0, c => c
  | k + 1, c => bstep (bIter k c)
def crcT : List Int := [0x00000000, 0x1db71064, 0x3b6e20c8, 0x26d930ac, 0x76dc4190, 0x6b6b51f4, 0x4db26158, 0x5005713c, 0xedb88320, 0xf00f9344, 0xd6d6a3e8, 0xcb61b38c, 0x9b64c2b0, 0x86d3d2d4, 0xa00ae278, 0xbdbdf21c]
def crcN (r : Nat) : Nat := (crcT.getD r 0).toNat
def nstep (c : Nat) : Nat := c / 16 ^^^ crcN (c % 16)
theorem xor_half (a b : Nat) : (a ^^^ b) / 2 = a / 2 ^^^ b / 2 := by
  have h := Nat.shiftRight_xor_distrib (a := a) (b := b) (i := 1)
  simpa [Nat.shiftRight_eq_div_pow] using h
theorem xor_odd (a b : Nat) : ((a ^^^ b) % 2 = 1) ↔ ((a % 2 = 1) ↔ ¬ (b % 2 = 1)) := by
  have h := Nat.testBit_xor a b 0
  simp only [Nat.testBit_zero] at h
  rcases Nat.mod_two_eq_zero_or_one a with ha | ha <;> rcases Nat.mod_two_eq_zero_or_one b with hb | hb <;> simp [ha, hb] at h ⊢ <;> omega
theorem bstep_xor (a b : Nat) : bstep (a ^^^ b) = bstep a ^^^ bstep b := by
  unfold bstep
  rw [xor_half]
  have h := xor_odd a b
  by_cases ha : a % 2 = 1 <;> by_cases hb : b % 2 = 1
  · rw [if_neg (by rw [h]; simp [ha, hb]), if_pos ha, if_pos hb]
    rw [Nat.xor_assoc, Nat.xor_comm (b / 2) 3988292384, ← Nat.xor_assoc 3988292384, Nat.xor_self, Nat.zero_xor]
  · rw [if_pos (by rw [h]; simp [ha, hb]), if_pos ha, if_neg hb]
    rw [Nat.xor_assoc, Nat.xor_assoc, Nat.xor_comm (b / 2) 3988292384]
  · rw [if_pos (by rw [h]; simp [ha, hb]), if_neg ha, if_pos hb, Nat.xor_assoc]
  · rw [if_neg (by rw [h]; simp [ha, hb]), if_neg ha, if_neg hb]
theorem bIter_xor (k a b : Nat) : bIter k (a ^^^ b) = bIter k a ^^^ bIter k b := by
  induction k with
  | zero => rfl
  | succ k ih => show bstep (bIter k (a ^^^ b)) = _; rw [ih, bstep_xor]; rfl
theorem low_split (q r : Nat) (h : r < 16) : 16 * q ^^^ r = 16 * q + r := by
  apply Nat.eq_of_testBit_eq
  intro j
  have h1 := Nat.testBit_two_pow_mul_add (i := 4) q (b := r) (by omega) j
  have h2 := Nat.testBit_two_pow_mul_add (i := 4) q (b := 0) (by omega) j
  have e1 : (2 : Nat) ^ 4 * q + r = 16 * q + r := by omega
  have e2 : (2 : Nat) ^ 4 * q + 0 = 16 * q := by omega
  rw [e1] at h1
  rw [e2] at h2
  rw [Nat.testBit_xor, h1, h2]
  by_cases hj : j < 4
  · simp [hj]
  · have h3 : r.testBit j = false := Nat.testBit_lt_two_pow (Nat.lt_of_lt_of_le h (Nat.pow_le_pow_right (n := 2) (by decide) (show 4 ≤ j by omega)))
    simp [hj, h3]
theorem bIter_high (q : Nat) : bIter 4 (16 * q) = q := by
  have h0 : bstep (16 * q) = 8 * q := by unfold bstep; rw [if_neg (by omega)]; omega
  have h1 : bstep (8 * q) = 4 * q := by unfold bstep; rw [if_neg (by omega)]; omega
  have h2 : bstep (4 * q) = 2 * q := by unfold bstep; rw [if_neg (by omega)]; omega
  have h3 : bstep (2 * q) = q := by unfold bstep; rw [if_neg (by omega)]; omega
  show bstep (bstep (bstep (bstep (16 * q)))) = q
  rw [h0, h1, h2, h3]
theorem bIter_low : ∀ r : Fin 16, bIter 4 r.val = crcN r.val := by decide +kernel
theorem nstep_is (c : Nat) : nstep c = bIter 4 c := by
  have hr : c % 16 < 16 := Nat.mod_lt _ (by decide)
  have e : c = 16 * (c / 16) ^^^ (c % 16) := by rw [low_split _ _ hr]; omega
  conv => rhs; rw [e, bIter_xor, bIter_high, bIter_low ⟨c % 16, hr⟩]
  rfl
theorem bIter_add (j : Nat) (c : Nat) : ∀ k, bIter k (bIter j c) = bIter (j + k) c
  | 0 => rfl
  | k + 1 => by show bstep (bIter k (bIter j c)) = bstep (bIter (j + k) c); rw [bIter_add j c k]
theorem byte_is2 (c : Nat) : nstep (nstep c) = bIter 8 c := by rw [nstep_is, nstep_is, bIter_add]
theorem bstep_lt {c : Nat} (h : c < 4294967296) : bstep c < 4294967296 := by
  unfold bstep
  split
  · have : c / 2 ^^^ 3988292384 < 2 ^ 32 := Nat.xor_lt_two_pow (by omega) (by decide)
    omega
  · omega
theorem bIter_lt {c : Nat} (h : c < 4294967296) : ∀ k, bIter k c < 4294967296
  | 0 => h
  | k + 1 => bstep_lt (bIter_lt h k)
def crcL (l : List UInt8) : Nat := l.foldl (fun c b => bIter 8 (c ^^^ b.toNat)) 4294967295
theorem crcL_snoc (l : List UInt8) (b : UInt8) : crcL (l ++ [b]) = bIter 8 (crcL l ^^^ b.toNat) := by
  unfold crcL; rw [List.foldl_append]; rfl
theorem crcF_lt : ∀ (l : List UInt8) (c : Nat), c < 4294967296 → l.foldl (fun c b => bIter 8 (c ^^^ b.toNat)) c < 4294967296
  | [], c, h => h
  | b :: t, c, h => by
    have hb := b.toNat_lt
    have : c ^^^ b.toNat < 2 ^ 32 := Nat.xor_lt_two_pow (by omega) (by omega)
    exact crcF_lt t _ (bIter_lt (by omega) 8)
theorem crcL_lt (l : List UInt8) : crcL l < 4294967296 := crcF_lt l _ (by decide)
end Go.Proofs.YthndoimblfccbaaDoor
