/- The law on hashes, walked: for every drawing code it returns true and only makes new blocks. -/
import Derived.Test.YtbcdinjlpgfoiaaHash
import Derived.Test.YtbcdinjlpgfoiaaDraw2
import Derived.Laws.BytesArg
import Derived.Laws.Bits64
namespace Go.Proofs.Ytbcdinjlpgfoiaa
open Go.ChangeShapes Go.WideShapes Go.ChangeAt Go.RowKit
set_option linter.unusedVariables false

theorem xor_u32 (a b : Nat) (ha : a < 4294967296) (hb : b < 4294967296) : bits .xor .u32 (a : Int) (b : Int) = ((a ^^^ b : Nat) : Int) ∧ a ^^^ b < 4294967296 := by
  have hx : a ^^^ b < 2 ^ 32 := Nat.xor_lt_two_pow (by omega) (by omega)
  have h1 : (BitVec.ofInt 32 (a : Int)).toNat = a := by
    rw [BitVec.ofInt_natCast, BitVec.toNat_ofNat]; exact Nat.mod_eq_of_lt (by omega)
  have h2 : (BitVec.ofInt 32 (b : Int)).toNat = b := by
    rw [BitVec.ofInt_natCast, BitVec.toNat_ofNat]; exact Nat.mod_eq_of_lt (by omega)
  refine ⟨?_, by omega⟩
  show IntKind.u32.wrap ((BitVec.ofInt 32 (a : Int) ^^^ BitVec.ofInt 32 (b : Int)).toNat : Int) = _
  rw [BitVec.toNat_xor, h1, h2]
  simp [IntKind.wrap, IntKind.bits, IntKind.signed]
  omega

theorem xor_i64 (a b : Nat) (ha : a < 4294967296) (hb : b < 4294967296) : bits .xor .i64 (a : Int) (b : Int) = ((a ^^^ b : Nat) : Int) := by
  have hx : a ^^^ b < 2 ^ 32 := Nat.xor_lt_two_pow (by omega) (by omega)
  have h1 : (BitVec.ofInt 64 (a : Int)).toNat = a := by
    rw [BitVec.ofInt_natCast, BitVec.toNat_ofNat]; exact Nat.mod_eq_of_lt (by omega)
  have h2 : (BitVec.ofInt 64 (b : Int)).toNat = b := by
    rw [BitVec.ofInt_natCast, BitVec.toNat_ofNat]; exact Nat.mod_eq_of_lt (by omega)
  show IntKind.i64.wrap ((BitVec.ofInt 64 (a : Int) ^^^ BitVec.ofInt 64 (b : Int)).toNat : Int) = _
  rw [BitVec.toNat_xor, h1, h2]
  simp [IntKind.wrap, IntKind.bits, IntKind.signed]
  omega

/-- One byte more: the hash in the walk's two spellings. -/
theorem hash_byte (s : ByteArray) (x : Int) (h0 : 0 ≤ x) (h1 : x ≤ 255) :
    hashL (s ++ strOfNums [x]).data.toList = bits .xor .i64 (hashL s.data.toList) x * 16777619 % 4294967296 ∧ 0 ≤ bits .xor .i64 (hashL s.data.toList) x ∧ bits .xor .i64 (hashL s.data.toList) x ≤ 4294967295 := by
  have hb := hashL_bd s.data.toList
  obtain ⟨H, hH⟩ : ∃ H : Nat, hashL s.data.toList = H := ⟨(hashL s.data.toList).toNat, by omega⟩
  obtain ⟨X, rfl⟩ : ∃ X : Nat, x = X := ⟨x.toNat, by omega⟩
  have e1 : (s ++ strOfNums [(X : Int)]).data.toList = s.data.toList ++ [UInt8.ofNat X] := by
    simp [strOfNums]
  have e2 : ((UInt8.ofNat X).toNat : Int) = X := by
    have : (UInt8.ofNat X).toNat = X := by simp; omega
    omega
  obtain ⟨x1, x2⟩ := xor_u32 H X (by omega) (by omega)
  have x3 := xor_i64 H X (by omega) (by omega)
  rw [e1, hashL_snoc, hH, x3]
  unfold hstep
  rw [e2, show ((X : Int) % 4294967296) = X by omega, x1]
  omega

set_option maxHeartbeats 1000000 in
theorem fnHash_walk (w : World) (a : Option Addr) (len cap : Nat) (h : Src w a len) :
    Calls Try.prog 4 #[.slice a len cap] w fun e w' => e = .returned (.bool true) ∧ Below w.heap.size w w' := by
  have S := Lib.hid h
  clear h
  by_cases hb : 1048576 < len
  · go_enter Try.func4, Try.ntmps4
    go_wp2_with (go_at_call 15; refine (big_yes _ _ _ _ hb).mono ?_; rintro e w' ⟨rfl, rfl⟩)
    go_ret
    exact ⟨rfl, Below.refl _ _⟩
  · go_enter Try.func4, Try.ntmps4
    go_wp2_with (first | (go_at_call 15; refine (big_no _ _ _ _ hb).mono ?_; rintro e w' ⟨rfl, rfl⟩) | (go_at_call 21; refine (drawhash_any _ _ _ _ S.out).mono ?_; rintro e w1 ⟨s, hs, rfl, hB⟩; have HB := Lib.hid hB; clear hB) | (go_at_call 22; refine (byteof_any _ _ _ _ _ (S.out.below HB.out) (by decide) (by decide)).mono ?_; rintro e w' ⟨x, hx1, hx2, rfl, rfl⟩))
    have hsm : s.size ≤ maxLen := by unfold maxLen; omega
    have hso : (strOfNums [x]).size ≤ 1 := Nat.le_refl 1
    have hsm2 : (s ++ strOfNums [x]).size ≤ maxLen := by rw [ByteArray.size_append]; unfold maxLen; omega
    have hy := hashL_bd s.data.toList
    obtain ⟨H, hH⟩ : ∃ H : Int, H = hashL s.data.toList := ⟨_, rfl⟩
    have hbyte := hash_byte s x hx1 hx2
    rw [← hH] at hy hbyte
    obtain ⟨hb1, hb2, hb3⟩ := hbyte
    have HH := Lib.hid hH
    have HB1 := Lib.hid hb1
    clear hH hb1
    have kc : ∀ (wx : World) (y : Int), (convert 22 9 (.slice (some ⟨wx.heap.size, 0, none⟩) 1 1)).run Try.prog (wx.alloc (.cells #[.int .u8 y] 5)) = .ok (.string (strOfNums [y])) (wx.alloc (.cells #[.int .u8 y] 5)) := fun wx y =>
      run_convert_bytes_arg _ _ _ Try.underlying22 Try.underlying5 wx.heap.size 0 1 1 [y] rfl (fun i hi => by
        obtain rfl : i = 0 := by omega
        exact cell_of_one (heap_alloc_new _ _)) _ Try.underlying9
    go_wp2_with (first | (go_at_call 19; refine (shash_any _ _ hsm).mono ?_; rw [← HH.out]; rintro e w' ⟨rfl, rfl⟩) | (go_at_call 17; with_reducible (refine (hash_any s _ hsm).mono ?_); rw [← HH.out]; rintro e w' ⟨rfl, rfl⟩) | (go_at_call 17; with_reducible (refine (hash_any (s ++ strOfNums [x]) _ hsm2).mono ?_); rw [HB1.out]; rintro e w' ⟨rfl, rfl⟩))
    go_ret
    exact ⟨rfl, HB.out.alloc HB.out.size _⟩
end Go.Proofs.Ytbcdinjlpgfoiaa
