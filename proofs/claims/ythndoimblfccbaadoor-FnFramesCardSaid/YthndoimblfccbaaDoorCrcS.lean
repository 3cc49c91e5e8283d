
/- The CRC of a text, as its four bytes: what the model computes. Only new blocks are made. -/
import Derived.Test.YthndoimblfccbaaDoorCrc
import Derived.Test.YthndoimblfccbaaDoorHexM
namespace Go.Proofs.YthndoimblfccbaaDoor
open Go.ChangeShapes Go.WideShapes Go.ChangeAt Go.RowKit Go.Joins
set_option linter.unusedVariables false
set_option maxRecDepth 100000

def smN (z : Int) : List Int := [z % 256, z / 256 % 256, z / 65536 % 256, z / 16777216 % 256]
def hdN (n : Int) : List Int := [n / 16777216 % 256, n / 65536 % 256, n / 256 % 256, n % 256]
def crcZ (s : ByteArray) : Nat := 4294967295 - crcL s.data.toList
theorem bytes_text {w : World} {B n : Nat} {X : List Int} (h : Row w B 5 (byteCs X).toArray) (hn : X.length = n) :
    (convert 29 9 (.slice (some ⟨B, 0, none⟩) n n)).run Tryd.prog w = .ok (.string (strOfNums X)) w :=
  run_convert_bytes_arg _ _ _ Tryd.underlying29 Tryd.underlying5 B 0 n n X hn (fun i hi => by
    rw [Nat.zero_add]
    have hiX : i < X.length := by omega
    unfold Row at h
    unfold World.cell?
    rw [h]
    rw [List.getD_eq_getElem?_getD]
    simp [byteCs, hiX]) _ Tryd.underlying9
set_option maxHeartbeats 4000000 in
theorem l12sum_any (s : ByteArray) (w : World) (hs : s.size ≤ maxLen) : Calls Tryd.prog 17 #[.string s] w (MadeTx (strOfNums (smN (crcZ s))) w) := by
  unfold maxLen at hs
  go_enter Tryd.func17, Tryd.ntmps17
  go_wp2
  go_loop [3, 4] (fun h i => ∃ k c : Nat, k ≤ s.size ∧ i = .int .i64 k ∧ h = .int .u32 (c : Int) ∧ c < 4294967296 ∧ Hid (c = crcL (s.data.toList.take k))) (fun _ i => s.size - (intOf i).toNat)
  case atStart => exact ⟨0, 4294967295, Nat.zero_le _, rfl, rfl, by decide, Lib.hid rfl⟩
  case round =>
    obtain ⟨k, c, hk, rfl, rfl, hc, HC⟩ := hrel
    by_cases hlt : k < s.size
    · have hi0 : (0 : Int) ≤ (k : Int) := by omega
      have hi1 : (k : Int) < (s.size : Int) := by omega
      have hb := s[k].toNat_lt
      obtain ⟨b, hbe⟩ : ∃ b : Nat, s[k].toNat = b := ⟨_, rfl⟩
      have x1 := xor_u32 c b hc (by omega)
      obtain ⟨d, hd⟩ : ∃ d, c ^^^ b = d := ⟨_, rfl⟩
      rw [hd] at x1
      have hd1 := x1.2
      have x1' := x1.1
      have HN := Lib.hid (show bIter 8 d = crcL (s.data.toList.take (k + 1)) by
        rw [List.take_succ_eq_append_getElem (by simpa using hlt)]
        show bIter 8 d = crcL (s.data.toList.take k ++ [s[k]])
        rw [crcL_snoc, ← HC.out]
        show bIter 8 d = bIter 8 (c ^^^ s[k].toNat)
        rw [hbe, hd])
      clear x1 hd HC
      go_wp2
      go_loop [3, 5] (fun h j => ∃ m f : Nat, m ≤ 8 ∧ j = .int .i64 m ∧ h = .int .u32 (f : Int) ∧ f < 4294967296 ∧ Hid (f = bIter m d)) (fun _ j => 8 - (intOf j).toNat)
      case atStart => exact ⟨0, d, Nat.zero_le _, rfl, rfl, hd1, Lib.hid rfl⟩
      case round =>
        obtain ⟨m, f, hm, rfl, rfl, hf, HF⟩ := hrel
        by_cases hm8 : m < 8
        · have hm1 : (m : Int) < 8 := by omega
          obtain ⟨fq, hfq⟩ : ∃ q, f / 2 = q := ⟨_, rfl⟩
          have e1 : (f : Int) / 2 = (fq : Int) := by omega
          by_cases ho : f % 2 = 1
          · have o1 : (f : Int) % 2 = 1 := by omega
            have x2 := xor_u32 fq 3988292384 (by omega) (by decide)
            obtain ⟨g, hg⟩ : ∃ g, fq ^^^ 3988292384 = g := ⟨_, rfl⟩
            rw [hg] at x2
            have x2' : bits BinOp.xor IntKind.u32 (fq : Int) 3988292384 = (g : Int) := x2.1
            have hg1 := x2.2
            have HG := Lib.hid (show g = bIter (m + 1) d by
              show g = bstep (bIter m d)
              rw [← HF.out]
              unfold bstep
              rw [if_pos ho, hfq, hg])
            clear x2 hg hfq ho
            go_wp2
            go_round
            case rel => exact ⟨m + 1, g, by omega, by go_num, rfl, hg1, HG⟩
            case measure => simp [intOf]; omega
          · have o1 : (f : Int) % 2 = 0 := by omega
            have HG := Lib.hid (show fq = bIter (m + 1) d by
              show fq = bstep (bIter m d)
              rw [← HF.out]
              unfold bstep
              rw [if_neg ho, hfq])
            have hq1 : fq < 4294967296 := by omega
            clear hfq ho
            go_wp2
            go_round
            case rel => exact ⟨m + 1, fq, by omega, by go_num, rfl, hq1, HG⟩
            case measure => simp [intOf]; omega
        · obtain rfl : m = 8 := by omega
          have HN2 := Lib.hid (HF.out.trans HN.out)
          go_wp2
          go_round
          case rel => exact ⟨k + 1, f, by omega, by go_num, rfl, hf, HN2⟩
          case measure => simp [intOf]; omega
    · obtain rfl : k = s.size := by omega
      have HC := Lib.hid (show c = crcL s.data.toList by rw [HC.out, List.take_of_length_le (by simp)])
      have hn := not_u32 c hc
      obtain ⟨z, hz⟩ : ∃ z : Nat, 4294967295 - c = z := ⟨_, rfl⟩
      have HE := Lib.hid (show crcZ s = z by unfold crcZ; rw [← HC.out]; exact hz)
      rw [hz] at hn
      clear hz
      have hcv : (convert 29 9 (.slice (some ⟨w.heap.size, 0, none⟩) 4 4)).run Tryd.prog (w.alloc (.cells #[.int .u8 ((z : Int) % 256), .int .u8 ((z : Int) / 256 % 256), .int .u8 ((z : Int) / 65536 % 256), .int .u8 ((z : Int) / 16777216 % 256)] 5)) = .ok (.string (strOfNums (smN z))) (w.alloc (.cells #[.int .u8 ((z : Int) % 256), .int .u8 ((z : Int) / 256 % 256), .int .u8 ((z : Int) / 65536 % 256), .int .u8 ((z : Int) / 16777216 % 256)] 5)) :=
        bytes_text (X := smN z) (Row.new w 5 (byteCs (smN z)).toArray) rfl
      go_wp2
      go_ret
      exact ⟨by rw [HE.out]; rfl, below_alloc (Below.refl _ _) _⟩
set_option maxHeartbeats 4000000 in
theorem headerof_any (s : ByteArray) (w : World) (hs : s.size ≤ 100000) (hT : TabsC w) : Calls Tryd.prog 18 #[.string s] w (MadeTx (strOfNums (hdN s.size ++ smN (crcZ s))) w) := by
  have HT := Lib.hid hT
  have HS := Lib.hid (show s.size ≤ maxLen by unfold maxLen; omega)
  have HC := Lib.hid (fun w hT => crcof_any s w (by unfold maxLen; omega) hT)
  obtain ⟨z, hz⟩ : ∃ z, 4294967295 - crcL s.data.toList = z := ⟨_, rfl⟩
  have HE := Lib.hid (show crcZ s = z from hz)
  have hz1 : z < 4294967296 := by omega
  rw [hz] at HC
  clear hT hz
  obtain ⟨n, hn⟩ : ∃ n, s.size = n := ⟨_, rfl⟩
  have HN := Lib.hid hn
  rw [hn] at hs
  have HXX := Lib.hid (show [(n : Int) / 16777216, (n : Int) / 65536, (n : Int) / 256 % 256, (n : Int) % 256, (z : Int) % 256, (z : Int) / 256 % 256, (z : Int) / 65536 % 256, (z : Int) / 16777216] = hdN n ++ smN z by
    unfold hdN smN
    simp
    omega)
  have hcv : (convert 29 9 (.slice (some ⟨w.heap.size, 0, none⟩) 8 8)).run Tryd.prog (w.alloc (.cells #[.int .u8 ((n : Int) / 16777216), .int .u8 ((n : Int) / 65536), .int .u8 ((n : Int) / 256 % 256), .int .u8 ((n : Int) % 256), .int .u8 ((z : Int) % 256), .int .u8 ((z : Int) / 256 % 256), .int .u8 ((z : Int) / 65536 % 256), .int .u8 ((z : Int) / 16777216)] 5)) = .ok (.string (strOfNums [(n : Int) / 16777216, (n : Int) / 65536, (n : Int) / 256 % 256, (n : Int) % 256, (z : Int) % 256, (z : Int) / 256 % 256, (z : Int) / 65536 % 256, (z : Int) / 16777216])) (w.alloc (.cells #[.int .u8 ((n : Int) / 16777216), .int .u8 ((n : Int) / 65536), .int .u8 ((n : Int) / 256 % 256), .int .u8 ((n : Int) % 256), .int .u8 ((z : Int) % 256), .int .u8 ((z : Int) / 256 % 256), .int .u8 ((z : Int) / 65536 % 256), .int .u8 ((z : Int) / 16777216)] 5)) :=
    bytes_text (X := [(n : Int) / 16777216, (n : Int) / 65536, (n : Int) / 256 % 256, (n : Int) % 256, (z : Int) % 256, (z : Int) / 256 % 256, (z : Int) / 65536 % 256, (z : Int) / 16777216]) (Row.new w 5 (byteCs [(n : Int) / 16777216, (n : Int) / 65536, (n : Int) / 256 % 256, (n : Int) % 256, (z : Int) % 256, (z : Int) / 256 % 256, (z : Int) / 65536 % 256, (z : Int) / 16777216]).toArray) rfl
  go_enter Tryd.func18, Tryd.ntmps18
  go_wp2_with fail
  refine (HC.out _ HT.out).mono ?_
  rintro e w1 ⟨rfl, rfl⟩
  go_wp2
  go_ret
  exact ⟨by rw [HE.out, HN.out, ← HXX.out]; rfl, below_alloc (Below.refl _ _) _⟩
end Go.Proofs.YthndoimblfccbaaDoor
