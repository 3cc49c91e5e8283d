
/- The CRC of a text: what the program and its model compute. -/
import Derived.Test.YthndoimblfccbaaDoorCrcM
import Derived.Test.YthndoimblfccbaaDoorDec
import Derived.Test.YthndoimblfccbaaDoorHashW
import Derived.Test.YthndoimblfccbaaDoorStrs
import Derived.Lib.LaidTab
import Derived.Below
import Derived.Lib.SmallJoins
namespace Go.Proofs.YthndoimblfccbaaDoor
open Go.ChangeShapes Go.WideShapes Go.ChangeAt Go.RowKit Go.Joins
set_option linter.unusedVariables false
set_option maxRecDepth 100000

def TabsC (w : World) : Prop := Lib.TabIs Tryd.prog w "loop.example/g00703/impl.crcNibbles" .u32 crcT
theorem gCrc : Tryd.prog.globalNamed "loop.example/g00703/impl.crcNibbles" = some 0 := by kernel_rfl
theorem gCrcType : (Tryd.prog.globals[0]?).map (·.type) = some 49 := by kernel_rfl
theorem gCrcCells : Tryd.prog.cellsOf 49 = 16 := by kernel_rfl
theorem gU32Cells : Tryd.prog.cellsOf 41 = 1 := by kernel_rfl
theorem tabsc_of {W : World} (h : laidMet Tryd.prog [("loop.example/g00703/impl.crcNibbles", Rows.laid_loop_example_g00703_impl_crcNibbles)] W) : TabsC W :=
  Lib.tabIs_of_head (k := .u32) (zs := crcT) (rest := []) gCrc gCrcType Tryd.underlying49 Tryd.underlying41 gU32Cells gCrcCells h
theorem TabsC.keep {w w' : World} (h : TabsC w) (hB : Below w.heap.size w w') : TabsC w' := tab_stays gCrc h hB (Nat.le_refl _)
theorem TabsC.cell {w : World} (h : TabsC w) (x : Nat) (hx : x < 16) : w.cell? ⟨0, x, none⟩ = some (.int .u32 ((crcN x : Nat) : Int)) := by
  have h1 := Lib.TabIs.cell h gCrc x (by exact hx)
  rw [h1]
  have h2 : ∀ x : Fin 16, crcT.getD x.val 0 = ((crcN x.val : Nat) : Int) := by decide
  rw [h2 ⟨x, hx⟩]

theorem and15_fin : ∀ c : Nat, c < 4294967296 → bits BinOp.and IntKind.u32 ((c : Nat) : Int) 15 = ((c % 16 : Nat) : Int) := by
  intro c hc
  have h1 : (BitVec.ofInt 32 (c : Int)).toNat = c := by
    rw [BitVec.ofInt_natCast, BitVec.toNat_ofNat]; exact Nat.mod_eq_of_lt (by omega)
  have h2 : (BitVec.ofInt 32 15).toNat = 15 := by decide
  show IntKind.u32.wrap ((BitVec.ofInt 32 (c : Int) &&& BitVec.ofInt 32 15).toNat : Int) = _
  rw [BitVec.toNat_and, h1, h2, Nat.and_two_pow_sub_one_eq_mod c 4]
  simp [IntKind.wrap, IntKind.bits, IntKind.signed]
  omega

theorem not_u32 (c : Nat) (h : c < 4294967296) : bits BinOp.xor IntKind.u32 IntKind.u32.max (c : Int) = ((4294967295 - c : Nat) : Int) := by
  have h1 : (BitVec.ofInt 32 (c : Int)).toNat = c := by
    rw [BitVec.ofInt_natCast, BitVec.toNat_ofNat]; exact Nat.mod_eq_of_lt (by omega)
  have h2 : BitVec.ofInt 32 IntKind.u32.max = BitVec.allOnes 32 := by decide
  show IntKind.u32.wrap ((BitVec.ofInt 32 IntKind.u32.max ^^^ BitVec.ofInt 32 (c : Int)).toNat : Int) = _
  rw [h2, BitVec.allOnes_xor, BitVec.toNat_not, h1]
  simp [IntKind.wrap, IntKind.bits, IntKind.signed]
  omega

set_option maxHeartbeats 4000000 in
theorem crcof_any (s : ByteArray) (w : World) (hs : s.size ≤ maxLen) (hT : TabsC w) : Calls Tryd.prog 26 #[.string s] w fun e w' => e = .returned (.int .u32 ((4294967295 - crcL s.data.toList : Nat) : Int)) ∧ w = w' := by
  unfold maxLen at hs
  have HT := Lib.hid hT
  clear hT
  go_enter Tryd.func26, Tryd.ntmps26
  go_wp2
  go_loop [3, 4] (fun h i => ∃ k c : Nat, k ≤ s.size ∧ i = .int .i64 k ∧ h = .int .u32 (c : Int) ∧ c < 4294967296 ∧ Hid (c = crcL (s.data.toList.take k))) (fun _ i => s.size - (intOf i).toNat)
  case atStart => exact ⟨0, 4294967295, Nat.zero_le _, rfl, rfl, by decide, Lib.hid rfl⟩
  case round =>
    obtain ⟨k, c, hk, rfl, rfl, hc, HC⟩ := hrel
    by_cases hlt : k < s.size
    · have hi0 : (0 : Int) ≤ (k : Int) := by omega
      have hi1 : (k : Int) < (s.size : Int) := by omega
      have hb := s[k].toNat_lt
      obtain ⟨b, hbe⟩ : ∃ b : Nat, s[k].toNat = b := ⟨_, rfl⟩
      have hbm : (b : Int) % 4294967296 = (b : Int) := by omega
      have x1 := xor_u32 c b hc (by omega)
      obtain ⟨d, hd⟩ : ∃ d, c ^^^ b = d := ⟨_, rfl⟩
      rw [hd] at x1
      have hd1 := x1.2
      have hcr : ∀ r : Fin 16, crcN r.val < 4294967296 := by decide
      obtain ⟨dr, hdr⟩ : ∃ r, d % 16 = r := ⟨_, rfl⟩
      obtain ⟨dq, hdq⟩ : ∃ q, d / 16 = q := ⟨_, rfl⟩
      have a1 := and15_fin d hd1
      rw [hdr] at a1
      have t1 := HT.out.cell dr (by omega)
      have e1 : (d : Int) / 16 = (dq : Int) := by omega
      obtain ⟨f, hf⟩ : ∃ f, nstep d = f := ⟨_, rfl⟩
      have x2 := xor_u32 dq (crcN dr) (by omega) (hcr ⟨dr, by omega⟩)
      have hff : dq ^^^ crcN dr = f := by rw [← hf, ← hdq, ← hdr]; rfl
      rw [hff] at x2
      have x2' := x2.1
      have hf1 := x2.2
      obtain ⟨n1, hn1⟩ : ∃ n, crcN dr = n := ⟨_, rfl⟩
      rw [hn1] at t1 x2'
      obtain ⟨fr, hfr⟩ : ∃ r, f % 16 = r := ⟨_, rfl⟩
      obtain ⟨fq, hfq⟩ : ∃ q, f / 16 = q := ⟨_, rfl⟩
      have a2 := and15_fin f hf1
      rw [hfr] at a2
      have t2 := HT.out.cell fr (by omega)
      have e2 : (f : Int) / 16 = (fq : Int) := by omega
      obtain ⟨g, hg⟩ : ∃ g, nstep f = g := ⟨_, rfl⟩
      have x3 := xor_u32 fq (crcN fr) (by omega) (hcr ⟨fr, by omega⟩)
      have hgg : fq ^^^ crcN fr = g := by rw [← hg, ← hfq, ← hfr]; rfl
      rw [hgg] at x3
      have x3' := x3.1
      have hg1 := x3.2
      obtain ⟨n2, hn2⟩ : ∃ n, crcN fr = n := ⟨_, rfl⟩
      rw [hn2] at t2 x3'
      have HN := Lib.hid (show g = crcL (s.data.toList.take (k + 1)) by
        rw [List.take_succ_eq_append_getElem (by simpa using hlt)]
        show g = crcL (s.data.toList.take k ++ [s[k]])
        rw [crcL_snoc, ← HC.out]
        show g = bIter 8 (c ^^^ s[k].toNat)
        rw [hbe, hd, ← byte_is2, hf, hg])
      have x1' := x1.1
      have hm1 : (0 : Int) ≤ (dr : Int) := by omega
      have hm2 : (dr : Int) < 16 := by omega
      have hm3 : (0 : Int) ≤ (fr : Int) := by omega
      have hm4 : (fr : Int) < 16 := by omega
      clear x1 x2 x3 hd hf hg hdr hdq hfr hfq hn1 hn2 hff hgg hcr
      go_wp2
      go_round
      case rel => exact ⟨k + 1, g, by omega, by go_num, rfl, hg1, HN⟩
      case measure => simp [intOf]; omega
    · obtain rfl : k = s.size := by omega
      have HC := Lib.hid (show c = crcL s.data.toList by rw [HC.out, List.take_of_length_le (by simp)])
      have hn := not_u32 c hc
      obtain ⟨z, hz⟩ : ∃ z : Nat, 4294967295 - c = z := ⟨_, rfl⟩
      have HE := Lib.hid (show (4294967295 - crcL s.data.toList : Nat) = z by rw [← HC.out]; exact hz)
      rw [hz] at hn
      clear hz
      go_wp2
      go_ret
      exact ⟨by rw [HE.out]; rfl, rfl⟩
end Go.Proofs.YthndoimblfccbaaDoor
