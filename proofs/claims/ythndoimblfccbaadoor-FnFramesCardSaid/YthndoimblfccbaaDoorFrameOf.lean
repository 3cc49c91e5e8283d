
/- FrameOf of the program and of its model; the law, walked. Only new blocks are made. -/
import Derived.Test.YthndoimblfccbaaDoorCrcS
import Derived.Test.YthndoimblfccbaaDoorCat
import Derived.Test.YthndoimblfccbaaDoorHeld
namespace Go.Proofs.YthndoimblfccbaaDoor
open Go.ChangeShapes Go.WideShapes Go.ChangeAt Go.RowKit Go.Joins
set_option linter.unusedVariables false
set_option maxRecDepth 100000

def frTx (s : ByteArray) : ByteArray := if 100000 < s.size then ByteArray.empty else strOfNums (hdN s.size) ++ strOfNums (smN (crcZ s)) ++ s
theorem nums_app (a b : List Int) : strOfNums (a ++ b) = strOfNums a ++ strOfNums b := by
  apply ByteArray.ext
  simp [strOfNums]
theorem nums_size (l : List Int) : (strOfNums l).size = l.length := by simp [strOfNums, ByteArray.size]
set_option maxHeartbeats 2000000 in
theorem frameof_any (s : ByteArray) (w : World) (hs : s.size ≤ maxLen) (hT : TabsC w) : Calls Tryd.prog 7 #[.string s] w (MadeTx (frTx s) w) := by
  unfold maxLen at hs
  by_cases hbig : (100000 : Int) < (s.size : Int)
  · have HF := Lib.hid (show frTx s = ByteArray.empty by unfold frTx; rw [if_pos (by omega)])
    go_enter Tryd.func7, Tryd.ntmps7
    go_wp2
    go_ret
    exact ⟨by rw [HF.out]; rfl, Below.refl _ _⟩
  · have HF := Lib.hid (show frTx s = strOfNums (hdN s.size) ++ strOfNums (smN (crcZ s)) ++ s by unfold frTx; rw [if_neg (by omega)])
    have HH := Lib.hid (fun w hT => headerof_any s w (by omega) hT)
    rw [nums_app] at HH
    obtain ⟨a, ha⟩ : ∃ a, strOfNums (hdN s.size) ++ strOfNums (smN (crcZ s)) = a := ⟨_, rfl⟩
    have haz : a.size = 8 := by rw [← ha, ByteArray.size_append, nums_size, nums_size]; rfl
    rw [ha] at HH HF
    have kc : ∀ w, (Op.stringOp .add a s).run Tryd.prog w = .ok (.string (a ++ s)) w := fun w => cat_runp _ _ 200000 (by omega) (by omega)
    have HT := Lib.hid hT
    clear hT ha
    go_enter Tryd.func7, Tryd.ntmps7
    go_wp2_with fail
    refine (HH.out _ HT.out).mono ?_
    rintro e w1 ⟨rfl, hB⟩
    have HB := Lib.hid hB
    clear hB
    go_wp2
    go_ret
    exact ⟨by rw [HF.out]; rfl, HB.out⟩
def hdC (n : Int) : Array Value := #[.int .u8 (n / 16777216), .int .u8 (n / 65536), .int .u8 (n / 256 % 256), .int .u8 (n % 256)]
set_option maxHeartbeats 8000000 in
theorem sframeof_any (s : ByteArray) (w : World) (hs : s.size ≤ maxLen) : Calls Tryd.prog 6 #[.string s] w (MadeTx (frTx s) w) := by
  have HSM := Lib.hid hs
  unfold maxLen at hs
  by_cases hbig : (100000 : Int) < (s.size : Int)
  · have HF := Lib.hid (show frTx s = ByteArray.empty by unfold frTx; rw [if_pos (by omega)])
    go_enter Tryd.func6, Tryd.ntmps6
    go_wp2
    go_ret
    exact ⟨by rw [HF.out]; rfl, Below.refl _ _⟩
  · have HF := Lib.hid (show frTx s = strOfNums (hdN s.size) ++ strOfNums (smN (crcZ s)) ++ s by unfold frTx; rw [if_neg (by omega)])
    have HS := Lib.hid (fun w => l12sum_any s w HSM.out)
    obtain ⟨n, hn⟩ : ∃ n, s.size = n := ⟨_, rfl⟩
    rw [hn] at HF
    have hn0 : n ≤ 100000 := by omega
    obtain ⟨a, ha⟩ : ∃ a, strOfNums (hdN n) = a := ⟨_, rfl⟩
    obtain ⟨b, hb⟩ : ∃ b, strOfNums (smN (crcZ s)) = b := ⟨_, rfl⟩
    have haz : a.size = 4 := by rw [← ha, nums_size]; rfl
    have hbz : b.size = 4 := by rw [← hb, nums_size]; rfl
    have HA := Lib.hid ha
    rw [ha, hb] at HF
    rw [hb] at HS
    have k1 : ∀ w, (Op.stringOp .add a b).run Tryd.prog w = .ok (.string (a ++ b)) w := fun w => cat_runp _ _ 200000 (by omega) (by omega)
    have k2 : ∀ w, (Op.stringOp .add (a ++ b) s).run Tryd.prog w = .ok (.string (a ++ b ++ s)) w := fun w => cat_runp _ _ 200000 (by rw [ByteArray.size_append]; omega) (by omega)
    have HN := Lib.hid (show [(n : Int) / 16777216, (n : Int) / 65536, (n : Int) / 256 % 256, (n : Int) % 256] = hdN n by
      unfold hdN
      simp
      omega)
    have u1 : IntKind.u8.wrap ((n : Int) / 16777216) = (n : Int) / 16777216 := by simp [IntKind.wrap, IntKind.bits, IntKind.signed]; omega
    have u2 : IntKind.u8.wrap ((n : Int) / 65536) = (n : Int) / 65536 := by simp [IntKind.wrap, IntKind.bits, IntKind.signed]; omega
    have u3 : IntKind.u8.wrap ((n : Int) / 256) = (n : Int) / 256 % 256 := by simp [IntKind.wrap, IntKind.bits, IntKind.signed]
    have u4 : IntKind.u8.wrap (n : Int) = (n : Int) % 256 := by simp [IntKind.wrap, IntKind.bits, IntKind.signed]
    clear ha hb
    go_enter Tryd.func6, Tryd.ntmps6
    go_wp2_with fail
    refine wp_region_noPanic ?_
    refine wp_region_held_drew (S := (fun w' => Hid (Below w.heap.size w w'))) (by kernel_rfl) (Lib.hid (Below.refl _ _).drew) (fun HS9 => ?_)
    have HS8 := HS9
    refine held_take (i := 0) (d := 8) (v := .int .i64 (n : Int)) rfl rfl (by kernel_rfl) (by kernel_rfl) (by kernel_rfl) (by kernel_rfl) (fun wx hS => by go_simp) HS9 ?_
    refine held_take (i := 1) (d := 9) (v := .int .i64 ((n : Int) / 16777216)) rfl rfl (by kernel_rfl) (by kernel_rfl) (by kernel_rfl) (by kernel_rfl) (fun wx hS => by go_simp) HS9 ?_
    refine held_take (i := 2) (d := 10) (v := .int .u8 ((n : Int) / 16777216)) rfl rfl (by kernel_rfl) (by kernel_rfl) (by kernel_rfl) (by kernel_rfl) (fun wx hS => by go_simp) HS9 ?_
    refine held_take (i := 3) (d := 11) (v := .int .i64 (n : Int)) rfl rfl (by kernel_rfl) (by kernel_rfl) (by kernel_rfl) (by kernel_rfl) (fun wx hS => by go_simp) HS9 ?_
    refine held_take (i := 4) (d := 12) (v := .int .i64 ((n : Int) / 65536)) rfl rfl (by kernel_rfl) (by kernel_rfl) (by kernel_rfl) (by kernel_rfl) (fun wx hS => by go_simp) HS9 ?_
    refine held_take (i := 5) (d := 13) (v := .int .u8 ((n : Int) / 65536)) rfl rfl (by kernel_rfl) (by kernel_rfl) (by kernel_rfl) (by kernel_rfl) (fun wx hS => by go_simp) HS9 ?_
    refine held_take (i := 6) (d := 14) (v := .int .i64 (n : Int)) rfl rfl (by kernel_rfl) (by kernel_rfl) (by kernel_rfl) (by kernel_rfl) (fun wx hS => by go_simp) HS9 ?_
    refine held_take (i := 7) (d := 15) (v := .int .i64 ((n : Int) / 256)) rfl rfl (by kernel_rfl) (by kernel_rfl) (by kernel_rfl) (by kernel_rfl) (fun wx hS => by go_simp) HS9 ?_
    refine held_take (i := 8) (d := 16) (v := .int .u8 ((n : Int) / 256 % 256)) rfl rfl (by kernel_rfl) (by kernel_rfl) (by kernel_rfl) (by kernel_rfl) (fun wx hS => by go_simp) HS9 ?_
    refine held_take (i := 9) (d := 17) (v := .int .i64 (n : Int)) rfl rfl (by kernel_rfl) (by kernel_rfl) (by kernel_rfl) (by kernel_rfl) (fun wx hS => by go_simp) HS9 ?_
    refine held_take (i := 10) (d := 18) (v := .int .u8 ((n : Int) % 256)) rfl rfl (by kernel_rfl) (by kernel_rfl) (by kernel_rfl) (by kernel_rfl) (fun wx hS => by go_simp) HS9 ?_
    refine held_take (i := 13) (d := 21) (v := .string s) rfl rfl (by kernel_rfl) (by kernel_rfl) (by kernel_rfl) (by kernel_rfl) (fun wx hS => by go_simp) HS9 ?_
    refine held_take (i := 16) (d := 24) (v := .string s) rfl rfl (by kernel_rfl) (by kernel_rfl) (by kernel_rfl) (by kernel_rfl) (fun wx hS => by go_simp) HS9 ?_
    obtain ⟨w2, hw2⟩ : ∃ w2, w.drew = w2 := ⟨_, rfl⟩
    rw [hw2] at HS9 HS8 ⊢
    clear hw2
    refine wpAnyH_ready (rs := [11, 14]) (by kernel_rfl) (by simp) (AllReadyH.cons rfl (fun K hK => ?_) (AllReadyH.cons rfl (fun K hK => ?_) AllReadyH.nil))
    · go_simp
      refine hK.out _ _ (Lib.hid (below_alloc HS8.out _)) (fun HS7 => ?_)
      clear hK K
      have HRW := Lib.hid (Row.new w2 5 (hdC n))
      obtain ⟨B, hB⟩ : ∃ B, w2.heap.size = B := ⟨_, rfl⟩
      rw [hB] at HRW
      refine held_mono (S' := (fun w' => Hid (Below w.heap.size w w' ∧ Row w' B 5 (hdC n)))) (fun w' h => Lib.hid h.out.1) ?_
      have HS7 := Lib.hid (show _ ∧ Row _ B 5 (hdC n) from ⟨HS7.out, HRW.out⟩)
      refine held_take (i := 12) (d := 20) (v := .string a) rfl rfl (by kernel_rfl) (by kernel_rfl) (by kernel_rfl) (by kernel_rfl) (fun wx hS => by have hcv := bytes_text (X := [(n : Int) / 16777216, (n : Int) / 65536, (n : Int) / 256 % 256, (n : Int) % 256]) (n := 4) hS.out.2 rfl; rw [HN.out, HA.out] at hcv; go_simp) HS7 ?_
      refine wpAnyH_ready (rs := [14]) (by kernel_rfl) (by simp) (AllReadyH.cons rfl (fun K hK => ?_) AllReadyH.nil)
      go_simp
      refine (HS.out _).mono ?_
      rintro e w3 ⟨rfl, hB3⟩
      refine hK.out _ _ (Lib.hid ⟨below_via HS7.out.1 hB3, HS7.out.2.keep hB3⟩) (fun HS6 => ?_)
      clear hK K hB3
      refine held_take (i := 15) (d := 23) (v := .string (a ++ b)) rfl rfl (by kernel_rfl) (by kernel_rfl) (by kernel_rfl) (by kernel_rfl) (fun wx hS => by go_simp) HS6 ?_
      refine held_take (i := 17) (d := 25) (v := .string (a ++ b ++ s)) rfl rfl (by kernel_rfl) (by kernel_rfl) (by kernel_rfl) (by kernel_rfl) (fun wx hS => by go_simp) HS6 ?_
      refine held_take (i := 18) (d := 2) (v := .string (a ++ b ++ s)) rfl rfl (by kernel_rfl) (by kernel_rfl) (by kernel_rfl) (by kernel_rfl) (fun wx hS => by go_simp) HS6 ?_
      refine wpAnyH_done (by kernel_rfl) (NoPanic.normal ?_) _
      go_wp2
      go_ret
      exact ⟨by rw [HF.out]; rfl, HS6.out.1⟩
    · go_simp
      refine (HS.out _).mono ?_
      rintro e w3 ⟨rfl, hB3⟩
      refine hK.out _ _ (Lib.hid (below_via HS8.out hB3)) (fun HS7 => ?_)
      clear hK K hB3
      refine wpAnyH_ready (rs := [11]) (by kernel_rfl) (by simp) (AllReadyH.cons rfl (fun K hK => ?_) AllReadyH.nil)
      go_simp
      refine hK.out _ _ (Lib.hid (below_alloc HS7.out _)) (fun HS6 => ?_)
      clear hK K
      have HRW := Lib.hid (Row.new w3 5 (hdC n))
      obtain ⟨B, hB⟩ : ∃ B, w3.heap.size = B := ⟨_, rfl⟩
      rw [hB] at HRW
      refine held_mono (S' := (fun w' => Hid (Below w.heap.size w w' ∧ Row w' B 5 (hdC n)))) (fun w' h => Lib.hid h.out.1) ?_
      have HS6 := Lib.hid (show _ ∧ Row _ B 5 (hdC n) from ⟨HS6.out, HRW.out⟩)
      refine held_take (i := 12) (d := 20) (v := .string a) rfl rfl (by kernel_rfl) (by kernel_rfl) (by kernel_rfl) (by kernel_rfl) (fun wx hS => by have hcv := bytes_text (X := [(n : Int) / 16777216, (n : Int) / 65536, (n : Int) / 256 % 256, (n : Int) % 256]) (n := 4) hS.out.2 rfl; rw [HN.out, HA.out] at hcv; go_simp) HS6 ?_
      refine held_take (i := 15) (d := 23) (v := .string (a ++ b)) rfl rfl (by kernel_rfl) (by kernel_rfl) (by kernel_rfl) (by kernel_rfl) (fun wx hS => by go_simp) HS6 ?_
      refine held_take (i := 17) (d := 25) (v := .string (a ++ b ++ s)) rfl rfl (by kernel_rfl) (by kernel_rfl) (by kernel_rfl) (by kernel_rfl) (fun wx hS => by go_simp) HS6 ?_
      refine held_take (i := 18) (d := 2) (v := .string (a ++ b ++ s)) rfl rfl (by kernel_rfl) (by kernel_rfl) (by kernel_rfl) (by kernel_rfl) (fun wx hS => by go_simp) HS6 ?_
      refine wpAnyH_done (by kernel_rfl) (NoPanic.normal ?_) _
      go_wp2
      go_ret
      exact ⟨by rw [HF.out]; rfl, HS6.out.1⟩

set_option maxHeartbeats 2000000 in
theorem fnExactFrameOf_walk (s : ByteArray) (w : World) (hs : s.size ≤ maxLen) (hT : TabsC w) :
    Calls Tryd.prog 3 #[.string s] w fun x w' => x = .returned (.bool true) ∧ Below w.heap.size w w' := by
  have HT := Lib.hid hT
  have HS := Lib.hid hs
  unfold maxLen at hs
  clear hT
  by_cases hbig : (1048576 : Int) < (s.size : Int)
  · go_enter Tryd.func3, Tryd.ntmps3
    go_wp2
    go_ret
    exact ⟨rfl, Below.refl _ _⟩
  obtain ⟨f, hf⟩ : ∃ f, frTx s = f := ⟨_, rfl⟩
  have HF := Lib.hid hf
  clear hf
  go_enter Tryd.func3, Tryd.ntmps3
  go_wp2_with fail
  refine (sframeof_any s _ HS.out).mono ?_
  rw [HF.out]
  rintro e w1 ⟨rfl, hB⟩
  have HB := Lib.hid hB
  clear hB
  go_wp2_with fail
  refine (frameof_any s _ HS.out (HT.out.keep HB.out)).mono ?_
  rw [HF.out]
  rintro e w2 ⟨rfl, hB⟩
  have HB := Lib.hid (below_via HB.out hB)
  clear hB
  go_wp2
  go_ret
  exact ⟨rfl, HB.out⟩
end Go.Proofs.YthndoimblfccbaaDoor
