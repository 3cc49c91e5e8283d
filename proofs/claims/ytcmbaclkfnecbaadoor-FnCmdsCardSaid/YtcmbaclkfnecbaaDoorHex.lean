
/- The data of a command as digits: what the program and its model write. Only new blocks are made. -/
import Derived.Test.YtcmbaclkfnecbaaDoorMg2
import Derived.Test.YtcmbaclkfnecbaaDoorMg3
import Derived.Test.YtcmbaclkfnecbaaDoorHeld
import Derived.Test.YtcmbaclkfnecbaaDoorTxt
import Derived.Deep.AppendLies
import Derived.Deep.RegionLaw
import Derived.StillTailTactics
namespace Go.Proofs.YtcmbaclkfnecbaaDoor
open Go.ChangeShapes Go.WideShapes Go.ChangeAt Go.RowKit
set_option linter.unusedVariables false
set_option maxRecDepth 100000

theorem hex_fin : ∀ i : Fin 16, ((⟨#[48, 49, 50, 51, 52, 53, 54, 55, 56, 57, 97, 98, 99, 100, 101, 102]⟩ : ByteArray)[i.val]'(by have := i.isLt; exact this)).toNat = (hexD i.val).toNat := by decide
theorem hex_at (x : Int) (h0 : 0 ≤ x) (h1 : x < 16) (h : x.toNat < (⟨#[48, 49, 50, 51, 52, 53, 54, 55, 56, 57, 97, 98, 99, 100, 101, 102]⟩ : ByteArray).size) : ((((⟨#[48, 49, 50, 51, 52, 53, 54, 55, 56, 57, 97, 98, 99, 100, 101, 102]⟩ : ByteArray)[x.toNat]'h).toNat : Nat) : Int) = hexD x.toNat := by
  have h2 := hex_fin ⟨x.toNat, by omega⟩
  have h3 := hexD_bd x.toNat (by omega)
  simp only at h2
  rw [h2]
  omega
theorem hex_nat (x : Nat) (h1 : x < 16) (h : x < (⟨#[48, 49, 50, 51, 52, 53, 54, 55, 56, 57, 97, 98, 99, 100, 101, 102]⟩ : ByteArray).size) : ((((⟨#[48, 49, 50, 51, 52, 53, 54, 55, 56, 57, 97, 98, 99, 100, 101, 102]⟩ : ByteArray)[x]'h).toNat : Nat) : Int) = hexD x := by
  have h2 := hex_fin ⟨x, h1⟩
  have h3 := hexD_bd x h1
  simp only at h2
  rw [h2]
  omega
theorem and_fin : ∀ c : Fin 256, bits BinOp.and IntKind.u8 ((c.val : Nat) : Int) 15 = ((c.val : Nat) : Int) % 16 := by decide +kernel
theorem and15 (n : Nat) (h : n < 256) : bits BinOp.and IntKind.u8 ((n : Nat) : Int) 15 = ((n : Nat) : Int) % 16 := and_fin ⟨n, h⟩
theorem HexSt.below2 {w wr w1 : World} {v : Value} {n : Nat} {X : List Int} (h : HexSt w wr v n X) (hB : Below wr.heap.size wr w1) : HexSt w w1 v n X := ⟨own_below h.own hB, h.length, below_via h.below hB⟩

set_option maxHeartbeats 4000000 in
theorem l7hex_any (s : ByteArray) (w : World) (hs : s.size ≤ 30000) : Calls Tryd.prog 74 #[.string s] w (MadeTx (dataB s) w) := by
  obtain ⟨i0, hi, hz0, hz1, hz2⟩ := infoByteX
  go_enter Tryd.func74, Tryd.ntmps74
  go_wp2
  go_loopw [3, 4] (fun v i wr => ∃ (k : Nat) (q : Option Addr) (cp : Nat), k ≤ s.size ∧ i = .int .i64 k ∧ v = .slice q (2 * k) cp ∧ Hid (HexSt w wr (.slice q (2 * k) cp) (2 * k) (hexTo s k))) (fun _ i _ => s.size - (intOf i).toNat)
  case atStart => exact ⟨0, _, _, Nat.zero_le _, rfl, rfl, ⟨World.ownsRow_lit w #[] 0 (Nat.le_refl _) (Nat.zero_le _) rfl, rfl, below_alloc (Below.refl _ _) _⟩⟩
  case round =>
    obtain ⟨k, q, cp, hk, rfl, rfl, HS⟩ := hrel
    by_cases hlt : k < s.size
    · have hi0 : (0 : Int) ≤ (k : Int) := by omega
      have hi1 : (k : Int) < (s.size : Int) := by omega
      obtain ⟨c, hc⟩ : ∃ c : Nat, s[k].toNat = c := ⟨_, rfl⟩
      have hc8 : c < 256 := by rw [← hc]; exact s[k].toNat_lt
      have HCC := Lib.hid hc
      have hq0 : (0 : Int) ≤ (c : Int) / 16 := by omega
      have hq1 : (c : Int) / 16 < 16 := by omega
      have hand := and15 c hc8
      have hr0 : (0 : Int) ≤ (c : Int) % 16 := by omega
      have hr1 : (c : Int) % 16 < 16 := by omega
      have hx1 := hex_at ((c : Int) / 16) hq0 hq1
      have hx2 := hex_at ((c : Int) % 16) hr0 hr1
      have e1 : ((c : Int) / 16).toNat = c / 16 := by omega
      have e2 : ((c : Int) % 16).toNat = c % 16 := by omega
      rw [e1] at hx1
      rw [e2] at hx2
      obtain ⟨N, hN⟩ : ∃ N, 2 * k = N := ⟨_, rfl⟩
      have hNb : N ≤ 60000 := by omega
      rw [hN] at HS ⊢
      have HN := Lib.hid hN
      clear hN
      go_wp2_with fail
      refine wp_region_noPanic ?_
      have HS2 := Lib.hid (HS.out.below2 (Below.refl _ _).drew)
      refine wp_region_held_drew (S := (fun w' => Hid (Below w.heap.size w w'))) (by kernel_rfl) (Lib.hid HS2.out.below) (fun HS => ?_)
      refine held_take (i := 0) (d := 12) (v := .slice q N cp) rfl rfl (by kernel_rfl) (by kernel_rfl) (by kernel_rfl) (by kernel_rfl) (fun wx hS => by go_simp) HS ?_
      refine held_take (i := 1) (d := 13) (v := .string s) rfl rfl (by kernel_rfl) (by kernel_rfl) (by kernel_rfl) (by kernel_rfl) (fun wx hS => by go_simp) HS ?_
      refine held_take (i := 2) (d := 14) (v := .int .i64 (k : Int)) rfl rfl (by kernel_rfl) (by kernel_rfl) (by kernel_rfl) (by kernel_rfl) (fun wx hS => by go_simp) HS ?_
      refine held_take (i := 3) (d := 15) (v := .int .u8 (c : Int)) rfl rfl (by kernel_rfl) (by kernel_rfl) (by kernel_rfl) (by kernel_rfl) (fun wx hS => by go_simp) HS ?_
      refine held_take (i := 4) (d := 16) (v := .int .u8 ((c : Int) / 16)) rfl rfl (by kernel_rfl) (by kernel_rfl) (by kernel_rfl) (by kernel_rfl) (fun wx hS => by go_simp) HS ?_
      refine held_take (i := 5) (d := 17) (v := .int .u8 (hexD (c / 16))) rfl rfl (by kernel_rfl) (by kernel_rfl) (by kernel_rfl) (by kernel_rfl) (fun wx hS => by go_simp) HS ?_
      refine held_take (i := 6) (d := 18) (v := .string s) rfl rfl (by kernel_rfl) (by kernel_rfl) (by kernel_rfl) (by kernel_rfl) (fun wx hS => by go_simp) HS ?_
      refine held_take (i := 7) (d := 19) (v := .int .i64 (k : Int)) rfl rfl (by kernel_rfl) (by kernel_rfl) (by kernel_rfl) (by kernel_rfl) (fun wx hS => by go_simp) HS ?_
      refine held_take (i := 8) (d := 20) (v := .int .u8 (c : Int)) rfl rfl (by kernel_rfl) (by kernel_rfl) (by kernel_rfl) (by kernel_rfl) (fun wx hS => by go_simp) HS ?_
      refine held_take (i := 9) (d := 21) (v := .int .u8 ((c : Int) % 16)) rfl rfl (by kernel_rfl) (by kernel_rfl) (by kernel_rfl) (by kernel_rfl) (fun wx hS => by go_simp) HS ?_
      refine held_take (i := 10) (d := 22) (v := .int .u8 (hexD (c % 16))) rfl rfl (by kernel_rfl) (by kernel_rfl) (by kernel_rfl) (by kernel_rfl) (fun wx hS => by go_simp) HS ?_
      obtain ⟨w2, hw2⟩ : ∃ w2, wr.drew = w2 := ⟨_, rfl⟩
      have HW2 := Lib.hid hw2
      rw [hw2] at HS HS2 ⊢
      clear hw2
      refine wpAnyH_ready (rs := [11]) (by kernel_rfl) (by simp) (AllReadyH.cons rfl (fun K hK => ?_) AllReadyH.nil)
      go_simp
      refine hK.out _ _ (Lib.hid (below_alloc HS.out _)) (fun HS => ?_)
      clear hK K
      refine wpAnyH_ready (rs := [12]) (by kernel_rfl) (by simp) (AllReadyH.cons rfl (fun K hK => ?_) AllReadyH.nil)
      refine step_append_lies _ rfl (.tmp 12) (.tmp 23) 22 rfl w.heap.size 5 i0 _ 1 1 Tryd.underlying22 hi hz0 hz1 hz2 rfl (by decide) (.slice q N cp) N _ rfl (HS2.out.own.alloc _) ⟨w2.heap.size, 0, none⟩ 2 2 [.int .u8 (hexD (c / 16)), .int .u8 (hexD (c % 16))] rfl rfl (two_new w2 _ _ _) (by intro u hu; simp at hu; rcases hu with rfl | rfl <;> rfl) (by decide) (by unfold maxLen; omega) (by omega) (Nat.le_trans HS2.out.below.size (by simp)) _ rfl ?_
      intro g cap w1 hown hgrow hat hlt9
      have HB1 := Lib.hid ((below_alloc HS2.out.below _).grown hgrow (below_alloc HS2.out.below _).size (fun j hj => (HS2.out.own.lt j hj).1))
      have HO1 := Lib.hid hown
      clear hown hgrow hat hlt9
      refine hK.out _ _ (Lib.hid HB1.out) (fun HS => ?_)
      clear hK K
      refine held_take (i := 13) (d := 3) (v := .slice (some ⟨g, 0, none⟩) (N + 2) cap) rfl rfl (by kernel_rfl) (by kernel_rfl) (by kernel_rfl) (by kernel_rfl) (fun wx hS => by go_simp) HS ?_
      refine wpAnyH_done (by kernel_rfl) (NoPanic.normal ?_) _
      have HN9 := Lib.hid (show HexSt w w1 (.slice (some ⟨g, 0, none⟩) (N + 2) cap) (N + 2) (hexTo s (k + 1)) by
        have h1 := HS2.out.add (Y := [hexD (c / 16), hexD (c % 16)]) HO1.out HB1.out
        show HexSt w w1 _ _ (hexTo s k ++ [hexD (byteN s k / 16), hexD (byteN s k % 16)])
        rw [byteN_at hlt, HCC.out]
        exact h1)
      have eN : N + 2 = 2 * (k + 1) := by have := HN.out; omega
      rw [eN] at HN9 ⊢
      clear hx1 hx2 hand
      go_wp2
      go_roundw
      case rel => exact ⟨k + 1, _, _, by omega, by go_num, rfl, HN9⟩
      case measure => simp [intOf]; omega
    · obtain rfl : k = s.size := by omega
      by_cases h0 : s.size = 0
      · have HD := Lib.hid (show dataB s = ⟨#[45]⟩ by unfold dataB; rw [if_pos h0])
        have hz : (s.size : Int) = 0 := by omega
        go_wp2
        go_ret
        exact ⟨congrArg (fun x => Ending.returned (.string x)) HD.out.symm, HS.out.below⟩
      · have HD := Lib.hid (show dataB s = strOfNums (hexTo s s.size) by unfold dataB; rw [if_neg h0])
        have hz : ¬ (s.size : Int) = 0 := by omega
        have hcv := HS.out.text (by omega)
        go_wp2
        go_ret
        exact ⟨congrArg (fun x => Ending.returned (.string x)) HD.out.symm, HS.out.below⟩

set_option maxHeartbeats 4000000 in
theorem datatext_any (s : ByteArray) (w : World) (hs : s.size ≤ 30000) : Calls Tryd.prog 51 #[.string s] w (MadeTx (dataB s) w) := by
  by_cases h0 : s.size = 0
  · have HD := Lib.hid (show dataB s = ⟨#[45]⟩ by unfold dataB; rw [if_pos h0])
    have hz := ba_nil h0
    clear h0
    go_enter Tryd.func51, Tryd.ntmps51
    go_wp2
    go_ret
    exact ⟨congrArg (fun x => Ending.returned (.string x)) HD.out.symm, Below.refl _ _⟩
  have hze := ba_some (s := s) (by omega)
  obtain ⟨i0, hi, hz0, hz1, hz2⟩ := infoByteX
  go_enter Tryd.func51, Tryd.ntmps51
  go_wp2_with (at_make; (refine wpList_make_own _ rfl _ _ 22 rfl w.heap.size 5 i0 _ 1 Tryd.underlying22 hi hz0 hz1 .i64 .i64 _ (2 * s.size) rfl rfl (by omega) (by rw [hz2]; omega) (by unfold maxLen; omega) (Nat.le_refl _) ?_); intro w1 hown hgrow; have HO := Lib.hid hown; have HG := Lib.hid ((Below.refl w.heap.size w).grown hgrow (Nat.le_refl _) (fun k hk => by cases hk)); clear hown hgrow)
  go_loopw [3, 4] (fun v i wr => ∃ (k : Nat) (q : Option Addr) (cp : Nat), k ≤ s.size ∧ i = .int .i64 k ∧ v = .slice q (2 * k) cp ∧ Hid (HexSt w wr (.slice q (2 * k) cp) (2 * k) (hexTo s k))) (fun _ i _ => s.size - (intOf i).toNat)
  case atStart => exact ⟨0, _, _, Nat.zero_le _, rfl, rfl, ⟨HO.out, rfl, HG.out⟩⟩
  case round =>
    obtain ⟨k, q, cp, hk, rfl, rfl, HS⟩ := hrel
    by_cases hlt : k < s.size
    · have hi0 : (0 : Int) ≤ (k : Int) := by omega
      have hi1 : (k : Int) < (s.size : Int) := by omega
      obtain ⟨c, hc⟩ : ∃ c : Nat, s[k].toNat = c := ⟨_, rfl⟩
      have hc8 : c < 256 := by rw [← hc]; exact s[k].toNat_lt
      have HCC := Lib.hid hc
      have hq0 : (0 : Int) ≤ (c : Int) / 16 := by omega
      have hq1 : (c : Int) / 16 < 16 := by omega
      have hand := and15 c hc8
      have hr0 : (0 : Int) ≤ (c : Int) % 16 := by omega
      have hr1 : (c : Int) % 16 < 16 := by omega
      have hx1 := hex_at ((c : Int) / 16) hq0 hq1
      have hx2 := hex_at ((c : Int) % 16) hr0 hr1
      have e1 : ((c : Int) / 16).toNat = c / 16 := by omega
      have e2 : ((c : Int) % 16).toNat = c % 16 := by omega
      rw [e1] at hx1
      rw [e2] at hx2
      obtain ⟨N, hN⟩ : ∃ N, 2 * k = N := ⟨_, rfl⟩
      have hNb : N ≤ 60000 := by omega
      rw [hN] at HS ⊢
      have HN := Lib.hid hN
      clear hN
      go_wp2_with fail
      refine wp_region_noPanic ?_
      have HS2 := Lib.hid (HS.out.below2 (Below.refl _ _).drew)
      refine wp_region_held_drew (S := (fun w' => Hid (Below w.heap.size w w'))) (by kernel_rfl) (Lib.hid HS2.out.below) (fun HS => ?_)
      refine held_take (i := 0) (d := 17) (v := .slice q N cp) rfl rfl (by kernel_rfl) (by kernel_rfl) (by kernel_rfl) (by kernel_rfl) (fun wx hS => by go_simp) HS ?_
      refine held_take (i := 1) (d := 18) (v := .string s) rfl rfl (by kernel_rfl) (by kernel_rfl) (by kernel_rfl) (by kernel_rfl) (fun wx hS => by go_simp) HS ?_
      refine held_take (i := 2) (d := 19) (v := .int .i64 (k : Int)) rfl rfl (by kernel_rfl) (by kernel_rfl) (by kernel_rfl) (by kernel_rfl) (fun wx hS => by go_simp) HS ?_
      refine held_take (i := 3) (d := 20) (v := .int .u8 (c : Int)) rfl rfl (by kernel_rfl) (by kernel_rfl) (by kernel_rfl) (by kernel_rfl) (fun wx hS => by go_simp) HS ?_
      refine held_take (i := 4) (d := 21) (v := .int .u8 ((c : Int) / 16)) rfl rfl (by kernel_rfl) (by kernel_rfl) (by kernel_rfl) (by kernel_rfl) (fun wx hS => by go_simp) HS ?_
      refine held_take (i := 5) (d := 22) (v := .int .u8 (hexD (c / 16))) rfl rfl (by kernel_rfl) (by kernel_rfl) (by kernel_rfl) (by kernel_rfl) (fun wx hS => by go_simp) HS ?_
      refine held_take (i := 6) (d := 23) (v := .string s) rfl rfl (by kernel_rfl) (by kernel_rfl) (by kernel_rfl) (by kernel_rfl) (fun wx hS => by go_simp) HS ?_
      refine held_take (i := 7) (d := 24) (v := .int .i64 (k : Int)) rfl rfl (by kernel_rfl) (by kernel_rfl) (by kernel_rfl) (by kernel_rfl) (fun wx hS => by go_simp) HS ?_
      refine held_take (i := 8) (d := 25) (v := .int .u8 (c : Int)) rfl rfl (by kernel_rfl) (by kernel_rfl) (by kernel_rfl) (by kernel_rfl) (fun wx hS => by go_simp) HS ?_
      refine held_take (i := 9) (d := 26) (v := .int .u8 ((c : Int) % 16)) rfl rfl (by kernel_rfl) (by kernel_rfl) (by kernel_rfl) (by kernel_rfl) (fun wx hS => by go_simp) HS ?_
      refine held_take (i := 10) (d := 27) (v := .int .u8 (hexD (c % 16))) rfl rfl (by kernel_rfl) (by kernel_rfl) (by kernel_rfl) (by kernel_rfl) (fun wx hS => by go_simp) HS ?_
      obtain ⟨w2, hw2⟩ : ∃ w2, wr.drew = w2 := ⟨_, rfl⟩
      have HW2 := Lib.hid hw2
      rw [hw2] at HS HS2 ⊢
      clear hw2
      refine wpAnyH_ready (rs := [11]) (by kernel_rfl) (by simp) (AllReadyH.cons rfl (fun K hK => ?_) AllReadyH.nil)
      go_simp
      refine hK.out _ _ (Lib.hid (below_alloc HS.out _)) (fun HS => ?_)
      clear hK K
      refine wpAnyH_ready (rs := [12]) (by kernel_rfl) (by simp) (AllReadyH.cons rfl (fun K hK => ?_) AllReadyH.nil)
      refine step_append_lies _ rfl (.tmp 17) (.tmp 28) 22 rfl w.heap.size 5 i0 _ 1 1 Tryd.underlying22 hi hz0 hz1 hz2 rfl (by decide) (.slice q N cp) N _ rfl (HS2.out.own.alloc _) ⟨w2.heap.size, 0, none⟩ 2 2 [.int .u8 (hexD (c / 16)), .int .u8 (hexD (c % 16))] rfl rfl (two_new w2 _ _ _) (by intro u hu; simp at hu; rcases hu with rfl | rfl <;> rfl) (by decide) (by unfold maxLen; omega) (by omega) (Nat.le_trans HS2.out.below.size (by simp)) _ rfl ?_
      intro g cap w1 hown hgrow hat hlt9
      have HB1 := Lib.hid ((below_alloc HS2.out.below _).grown hgrow (below_alloc HS2.out.below _).size (fun j hj => (HS2.out.own.lt j hj).1))
      have HO1 := Lib.hid hown
      clear hown hgrow hat hlt9
      refine hK.out _ _ (Lib.hid HB1.out) (fun HS => ?_)
      clear hK K
      refine held_take (i := 13) (d := 3) (v := .slice (some ⟨g, 0, none⟩) (N + 2) cap) rfl rfl (by kernel_rfl) (by kernel_rfl) (by kernel_rfl) (by kernel_rfl) (fun wx hS => by go_simp) HS ?_
      refine wpAnyH_done (by kernel_rfl) (NoPanic.normal ?_) _
      have HN9 := Lib.hid (show HexSt w w1 (.slice (some ⟨g, 0, none⟩) (N + 2) cap) (N + 2) (hexTo s (k + 1)) by
        have h1 := HS2.out.add (Y := [hexD (c / 16), hexD (c % 16)]) HO1.out HB1.out
        show HexSt w w1 _ _ (hexTo s k ++ [hexD (byteN s k / 16), hexD (byteN s k % 16)])
        rw [byteN_at hlt, HCC.out]
        exact h1)
      have eN : N + 2 = 2 * (k + 1) := by have := HN.out; omega
      rw [eN] at HN9 ⊢
      clear hx1 hx2 hand
      go_wp2
      go_roundw
      case rel => exact ⟨k + 1, _, _, by omega, by go_num, rfl, HN9⟩
      case measure => simp [intOf]; omega
    · obtain rfl : k = s.size := by omega
      have HD := Lib.hid (show dataB s = strOfNums (hexTo s s.size) by unfold dataB; rw [if_neg h0])
      have hcv := HS.out.text (by omega)
      go_wp2
      go_ret
      exact ⟨congrArg (fun x => Ending.returned (.string x)) HD.out.symm, HS.out.below⟩
end Go.Proofs.YtcmbaclkfnecbaaDoor
