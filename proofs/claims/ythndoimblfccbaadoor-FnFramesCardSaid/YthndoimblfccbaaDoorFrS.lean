
/- The model's TakeFrames, walked. Only new blocks are made. -/
import Derived.Test.YthndoimblfccbaaDoorFrP
import Derived.Test.YthndoimblfccbaaDoorOwn
import Derived.Test.YthndoimblfccbaaDoorCrcS
namespace Go.Proofs.YthndoimblfccbaaDoor
open Go.ChangeShapes Go.WideShapes Go.ChangeAt Go.RowKit
set_option linter.unusedVariables false
set_option maxRecDepth 100000

/-- What the first j of the four bytes say. -/
def szP (s : ByteArray) (e : Nat) : Nat → Nat
  | 0 => 0
  | j + 1 => 256 * szP s e j + byN s (e + j)
theorem szP_four (s : ByteArray) (e : Nat) : szP s e 4 = szN s e := by
  unfold szN
  simp only [szP, Nat.add_zero]
  omega
theorem szP_three (s : ByteArray) (e : Nat) : ∀ j, j < 4 → szP s e j < 16777216
  | 0, _ => by simp [szP]
  | 1, _ => by have := byN_lt s (e + 0); simp only [szP]; omega
  | 2, _ => by have := byN_lt s (e + 0); have := byN_lt s (e + 1); simp only [szP]; omega
  | 3, _ => by have := byN_lt s (e + 0); have := byN_lt s (e + 1); have := byN_lt s (e + 2); simp only [szP]; omega
  | n + 4, h => absurd h (by omega)
/-- What TakeFrames has gathered so far. -/
def TfSt (s : ByteArray) (w wr : World) (v : Value) (k : Nat) : Prop :=
  wr.ownsRow w.heap.size 9 1 v k ((List.range k).map (strK s)) ∧ Below w.heap.size w wr
theorem tf_end {s : ByteArray} {w wr : World} {v : Value} {k e : Nat} (hk : k ≤ (frL s).length) (he : endK s k = e) (hno : frA s e = none) (h : TfSt s w wr v k) : MadeTF s w (.returned (.tuple #[v, .int .i64 (e : Int)])) wr := by
  have hN := frL_none hk (by rw [he]; exact hno)
  rw [hN] at h he
  exact ⟨v, by rw [he], h.1, h.2⟩
theorem tf_below {s : ByteArray} {w wr w1 : World} {v : Value} {k : Nat} (h : TfSt s w wr v k) (hB : Below wr.heap.size wr w1) : TfSt s w w1 v k := ⟨own_below h.1 hB, below_via h.2 hB⟩

set_option maxHeartbeats 8000000 in
theorem stakeframes_any (s : ByteArray) (w : World) (hsz : s.size ≤ 1048576) : Calls Tryd.prog 8 #[.string s] w (MadeTF s w) := by
  obtain ⟨i0, hi, hz0, hz1, hz2⟩ := info_parts infoStr
  have HE := Lib.hid (fun k (hk : k ≤ (frL s).length) => endK_le s k hk)
  have HFEW := Lib.hid (frL_few s)
  obtain ⟨N, hN⟩ : ∃ N, (frL s).length = N := ⟨_, rfl⟩
  have HN := Lib.hid hN
  rw [hN] at HE HFEW
  clear hN
  go_enter Tryd.func8, Tryd.ntmps8
  go_wp2
  go_loopw [4, 5] (fun v i wr => ∃ (k e : Nat) (q : Option Addr) (cp : Nat), k ≤ N ∧ v = .slice q k cp ∧ i = .int .i64 (e : Int) ∧ Hid (endK s k = e) ∧ Hid (TfSt s w wr (.slice q k cp) k)) (fun _ i _ => s.size - (intOf i).toNat)
  case atStart => exact ⟨0, 0, _, _, Nat.zero_le _, rfl, rfl, endK_zero s, World.ownsRow_lit w #[] 0 (Nat.le_refl _) (Nat.zero_le _) rfl, below_alloc (Below.refl _ _) _⟩
  case round =>
    obtain ⟨k, e, q, cp, hk, rfl, rfl, HK, HS⟩ := hrel
    have he : e ≤ s.size := by rw [← HK.out]; exact HE.out k hk
    have hkb : k ≤ 131072 := by have := HFEW.out; omega
    have HKN := Lib.hid (show k ≤ (frL s).length by rw [HN.out]; exact hk)
    by_cases h8 : (e : Int) + 8 ≤ (s.size : Int)
    · go_wp2_with fail
      go_loopw [6, 7] (fun n i wr2 => ∃ j x : Nat, j ≤ 4 ∧ n = .int .i64 (x : Int) ∧ i = .int .i64 (j : Int) ∧ wr2 = wr ∧ Hid (szP s e j = x)) (fun _ i _ => 4 - (intOf i).toNat)
      case atStart => exact ⟨0, 0, by omega, rfl, rfl, rfl, Lib.hid rfl⟩
      case round =>
        obtain ⟨j, x, hj, rfl, rfl, rfl, HX⟩ := hrel
        by_cases hj4 : j < 4
        · have hx : x < 16777216 := by rw [← HX.out]; exact szP_three s e j hj4
          obtain ⟨m, hm⟩ : ∃ m : Nat, e + j = m := ⟨_, rfl⟩
          have hm1 : (e : Int) + (j : Int) = (m : Int) := by omega
          have hm2 : m < s.size := by omega
          obtain ⟨c, hc⟩ : ∃ c : Nat, s[m].toNat = c := ⟨_, rfl⟩
          have hc8 : c < 256 := by rw [← hc]; exact s[m].toNat_lt
          have HY := Lib.hid (show szP s e (j + 1) = 256 * x + c by simp only [szP]; rw [HX.out, hm, byN_at hm2, hc])
          clear HX hm
          go_wp2
          go_roundw
          case rel => exact ⟨j + 1, 256 * x + c, by omega, by go_num, by go_num, trivial, HY⟩
          case measure => simp [intOf]; omega
        · obtain rfl : j = 4 := by omega
          obtain ⟨n, rfl⟩ : ∃ n, n = x := ⟨_, rfl⟩
          have HSN := Lib.hid ((szP_four s e).symm.trans HX.out)
          have hnb : n < 4294967296 := by
            rw [← HSN.out]
            have := byN_lt s e
            have := byN_lt s (e + 1)
            have := byN_lt s (e + 2)
            have := byN_lt s (e + 3)
            unfold szN
            omega
          obtain ⟨e8, h8e⟩ : ∃ e8 : Nat, e8 = e + 8 := ⟨_, rfl⟩
          obtain ⟨en, hen⟩ : ∃ en : Nat, en = e8 + n := ⟨_, rfl⟩
          obtain ⟨e4, h4e⟩ : ∃ e4 : Nat, e4 = e + 4 := ⟨_, rfl⟩
          have i1 : (e : Int) + 8 = (e8 : Int) := by omega
          have i2 : (e8 : Int) + (n : Int) = (en : Int) := by omega
          have i3 : (e : Int) + 4 = (e4 : Int) := by omega
          have b1 : e8 ≤ 1048584 := by omega
          have b2 : en ≤ 4296015880 := by omega
          have b3 : e4 ≤ 1048584 := by omega
          have w1 : IntKind.i64.wrap (e8 : Int) = (e8 : Int) := wraps_i64 _ (by omega) (by omega)
          have w2 : IntKind.i64.wrap (en : Int) = (en : Int) := wraps_i64 _ (by omega) (by omega)
          have w3 : IntKind.i64.wrap (e4 : Int) = (e4 : Int) := wraps_i64 _ (by omega) (by omega)
          have HE8 := Lib.hid h8e
          have HEN := Lib.hid hen
          have HE4 := Lib.hid h4e
          clear h8e hen h4e HX hj
          go_wp2_with fail
          by_cases hbig : (100000 : Int) < (n : Int)
          · skip
            have HF := Lib.hid (frA_no HSN.out (fun h => by omega))
            refine wp_region_noPanic ?_
            obtain ⟨v0, hv0⟩ : ∃ x, wr.drew = x := ⟨_, rfl⟩
            have HV := Lib.hid (show Below wr.heap.size wr v0 from by rw [← hv0]; exact below_drewN (Below.refl _ _) 1)
            refine wp_region_held_drew (S := (fun w' => Hid (Below wr.heap.size wr w'))) (by kernel_rfl) (by rw [hv0]; exact Lib.hid HV.out) (fun HS3 => ?_)
            rw [hv0] at HS3 ⊢
            clear hv0
            refine held_take (i := 0) (d := 27) (v := .int .i64 (n : Int)) rfl rfl (by kernel_rfl) (by kernel_rfl) (by kernel_rfl) (by kernel_rfl) (fun wx hS => by go_simp) HS3 ?_
            refine held_take (i := 1) (d := 28) (v := .bool true) rfl rfl (by kernel_rfl) (by kernel_rfl) (by kernel_rfl) (by kernel_rfl) (fun wx hS => by go_simp) HS3 ?_
            refine held_take (i := 2) (d := 29) (v := .bool true) rfl rfl (by kernel_rfl) (by kernel_rfl) (by kernel_rfl) (by kernel_rfl) (fun wx hS => by go_simp) HS3 ?_
            refine held_skip (i := 3) (d := 30) rfl rfl (by kernel_rfl) (by kernel_rfl) (by kernel_rfl) (by kernel_rfl) HS3 ?_
            refine held_skip (i := 4) (d := 31) rfl rfl (by kernel_rfl) (by kernel_rfl) (by kernel_rfl) (by kernel_rfl) HS3 ?_
            refine held_skip (i := 5) (d := 32) rfl rfl (by kernel_rfl) (by kernel_rfl) (by kernel_rfl) (by kernel_rfl) HS3 ?_
            refine held_skip (i := 6) (d := 33) rfl rfl (by kernel_rfl) (by kernel_rfl) (by kernel_rfl) (by kernel_rfl) HS3 ?_
            refine held_skip (i := 7) (d := 34) rfl rfl (by kernel_rfl) (by kernel_rfl) (by kernel_rfl) (by kernel_rfl) HS3 ?_
            refine held_skip (i := 8) (d := 35) rfl rfl (by kernel_rfl) (by kernel_rfl) (by kernel_rfl) (by kernel_rfl) HS3 ?_
            refine held_skip (i := 9) (d := 36) rfl rfl (by kernel_rfl) (by kernel_rfl) (by kernel_rfl) (by kernel_rfl) HS3 ?_
            refine held_take (i := 10) (d := 37) (v := .bool true) rfl rfl (by kernel_rfl) (by kernel_rfl) (by kernel_rfl) (by kernel_rfl) (fun wx hS => by go_simp) HS3 ?_
            refine held_take (i := 11) (d := 38) (v := .bool true) rfl rfl (by kernel_rfl) (by kernel_rfl) (by kernel_rfl) (by kernel_rfl) (fun wx hS => by go_simp) HS3 ?_
            refine held_skip (i := 12) (d := 39) rfl rfl (by kernel_rfl) (by kernel_rfl) (by kernel_rfl) (by kernel_rfl) HS3 ?_
            refine held_skip (i := 13) (d := 40) rfl rfl (by kernel_rfl) (by kernel_rfl) (by kernel_rfl) (by kernel_rfl) HS3 ?_
            refine held_skip (i := 14) (d := 41) rfl rfl (by kernel_rfl) (by kernel_rfl) (by kernel_rfl) (by kernel_rfl) HS3 ?_
            refine held_skip (i := 15) (d := 42) rfl rfl (by kernel_rfl) (by kernel_rfl) (by kernel_rfl) (by kernel_rfl) HS3 ?_
            refine held_skip (i := 16) (d := 43) rfl rfl (by kernel_rfl) (by kernel_rfl) (by kernel_rfl) (by kernel_rfl) HS3 ?_
            refine held_skip (i := 17) (d := 44) rfl rfl (by kernel_rfl) (by kernel_rfl) (by kernel_rfl) (by kernel_rfl) HS3 ?_
            refine held_skip (i := 18) (d := 45) rfl rfl (by kernel_rfl) (by kernel_rfl) (by kernel_rfl) (by kernel_rfl) HS3 ?_
            refine held_skip (i := 19) (d := 46) rfl rfl (by kernel_rfl) (by kernel_rfl) (by kernel_rfl) (by kernel_rfl) HS3 ?_
            refine held_skip (i := 20) (d := 47) rfl rfl (by kernel_rfl) (by kernel_rfl) (by kernel_rfl) (by kernel_rfl) HS3 ?_
            refine held_skip (i := 21) (d := 48) rfl rfl (by kernel_rfl) (by kernel_rfl) (by kernel_rfl) (by kernel_rfl) HS3 ?_
            refine held_skip (i := 22) (d := 49) rfl rfl (by kernel_rfl) (by kernel_rfl) (by kernel_rfl) (by kernel_rfl) HS3 ?_
            refine held_skip (i := 23) (d := 50) rfl rfl (by kernel_rfl) (by kernel_rfl) (by kernel_rfl) (by kernel_rfl) HS3 ?_
            refine held_skip (i := 24) (d := 51) rfl rfl (by kernel_rfl) (by kernel_rfl) (by kernel_rfl) (by kernel_rfl) HS3 ?_
            refine held_skip (i := 25) (d := 52) rfl rfl (by kernel_rfl) (by kernel_rfl) (by kernel_rfl) (by kernel_rfl) HS3 ?_
            refine held_skip (i := 26) (d := 53) rfl rfl (by kernel_rfl) (by kernel_rfl) (by kernel_rfl) (by kernel_rfl) HS3 ?_
            refine held_skip (i := 27) (d := 54) rfl rfl (by kernel_rfl) (by kernel_rfl) (by kernel_rfl) (by kernel_rfl) HS3 ?_
            refine held_take (i := 28) (d := 55) (v := .bool true) rfl rfl (by kernel_rfl) (by kernel_rfl) (by kernel_rfl) (by kernel_rfl) (fun wx hS => by go_simp) HS3 ?_
            refine wpAnyH_done (by kernel_rfl) (NoPanic.normal ?_) _
            simp only [List.setIfInBounds_toArray, List.set_cons_zero, List.set_cons_succ]
            clear HS3
            go_wp2
            go_ret2
            exact tf_end HKN.out HK.out HF.out (tf_below HS.out HV.out)
          by_cases hlong : (s.size : Int) < (en : Int)
          · skip
            have HF := Lib.hid (frA_no HSN.out (fun h => by have := HEN.out; have := HE8.out; omega))
            refine wp_region_noPanic ?_
            obtain ⟨v0, hv0⟩ : ∃ x, wr.drew = x := ⟨_, rfl⟩
            have HV := Lib.hid (show Below wr.heap.size wr v0 from by rw [← hv0]; exact below_drewN (Below.refl _ _) 1)
            refine wp_region_held_drew (S := (fun w' => Hid (Below wr.heap.size wr w'))) (by kernel_rfl) (by rw [hv0]; exact Lib.hid HV.out) (fun HS3 => ?_)
            rw [hv0] at HS3 ⊢
            clear hv0
            refine held_take (i := 0) (d := 27) (v := .int .i64 (n : Int)) rfl rfl (by kernel_rfl) (by kernel_rfl) (by kernel_rfl) (by kernel_rfl) (fun wx hS => by go_simp) HS3 ?_
            refine held_take (i := 1) (d := 28) (v := .bool false) rfl rfl (by kernel_rfl) (by kernel_rfl) (by kernel_rfl) (by kernel_rfl) (fun wx hS => by go_simp) HS3 ?_
            refine held_take (i := 2) (d := 29) (v := .bool false) rfl rfl (by kernel_rfl) (by kernel_rfl) (by kernel_rfl) (by kernel_rfl) (fun wx hS => by go_simp) HS3 ?_
            refine held_take (i := 3) (d := 30) (v := .int .i64 (e : Int)) rfl rfl (by kernel_rfl) (by kernel_rfl) (by kernel_rfl) (by kernel_rfl) (fun wx hS => by go_simp) HS3 ?_
            refine held_take (i := 4) (d := 31) (v := .int .i64 (e8 : Int)) rfl rfl (by kernel_rfl) (by kernel_rfl) (by kernel_rfl) (by kernel_rfl) (fun wx hS => by go_simp) HS3 ?_
            refine held_take (i := 5) (d := 32) (v := .int .i64 (n : Int)) rfl rfl (by kernel_rfl) (by kernel_rfl) (by kernel_rfl) (by kernel_rfl) (fun wx hS => by go_simp) HS3 ?_
            refine held_take (i := 6) (d := 33) (v := .int .i64 (en : Int)) rfl rfl (by kernel_rfl) (by kernel_rfl) (by kernel_rfl) (by kernel_rfl) (fun wx hS => by go_simp) HS3 ?_
            refine held_take (i := 7) (d := 34) (v := .string s) rfl rfl (by kernel_rfl) (by kernel_rfl) (by kernel_rfl) (by kernel_rfl) (fun wx hS => by go_simp) HS3 ?_
            refine held_take (i := 8) (d := 35) (v := .int .i64 (s.size : Int)) rfl rfl (by kernel_rfl) (by kernel_rfl) (by kernel_rfl) (by kernel_rfl) (fun wx hS => by go_simp) HS3 ?_
            refine held_take (i := 9) (d := 36) (v := .bool true) rfl rfl (by kernel_rfl) (by kernel_rfl) (by kernel_rfl) (by kernel_rfl) (fun wx hS => by go_simp) HS3 ?_
            refine held_take (i := 10) (d := 37) (v := .bool true) rfl rfl (by kernel_rfl) (by kernel_rfl) (by kernel_rfl) (by kernel_rfl) (fun wx hS => by go_simp) HS3 ?_
            refine held_take (i := 11) (d := 38) (v := .bool true) rfl rfl (by kernel_rfl) (by kernel_rfl) (by kernel_rfl) (by kernel_rfl) (fun wx hS => by go_simp) HS3 ?_
            refine held_skip (i := 12) (d := 39) rfl rfl (by kernel_rfl) (by kernel_rfl) (by kernel_rfl) (by kernel_rfl) HS3 ?_
            refine held_skip (i := 13) (d := 40) rfl rfl (by kernel_rfl) (by kernel_rfl) (by kernel_rfl) (by kernel_rfl) HS3 ?_
            refine held_skip (i := 14) (d := 41) rfl rfl (by kernel_rfl) (by kernel_rfl) (by kernel_rfl) (by kernel_rfl) HS3 ?_
            refine held_skip (i := 15) (d := 42) rfl rfl (by kernel_rfl) (by kernel_rfl) (by kernel_rfl) (by kernel_rfl) HS3 ?_
            refine held_skip (i := 16) (d := 43) rfl rfl (by kernel_rfl) (by kernel_rfl) (by kernel_rfl) (by kernel_rfl) HS3 ?_
            refine held_skip (i := 17) (d := 44) rfl rfl (by kernel_rfl) (by kernel_rfl) (by kernel_rfl) (by kernel_rfl) HS3 ?_
            refine held_skip (i := 18) (d := 45) rfl rfl (by kernel_rfl) (by kernel_rfl) (by kernel_rfl) (by kernel_rfl) HS3 ?_
            refine held_skip (i := 19) (d := 46) rfl rfl (by kernel_rfl) (by kernel_rfl) (by kernel_rfl) (by kernel_rfl) HS3 ?_
            refine held_skip (i := 20) (d := 47) rfl rfl (by kernel_rfl) (by kernel_rfl) (by kernel_rfl) (by kernel_rfl) HS3 ?_
            refine held_skip (i := 21) (d := 48) rfl rfl (by kernel_rfl) (by kernel_rfl) (by kernel_rfl) (by kernel_rfl) HS3 ?_
            refine held_skip (i := 22) (d := 49) rfl rfl (by kernel_rfl) (by kernel_rfl) (by kernel_rfl) (by kernel_rfl) HS3 ?_
            refine held_skip (i := 23) (d := 50) rfl rfl (by kernel_rfl) (by kernel_rfl) (by kernel_rfl) (by kernel_rfl) HS3 ?_
            refine held_skip (i := 24) (d := 51) rfl rfl (by kernel_rfl) (by kernel_rfl) (by kernel_rfl) (by kernel_rfl) HS3 ?_
            refine held_skip (i := 25) (d := 52) rfl rfl (by kernel_rfl) (by kernel_rfl) (by kernel_rfl) (by kernel_rfl) HS3 ?_
            refine held_skip (i := 26) (d := 53) rfl rfl (by kernel_rfl) (by kernel_rfl) (by kernel_rfl) (by kernel_rfl) HS3 ?_
            refine held_skip (i := 27) (d := 54) rfl rfl (by kernel_rfl) (by kernel_rfl) (by kernel_rfl) (by kernel_rfl) HS3 ?_
            refine held_take (i := 28) (d := 55) (v := .bool true) rfl rfl (by kernel_rfl) (by kernel_rfl) (by kernel_rfl) (by kernel_rfl) (fun wx hS => by go_simp) HS3 ?_
            refine wpAnyH_done (by kernel_rfl) (NoPanic.normal ?_) _
            simp only [List.setIfInBounds_toArray, List.set_cons_zero, List.set_cons_succ]
            clear HS3
            go_wp2
            go_ret2
            exact tf_end HKN.out HK.out HF.out (tf_below HS.out HV.out)
          obtain ⟨d, hd⟩ : ∃ d, s.extract (e + 8) (e + 8 + n) = d := ⟨_, rfl⟩
          have hds : d.size = n := by rw [← hd, ByteArray.size_extract]; omega
          have HD := Lib.hid hd
          obtain ⟨b, hb⟩ : ∃ b, okN s e n = b := ⟨_, rfl⟩
          have HOK := Lib.hid hb
          obtain ⟨E, hEd⟩ : ∃ E, s.extract (e + 4) (e + 8) = E := ⟨_, rfl⟩
          obtain ⟨H, hHd⟩ : ∃ H, strOfNums (smN (crcZ d : Int)) = H := ⟨_, rfl⟩
          have hcmp : (H.toList == E.toList) = b := by rw [← hHd, ← hEd, ← hb, ← hd]; rfl
          have HSUM := Lib.hid (fun wx => l12sum_any d wx (by unfold maxLen; omega))
          rw [hHd] at HSUM
          have hsl : ∀ wx, (Instr.slice 9 (.string s) (some (.int .i64 (e8 : Int))) (some (.int .i64 (en : Int))) none).run Tryd.prog wx = .ok (.string d) wx := fun wx => by
            have h := run_slice_string (P := Tryd.prog) wx 9 s .i64 .i64 (e8 : Int) (en : Int) Tryd.underlying9 (by omega) (by omega) (by omega)
            rw [h, ← hd, show ((e8 : Nat) : Int).toNat = e + 8 by omega, show ((en : Nat) : Int).toNat = e + 8 + n by omega]
          have hs8 : ∀ wx, (Instr.slice 9 (.string s) (some (.int .i64 (e4 : Int))) (some (.int .i64 (e8 : Int))) none).run Tryd.prog wx = .ok (.string E) wx := fun wx => by
            have h := run_slice_string (P := Tryd.prog) wx 9 s .i64 .i64 (e4 : Int) (e8 : Int) Tryd.underlying9 (by omega) (by omega) (by omega)
            rw [h, ← hEd, show ((e8 : Nat) : Int).toNat = e + 8 by omega, show ((e4 : Nat) : Int).toNat = e + 4 by omega]
          clear hd hb hEd hHd
          refine wp_region_noPanic ?_
          obtain ⟨v0, hv0⟩ : ∃ x, wr.drew = x := ⟨_, rfl⟩
          have HV := Lib.hid (show Below wr.heap.size wr v0 from by rw [← hv0]; exact below_drewN (Below.refl _ _) 1)
          refine wp_region_held_drew (S := (fun w' => Hid (Below wr.heap.size wr w'))) (by kernel_rfl) (by rw [hv0]; exact Lib.hid HV.out) (fun HS3 => ?_)
          rw [hv0] at HS3 ⊢
          clear hv0
          refine held_take (i := 0) (d := 27) (v := .int .i64 (n : Int)) rfl rfl (by kernel_rfl) (by kernel_rfl) (by kernel_rfl) (by kernel_rfl) (fun wx hS => by go_simp) HS3 ?_
          refine held_take (i := 1) (d := 28) (v := .bool false) rfl rfl (by kernel_rfl) (by kernel_rfl) (by kernel_rfl) (by kernel_rfl) (fun wx hS => by go_simp) HS3 ?_
          refine held_take (i := 2) (d := 29) (v := .bool false) rfl rfl (by kernel_rfl) (by kernel_rfl) (by kernel_rfl) (by kernel_rfl) (fun wx hS => by go_simp) HS3 ?_
          refine held_take (i := 3) (d := 30) (v := .int .i64 (e : Int)) rfl rfl (by kernel_rfl) (by kernel_rfl) (by kernel_rfl) (by kernel_rfl) (fun wx hS => by go_simp) HS3 ?_
          refine held_take (i := 4) (d := 31) (v := .int .i64 (e8 : Int)) rfl rfl (by kernel_rfl) (by kernel_rfl) (by kernel_rfl) (by kernel_rfl) (fun wx hS => by go_simp) HS3 ?_
          refine held_take (i := 5) (d := 32) (v := .int .i64 (n : Int)) rfl rfl (by kernel_rfl) (by kernel_rfl) (by kernel_rfl) (by kernel_rfl) (fun wx hS => by go_simp) HS3 ?_
          refine held_take (i := 6) (d := 33) (v := .int .i64 (en : Int)) rfl rfl (by kernel_rfl) (by kernel_rfl) (by kernel_rfl) (by kernel_rfl) (fun wx hS => by go_simp) HS3 ?_
          refine held_take (i := 7) (d := 34) (v := .string s) rfl rfl (by kernel_rfl) (by kernel_rfl) (by kernel_rfl) (by kernel_rfl) (fun wx hS => by go_simp) HS3 ?_
          refine held_take (i := 8) (d := 35) (v := .int .i64 (s.size : Int)) rfl rfl (by kernel_rfl) (by kernel_rfl) (by kernel_rfl) (by kernel_rfl) (fun wx hS => by go_simp) HS3 ?_
          refine held_take (i := 9) (d := 36) (v := .bool false) rfl rfl (by kernel_rfl) (by kernel_rfl) (by kernel_rfl) (by kernel_rfl) (fun wx hS => by go_simp) HS3 ?_
          refine held_take (i := 10) (d := 37) (v := .bool false) rfl rfl (by kernel_rfl) (by kernel_rfl) (by kernel_rfl) (by kernel_rfl) (fun wx hS => by go_simp) HS3 ?_
          refine held_take (i := 11) (d := 38) (v := .bool false) rfl rfl (by kernel_rfl) (by kernel_rfl) (by kernel_rfl) (by kernel_rfl) (fun wx hS => by go_simp) HS3 ?_
          refine held_take (i := 12) (d := 39) (v := .string s) rfl rfl (by kernel_rfl) (by kernel_rfl) (by kernel_rfl) (by kernel_rfl) (fun wx hS => by go_simp) HS3 ?_
          refine held_take (i := 13) (d := 40) (v := .int .i64 (e : Int)) rfl rfl (by kernel_rfl) (by kernel_rfl) (by kernel_rfl) (by kernel_rfl) (fun wx hS => by go_simp) HS3 ?_
          refine held_take (i := 14) (d := 41) (v := .int .i64 (e8 : Int)) rfl rfl (by kernel_rfl) (by kernel_rfl) (by kernel_rfl) (by kernel_rfl) (fun wx hS => by go_simp) HS3 ?_
          refine held_take (i := 15) (d := 42) (v := .int .i64 (e : Int)) rfl rfl (by kernel_rfl) (by kernel_rfl) (by kernel_rfl) (by kernel_rfl) (fun wx hS => by go_simp) HS3 ?_
          refine held_take (i := 16) (d := 43) (v := .int .i64 (e8 : Int)) rfl rfl (by kernel_rfl) (by kernel_rfl) (by kernel_rfl) (by kernel_rfl) (fun wx hS => by go_simp) HS3 ?_
          refine held_take (i := 17) (d := 44) (v := .int .i64 (n : Int)) rfl rfl (by kernel_rfl) (by kernel_rfl) (by kernel_rfl) (by kernel_rfl) (fun wx hS => by go_simp) HS3 ?_
          refine held_take (i := 18) (d := 45) (v := .int .i64 (en : Int)) rfl rfl (by kernel_rfl) (by kernel_rfl) (by kernel_rfl) (by kernel_rfl) (fun wx hS => by go_simp) HS3 ?_
          refine held_take (i := 19) (d := 46) (v := .string d) rfl rfl (by kernel_rfl) (by kernel_rfl) (by kernel_rfl) (by kernel_rfl) (fun wx hS => by go_simp <;> (first | rfl | simp [hsl])) HS3 ?_
          refine held_take (i := 21) (d := 48) (v := .string s) rfl rfl (by kernel_rfl) (by kernel_rfl) (by kernel_rfl) (by kernel_rfl) (fun wx hS => by go_simp) HS3 ?_
          refine held_take (i := 22) (d := 49) (v := .int .i64 (e : Int)) rfl rfl (by kernel_rfl) (by kernel_rfl) (by kernel_rfl) (by kernel_rfl) (fun wx hS => by go_simp) HS3 ?_
          refine held_take (i := 23) (d := 50) (v := .int .i64 (e4 : Int)) rfl rfl (by kernel_rfl) (by kernel_rfl) (by kernel_rfl) (by kernel_rfl) (fun wx hS => by go_simp) HS3 ?_
          refine held_take (i := 24) (d := 51) (v := .int .i64 (e : Int)) rfl rfl (by kernel_rfl) (by kernel_rfl) (by kernel_rfl) (by kernel_rfl) (fun wx hS => by go_simp) HS3 ?_
          refine held_take (i := 25) (d := 52) (v := .int .i64 (e8 : Int)) rfl rfl (by kernel_rfl) (by kernel_rfl) (by kernel_rfl) (by kernel_rfl) (fun wx hS => by go_simp) HS3 ?_
          refine held_take (i := 26) (d := 53) (v := .string E) rfl rfl (by kernel_rfl) (by kernel_rfl) (by kernel_rfl) (by kernel_rfl) (fun wx hS => by go_simp <;> (first | rfl | simp [hs8])) HS3 ?_
          refine wpAnyH_ready (rs := [20]) (by kernel_rfl) (by simp) (AllReadyH.cons rfl (fun K hK => ?_) AllReadyH.nil)
          go_simp
          refine (HSUM.out _).mono ?_
          rintro e9 w2 ⟨rfl, hB⟩
          have HB2 := Lib.hid (below_via HV.out hB)
          clear hB
          refine hK.out _ _ (Lib.hid HB2.out) (fun HS3 => ?_)
          clear hK K
          refine held_take (i := 27) (d := 54) (v := .bool (!b)) rfl rfl (by kernel_rfl) (by kernel_rfl) (by kernel_rfl) (by kernel_rfl) (fun wx hS => by go_simp <;> (first | rfl | simp [hcmp])) HS3 ?_
          refine held_take (i := 28) (d := 55) (v := .bool (!b)) rfl rfl (by kernel_rfl) (by kernel_rfl) (by kernel_rfl) (by kernel_rfl) (fun wx hS => by go_simp) HS3 ?_
          refine wpAnyH_done (by kernel_rfl) (NoPanic.normal ?_) _
          simp only [List.setIfInBounds_toArray, List.set_cons_zero, List.set_cons_succ]
          clear HS3 HV
          cases b with
          | false =>
            have HF := Lib.hid (frA_no HSN.out (fun h => by rw [HOK.out] at h; exact absurd h.2.2.2 (by decide)))
            go_wp2
            go_ret2
            exact tf_end HKN.out HK.out HF.out (tf_below HS.out HB2.out)
          | true =>
            obtain ⟨hkn, hka⟩ := frL_some HKN.out (by rw [HK.out]; exact frA_go HSN.out (by omega) (by omega) (by omega) HOK.out)
            rw [HD.out] at hka
            have hfr : frAt s k = d := by unfold frAt; rw [List.getD_eq_getElem?_getD, hka]; rfl
            have HFR := Lib.hid hfr
            have HNX := Lib.hid (show endK s (k + 1) = e + 8 + n by rw [frAt_end hkn, HK.out, hfr, hds])
            have HKL := Lib.hid hkn
            clear hka hfr hkn
            have HS1 := Lib.hid (tf_below HS.out HB2.out)
            have HO := Lib.hid HS1.out.1
            clear HB2 HS
            go_wp2_with (at_builtin; (refine wpList_append_own _ rfl _ _ 24 rfl w.heap.size 9 i0 _ 1 16 Tryd.underlying24 hi hz0 hz1 hz2 rfl (by decide) _ _ _ rfl (HO.out.alloc _) ⟨w2.heap.size, 0, none⟩ 1 1 [.string d] rfl rfl (one_new _ _ _) (fun u hu => by simp at hu; subst hu; rfl) (by unfold maxLen; omega) (by omega) (Nat.le_trans HS1.out.2.size (by simp)) ?_); intro v' w3 hown1 hgrow hnil; have HO1 := Lib.hid hown1; have HG := Lib.hid hgrow; clear hown1 hgrow hnil)
            obtain ⟨q1, cp1, rfl⟩ := own_form HO1.out
            have HO2 := HO1
            go_roundw
            case rel =>
              refine ⟨k + 1, en, q1, cp1, ?_, rfl, ?_, Lib.hid (by rw [HNX.out, HEN.out, HE8.out]), Lib.hid ⟨?_, (HS1.out.2.alloc HS1.out.2.size _).grown HG.out (Nat.le_trans HS1.out.2.size (by simp)) (fun k hk => (HO.out.lt k hk).1)⟩⟩
              · have := HKL.out; rw [HN.out] at this; exact this
              · first | rfl | go_num
              · rw [List.range_succ, List.map_append]
                have hyk : [k].map (strK s) = [.string d] := by simp [strK, HFR.out]
                rw [hyk]
                exact HO1.out
            case measure => simp [intOf]; omega
    · have HF := Lib.hid (frA_no (s := s) (e := e) rfl (fun h => by omega))
      go_wp2
      go_ret2
      exact tf_end HKN.out HK.out HF.out HS.out
end Go.Proofs.YthndoimblfccbaaDoor
