
/- The program's frameAt. Only new blocks are made. -/
import Derived.Test.YthndoimblfccbaaDoorFrM
import Derived.Test.YthndoimblfccbaaDoorHeld
namespace Go.Proofs.YthndoimblfccbaaDoor
open Go.ChangeShapes Go.WideShapes Go.ChangeAt Go.RowKit
set_option linter.unusedVariables false
set_option maxRecDepth 100000

theorem wraps_i64 (n : Int) (h₀ : 0 ≤ n) (h₁ : n < 2 ^ 63) : IntKind.i64.wrap n = n := IntWalk.i64_in _ (by omega)
theorem or_join (i : Nat) (x y : Int) (hx₀ : 0 ≤ x) (hx : x % 2 ^ i = 0) (hx₁ : x < 1099511627776) (hy₀ : 0 ≤ y) (hy : y < 2 ^ i) (hy₁ : y < 1099511627776) : bits .or .i64 x y = x + y :=
  bits_join .i64 63 (by decide) wraps_i64 i x y hx₀ hx (by omega) hy₀ hy (by omega)
/-- What frameAt returns: the data, and whether there is such a frame; no data are told of where the form is none. -/
def MadeFr (t : ByteArray) (w : World) (e : Ending) (w' : World) : Prop :=
  ∃ d : ByteArray, e = .returned (.tuple #[.string d, .bool (frA t 0).isSome]) ∧ (∀ x, frA t 0 = some x → d = x) ∧ Below w.heap.size w w'
theorem fr_none {t : ByteArray} {w w' : World} (h : frA t 0 = none) (hB : Below w.heap.size w w') : MadeFr t w (.returned (.tuple #[.string ⟨#[]⟩, .bool false])) w' :=
  ⟨⟨#[]⟩, by rw [h]; rfl, (fun x h1 => by rw [h] at h1; cases h1), hB⟩

set_option maxHeartbeats 8000000 in
theorem frameat_any (t : ByteArray) (w : World) (ht : t.size ≤ 1048576) (hT : TabsC w) : Calls Tryd.prog 28 #[.string t] w (MadeFr t w) := by
  by_cases h8 : (t.size : Int) < 8
  · have HN := Lib.hid (frA_no (s := t) (e := 0) rfl (fun h => by omega))
    go_enter Tryd.func28, Tryd.ntmps28
    go_wp2
    go_ret2
    exact fr_none HN.out (Below.refl _ _)
  have k0 : 0 < t.size := by omega
  have k1 : 1 < t.size := by omega
  have k2 : 2 < t.size := by omega
  have k3 : 3 < t.size := by omega
  have q1 : ¬ (t.size : Int) ≤ 1 := by omega
  have q2 : ¬ (t.size : Int) ≤ 2 := by omega
  have q3 : ¬ (t.size : Int) ≤ 3 := by omega
  obtain ⟨b0, hb0⟩ : ∃ b, (t[0]'k0).toNat = b := ⟨_, rfl⟩
  have hl0 : b0 < 256 := by rw [← hb0]; exact UInt8.toNat_lt _
  have hw0 : IntKind.i64.wrap (b0 : Int) = (b0 : Int) := wraps_i64 _ (by omega) (by omega)
  obtain ⟨b1, hb1⟩ : ∃ b, (t[1]'k1).toNat = b := ⟨_, rfl⟩
  have hl1 : b1 < 256 := by rw [← hb1]; exact UInt8.toNat_lt _
  have hw1 : IntKind.i64.wrap (b1 : Int) = (b1 : Int) := wraps_i64 _ (by omega) (by omega)
  obtain ⟨b2, hb2⟩ : ∃ b, (t[2]'k2).toNat = b := ⟨_, rfl⟩
  have hl2 : b2 < 256 := by rw [← hb2]; exact UInt8.toNat_lt _
  have hw2 : IntKind.i64.wrap (b2 : Int) = (b2 : Int) := wraps_i64 _ (by omega) (by omega)
  obtain ⟨b3, hb3⟩ : ∃ b, (t[3]'k3).toNat = b := ⟨_, rfl⟩
  have hl3 : b3 < 256 := by rw [← hb3]; exact UInt8.toNat_lt _
  have hw3 : IntKind.i64.wrap (b3 : Int) = (b3 : Int) := wraps_i64 _ (by omega) (by omega)
  have hs0 : IntKind.i64.wrap ((b0 : Int) * 16777216) = (b0 : Int) * 16777216 := wraps_i64 _ (by omega) (by omega)
  have hs1 : IntKind.i64.wrap ((b1 : Int) * 65536) = (b1 : Int) * 65536 := wraps_i64 _ (by omega) (by omega)
  have hs2 : IntKind.i64.wrap ((b2 : Int) * 256) = (b2 : Int) * 256 := wraps_i64 _ (by omega) (by omega)
  have ho1 : bits .or .i64 ((b0 : Int) * 16777216) ((b1 : Int) * 65536) = (b0 : Int) * 16777216 + (b1 : Int) * 65536 := or_join 24 _ _ (by omega) (by omega) (by omega) (by omega) (by omega) (by omega)
  have ho2 : bits .or .i64 ((b0 : Int) * 16777216 + (b1 : Int) * 65536) ((b2 : Int) * 256) = (b0 : Int) * 16777216 + (b1 : Int) * 65536 + (b2 : Int) * 256 := or_join 16 _ _ (by omega) (by omega) (by omega) (by omega) (by omega) (by omega)
  obtain ⟨n, hn⟩ : ∃ n, szN t 0 = n := ⟨_, rfl⟩
  have hnb : n = b0 * 16777216 + b1 * 65536 + b2 * 256 + b3 := by
    rw [← hn]
    unfold szN
    rw [byN_at k0, byN_at k1, byN_at k2, byN_at k3, hb0, hb1, hb2, hb3]
  have ho3 : bits .or .i64 ((b0 : Int) * 16777216 + (b1 : Int) * 65536 + (b2 : Int) * 256) (b3 : Int) = (n : Int) := by
    rw [or_join 8 _ _ (by omega) (by omega) (by omega) (by omega) (by omega) (by omega)]
    omega
  have HN := Lib.hid hn
  have HNB := Lib.hid hnb
  clear hnb
  have HT := Lib.hid hT
  clear hT hn
  go_enter Tryd.func28, Tryd.ntmps28
  go_wp2_with fail
  go_quiet (fail)
  clear HNB ho1 ho2 ho3 hs0 hs1 hs2 hw0 hw1 hw2 hw3 hb0 hb1 hb2 hb3
  have HB1 := Lib.hid (below_drewN (Below.refl w.heap.size w) nq)
  obtain ⟨w1, hw1d⟩ : ∃ x, w.drewN nq = x := ⟨_, rfl⟩
  rw [hw1d] at HB1
  rw [hw1d]
  clear hw1d
  by_cases hbig : (100000 : Int) < (n : Int)
  · have HF := Lib.hid (frA_no HN.out (fun h => by omega))
    go_wp2
    go_ret2
    exact fr_none HF.out HB1.out
  by_cases hlong : (t.size : Int) - 8 < (n : Int)
  · have HF := Lib.hid (frA_no HN.out (fun h => by omega))
    go_wp2
    go_ret2
    exact fr_none HF.out HB1.out
  obtain ⟨d, hd⟩ : ∃ d, t.extract 8 (8 + n) = d := ⟨_, rfl⟩
  have hds : d.size = n := by rw [← hd, ByteArray.size_extract]; omega
  have HD := Lib.hid hd
  have HH := Lib.hid (head_eq (t := t) (n := n) (by omega) HN.out (crcZ d))
  obtain ⟨b, hb⟩ : ∃ b, okN t 0 n = b := ⟨_, rfl⟩
  have HOK := Lib.hid hb
  have HE := Lib.hid (show ((strOfNums (smN (crcZ d : Int))).toList == (t.extract 4 8).toList) = b by rw [← hb, ← hd]; unfold okN; simp only [Nat.zero_add])
  have z1 : (8 : Int) + (n : Int) ≤ (t.size : Int) := by omega
  have z2 : ((8 : Int) + (n : Int)).toNat = 8 + n := by omega
  have z3 : IntKind.i64.wrap ((8 : Int) + (n : Int)) = (8 : Int) + (n : Int) := wraps_i64 _ (by omega) (by omega)
  have hsl : ∀ wx, (Instr.slice 9 (.string t) (some (.int .i64 8)) (some (.int .i64 (8 + (n : Int)))) none).run Tryd.prog wx = .ok (.string d) wx := fun wx => by
    have h := run_slice_string (P := Tryd.prog) wx 9 t .i64 .i64 8 (8 + (n : Int)) Tryd.underlying9 (by omega) (by omega) (by omega)
    rw [z2] at h
    rw [h, ← hd]
    rfl
  clear hd hb
  go_wp2_with fail
  have hh : ∀ wx, Below w.heap.size w wx → Calls Tryd.prog 18 #[.string d] wx (MadeTx (strOfNums (hdN d.size ++ smN (crcZ d))) wx) := fun wx hb => headerof_any d wx (by omega) (HT.out.keep hb)
  rw [hds] at hh
  obtain ⟨H, hHd⟩ : ∃ H, strOfNums (hdN (n : Int) ++ smN (crcZ d : Int)) = H := ⟨_, rfl⟩
  obtain ⟨E, hEd⟩ : ∃ E, t.extract 0 8 = E := ⟨_, rfl⟩
  have hcmp : (H.toList == E.toList) = b := by rw [← hHd, ← hEd, HH.out, HE.out]
  rw [hHd] at hh
  have HHC := Lib.hid hh
  have hs8 : ∀ wx, (Instr.slice 9 (.string t) none (some (.int .i64 8)) none).run Tryd.prog wx = .ok (.string E) wx := fun wx => by
    rw [← hEd]
    exact run_slice_string_h (P := Tryd.prog) wx 9 t Tryd.underlying9 .i64 8 (by omega) (by omega)
  clear hh hHd hEd hsl
  refine wp_region_noPanic ?_
  refine wp_region_held_drew (S := (fun w' => Hid (Below w.heap.size w w'))) (by kernel_rfl) (Lib.hid (below_drewN HB1.out 1)) (fun HS3 => ?_)
  refine held_take (i := 0) (d := 40) (v := .string d) rfl rfl (by kernel_rfl) (by kernel_rfl) (by kernel_rfl) (by kernel_rfl) (fun wx hS => by go_simp) HS3 ?_
  refine held_take (i := 1) (d := 41) (v := .string d) rfl rfl (by kernel_rfl) (by kernel_rfl) (by kernel_rfl) (by kernel_rfl) (fun wx hS => by go_simp) HS3 ?_
  refine held_take (i := 3) (d := 43) (v := .string t) rfl rfl (by kernel_rfl) (by kernel_rfl) (by kernel_rfl) (by kernel_rfl) (fun wx hS => by go_simp) HS3 ?_
  refine held_take (i := 4) (d := 44) (v := .string E) rfl rfl (by kernel_rfl) (by kernel_rfl) (by kernel_rfl) (by kernel_rfl) (fun wx hS => by go_simp <;> (first | rfl | simp [hs8]| (trace_state; sorry))) HS3 ?_
  refine wpAnyH_ready (rs := [2]) (by kernel_rfl) (by simp) (AllReadyH.cons rfl (fun K hK => ?_) AllReadyH.nil)
  go_simp
  refine (HHC.out _ HS3.out).mono ?_
  rintro e w2 ⟨rfl, hB⟩
  have HB2 := Lib.hid (below_via HS3.out hB)
  clear hB
  refine hK.out _ _ HB2 (fun HS3 => ?_)
  clear hK K
  refine held_take (i := 5) (d := 45) (v := .bool b) rfl rfl (by kernel_rfl) (by kernel_rfl) (by kernel_rfl) (by kernel_rfl) (fun wx hS => by go_simp <;> (first | rfl | simp [hcmp]| (trace_state; sorry))) HS3 ?_
  refine held_take (i := 6) (d := 2) (v := .string d) rfl rfl (by kernel_rfl) (by kernel_rfl) (by kernel_rfl) (by kernel_rfl) (fun wx hS => by go_simp) HS3 ?_
  refine held_take (i := 7) (d := 3) (v := .bool b) rfl rfl (by kernel_rfl) (by kernel_rfl) (by kernel_rfl) (by kernel_rfl) (fun wx hS => by go_simp) HS3 ?_
  refine wpAnyH_done (by kernel_rfl) (NoPanic.normal ?_) _
  clear HS3
  go_wp2
  go_ret2
  cases b with
  | true =>
    have HF := Lib.hid (frA_go HN.out (by omega) (by omega) (by omega) HOK.out)
    rw [Nat.zero_add, HD.out] at HF
    exact ⟨d, by rw [HF.out]; rfl, (fun x hx => by rw [HF.out] at hx; exact Option.some.inj hx), HB2.out⟩
  | false =>
    have HF := Lib.hid (frA_no HN.out (fun h => by rw [HOK.out] at h; exact absurd h.2.2.2 (by decide)))
    exact ⟨d, by rw [HF.out]; rfl, (fun x hx => by rw [HF.out] at hx; cases hx), HB2.out⟩
end Go.Proofs.YthndoimblfccbaaDoor
