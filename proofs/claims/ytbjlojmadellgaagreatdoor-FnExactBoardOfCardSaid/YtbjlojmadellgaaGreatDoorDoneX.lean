
/- The exact law on DoneOf, walked: both sides count alike; nothing that came in is written into. -/
import Derived.Test.YtbjlojmadellgaaGreatDoorMg30
import Derived.Test.YtbjlojmadellgaaGreatDoorMg1
import Derived.Test.YtbjlojmadellgaaGreatDoorJobInN
import Derived.Test.YtbjlojmadellgaaGreatDoorMg21
namespace Go.Proofs.YtbjlojmadellgaaGreatDoor
open Go.ChangeShapes Go.WideShapes Go.ChangeAt Go.RowKit
set_option linter.unusedVariables false
set_option maxRecDepth 100000

theorem tasksB_nat (li : Instrs) (o1 n1 : Int) (ms : Strs) (sl : Nat) : ∃ N : Nat, tasksB li o1 n1 ms sl = (N : Int) ∧ N ≤ 100 := by
  unfold tasksB
  split
  · rename_i h
    have := job_few h
    exact ⟨((sl : Int) + n1).toNat, by omega, by omega⟩
  · exact ⟨0, rfl, by omega⟩

set_option maxHeartbeats 8000000 in
theorem fnExactDoneOf_walk (p s : Option Addr) (pl pc sl sc : Nat) (e1 : Bool) (o1 n1 : Int) (li : Instrs) (ms : Strs) (a g : Option Addr) (la ca lg cg : Nat) (l : Objs) (m : Gones) (w : World) (hj : JobAt w p pl li s sl ms) (hs : StoAt w a la l g lg m) (hT : TabsRP w) :
    Calls Tryz.prog 3 #[.agg #[.slice p pl pc, .bool e1, .int .i64 o1, .int .i64 n1, .slice s sl sc], .agg #[.slice a la ca, .slice g lg cg]] w fun e w' => e = .returned (.bool true) ∧ Below w.heap.size w w' := by
  obtain ⟨B0, hB0⟩ : ∃ B, w.heap.size = B := ⟨_, rfl⟩
  obtain ⟨W0, hW0⟩ : ∃ x, (w.alloc (.cells #[.slice p pl pc, .bool e1, .int .i64 o1, .int .i64 n1, .slice s sl sc] 25)).alloc (.cells #[.slice a la ca, .slice g lg cg] 29) = x := ⟨_, rfl⟩
  have HB := Lib.hid (show Below w.heap.size w W0 from by rw [← hW0]; exact below_alloc (below_alloc (Below.refl _ _) _) _)
  have HX := Lib.hid (show Row W0 B0 25 #[.slice p pl pc, .bool e1, .int .i64 o1, .int .i64 n1, .slice s sl sc] from by rw [← hW0, ← hB0]; exact (row_new w _ _).al _)
  have HY := Lib.hid (show Row W0 (B0 + 1) 29 #[.slice a la ca, .slice g lg cg] from by rw [← hW0, ← hB0]; exact row_new1 w _ _ _)
  have HW0 := Lib.hid hW0
  have HJ := Lib.hid hj
  have HS := Lib.hid hs
  have HT := Lib.hid hT
  obtain ⟨N, hN, hN7⟩ := tasksB_nat li o1 n1 ms sl
  have HN := Lib.hid hN
  have HN7 := Lib.hid hN7
  obtain ⟨c, hc⟩ : ∃ x, cntN l (List.range N) = x := ⟨_, rfl⟩
  have HC := Lib.hid hc
  have hcc : (c != c) = false := by simp
  clear hj hs hT hW0 hN hN7 hc
  go_enter Tryz.func3, Tryz.ntmps3
  have y0 := HX.out.cell (j := 0) (by simp)
  have y1 := HX.out.cell (j := 1) (by simp)
  have y2 := HX.out.cell (j := 2) (by simp)
  have y3 := HX.out.cell (j := 3) (by simp)
  have y4 := HX.out.cell (j := 4) (by simp)
  simp at y0 y1 y2 y3 y4
  go_wp2_with fail
  rw [HW0.out]
  try rw [hB0]
  clear hB0
  refine (szjob_any _ _ _ _ _ _ _ _ _ li ms _ _ (HJ.out.keep HB.out) (by decide) (by decide)).mono ?_
  rintro e w1 ⟨x, hx0, hx1, rfl, hB, hf⟩
  have HSZ := Lib.hid hf
  have HX := Lib.hid (HX.out.keep hB)
  have HY := Lib.hid (HY.out.keep hB)
  have HB := Lib.hid (below_via HB.out hB)
  clear hB hf
  clear y0 y1 y2 y3 y4
  by_cases hx : x < 0
  · go_wp2
    go_ret
    exact ⟨rfl, HB.out⟩
  obtain ⟨hpl, hsl, hz⟩ := HSZ.out (by omega)
  have HZJ := Lib.hid hz
  clear HSZ hz
  have z0 := HY.out.cell (j := 0) (by simp)
  have z1 := HY.out.cell (j := 1) (by simp)
  simp at z0 z1
  go_wp2_with fail
  refine (szsto_any _ _ _ _ _ _ l m _ _ (HS.out.keep HB.out) (by omega) hx1).mono ?_
  rintro e w2 ⟨y, hy0, hy1, rfl, hB, hf⟩
  have HSZ := Lib.hid hf
  have HX := Lib.hid (HX.out.keep hB)
  have HY := Lib.hid (HY.out.keep hB)
  have HB := Lib.hid (below_via HB.out hB)
  clear hB hf
  clear z0 z1
  by_cases hyn : y < 0
  · go_wp2
    go_ret
    exact ⟨rfl, HB.out⟩
  have hla : la ≤ 1048576 := (HSZ.out (by omega)).1.1
  have hlg : lg ≤ 1048576 := (HSZ.out (by omega)).2.1
  have HZS := Lib.hid (show ∀ i, i < la → (obj2 l i).size ≤ 1048576 from fun i hi => ((HSZ.out (by omega)).1.2 i hi).2)
  clear HSZ
  go_wp2_with fail
  have HALL := Lib.hid (fun w' (hb : Below w2.heap.size w2 w') => (show (fun w' => Hid (Below w2.heap.size w2 w') ∧ w'.cell? ⟨B0, 0, none⟩ = some (.slice p pl pc) ∧ w'.cell? ⟨B0, 1, none⟩ = some (.bool e1) ∧ w'.cell? ⟨B0, 2, none⟩ = some (.int .i64 o1) ∧ w'.cell? ⟨B0, 3, none⟩ = some (.int .i64 n1) ∧ w'.cell? ⟨B0, 4, none⟩ = some (.slice s sl sc) ∧ w'.cell? ⟨(B0 + 1), 0, none⟩ = some (.slice a la ca) ∧ w'.cell? ⟨(B0 + 1), 1, none⟩ = some (.slice g lg cg)) w' from by
    have hrHX := HX.out.keep hb
    have k0 := hrHX.cell (j := 0) (by simp)
    have k1 := hrHX.cell (j := 1) (by simp)
    have k2 := hrHX.cell (j := 2) (by simp)
    have k3 := hrHX.cell (j := 3) (by simp)
    have k4 := hrHX.cell (j := 4) (by simp)
    have hrHY := HY.out.keep hb
    have k5 := hrHY.cell (j := 0) (by simp)
    have k6 := hrHY.cell (j := 1) (by simp)
    simp at k0 k1 k2 k3 k4 k5 k6
    exact ⟨Lib.hid hb, k0, k1, k2, k3, k4, k5, k6⟩))
  refine wp_region_noPanic ?_
  obtain ⟨v0, hv0⟩ : ∃ x, w2.drew = x := ⟨_, rfl⟩
  have HD := Lib.hid (show Below w2.heap.size w2 v0 from by rw [← hv0]; exact below_drewN (Below.refl _ _) 1)
  refine wp_region_held_drew (S := (fun w' => Hid (Below w2.heap.size w2 w') ∧ w'.cell? ⟨B0, 0, none⟩ = some (.slice p pl pc) ∧ w'.cell? ⟨B0, 1, none⟩ = some (.bool e1) ∧ w'.cell? ⟨B0, 2, none⟩ = some (.int .i64 o1) ∧ w'.cell? ⟨B0, 3, none⟩ = some (.int .i64 n1) ∧ w'.cell? ⟨B0, 4, none⟩ = some (.slice s sl sc) ∧ w'.cell? ⟨(B0 + 1), 0, none⟩ = some (.slice a la ca) ∧ w'.cell? ⟨(B0 + 1), 1, none⟩ = some (.slice g lg cg))) (by kernel_rfl) (by rw [hv0]; exact HALL.out _ HD.out) (fun HS3 => ?_)
  rw [hv0] at HS3 ⊢
  clear hv0
  refine held_take (i := 0) (d := 20) (v := .agg #[.slice p pl pc, .bool e1, .int .i64 o1, .int .i64 n1, .slice s sl sc]) rfl rfl (by kernel_rfl) (by kernel_rfl) (by kernel_rfl) (by kernel_rfl) (fun wx hS => by obtain ⟨_, h0, h1, h2, h3, h4, h5, h6⟩ := hS; go_simp) HS3 ?_
  refine held_take (i := 2) (d := 22) (v := .agg #[.slice a la ca, .slice g lg cg]) rfl rfl (by kernel_rfl) (by kernel_rfl) (by kernel_rfl) (by kernel_rfl) (fun wx hS => by obtain ⟨_, h0, h1, h2, h3, h4, h5, h6⟩ := hS; go_simp) HS3 ?_
  refine wpAnyH_ready (rs := [1]) (by kernel_rfl) (by simp) (AllReadyH.cons rfl (fun K hK => ?_) AllReadyH.nil)
  go_simp
  refine (tojob_any _ _ _ _ _ _ _ _ _ li ms _ (HJ.out.keep (below_via HB.out HD.out)) hpl hsl).mono ?_
  rintro e w3 ⟨B1, C1, rfl, hJ, hB, _, _⟩
  have HJ1 := Lib.hid hJ
  have HE := Lib.hid (below_via HD.out hB)
  clear hB hJ
  refine hK.out _ _ (HALL.out _ HE.out) (fun HS3 => ?_)
  clear hK K
  refine wpAnyH_ready (rs := [3]) (by kernel_rfl) (by simp) (AllReadyH.cons rfl (fun K hK => ?_) AllReadyH.nil)
  go_simp
  refine (tosto_any _ _ _ _ _ _ l m _ (HS.out.keep (below_via HB.out HE.out)) hla hlg).mono ?_
  rintro e w4 ⟨D1, E1, rfl, hS4, hB, _, _, _, _⟩
  have HS4 := Lib.hid hS4
  have HJ1 := Lib.hid (HJ1.out.keep hB)
  have HG := Lib.hid (below_via HE.out hB)
  clear hB hS4
  refine hK.out _ _ (HALL.out _ HG.out) (fun HS3 => ?_)
  clear hK K
  refine wpAnyH_ready (rs := [4]) (by kernel_rfl) (by simp) (AllReadyH.cons rfl (fun K hK => ?_) AllReadyH.nil)
  go_simp
  refine (sdoneof_any _ _ _ _ _ _ _ _ _ li ms _ _ _ _ _ _ l m N _ HJ1.out HZJ.out HS4.out HZS.out HN.out HN7.out).mono ?_
  rw [HC.out]
  rintro e w5 ⟨rfl, hB⟩
  have HH := Lib.hid (below_via HG.out hB)
  clear hB
  refine hK.out _ _ (HALL.out _ HH.out) (fun HS3 => ?_)
  clear hK K
  refine held_take (i := 5) (d := 6) (v := .int .i64 c) rfl rfl (by kernel_rfl) (by kernel_rfl) (by kernel_rfl) (by kernel_rfl) (fun wx hS => by go_simp) HS3 ?_
  refine wpAnyH_done (by kernel_rfl) (NoPanic.normal ?_) _
  clear HS3 HALL HD HE HG HJ1 HS4
  have HX := Lib.hid (HX.out.keep HH.out)
  have HY := Lib.hid (HY.out.keep HH.out)
  have HB := Lib.hid (below_via HB.out HH.out)
  clear HH
  have y0 := HX.out.cell (j := 0) (by simp)
  have y1 := HX.out.cell (j := 1) (by simp)
  have y2 := HX.out.cell (j := 2) (by simp)
  have y3 := HX.out.cell (j := 3) (by simp)
  have y4 := HX.out.cell (j := 4) (by simp)
  simp at y0 y1 y2 y3 y4
  go_wp2_with fail
  refine (tojob_any _ _ _ _ _ _ _ _ _ li ms _ (HJ.out.keep HB.out) hpl hsl).mono ?_
  rintro e w6 ⟨B2, C2, rfl, hJ, hB, _, _⟩
  have HJ2 := Lib.hid hJ
  have HX := Lib.hid (HX.out.keep hB)
  have HY := Lib.hid (HY.out.keep hB)
  have HB := Lib.hid (below_via HB.out hB)
  clear hB hJ
  clear y0 y1 y2 y3 y4
  obtain ⟨Z, hZ⟩ : ∃ Z, w6.heap.size = Z := ⟨_, rfl⟩
  obtain ⟨w7, hw7⟩ : ∃ x, w6.alloc (.cells #[.slice (some ⟨B2, 0, none⟩) pl pl, .bool e1, .int .i64 o1, .int .i64 n1, .slice (some ⟨C2, 0, none⟩) sl sl] 35) = x := ⟨_, rfl⟩
  have hal : Below w6.heap.size w6 w7 := by rw [← hw7]; exact below_alloc (Below.refl _ _) _
  have HU := Lib.hid (show Row w7 Z 35 #[.slice (some ⟨B2, 0, none⟩) pl pl, .bool e1, .int .i64 o1, .int .i64 n1, .slice (some ⟨C2, 0, none⟩) sl sl] from by rw [← hw7, ← hZ]; exact row_new w6 _ _)
  have HJ2 := Lib.hid (HJ2.out.keep hal)
  have HX := Lib.hid (HX.out.keep hal)
  have HY := Lib.hid (HY.out.keep hal)
  have HB := Lib.hid (below_via HB.out hal)
  have HW7 := Lib.hid hw7
  clear hal hw7
  have z0 := HY.out.cell (j := 0) (by simp)
  have z1 := HY.out.cell (j := 1) (by simp)
  simp at z0 z1
  rw [← HW7.out] at z0 z1
  go_wp2_with fail
  rw [HW7.out]
  try rw [hZ]
  clear hZ
  refine (tosto_any _ _ _ _ _ _ l m _ (HS.out.keep HB.out) hla hlg).mono ?_
  rintro e w8 ⟨B3, C3, rfl, hS4, hB, _, _, _, _⟩
  have HS5 := Lib.hid hS4
  have HX := Lib.hid (HX.out.keep hB)
  have HY := Lib.hid (HY.out.keep hB)
  have HB := Lib.hid (below_via HB.out hB)
  have HU := Lib.hid (HU.out.keep hB)
  have HJ2 := Lib.hid (HJ2.out.keep hB)
  clear hB hS4
  clear z0 z1
  obtain ⟨Q, hQ⟩ : ∃ Z, w8.heap.size = Z := ⟨_, rfl⟩
  obtain ⟨w9, hw9⟩ : ∃ x, w8.alloc (.cells #[.slice (some ⟨B3, 0, none⟩) la la, .slice (some ⟨C3, 0, none⟩) lg lg] 40) = x := ⟨_, rfl⟩
  have hal : Below w8.heap.size w8 w9 := by rw [← hw9]; exact below_alloc (Below.refl _ _) _
  have HV := Lib.hid (show Row w9 Q 40 #[.slice (some ⟨B3, 0, none⟩) la la, .slice (some ⟨C3, 0, none⟩) lg lg] from by rw [← hw9, ← hQ]; exact row_new w8 _ _)
  have HS5 := Lib.hid (HS5.out.keep hal)
  have HX := Lib.hid (HX.out.keep hal)
  have HY := Lib.hid (HY.out.keep hal)
  have HB := Lib.hid (below_via HB.out hal)
  have HU := Lib.hid (HU.out.keep hal)
  have HJ2 := Lib.hid (HJ2.out.keep hal)
  have HW9 := Lib.hid hw9
  clear hal hw9
  have u0 := HU.out.cell (j := 0) (by simp)
  have u1 := HU.out.cell (j := 1) (by simp)
  have u2 := HU.out.cell (j := 2) (by simp)
  have u3 := HU.out.cell (j := 3) (by simp)
  have u4 := HU.out.cell (j := 4) (by simp)
  simp at u0 u1 u2 u3 u4
  rw [← HW9.out] at u0 u1 u2 u3 u4
  go_wp2_with fail
  rw [HW9.out]
  try rw [hQ]
  clear hQ
  refine (doneof_any _ _ _ _ _ _ _ _ _ li ms _ _ _ _ _ _ l m N _ HJ2.out HZJ.out HS5.out HZS.out (HT.out.keep HB.out) HN.out HN7.out).mono ?_
  rw [HC.out]
  rintro e w10 ⟨rfl, hB⟩
  have HX := Lib.hid (HX.out.keep hB)
  have HY := Lib.hid (HY.out.keep hB)
  have HB := Lib.hid (below_via HB.out hB)
  have HU := Lib.hid (HU.out.keep hB)
  have HJ2 := Lib.hid (HJ2.out.keep hB)
  have HV := Lib.hid (HV.out.keep hB)
  have HS5 := Lib.hid (HS5.out.keep hB)
  clear hB
  clear u0 u1 u2 u3 u4
  go_wp2_with fail
  have HALL := Lib.hid (fun w' (hb : Below w10.heap.size w10 w') => (show (fun w' => Hid (Below w10.heap.size w10 w') ∧ w'.cell? ⟨B0, 0, none⟩ = some (.slice p pl pc) ∧ w'.cell? ⟨B0, 1, none⟩ = some (.bool e1) ∧ w'.cell? ⟨B0, 2, none⟩ = some (.int .i64 o1) ∧ w'.cell? ⟨B0, 3, none⟩ = some (.int .i64 n1) ∧ w'.cell? ⟨B0, 4, none⟩ = some (.slice s sl sc) ∧ w'.cell? ⟨Z, 0, none⟩ = some (.slice (some ⟨B2, 0, none⟩) pl pl) ∧ w'.cell? ⟨Z, 1, none⟩ = some (.bool e1) ∧ w'.cell? ⟨Z, 2, none⟩ = some (.int .i64 o1) ∧ w'.cell? ⟨Z, 3, none⟩ = some (.int .i64 n1) ∧ w'.cell? ⟨Z, 4, none⟩ = some (.slice (some ⟨C2, 0, none⟩) sl sl)) w' from by
    have hrHX := HX.out.keep hb
    have k0 := hrHX.cell (j := 0) (by simp)
    have k1 := hrHX.cell (j := 1) (by simp)
    have k2 := hrHX.cell (j := 2) (by simp)
    have k3 := hrHX.cell (j := 3) (by simp)
    have k4 := hrHX.cell (j := 4) (by simp)
    have hrHU := HU.out.keep hb
    have k5 := hrHU.cell (j := 0) (by simp)
    have k6 := hrHU.cell (j := 1) (by simp)
    have k7 := hrHU.cell (j := 2) (by simp)
    have k8 := hrHU.cell (j := 3) (by simp)
    have k9 := hrHU.cell (j := 4) (by simp)
    simp at k0 k1 k2 k3 k4 k5 k6 k7 k8 k9
    exact ⟨Lib.hid hb, k0, k1, k2, k3, k4, k5, k6, k7, k8, k9⟩))
  refine wp_region_noPanic ?_
  obtain ⟨v0, hv0⟩ : ∃ x, w10.drew = x := ⟨_, rfl⟩
  have HD := Lib.hid (show Below w10.heap.size w10 v0 from by rw [← hv0]; exact below_drewN (Below.refl _ _) 1)
  refine wp_region_held_drew (S := (fun w' => Hid (Below w10.heap.size w10 w') ∧ w'.cell? ⟨B0, 0, none⟩ = some (.slice p pl pc) ∧ w'.cell? ⟨B0, 1, none⟩ = some (.bool e1) ∧ w'.cell? ⟨B0, 2, none⟩ = some (.int .i64 o1) ∧ w'.cell? ⟨B0, 3, none⟩ = some (.int .i64 n1) ∧ w'.cell? ⟨B0, 4, none⟩ = some (.slice s sl sc) ∧ w'.cell? ⟨Z, 0, none⟩ = some (.slice (some ⟨B2, 0, none⟩) pl pl) ∧ w'.cell? ⟨Z, 1, none⟩ = some (.bool e1) ∧ w'.cell? ⟨Z, 2, none⟩ = some (.int .i64 o1) ∧ w'.cell? ⟨Z, 3, none⟩ = some (.int .i64 n1) ∧ w'.cell? ⟨Z, 4, none⟩ = some (.slice (some ⟨C2, 0, none⟩) sl sl))) (by kernel_rfl) (by rw [hv0]; exact HALL.out _ HD.out) (fun HS3 => ?_)
  rw [hv0] at HS3 ⊢
  clear hv0
  refine held_take (i := 0) (d := 35) (v := .agg #[.slice (some ⟨B2, 0, none⟩) pl pl, .bool e1, .int .i64 o1, .int .i64 n1, .slice (some ⟨C2, 0, none⟩) sl sl]) rfl rfl (by kernel_rfl) (by kernel_rfl) (by kernel_rfl) (by kernel_rfl) (fun wx hS => by obtain ⟨_, h0, h1, h2, h3, h4, h5, h6, h7, h8, h9⟩ := hS; go_simp) HS3 ?_
  refine held_take (i := 1) (d := 36) (v := .agg #[.slice p pl pc, .bool e1, .int .i64 o1, .int .i64 n1, .slice s sl sc]) rfl rfl (by kernel_rfl) (by kernel_rfl) (by kernel_rfl) (by kernel_rfl) (fun wx hS => by obtain ⟨_, h0, h1, h2, h3, h4, h5, h6, h7, h8, h9⟩ := hS; go_simp) HS3 ?_
  refine wpAnyH_ready (rs := [2]) (by kernel_rfl) (by simp) (AllReadyH.cons rfl (fun K hK => ?_) AllReadyH.nil)
  go_simp
  refine (tojob_any _ _ _ _ _ _ _ _ _ li ms _ (HJ.out.keep (below_via HB.out HD.out)) hpl hsl).mono ?_
  rintro e w11 ⟨B4, C4, rfl, hJ, hB, _, _⟩
  have HJ4 := Lib.hid hJ
  have HE := Lib.hid (below_via HD.out hB)
  clear hB hJ
  refine hK.out _ _ (HALL.out _ HE.out) (fun HS3 => ?_)
  clear hK K
  refine wpAnyH_ready (rs := [3]) (by kernel_rfl) (by simp) (AllReadyH.cons rfl (fun K hK => ?_) AllReadyH.nil)
  go_simp
  refine (eqjob_same _ _ _ _ _ _ _ _ _ _ _ _ _ li ms _ (HJ2.out.keep HE.out) HJ4.out).mono ?_
  rintro e w12 ⟨rfl, hB⟩
  have HG := Lib.hid (below_via HE.out hB)
  clear hB
  refine hK.out _ _ (HALL.out _ HG.out) (fun HS3 => ?_)
  clear hK K
  refine held_take (i := 4) (d := 39) (v := .bool false) rfl rfl (by kernel_rfl) (by kernel_rfl) (by kernel_rfl) (by kernel_rfl) (fun wx hS => by go_simp) HS3 ?_
  refine wpAnyH_done (by kernel_rfl) (NoPanic.normal ?_) _
  clear HS3 HALL HD HE HJ4
  have HX := Lib.hid (HX.out.keep HG.out)
  have HY := Lib.hid (HY.out.keep HG.out)
  have HB := Lib.hid (below_via HB.out HG.out)
  have HU := Lib.hid (HU.out.keep HG.out)
  have HJ2 := Lib.hid (HJ2.out.keep HG.out)
  have HV := Lib.hid (HV.out.keep HG.out)
  have HS5 := Lib.hid (HS5.out.keep HG.out)
  clear HG
  go_wp2_with fail
  obtain ⟨wz, rfl⟩ : ∃ x, x = w12 := ⟨_, rfl⟩
  have HALL := Lib.hid (fun w' (hb : Below wz.heap.size wz w') => (show (fun w' => Hid (Below wz.heap.size wz w') ∧ w'.cell? ⟨(B0 + 1), 0, none⟩ = some (.slice a la ca) ∧ w'.cell? ⟨(B0 + 1), 1, none⟩ = some (.slice g lg cg) ∧ w'.cell? ⟨Q, 0, none⟩ = some (.slice (some ⟨B3, 0, none⟩) la la) ∧ w'.cell? ⟨Q, 1, none⟩ = some (.slice (some ⟨C3, 0, none⟩) lg lg)) w' from by
    have hrHY := HY.out.keep hb
    have k0 := hrHY.cell (j := 0) (by simp)
    have k1 := hrHY.cell (j := 1) (by simp)
    have hrHV := HV.out.keep hb
    have k2 := hrHV.cell (j := 0) (by simp)
    have k3 := hrHV.cell (j := 1) (by simp)
    simp at k0 k1 k2 k3
    exact ⟨Lib.hid hb, k0, k1, k2, k3⟩))
  refine wp_region_noPanic ?_
  obtain ⟨v0, hv0⟩ : ∃ x, wz.drew = x := ⟨_, rfl⟩
  have HD := Lib.hid (show Below wz.heap.size wz v0 from by rw [← hv0]; exact below_drewN (Below.refl _ _) 1)
  refine wp_region_held_drew (S := (fun w' => Hid (Below wz.heap.size wz w') ∧ w'.cell? ⟨(B0 + 1), 0, none⟩ = some (.slice a la ca) ∧ w'.cell? ⟨(B0 + 1), 1, none⟩ = some (.slice g lg cg) ∧ w'.cell? ⟨Q, 0, none⟩ = some (.slice (some ⟨B3, 0, none⟩) la la) ∧ w'.cell? ⟨Q, 1, none⟩ = some (.slice (some ⟨C3, 0, none⟩) lg lg))) (by kernel_rfl) (by rw [hv0]; exact HALL.out _ HD.out) (fun HS3 => ?_)
  rw [hv0] at HS3 ⊢
  clear hv0
  refine held_take (i := 0) (d := 40) (v := .agg #[.slice (some ⟨B3, 0, none⟩) la la, .slice (some ⟨C3, 0, none⟩) lg lg]) rfl rfl (by kernel_rfl) (by kernel_rfl) (by kernel_rfl) (by kernel_rfl) (fun wx hS => by obtain ⟨_, h0, h1, h2, h3⟩ := hS; go_simp) HS3 ?_
  refine held_take (i := 1) (d := 41) (v := .agg #[.slice a la ca, .slice g lg cg]) rfl rfl (by kernel_rfl) (by kernel_rfl) (by kernel_rfl) (by kernel_rfl) (fun wx hS => by obtain ⟨_, h0, h1, h2, h3⟩ := hS; go_simp) HS3 ?_
  refine wpAnyH_ready (rs := [2]) (by kernel_rfl) (by simp) (AllReadyH.cons rfl (fun K hK => ?_) AllReadyH.nil)
  go_simp
  refine (tosto_any _ _ _ _ _ _ l m _ (HS.out.keep (below_via HB.out HD.out)) hla hlg).mono ?_
  rintro e w11 ⟨B4, C4, rfl, hS6, hB, _, _, _, _⟩
  have HS6 := Lib.hid hS6
  have HE := Lib.hid (below_via HD.out hB)
  clear hB hS6
  refine hK.out _ _ (HALL.out _ HE.out) (fun HS3 => ?_)
  clear hK K
  refine wpAnyH_ready (rs := [3]) (by kernel_rfl) (by simp) (AllReadyH.cons rfl (fun K hK => ?_) AllReadyH.nil)
  go_simp
  refine (eqsto_same _ _ _ _ _ _ _ _ _ _ l m _ (HS5.out.keep HE.out) HS6.out).mono ?_
  rintro e w13 ⟨rfl, hB⟩
  have HG := Lib.hid (below_via HE.out hB)
  clear hB
  refine hK.out _ _ (HALL.out _ HG.out) (fun HS3 => ?_)
  clear hK K
  refine held_take (i := 4) (d := 44) (v := .bool false) rfl rfl (by kernel_rfl) (by kernel_rfl) (by kernel_rfl) (by kernel_rfl) (fun wx hS => by go_simp) HS3 ?_
  refine wpAnyH_done (by kernel_rfl) (NoPanic.normal ?_) _
  clear HS3
  go_wp2
  go_ret
  exact ⟨rfl, below_via HB.out HG.out⟩
end Go.Proofs.YtbjlojmadellgaaGreatDoor
