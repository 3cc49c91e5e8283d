/- Texts put together, as a claim holds at most sixty files. -/
import Derived.Test.YtbjlojmadellgaaGreatDoorMg21
import Derived.Test.YtbjlojmadellgaaGreatDoorMg1
namespace Go.Proofs.YtbjlojmadellgaaGreatDoor
open Go.ChangeShapes Go.WideShapes Go.ChangeAt Go.RowKit
set_option linter.unusedVariables false
set_option maxRecDepth 100000

set_option maxHeartbeats 8000000 in
theorem smarkin_any (a g : Option Addr) (la ca lg cg : Nat) (l : Objs) (m : Gones) (t : Int) (w : World) (h : StoAt w a la l g lg m) (hsz : ∀ i, i < la → (obj2 l i).size ≤ 1048576) :
    Calls Tryz.prog 25 #[.agg #[.slice a la ca, .slice g lg cg], .int .i64 t] w (MadeRM (markS l t) w) := by
  have HS0 := Lib.hid h
  obtain ⟨B0, hB0⟩ : ∃ B, w.heap.size = B := ⟨_, rfl⟩
  obtain ⟨W0, hW0⟩ : ∃ x, (w.alloc (.cells #[.slice a la ca, .slice g lg cg] 40)).alloc (.cells #[.bool false, .int .i64 0, .int .i64 0] 58) = x := ⟨_, rfl⟩
  have HB0 := Lib.hid (show Below w.heap.size w W0 from by rw [← hW0]; exact below_alloc (below_alloc (Below.refl _ _) _) _)
  have HX := Lib.hid (show Row W0 B0 40 #[.slice a la ca, .slice g lg cg] from by rw [← hW0, ← hB0]; exact (row_new w _ _).al _)
  have HR := Lib.hid (show Row W0 (B0 + 1) 58 #[.bool false, .int .i64 0, .int .i64 0] from by rw [← hW0, ← hB0]; exact row_new1 w _ _ _)
  have HS := Lib.hid (h.keep HB0.out)
  have HW0 := Lib.hid hW0
  obtain ⟨⟨⟨s, v, d⟩, b⟩, hq⟩ : ∃ q, getAux (nameB 3 t 0 0 0) l = q := ⟨_, rfl⟩
  have HQ := Lib.hid hq
  have HD := Lib.hid (show dataOf l (nameB 3 t 0 0 0) = d by unfold dataOf; rw [hq])
  have HDS := Lib.hid (show d.size ≤ 1048576 by rw [← HD.out]; exact data_size (fun i hi => hsz i (by rw [← h.o.length]; exact hi)))
  have HNO := Lib.hid (fun hb : b = false => markS_none (l := l) (t := t) (by rw [HQ.out]; exact hb))
  have HRD := Lib.hid (show rmark d.data.toList = markS l t by unfold markS; rw [HD.out])
  obtain ⟨ma, me, mk, mx, hv, hv0, hvx⟩ := rm_form (markS l t)
  have HV1 := Lib.hid hv
  have HVX := Lib.hid hvx
  clear hv hv0 hvx
  have HBZ := Lib.hid hB0
  have HALL := Lib.hid (fun w' (hb : Below W0.heap.size W0 w') => (show (fun w' => Hid (Below W0.heap.size W0 w') ∧ w'.cell? ⟨B0, 0, none⟩ = some (.slice a la ca) ∧ w'.cell? ⟨B0, 1, none⟩ = some (.slice g lg cg)) w' from by
    have hr := HX.out.keep hb
    have k0 := hr.cell (j := 0) (by simp)
    have k1 := hr.cell (j := 1) (by simp)
    simp at k0 k1
    exact ⟨Lib.hid hb, k0, k1⟩))
  have HBR := Lib.hid HR.out.lt
  have HLB := Lib.hid (show w.heap.size ≤ B0 + 1 from by omega)
  clear h hsz hW0 hq
  go_enter Tryz.func25, Tryz.ntmps25
  go_wp2_with fail
  rw [HW0.out]
  try rw [hB0]
  clear hB0
  refine wp_region_noPanic ?_
  obtain ⟨v0, hv0⟩ : ∃ x, W0.drew = x := ⟨_, rfl⟩
  have HV := Lib.hid (show Below W0.heap.size W0 v0 from by rw [← hv0]; exact below_drewN (Below.refl _ _) 1)
  refine wp_region_held_drew (S := (fun w' => Hid (Below W0.heap.size W0 w') ∧ w'.cell? ⟨B0, 0, none⟩ = some (.slice a la ca) ∧ w'.cell? ⟨B0, 1, none⟩ = some (.slice g lg cg))) (by kernel_rfl) (by rw [hv0]; exact HALL.out _ HV.out) (fun HS3 => ?_)
  rw [hv0] at HS3 ⊢
  clear hv0
  refine held_take (i := 0) (d := 11) (v := .agg #[.slice a la ca, .slice g lg cg]) rfl rfl (by kernel_rfl) (by kernel_rfl) (by kernel_rfl) (by kernel_rfl) (fun wx hS => by obtain ⟨_, h0, h1⟩ := hS; go_simp) HS3 ?_
  refine held_take (i := 1) (d := 12) (v := .int .i64 t) rfl rfl (by kernel_rfl) (by kernel_rfl) (by kernel_rfl) (by kernel_rfl) (fun wx hS => by go_simp) HS3 ?_
  refine wpAnyH_ready (rs := [2, 7]) (by kernel_rfl) (by simp) (AllReadyH.cons rfl (fun K hK => ?_) (AllReadyH.cons rfl (fun K hK => ?_) AllReadyH.nil))
  · skip
    go_simp
    refine (snameof_any 3 t 0 0 0 _).mono ?_
    rintro e wn ⟨rfl, hB⟩
    have HBn := Lib.hid (below_via HV.out hB)
    clear hB
    refine hK.out _ _ (HALL.out _ HBn.out) (fun HS3 => ?_)
    clear hK K
    refine wpAnyH_ready (rs := [3, 7]) (by kernel_rfl) (by simp) (AllReadyH.cons rfl (fun K hK => ?_) (AllReadyH.cons rfl (fun K hK => ?_) AllReadyH.nil))
    · skip
      go_simp
      refine (sget_any a g la ca lg cg l m _ _ (HS.out.keep HBn.out)).mono ?_
      rw [HQ.out]
      rintro e wg ⟨rfl, hB⟩
      have HBg := Lib.hid (below_via HBn.out hB)
      clear hB
      refine hK.out _ _ (HALL.out _ HBg.out) (fun HS3 => ?_)
      clear hK K
      refine held_take (i := 4) (d := 10) (v := .tuple #[.agg #[.string s, .int .i64 v, .string d], .bool b]) rfl rfl (by kernel_rfl) (by kernel_rfl) (by kernel_rfl) (by kernel_rfl) (fun wx hS => by go_simp) HS3 ?_
      refine held_take (i := 5) (d := 15) (v := .agg #[.string s, .int .i64 v, .string d]) rfl rfl (by kernel_rfl) (by kernel_rfl) (by kernel_rfl) (by kernel_rfl) (fun wx hS => by go_simp) HS3 ?_
      refine held_take (i := 6) (d := 16) (v := .bool b) rfl rfl (by kernel_rfl) (by kernel_rfl) (by kernel_rfl) (by kernel_rfl) (fun wx hS => by go_simp) HS3 ?_
      refine wpAnyH_ready (rs := [7]) (by kernel_rfl) (by simp) (AllReadyH.cons rfl (fun K hK => ?_) AllReadyH.nil)
      go_simp
      refine hK.out _ _ (HALL.out _ (below_alloc HBg.out _)) (fun HS3 => ?_)
      clear hK K
      have HRo := Lib.hid (row_new wg #[.string ⟨#[]⟩, .int .i64 0, .string ⟨#[]⟩] 79)
      have HBo := Lib.hid (below_alloc HBg.out (.cells #[.string ⟨#[]⟩, .int .i64 0, .string ⟨#[]⟩] 79))
      obtain ⟨X, hX⟩ : ∃ x, wg.heap.size = x := ⟨_, rfl⟩
      have HXL := Lib.hid (show W0.heap.size ≤ X from by rw [← hX]; exact HBg.out.size)
      obtain ⟨wo, hwo⟩ : ∃ x, wg.alloc (.cells #[.string ⟨#[]⟩, .int .i64 0, .string ⟨#[]⟩] 79) = x := ⟨_, rfl⟩
      rw [hX, hwo] at HRo
      rw [hwo] at HBo HS3
      rw [hX, hwo]
      clear hX hwo
      have o0 := HRo.out.cell (j := 0) (by simp)
      have o1 := HRo.out.cell (j := 1) (by simp)
      have o2 := HRo.out.cell (j := 2) (by simp)
      have of0 := HRo.out.free 0
      have of1 := HRo.out.free 1
      have of2 := HRo.out.free 2
      simp at o0 o1 o2
      refine wpAnyH_ready (rs := [8]) (by kernel_rfl) (by simp) (AllReadyH.cons rfl (fun K hK => ?_) AllReadyH.nil)
      go_simp
      have HBF := Lib.hid (((HBo.out.setCell (p := ⟨X, 0, none⟩) HXL.out (.string s)).setCell (p := ⟨X, 1, none⟩) HXL.out (.int .i64 v)).setCell (p := ⟨X, 2, none⟩) HXL.out (.string d))
      have HRF := Lib.hid (((HRo.out.set 0 (.string s)).set 1 (.int .i64 v)).set 2 (.string d))
      clear o0 o1 o2 of0 of1 of2
      generalize (((wo.setCell ⟨X, 0, none⟩ (.string s)).setCell ⟨X, 1, none⟩ (.int .i64 v)).setCell ⟨X, 2, none⟩ (.string d)) = wF at HBF HRF ⊢
      refine hK.out _ _ (HALL.out _ HBF.out) (fun HS3 => ?_)
      clear hK K
      refine held_take (i := 9) (d := 7) (v := .bool b) rfl rfl (by kernel_rfl) (by kernel_rfl) (by kernel_rfl) (by kernel_rfl) (fun wx hS => by go_simp) HS3 ?_
      refine wpAnyH_done (by kernel_rfl) (NoPanic.normal ?_) _
      clear HS3
      have o2 := HRF.out.cell (j := 2) (by simp)
      simp at o2
      go_wp2_with fail
      refine (sreadmark_any d _ HDS.out).mono ?_
      rw [HRD.out]
      rintro e wr ⟨he, hB⟩
      rw [HV1.out] at he
      subst he
      have HBr := Lib.hid (below_via HBF.out hB)
      have HRo2 := Lib.hid ((HRF.out.keep hB).al (.cells #[.bool ma, .int .i64 me, .int .i64 mk] 58))
      have HRR := Lib.hid ((HR.out.keep HBr.out).al (.cells #[.bool ma, .int .i64 me, .int .i64 mk] 58))
      have r0 := HRR.out.cell (j := 0) (by simp)
      have r1 := HRR.out.cell (j := 1) (by simp)
      have r2 := HRR.out.cell (j := 2) (by simp)
      have rf0 := HRR.out.free 0
      have rf1 := HRR.out.free 1
      have rf2 := HRR.out.free 2
      have v1 := HRo2.out.cell (j := 1) (by simp)
      simp at r0 r1 r2 v1
      have hxb : X ≠ B0 + 1 := by have := HXL.out; have := HBR.out; omega
      have hbx : B0 + 1 ≠ X := by omega
      have hne : B0 + 1 ≠ wr.heap.size := by have := HBR.out; have := HBr.out.size; omega
      clear hB o2
      cases b with
      | false =>
        have hmx : mx = false := by rw [HVX.out, HNO.out rfl]; rfl
        subst hmx
        go_wp2
        have hb := (((HRR.out.set 0 (.bool ma)).set 1 (.int .i64 me)).set 2 (.int .i64 mk))
        unfold Row at hb
        refine bodyPost_ret (v := .tuple #[.agg #[.bool ma, .int .i64 me, .int .i64 mk], .bool false]) (by simp [results, Tryz.results25, go_sem, World.cell?, hb]) rfl ⟨by rw [HV1.out], (((below_via HB0.out (below_alloc HBr.out _)).setCell (p := ⟨B0 + 1, 0, none⟩) HLB.out _).setCell (p := ⟨B0 + 1, 1, none⟩) HLB.out _).setCell (p := ⟨B0 + 1, 2, none⟩) HLB.out _⟩
      | true =>
        go_wp2
        have hb := (((HRR.out.set 0 (.bool ma)).set 1 (.int .i64 me)).set 2 (.int .i64 mk))
        unfold Row at hb
        refine bodyPost_ret (v := .tuple #[.agg #[.bool ma, .int .i64 me, .int .i64 mk], .bool mx]) (by simp [results, Tryz.results25, go_sem, World.cell?, hb]) rfl ⟨by rw [HV1.out], (((below_via HB0.out (below_alloc HBr.out _)).setCell (p := ⟨B0 + 1, 0, none⟩) HLB.out _).setCell (p := ⟨B0 + 1, 1, none⟩) HLB.out _).setCell (p := ⟨B0 + 1, 2, none⟩) HLB.out _⟩
    · skip
      go_simp
      refine hK.out _ _ (HALL.out _ (below_alloc HBn.out _)) (fun HS3 => ?_)
      clear hK K
      have HRo := Lib.hid (row_new wn #[.string ⟨#[]⟩, .int .i64 0, .string ⟨#[]⟩] 79)
      have HBo := Lib.hid (below_alloc HBn.out (.cells #[.string ⟨#[]⟩, .int .i64 0, .string ⟨#[]⟩] 79))
      obtain ⟨X, hX⟩ : ∃ x, wn.heap.size = x := ⟨_, rfl⟩
      have HXL := Lib.hid (show W0.heap.size ≤ X from by rw [← hX]; exact HBn.out.size)
      obtain ⟨wo, hwo⟩ : ∃ x, wn.alloc (.cells #[.string ⟨#[]⟩, .int .i64 0, .string ⟨#[]⟩] 79) = x := ⟨_, rfl⟩
      rw [hX, hwo] at HRo
      rw [hwo] at HBo HS3
      rw [hX, hwo]
      clear hX hwo
      refine wpAnyH_ready (rs := [3]) (by kernel_rfl) (by simp) (AllReadyH.cons rfl (fun K hK => ?_) AllReadyH.nil)
      go_simp
      refine (sget_any a g la ca lg cg l m _ _ (HS.out.keep HBo.out)).mono ?_
      rw [HQ.out]
      rintro e wg ⟨rfl, hB⟩
      have HBg := Lib.hid (below_via HBo.out hB)
      have HRo := Lib.hid (HRo.out.keep hB)
      clear hB HBo
      refine hK.out _ _ (HALL.out _ HBg.out) (fun HS3 => ?_)
      clear hK K
      refine held_take (i := 4) (d := 10) (v := .tuple #[.agg #[.string s, .int .i64 v, .string d], .bool b]) rfl rfl (by kernel_rfl) (by kernel_rfl) (by kernel_rfl) (by kernel_rfl) (fun wx hS => by go_simp) HS3 ?_
      refine held_take (i := 5) (d := 15) (v := .agg #[.string s, .int .i64 v, .string d]) rfl rfl (by kernel_rfl) (by kernel_rfl) (by kernel_rfl) (by kernel_rfl) (fun wx hS => by go_simp) HS3 ?_
      refine held_take (i := 6) (d := 16) (v := .bool b) rfl rfl (by kernel_rfl) (by kernel_rfl) (by kernel_rfl) (by kernel_rfl) (fun wx hS => by go_simp) HS3 ?_
      have HBo := HBg
      obtain ⟨wo, rfl⟩ : ∃ x, x = wg := ⟨_, rfl⟩
      have o0 := HRo.out.cell (j := 0) (by simp)
      have o1 := HRo.out.cell (j := 1) (by simp)
      have o2 := HRo.out.cell (j := 2) (by simp)
      have of0 := HRo.out.free 0
      have of1 := HRo.out.free 1
      have of2 := HRo.out.free 2
      simp at o0 o1 o2
      refine wpAnyH_ready (rs := [8]) (by kernel_rfl) (by simp) (AllReadyH.cons rfl (fun K hK => ?_) AllReadyH.nil)
      go_simp
      have HBF := Lib.hid (((HBo.out.setCell (p := ⟨X, 0, none⟩) HXL.out (.string s)).setCell (p := ⟨X, 1, none⟩) HXL.out (.int .i64 v)).setCell (p := ⟨X, 2, none⟩) HXL.out (.string d))
      have HRF := Lib.hid (((HRo.out.set 0 (.string s)).set 1 (.int .i64 v)).set 2 (.string d))
      clear o0 o1 o2 of0 of1 of2
      generalize (((wo.setCell ⟨X, 0, none⟩ (.string s)).setCell ⟨X, 1, none⟩ (.int .i64 v)).setCell ⟨X, 2, none⟩ (.string d)) = wF at HBF HRF ⊢
      refine hK.out _ _ (HALL.out _ HBF.out) (fun HS3 => ?_)
      clear hK K
      refine held_take (i := 9) (d := 7) (v := .bool b) rfl rfl (by kernel_rfl) (by kernel_rfl) (by kernel_rfl) (by kernel_rfl) (fun wx hS => by go_simp) HS3 ?_
      refine wpAnyH_done (by kernel_rfl) (NoPanic.normal ?_) _
      clear HS3
      have o2 := HRF.out.cell (j := 2) (by simp)
      simp at o2
      go_wp2_with fail
      refine (sreadmark_any d _ HDS.out).mono ?_
      rw [HRD.out]
      rintro e wr ⟨he, hB⟩
      rw [HV1.out] at he
      subst he
      have HBr := Lib.hid (below_via HBF.out hB)
      have HRo2 := Lib.hid ((HRF.out.keep hB).al (.cells #[.bool ma, .int .i64 me, .int .i64 mk] 58))
      have HRR := Lib.hid ((HR.out.keep HBr.out).al (.cells #[.bool ma, .int .i64 me, .int .i64 mk] 58))
      have r0 := HRR.out.cell (j := 0) (by simp)
      have r1 := HRR.out.cell (j := 1) (by simp)
      have r2 := HRR.out.cell (j := 2) (by simp)
      have rf0 := HRR.out.free 0
      have rf1 := HRR.out.free 1
      have rf2 := HRR.out.free 2
      have v1 := HRo2.out.cell (j := 1) (by simp)
      simp at r0 r1 r2 v1
      have hxb : X ≠ B0 + 1 := by have := HXL.out; have := HBR.out; omega
      have hbx : B0 + 1 ≠ X := by omega
      have hne : B0 + 1 ≠ wr.heap.size := by have := HBR.out; have := HBr.out.size; omega
      clear hB o2
      cases b with
      | false =>
        have hmx : mx = false := by rw [HVX.out, HNO.out rfl]; rfl
        subst hmx
        go_wp2
        have hb := (((HRR.out.set 0 (.bool ma)).set 1 (.int .i64 me)).set 2 (.int .i64 mk))
        unfold Row at hb
        refine bodyPost_ret (v := .tuple #[.agg #[.bool ma, .int .i64 me, .int .i64 mk], .bool false]) (by simp [results, Tryz.results25, go_sem, World.cell?, hb]) rfl ⟨by rw [HV1.out], (((below_via HB0.out (below_alloc HBr.out _)).setCell (p := ⟨B0 + 1, 0, none⟩) HLB.out _).setCell (p := ⟨B0 + 1, 1, none⟩) HLB.out _).setCell (p := ⟨B0 + 1, 2, none⟩) HLB.out _⟩
      | true =>
        go_wp2
        have hb := (((HRR.out.set 0 (.bool ma)).set 1 (.int .i64 me)).set 2 (.int .i64 mk))
        unfold Row at hb
        refine bodyPost_ret (v := .tuple #[.agg #[.bool ma, .int .i64 me, .int .i64 mk], .bool mx]) (by simp [results, Tryz.results25, go_sem, World.cell?, hb]) rfl ⟨by rw [HV1.out], (((below_via HB0.out (below_alloc HBr.out _)).setCell (p := ⟨B0 + 1, 0, none⟩) HLB.out _).setCell (p := ⟨B0 + 1, 1, none⟩) HLB.out _).setCell (p := ⟨B0 + 1, 2, none⟩) HLB.out _⟩
  · skip
    go_simp
    refine hK.out _ _ (HALL.out _ (below_alloc HV.out _)) (fun HS3 => ?_)
    clear hK K
    have HRo := Lib.hid (row_new v0 #[.string ⟨#[]⟩, .int .i64 0, .string ⟨#[]⟩] 79)
    have HBo := Lib.hid (below_alloc HV.out (.cells #[.string ⟨#[]⟩, .int .i64 0, .string ⟨#[]⟩] 79))
    obtain ⟨X, hX⟩ : ∃ x, v0.heap.size = x := ⟨_, rfl⟩
    have HXL := Lib.hid (show W0.heap.size ≤ X from by rw [← hX]; exact HV.out.size)
    obtain ⟨wo, hwo⟩ : ∃ x, v0.alloc (.cells #[.string ⟨#[]⟩, .int .i64 0, .string ⟨#[]⟩] 79) = x := ⟨_, rfl⟩
    rw [hX, hwo] at HRo
    rw [hwo] at HBo HS3
    rw [hX, hwo]
    clear hX hwo
    refine wpAnyH_ready (rs := [2]) (by kernel_rfl) (by simp) (AllReadyH.cons rfl (fun K hK => ?_) AllReadyH.nil)
    go_simp
    refine (snameof_any 3 t 0 0 0 _).mono ?_
    rintro e wn ⟨rfl, hB⟩
    have HBn := Lib.hid (below_via HBo.out hB)
    have HRo := Lib.hid (HRo.out.keep hB)
    clear hB HBo
    refine hK.out _ _ (HALL.out _ HBn.out) (fun HS3 => ?_)
    clear hK K
    refine wpAnyH_ready (rs := [3]) (by kernel_rfl) (by simp) (AllReadyH.cons rfl (fun K hK => ?_) AllReadyH.nil)
    go_simp
    refine (sget_any a g la ca lg cg l m _ _ (HS.out.keep HBn.out)).mono ?_
    rw [HQ.out]
    rintro e wg ⟨rfl, hB⟩
    have HBg := Lib.hid (below_via HBn.out hB)
    have HRo := Lib.hid (HRo.out.keep hB)
    clear hB
    refine hK.out _ _ (HALL.out _ HBg.out) (fun HS3 => ?_)
    clear hK K
    refine held_take (i := 4) (d := 10) (v := .tuple #[.agg #[.string s, .int .i64 v, .string d], .bool b]) rfl rfl (by kernel_rfl) (by kernel_rfl) (by kernel_rfl) (by kernel_rfl) (fun wx hS => by go_simp) HS3 ?_
    refine held_take (i := 5) (d := 15) (v := .agg #[.string s, .int .i64 v, .string d]) rfl rfl (by kernel_rfl) (by kernel_rfl) (by kernel_rfl) (by kernel_rfl) (fun wx hS => by go_simp) HS3 ?_
    refine held_take (i := 6) (d := 16) (v := .bool b) rfl rfl (by kernel_rfl) (by kernel_rfl) (by kernel_rfl) (by kernel_rfl) (fun wx hS => by go_simp) HS3 ?_
    have HBo := HBg
    obtain ⟨wo, rfl⟩ : ∃ x, x = wg := ⟨_, rfl⟩
    have o0 := HRo.out.cell (j := 0) (by simp)
    have o1 := HRo.out.cell (j := 1) (by simp)
    have o2 := HRo.out.cell (j := 2) (by simp)
    have of0 := HRo.out.free 0
    have of1 := HRo.out.free 1
    have of2 := HRo.out.free 2
    simp at o0 o1 o2
    refine wpAnyH_ready (rs := [8]) (by kernel_rfl) (by simp) (AllReadyH.cons rfl (fun K hK => ?_) AllReadyH.nil)
    go_simp
    have HBF := Lib.hid (((HBo.out.setCell (p := ⟨X, 0, none⟩) HXL.out (.string s)).setCell (p := ⟨X, 1, none⟩) HXL.out (.int .i64 v)).setCell (p := ⟨X, 2, none⟩) HXL.out (.string d))
    have HRF := Lib.hid (((HRo.out.set 0 (.string s)).set 1 (.int .i64 v)).set 2 (.string d))
    clear o0 o1 o2 of0 of1 of2
    generalize (((wo.setCell ⟨X, 0, none⟩ (.string s)).setCell ⟨X, 1, none⟩ (.int .i64 v)).setCell ⟨X, 2, none⟩ (.string d)) = wF at HBF HRF ⊢
    refine hK.out _ _ (HALL.out _ HBF.out) (fun HS3 => ?_)
    clear hK K
    refine held_take (i := 9) (d := 7) (v := .bool b) rfl rfl (by kernel_rfl) (by kernel_rfl) (by kernel_rfl) (by kernel_rfl) (fun wx hS => by go_simp) HS3 ?_
    refine wpAnyH_done (by kernel_rfl) (NoPanic.normal ?_) _
    clear HS3
    have o2 := HRF.out.cell (j := 2) (by simp)
    simp at o2
    go_wp2_with fail
    refine (sreadmark_any d _ HDS.out).mono ?_
    rw [HRD.out]
    rintro e wr ⟨he, hB⟩
    rw [HV1.out] at he
    subst he
    have HBr := Lib.hid (below_via HBF.out hB)
    have HRo2 := Lib.hid ((HRF.out.keep hB).al (.cells #[.bool ma, .int .i64 me, .int .i64 mk] 58))
    have HRR := Lib.hid ((HR.out.keep HBr.out).al (.cells #[.bool ma, .int .i64 me, .int .i64 mk] 58))
    have r0 := HRR.out.cell (j := 0) (by simp)
    have r1 := HRR.out.cell (j := 1) (by simp)
    have r2 := HRR.out.cell (j := 2) (by simp)
    have rf0 := HRR.out.free 0
    have rf1 := HRR.out.free 1
    have rf2 := HRR.out.free 2
    have v1 := HRo2.out.cell (j := 1) (by simp)
    simp at r0 r1 r2 v1
    have hxb : X ≠ B0 + 1 := by have := HXL.out; have := HBR.out; omega
    have hbx : B0 + 1 ≠ X := by omega
    have hne : B0 + 1 ≠ wr.heap.size := by have := HBR.out; have := HBr.out.size; omega
    clear hB o2
    cases b with
    | false =>
      have hmx : mx = false := by rw [HVX.out, HNO.out rfl]; rfl
      subst hmx
      go_wp2
      have hb := (((HRR.out.set 0 (.bool ma)).set 1 (.int .i64 me)).set 2 (.int .i64 mk))
      unfold Row at hb
      refine bodyPost_ret (v := .tuple #[.agg #[.bool ma, .int .i64 me, .int .i64 mk], .bool false]) (by simp [results, Tryz.results25, go_sem, World.cell?, hb]) rfl ⟨by rw [HV1.out], (((below_via HB0.out (below_alloc HBr.out _)).setCell (p := ⟨B0 + 1, 0, none⟩) HLB.out _).setCell (p := ⟨B0 + 1, 1, none⟩) HLB.out _).setCell (p := ⟨B0 + 1, 2, none⟩) HLB.out _⟩
    | true =>
      go_wp2
      have hb := (((HRR.out.set 0 (.bool ma)).set 1 (.int .i64 me)).set 2 (.int .i64 mk))
      unfold Row at hb
      refine bodyPost_ret (v := .tuple #[.agg #[.bool ma, .int .i64 me, .int .i64 mk], .bool mx]) (by simp [results, Tryz.results25, go_sem, World.cell?, hb]) rfl ⟨by rw [HV1.out], (((below_via HB0.out (below_alloc HBr.out _)).setCell (p := ⟨B0 + 1, 0, none⟩) HLB.out _).setCell (p := ⟨B0 + 1, 1, none⟩) HLB.out _).setCell (p := ⟨B0 + 1, 2, none⟩) HLB.out _⟩

set_option maxHeartbeats 8000000 in
theorem markin_any (a g : Option Addr) (la ca lg cg : Nat) (l : Objs) (m : Gones) (t : Int) (w : World) (h : StoAt w a la l g lg m) (hsz : ∀ i, i < la → (obj2 l i).size ≤ 1048576) (hT : TabsR w) :
    Calls Tryz.prog 70 #[.agg #[.slice a la ca, .slice g lg cg], .int .i64 t] w (MadeRM (markS l t) w) := by
  have HS0 := Lib.hid h
  have HT := Lib.hid hT
  obtain ⟨B0, hB0⟩ : ∃ B, w.heap.size = B := ⟨_, rfl⟩
  obtain ⟨W0, hW0⟩ : ∃ x, (w.alloc (.cells #[.slice a la ca, .slice g lg cg] 40)).alloc (.cells #[.bool false, .int .i64 0, .int .i64 0] 58) = x := ⟨_, rfl⟩
  have HB0 := Lib.hid (show Below w.heap.size w W0 from by rw [← hW0]; exact below_alloc (below_alloc (Below.refl _ _) _) _)
  have HX := Lib.hid (show Row W0 B0 40 #[.slice a la ca, .slice g lg cg] from by rw [← hW0, ← hB0]; exact (row_new w _ _).al _)
  have HR := Lib.hid (show Row W0 (B0 + 1) 58 #[.bool false, .int .i64 0, .int .i64 0] from by rw [← hW0, ← hB0]; exact row_new1 w _ _ _)
  have HS := Lib.hid (h.keep HB0.out)
  have HW0 := Lib.hid hW0
  obtain ⟨⟨⟨s, v, d⟩, b⟩, hq⟩ : ∃ q, getAux (nameB 3 t 0 0 0) l = q := ⟨_, rfl⟩
  have HQ := Lib.hid hq
  have HD := Lib.hid (show dataOf l (nameB 3 t 0 0 0) = d by unfold dataOf; rw [hq])
  have HDS := Lib.hid (show d.size ≤ 1048576 by rw [← HD.out]; exact data_size (fun i hi => hsz i (by rw [← h.o.length]; exact hi)))
  have HNO := Lib.hid (fun hb : b = false => markS_none (l := l) (t := t) (by rw [HQ.out]; exact hb))
  have HRD := Lib.hid (show rmark d.data.toList = markS l t by unfold markS; rw [HD.out])
  obtain ⟨ma, me, mk, mx, hv, hv0, hvx⟩ := rm_form (markS l t)
  have HV1 := Lib.hid hv
  have HVX := Lib.hid hvx
  clear hv hv0 hvx
  have HBZ := Lib.hid hB0
  have HALL := Lib.hid (fun w' (hb : Below W0.heap.size W0 w') => (show (fun w' => Hid (Below W0.heap.size W0 w') ∧ w'.cell? ⟨B0, 0, none⟩ = some (.slice a la ca) ∧ w'.cell? ⟨B0, 1, none⟩ = some (.slice g lg cg)) w' from by
    have hr := HX.out.keep hb
    have k0 := hr.cell (j := 0) (by simp)
    have k1 := hr.cell (j := 1) (by simp)
    simp at k0 k1
    exact ⟨Lib.hid hb, k0, k1⟩))
  have HBR := Lib.hid HR.out.lt
  have HLB := Lib.hid (show w.heap.size ≤ B0 + 1 from by omega)
  clear h hsz hW0 hq hT
  go_enter Tryz.func70, Tryz.ntmps70
  go_wp2_with fail
  rw [HW0.out]
  try rw [hB0]
  clear hB0
  refine wp_region_noPanic ?_
  obtain ⟨v0, hv0⟩ : ∃ x, W0.drew = x := ⟨_, rfl⟩
  have HV := Lib.hid (show Below W0.heap.size W0 v0 from by rw [← hv0]; exact below_drewN (Below.refl _ _) 1)
  refine wp_region_held_drew (S := (fun w' => Hid (Below W0.heap.size W0 w') ∧ w'.cell? ⟨B0, 0, none⟩ = some (.slice a la ca) ∧ w'.cell? ⟨B0, 1, none⟩ = some (.slice g lg cg))) (by kernel_rfl) (by rw [hv0]; exact HALL.out _ HV.out) (fun HS3 => ?_)
  rw [hv0] at HS3 ⊢
  clear hv0
  refine held_take (i := 0) (d := 11) (v := .agg #[.slice a la ca, .slice g lg cg]) rfl rfl (by kernel_rfl) (by kernel_rfl) (by kernel_rfl) (by kernel_rfl) (fun wx hS => by obtain ⟨_, h0, h1⟩ := hS; go_simp) HS3 ?_
  refine held_take (i := 1) (d := 12) (v := .int .i64 t) rfl rfl (by kernel_rfl) (by kernel_rfl) (by kernel_rfl) (by kernel_rfl) (fun wx hS => by go_simp) HS3 ?_
  refine wpAnyH_ready (rs := [2, 7]) (by kernel_rfl) (by simp) (AllReadyH.cons rfl (fun K hK => ?_) (AllReadyH.cons rfl (fun K hK => ?_) AllReadyH.nil))
  · skip
    go_simp
    refine (nameof_any 3 t 0 0 0 _ (HT.out.pow.keep (below_via HB0.out HV.out))).mono ?_
    rintro e wn ⟨rfl, hB⟩
    have HBn := Lib.hid (below_via HV.out hB)
    clear hB
    refine hK.out _ _ (HALL.out _ HBn.out) (fun HS3 => ?_)
    clear hK K
    refine wpAnyH_ready (rs := [3, 7]) (by kernel_rfl) (by simp) (AllReadyH.cons rfl (fun K hK => ?_) (AllReadyH.cons rfl (fun K hK => ?_) AllReadyH.nil))
    · skip
      go_simp
      refine (get_any a g la ca lg cg l m _ _ (HS.out.keep HBn.out)).mono ?_
      rw [HQ.out]
      rintro e wg ⟨rfl, hB⟩
      have HBg := Lib.hid (below_via HBn.out hB)
      clear hB
      refine hK.out _ _ (HALL.out _ HBg.out) (fun HS3 => ?_)
      clear hK K
      refine held_take (i := 4) (d := 10) (v := .tuple #[.agg #[.string s, .int .i64 v, .string d], .bool b]) rfl rfl (by kernel_rfl) (by kernel_rfl) (by kernel_rfl) (by kernel_rfl) (fun wx hS => by go_simp) HS3 ?_
      refine held_take (i := 5) (d := 15) (v := .agg #[.string s, .int .i64 v, .string d]) rfl rfl (by kernel_rfl) (by kernel_rfl) (by kernel_rfl) (by kernel_rfl) (fun wx hS => by go_simp) HS3 ?_
      refine held_take (i := 6) (d := 16) (v := .bool b) rfl rfl (by kernel_rfl) (by kernel_rfl) (by kernel_rfl) (by kernel_rfl) (fun wx hS => by go_simp) HS3 ?_
      refine wpAnyH_ready (rs := [7]) (by kernel_rfl) (by simp) (AllReadyH.cons rfl (fun K hK => ?_) AllReadyH.nil)
      go_simp
      refine hK.out _ _ (HALL.out _ (below_alloc HBg.out _)) (fun HS3 => ?_)
      clear hK K
      have HRo := Lib.hid (row_new wg #[.string ⟨#[]⟩, .int .i64 0, .string ⟨#[]⟩] 79)
      have HBo := Lib.hid (below_alloc HBg.out (.cells #[.string ⟨#[]⟩, .int .i64 0, .string ⟨#[]⟩] 79))
      obtain ⟨X, hX⟩ : ∃ x, wg.heap.size = x := ⟨_, rfl⟩
      have HXL := Lib.hid (show W0.heap.size ≤ X from by rw [← hX]; exact HBg.out.size)
      obtain ⟨wo, hwo⟩ : ∃ x, wg.alloc (.cells #[.string ⟨#[]⟩, .int .i64 0, .string ⟨#[]⟩] 79) = x := ⟨_, rfl⟩
      rw [hX, hwo] at HRo
      rw [hwo] at HBo HS3
      rw [hX, hwo]
      clear hX hwo
      have o0 := HRo.out.cell (j := 0) (by simp)
      have o1 := HRo.out.cell (j := 1) (by simp)
      have o2 := HRo.out.cell (j := 2) (by simp)
      have of0 := HRo.out.free 0
      have of1 := HRo.out.free 1
      have of2 := HRo.out.free 2
      simp at o0 o1 o2
      refine wpAnyH_ready (rs := [8]) (by kernel_rfl) (by simp) (AllReadyH.cons rfl (fun K hK => ?_) AllReadyH.nil)
      go_simp
      have HBF := Lib.hid (((HBo.out.setCell (p := ⟨X, 0, none⟩) HXL.out (.string s)).setCell (p := ⟨X, 1, none⟩) HXL.out (.int .i64 v)).setCell (p := ⟨X, 2, none⟩) HXL.out (.string d))
      have HRF := Lib.hid (((HRo.out.set 0 (.string s)).set 1 (.int .i64 v)).set 2 (.string d))
      clear o0 o1 o2 of0 of1 of2
      generalize (((wo.setCell ⟨X, 0, none⟩ (.string s)).setCell ⟨X, 1, none⟩ (.int .i64 v)).setCell ⟨X, 2, none⟩ (.string d)) = wF at HBF HRF ⊢
      refine hK.out _ _ (HALL.out _ HBF.out) (fun HS3 => ?_)
      clear hK K
      refine held_take (i := 9) (d := 7) (v := .bool b) rfl rfl (by kernel_rfl) (by kernel_rfl) (by kernel_rfl) (by kernel_rfl) (fun wx hS => by go_simp) HS3 ?_
      refine wpAnyH_done (by kernel_rfl) (NoPanic.normal ?_) _
      clear HS3
      have o2 := HRF.out.cell (j := 2) (by simp)
      simp at o2
      go_wp2_with fail
      refine (readmark_any d _ HDS.out (HT.out.keep (below_via HB0.out HBF.out))).mono ?_
      rw [HRD.out]
      rintro e wr ⟨he, hB⟩
      rw [HV1.out] at he
      subst he
      have HBr := Lib.hid (below_via HBF.out hB)
      have HRo2 := Lib.hid ((HRF.out.keep hB).al (.cells #[.bool ma, .int .i64 me, .int .i64 mk] 58))
      have HRR := Lib.hid ((HR.out.keep HBr.out).al (.cells #[.bool ma, .int .i64 me, .int .i64 mk] 58))
      have r0 := HRR.out.cell (j := 0) (by simp)
      have r1 := HRR.out.cell (j := 1) (by simp)
      have r2 := HRR.out.cell (j := 2) (by simp)
      have rf0 := HRR.out.free 0
      have rf1 := HRR.out.free 1
      have rf2 := HRR.out.free 2
      have v1 := HRo2.out.cell (j := 1) (by simp)
      simp at r0 r1 r2 v1
      have hxb : X ≠ B0 + 1 := by have := HXL.out; have := HBR.out; omega
      have hbx : B0 + 1 ≠ X := by omega
      have hne : B0 + 1 ≠ wr.heap.size := by have := HBR.out; have := HBr.out.size; omega
      clear hB o2
      cases b with
      | false =>
        have hmx : mx = false := by rw [HVX.out, HNO.out rfl]; rfl
        subst hmx
        go_wp2
        have hb := (((HRR.out.set 0 (.bool ma)).set 1 (.int .i64 me)).set 2 (.int .i64 mk))
        unfold Row at hb
        refine bodyPost_ret (v := .tuple #[.agg #[.bool ma, .int .i64 me, .int .i64 mk], .bool false]) (by simp [results, Tryz.results70, go_sem, World.cell?, hb]) rfl ⟨by rw [HV1.out], (((below_via HB0.out (below_alloc HBr.out _)).setCell (p := ⟨B0 + 1, 0, none⟩) HLB.out _).setCell (p := ⟨B0 + 1, 1, none⟩) HLB.out _).setCell (p := ⟨B0 + 1, 2, none⟩) HLB.out _⟩
      | true =>
        go_wp2
        have hb := (((HRR.out.set 0 (.bool ma)).set 1 (.int .i64 me)).set 2 (.int .i64 mk))
        unfold Row at hb
        refine bodyPost_ret (v := .tuple #[.agg #[.bool ma, .int .i64 me, .int .i64 mk], .bool mx]) (by simp [results, Tryz.results70, go_sem, World.cell?, hb]) rfl ⟨by rw [HV1.out], (((below_via HB0.out (below_alloc HBr.out _)).setCell (p := ⟨B0 + 1, 0, none⟩) HLB.out _).setCell (p := ⟨B0 + 1, 1, none⟩) HLB.out _).setCell (p := ⟨B0 + 1, 2, none⟩) HLB.out _⟩
    · skip
      go_simp
      refine hK.out _ _ (HALL.out _ (below_alloc HBn.out _)) (fun HS3 => ?_)
      clear hK K
      have HRo := Lib.hid (row_new wn #[.string ⟨#[]⟩, .int .i64 0, .string ⟨#[]⟩] 79)
      have HBo := Lib.hid (below_alloc HBn.out (.cells #[.string ⟨#[]⟩, .int .i64 0, .string ⟨#[]⟩] 79))
      obtain ⟨X, hX⟩ : ∃ x, wn.heap.size = x := ⟨_, rfl⟩
      have HXL := Lib.hid (show W0.heap.size ≤ X from by rw [← hX]; exact HBn.out.size)
      obtain ⟨wo, hwo⟩ : ∃ x, wn.alloc (.cells #[.string ⟨#[]⟩, .int .i64 0, .string ⟨#[]⟩] 79) = x := ⟨_, rfl⟩
      rw [hX, hwo] at HRo
      rw [hwo] at HBo HS3
      rw [hX, hwo]
      clear hX hwo
      refine wpAnyH_ready (rs := [3]) (by kernel_rfl) (by simp) (AllReadyH.cons rfl (fun K hK => ?_) AllReadyH.nil)
      go_simp
      refine (get_any a g la ca lg cg l m _ _ (HS.out.keep HBo.out)).mono ?_
      rw [HQ.out]
      rintro e wg ⟨rfl, hB⟩
      have HBg := Lib.hid (below_via HBo.out hB)
      have HRo := Lib.hid (HRo.out.keep hB)
      clear hB HBo
      refine hK.out _ _ (HALL.out _ HBg.out) (fun HS3 => ?_)
      clear hK K
      refine held_take (i := 4) (d := 10) (v := .tuple #[.agg #[.string s, .int .i64 v, .string d], .bool b]) rfl rfl (by kernel_rfl) (by kernel_rfl) (by kernel_rfl) (by kernel_rfl) (fun wx hS => by go_simp) HS3 ?_
      refine held_take (i := 5) (d := 15) (v := .agg #[.string s, .int .i64 v, .string d]) rfl rfl (by kernel_rfl) (by kernel_rfl) (by kernel_rfl) (by kernel_rfl) (fun wx hS => by go_simp) HS3 ?_
      refine held_take (i := 6) (d := 16) (v := .bool b) rfl rfl (by kernel_rfl) (by kernel_rfl) (by kernel_rfl) (by kernel_rfl) (fun wx hS => by go_simp) HS3 ?_
      have HBo := HBg
      obtain ⟨wo, rfl⟩ : ∃ x, x = wg := ⟨_, rfl⟩
      have o0 := HRo.out.cell (j := 0) (by simp)
      have o1 := HRo.out.cell (j := 1) (by simp)
      have o2 := HRo.out.cell (j := 2) (by simp)
      have of0 := HRo.out.free 0
      have of1 := HRo.out.free 1
      have of2 := HRo.out.free 2
      simp at o0 o1 o2
      refine wpAnyH_ready (rs := [8]) (by kernel_rfl) (by simp) (AllReadyH.cons rfl (fun K hK => ?_) AllReadyH.nil)
      go_simp
      have HBF := Lib.hid (((HBo.out.setCell (p := ⟨X, 0, none⟩) HXL.out (.string s)).setCell (p := ⟨X, 1, none⟩) HXL.out (.int .i64 v)).setCell (p := ⟨X, 2, none⟩) HXL.out (.string d))
      have HRF := Lib.hid (((HRo.out.set 0 (.string s)).set 1 (.int .i64 v)).set 2 (.string d))
      clear o0 o1 o2 of0 of1 of2
      generalize (((wo.setCell ⟨X, 0, none⟩ (.string s)).setCell ⟨X, 1, none⟩ (.int .i64 v)).setCell ⟨X, 2, none⟩ (.string d)) = wF at HBF HRF ⊢
      refine hK.out _ _ (HALL.out _ HBF.out) (fun HS3 => ?_)
      clear hK K
      refine held_take (i := 9) (d := 7) (v := .bool b) rfl rfl (by kernel_rfl) (by kernel_rfl) (by kernel_rfl) (by kernel_rfl) (fun wx hS => by go_simp) HS3 ?_
      refine wpAnyH_done (by kernel_rfl) (NoPanic.normal ?_) _
      clear HS3
      have o2 := HRF.out.cell (j := 2) (by simp)
      simp at o2
      go_wp2_with fail
      refine (readmark_any d _ HDS.out (HT.out.keep (below_via HB0.out HBF.out))).mono ?_
      rw [HRD.out]
      rintro e wr ⟨he, hB⟩
      rw [HV1.out] at he
      subst he
      have HBr := Lib.hid (below_via HBF.out hB)
      have HRo2 := Lib.hid ((HRF.out.keep hB).al (.cells #[.bool ma, .int .i64 me, .int .i64 mk] 58))
      have HRR := Lib.hid ((HR.out.keep HBr.out).al (.cells #[.bool ma, .int .i64 me, .int .i64 mk] 58))
      have r0 := HRR.out.cell (j := 0) (by simp)
      have r1 := HRR.out.cell (j := 1) (by simp)
      have r2 := HRR.out.cell (j := 2) (by simp)
      have rf0 := HRR.out.free 0
      have rf1 := HRR.out.free 1
      have rf2 := HRR.out.free 2
      have v1 := HRo2.out.cell (j := 1) (by simp)
      simp at r0 r1 r2 v1
      have hxb : X ≠ B0 + 1 := by have := HXL.out; have := HBR.out; omega
      have hbx : B0 + 1 ≠ X := by omega
      have hne : B0 + 1 ≠ wr.heap.size := by have := HBR.out; have := HBr.out.size; omega
      clear hB o2
      cases b with
      | false =>
        have hmx : mx = false := by rw [HVX.out, HNO.out rfl]; rfl
        subst hmx
        go_wp2
        have hb := (((HRR.out.set 0 (.bool ma)).set 1 (.int .i64 me)).set 2 (.int .i64 mk))
        unfold Row at hb
        refine bodyPost_ret (v := .tuple #[.agg #[.bool ma, .int .i64 me, .int .i64 mk], .bool false]) (by simp [results, Tryz.results70, go_sem, World.cell?, hb]) rfl ⟨by rw [HV1.out], (((below_via HB0.out (below_alloc HBr.out _)).setCell (p := ⟨B0 + 1, 0, none⟩) HLB.out _).setCell (p := ⟨B0 + 1, 1, none⟩) HLB.out _).setCell (p := ⟨B0 + 1, 2, none⟩) HLB.out _⟩
      | true =>
        go_wp2
        have hb := (((HRR.out.set 0 (.bool ma)).set 1 (.int .i64 me)).set 2 (.int .i64 mk))
        unfold Row at hb
        refine bodyPost_ret (v := .tuple #[.agg #[.bool ma, .int .i64 me, .int .i64 mk], .bool mx]) (by simp [results, Tryz.results70, go_sem, World.cell?, hb]) rfl ⟨by rw [HV1.out], (((below_via HB0.out (below_alloc HBr.out _)).setCell (p := ⟨B0 + 1, 0, none⟩) HLB.out _).setCell (p := ⟨B0 + 1, 1, none⟩) HLB.out _).setCell (p := ⟨B0 + 1, 2, none⟩) HLB.out _⟩
  · skip
    go_simp
    refine hK.out _ _ (HALL.out _ (below_alloc HV.out _)) (fun HS3 => ?_)
    clear hK K
    have HRo := Lib.hid (row_new v0 #[.string ⟨#[]⟩, .int .i64 0, .string ⟨#[]⟩] 79)
    have HBo := Lib.hid (below_alloc HV.out (.cells #[.string ⟨#[]⟩, .int .i64 0, .string ⟨#[]⟩] 79))
    obtain ⟨X, hX⟩ : ∃ x, v0.heap.size = x := ⟨_, rfl⟩
    have HXL := Lib.hid (show W0.heap.size ≤ X from by rw [← hX]; exact HV.out.size)
    obtain ⟨wo, hwo⟩ : ∃ x, v0.alloc (.cells #[.string ⟨#[]⟩, .int .i64 0, .string ⟨#[]⟩] 79) = x := ⟨_, rfl⟩
    rw [hX, hwo] at HRo
    rw [hwo] at HBo HS3
    rw [hX, hwo]
    clear hX hwo
    refine wpAnyH_ready (rs := [2]) (by kernel_rfl) (by simp) (AllReadyH.cons rfl (fun K hK => ?_) AllReadyH.nil)
    go_simp
    refine (nameof_any 3 t 0 0 0 _ (HT.out.pow.keep (below_via HB0.out HBo.out))).mono ?_
    rintro e wn ⟨rfl, hB⟩
    have HBn := Lib.hid (below_via HBo.out hB)
    have HRo := Lib.hid (HRo.out.keep hB)
    clear hB HBo
    refine hK.out _ _ (HALL.out _ HBn.out) (fun HS3 => ?_)
    clear hK K
    refine wpAnyH_ready (rs := [3]) (by kernel_rfl) (by simp) (AllReadyH.cons rfl (fun K hK => ?_) AllReadyH.nil)
    go_simp
    refine (get_any a g la ca lg cg l m _ _ (HS.out.keep HBn.out)).mono ?_
    rw [HQ.out]
    rintro e wg ⟨rfl, hB⟩
    have HBg := Lib.hid (below_via HBn.out hB)
    have HRo := Lib.hid (HRo.out.keep hB)
    clear hB
    refine hK.out _ _ (HALL.out _ HBg.out) (fun HS3 => ?_)
    clear hK K
    refine held_take (i := 4) (d := 10) (v := .tuple #[.agg #[.string s, .int .i64 v, .string d], .bool b]) rfl rfl (by kernel_rfl) (by kernel_rfl) (by kernel_rfl) (by kernel_rfl) (fun wx hS => by go_simp) HS3 ?_
    refine held_take (i := 5) (d := 15) (v := .agg #[.string s, .int .i64 v, .string d]) rfl rfl (by kernel_rfl) (by kernel_rfl) (by kernel_rfl) (by kernel_rfl) (fun wx hS => by go_simp) HS3 ?_
    refine held_take (i := 6) (d := 16) (v := .bool b) rfl rfl (by kernel_rfl) (by kernel_rfl) (by kernel_rfl) (by kernel_rfl) (fun wx hS => by go_simp) HS3 ?_
    have HBo := HBg
    obtain ⟨wo, rfl⟩ : ∃ x, x = wg := ⟨_, rfl⟩
    have o0 := HRo.out.cell (j := 0) (by simp)
    have o1 := HRo.out.cell (j := 1) (by simp)
    have o2 := HRo.out.cell (j := 2) (by simp)
    have of0 := HRo.out.free 0
    have of1 := HRo.out.free 1
    have of2 := HRo.out.free 2
    simp at o0 o1 o2
    refine wpAnyH_ready (rs := [8]) (by kernel_rfl) (by simp) (AllReadyH.cons rfl (fun K hK => ?_) AllReadyH.nil)
    go_simp
    have HBF := Lib.hid (((HBo.out.setCell (p := ⟨X, 0, none⟩) HXL.out (.string s)).setCell (p := ⟨X, 1, none⟩) HXL.out (.int .i64 v)).setCell (p := ⟨X, 2, none⟩) HXL.out (.string d))
    have HRF := Lib.hid (((HRo.out.set 0 (.string s)).set 1 (.int .i64 v)).set 2 (.string d))
    clear o0 o1 o2 of0 of1 of2
    generalize (((wo.setCell ⟨X, 0, none⟩ (.string s)).setCell ⟨X, 1, none⟩ (.int .i64 v)).setCell ⟨X, 2, none⟩ (.string d)) = wF at HBF HRF ⊢
    refine hK.out _ _ (HALL.out _ HBF.out) (fun HS3 => ?_)
    clear hK K
    refine held_take (i := 9) (d := 7) (v := .bool b) rfl rfl (by kernel_rfl) (by kernel_rfl) (by kernel_rfl) (by kernel_rfl) (fun wx hS => by go_simp) HS3 ?_
    refine wpAnyH_done (by kernel_rfl) (NoPanic.normal ?_) _
    clear HS3
    have o2 := HRF.out.cell (j := 2) (by simp)
    simp at o2
    go_wp2_with fail
    refine (readmark_any d _ HDS.out (HT.out.keep (below_via HB0.out HBF.out))).mono ?_
    rw [HRD.out]
    rintro e wr ⟨he, hB⟩
    rw [HV1.out] at he
    subst he
    have HBr := Lib.hid (below_via HBF.out hB)
    have HRo2 := Lib.hid ((HRF.out.keep hB).al (.cells #[.bool ma, .int .i64 me, .int .i64 mk] 58))
    have HRR := Lib.hid ((HR.out.keep HBr.out).al (.cells #[.bool ma, .int .i64 me, .int .i64 mk] 58))
    have r0 := HRR.out.cell (j := 0) (by simp)
    have r1 := HRR.out.cell (j := 1) (by simp)
    have r2 := HRR.out.cell (j := 2) (by simp)
    have rf0 := HRR.out.free 0
    have rf1 := HRR.out.free 1
    have rf2 := HRR.out.free 2
    have v1 := HRo2.out.cell (j := 1) (by simp)
    simp at r0 r1 r2 v1
    have hxb : X ≠ B0 + 1 := by have := HXL.out; have := HBR.out; omega
    have hbx : B0 + 1 ≠ X := by omega
    have hne : B0 + 1 ≠ wr.heap.size := by have := HBR.out; have := HBr.out.size; omega
    clear hB o2
    cases b with
    | false =>
      have hmx : mx = false := by rw [HVX.out, HNO.out rfl]; rfl
      subst hmx
      go_wp2
      have hb := (((HRR.out.set 0 (.bool ma)).set 1 (.int .i64 me)).set 2 (.int .i64 mk))
      unfold Row at hb
      refine bodyPost_ret (v := .tuple #[.agg #[.bool ma, .int .i64 me, .int .i64 mk], .bool false]) (by simp [results, Tryz.results70, go_sem, World.cell?, hb]) rfl ⟨by rw [HV1.out], (((below_via HB0.out (below_alloc HBr.out _)).setCell (p := ⟨B0 + 1, 0, none⟩) HLB.out _).setCell (p := ⟨B0 + 1, 1, none⟩) HLB.out _).setCell (p := ⟨B0 + 1, 2, none⟩) HLB.out _⟩
    | true =>
      go_wp2
      have hb := (((HRR.out.set 0 (.bool ma)).set 1 (.int .i64 me)).set 2 (.int .i64 mk))
      unfold Row at hb
      refine bodyPost_ret (v := .tuple #[.agg #[.bool ma, .int .i64 me, .int .i64 mk], .bool mx]) (by simp [results, Tryz.results70, go_sem, World.cell?, hb]) rfl ⟨by rw [HV1.out], (((below_via HB0.out (below_alloc HBr.out _)).setCell (p := ⟨B0 + 1, 0, none⟩) HLB.out _).setCell (p := ⟨B0 + 1, 1, none⟩) HLB.out _).setCell (p := ⟨B0 + 1, 2, none⟩) HLB.out _⟩

/-- The end of claimIn. -/
def MadeCI (l : Objs) (t : Int) (w : World) (e : Ending) (w' : World) : Prop :=
  ∃ (a k u v : Int) (x : Bool), rcV (claimS l t) = .tuple #[.agg #[.int .i64 a, .int .i64 k, .int .i64 u], .bool x] ∧ e = .returned (.tuple #[.agg #[.int .i64 a, .int .i64 k, .int .i64 u], .int .i64 v, .bool x]) ∧ Below w.heap.size w w'

set_option maxHeartbeats 8000000 in
theorem claimin_any (a g : Option Addr) (la ca lg cg : Nat) (l : Objs) (m : Gones) (t : Int) (w : World) (h : StoAt w a la l g lg m) (hsz : ∀ i, i < la → (obj2 l i).size ≤ 1048576) (hT : TabsR w) :
    Calls Tryz.prog 71 #[.agg #[.slice a la ca, .slice g lg cg], .int .i64 t] w (MadeCI l t w) := by
  have HS0 := Lib.hid h
  have HT := Lib.hid hT
  obtain ⟨B0, hB0⟩ : ∃ B, w.heap.size = B := ⟨_, rfl⟩
  obtain ⟨W0, hW0⟩ : ∃ x, (w.alloc (.cells #[.slice a la ca, .slice g lg cg] 40)).alloc (.cells #[.int .i64 0, .int .i64 0, .int .i64 0] 69) = x := ⟨_, rfl⟩
  have HB0 := Lib.hid (show Below w.heap.size w W0 from by rw [← hW0]; exact below_alloc (below_alloc (Below.refl _ _) _) _)
  have HX := Lib.hid (show Row W0 B0 40 #[.slice a la ca, .slice g lg cg] from by rw [← hW0, ← hB0]; exact (row_new w _ _).al _)
  have HR := Lib.hid (show Row W0 (B0 + 1) 69 #[.int .i64 0, .int .i64 0, .int .i64 0] from by rw [← hW0, ← hB0]; exact row_new1 w _ _ _)
  have HS := Lib.hid (h.keep HB0.out)
  have HW0 := Lib.hid hW0
  obtain ⟨⟨⟨s, v, d⟩, b⟩, hq⟩ : ∃ q, getAux (nameB 2 t 0 0 0) l = q := ⟨_, rfl⟩
  have HQ := Lib.hid hq
  have HD := Lib.hid (show dataOf l (nameB 2 t 0 0 0) = d by unfold dataOf; rw [hq])
  have HDS := Lib.hid (show d.size ≤ 1048576 by rw [← HD.out]; exact data_size (fun i hi => hsz i (by rw [← h.o.length]; exact hi)))
  have HNO := Lib.hid (fun hb : b = false => claimS_none (l := l) (t := t) (by rw [HQ.out]; exact hb))
  have HRD := Lib.hid (show rclaim d.data.toList = claimS l t by unfold claimS; rw [HD.out])
  obtain ⟨ma, me, mk, mx, hv, hv0, hvx⟩ := rc_form (claimS l t)
  have HV1 := Lib.hid hv
  have HVX := Lib.hid hvx
  clear hv hv0 hvx
  have HBZ := Lib.hid hB0
  have HALL := Lib.hid (fun w' (hb : Below W0.heap.size W0 w') => (show (fun w' => Hid (Below W0.heap.size W0 w') ∧ w'.cell? ⟨B0, 0, none⟩ = some (.slice a la ca) ∧ w'.cell? ⟨B0, 1, none⟩ = some (.slice g lg cg)) w' from by
    have hr := HX.out.keep hb
    have k0 := hr.cell (j := 0) (by simp)
    have k1 := hr.cell (j := 1) (by simp)
    simp at k0 k1
    exact ⟨Lib.hid hb, k0, k1⟩))
  have HBR := Lib.hid HR.out.lt
  have HLB := Lib.hid (show w.heap.size ≤ B0 + 1 from by omega)
  clear h hsz hW0 hq hT
  go_enter Tryz.func71, Tryz.ntmps71
  go_wp2_with fail
  rw [HW0.out]
  try rw [hB0]
  clear hB0
  refine wp_region_noPanic ?_
  obtain ⟨v0, hv0⟩ : ∃ x, W0.drew = x := ⟨_, rfl⟩
  have HV := Lib.hid (show Below W0.heap.size W0 v0 from by rw [← hv0]; exact below_drewN (Below.refl _ _) 1)
  refine wp_region_held_drew (S := (fun w' => Hid (Below W0.heap.size W0 w') ∧ w'.cell? ⟨B0, 0, none⟩ = some (.slice a la ca) ∧ w'.cell? ⟨B0, 1, none⟩ = some (.slice g lg cg))) (by kernel_rfl) (by rw [hv0]; exact HALL.out _ HV.out) (fun HS3 => ?_)
  rw [hv0] at HS3 ⊢
  clear hv0
  refine held_take (i := 0) (d := 12) (v := .agg #[.slice a la ca, .slice g lg cg]) rfl rfl (by kernel_rfl) (by kernel_rfl) (by kernel_rfl) (by kernel_rfl) (fun wx hS => by obtain ⟨_, h0, h1⟩ := hS; go_simp) HS3 ?_
  refine held_take (i := 1) (d := 13) (v := .int .i64 t) rfl rfl (by kernel_rfl) (by kernel_rfl) (by kernel_rfl) (by kernel_rfl) (fun wx hS => by go_simp) HS3 ?_
  refine wpAnyH_ready (rs := [2, 7]) (by kernel_rfl) (by simp) (AllReadyH.cons rfl (fun K hK => ?_) (AllReadyH.cons rfl (fun K hK => ?_) AllReadyH.nil))
  · skip
    go_simp
    refine (nameof_any 2 t 0 0 0 _ (HT.out.pow.keep (below_via HB0.out HV.out))).mono ?_
    rintro e wn ⟨rfl, hB⟩
    have HBn := Lib.hid (below_via HV.out hB)
    clear hB
    refine hK.out _ _ (HALL.out _ HBn.out) (fun HS3 => ?_)
    clear hK K
    refine wpAnyH_ready (rs := [3, 7]) (by kernel_rfl) (by simp) (AllReadyH.cons rfl (fun K hK => ?_) (AllReadyH.cons rfl (fun K hK => ?_) AllReadyH.nil))
    · skip
      go_simp
      refine (get_any a g la ca lg cg l m _ _ (HS.out.keep HBn.out)).mono ?_
      rw [HQ.out]
      rintro e wg ⟨rfl, hB⟩
      have HBg := Lib.hid (below_via HBn.out hB)
      clear hB
      refine hK.out _ _ (HALL.out _ HBg.out) (fun HS3 => ?_)
      clear hK K
      refine held_take (i := 4) (d := 11) (v := .tuple #[.agg #[.string s, .int .i64 v, .string d], .bool b]) rfl rfl (by kernel_rfl) (by kernel_rfl) (by kernel_rfl) (by kernel_rfl) (fun wx hS => by go_simp) HS3 ?_
      refine held_take (i := 5) (d := 16) (v := .agg #[.string s, .int .i64 v, .string d]) rfl rfl (by kernel_rfl) (by kernel_rfl) (by kernel_rfl) (by kernel_rfl) (fun wx hS => by go_simp) HS3 ?_
      refine held_take (i := 6) (d := 17) (v := .bool b) rfl rfl (by kernel_rfl) (by kernel_rfl) (by kernel_rfl) (by kernel_rfl) (fun wx hS => by go_simp) HS3 ?_
      refine wpAnyH_ready (rs := [7]) (by kernel_rfl) (by simp) (AllReadyH.cons rfl (fun K hK => ?_) AllReadyH.nil)
      go_simp
      refine hK.out _ _ (HALL.out _ (below_alloc HBg.out _)) (fun HS3 => ?_)
      clear hK K
      have HRo := Lib.hid (row_new wg #[.string ⟨#[]⟩, .int .i64 0, .string ⟨#[]⟩] 79)
      have HBo := Lib.hid (below_alloc HBg.out (.cells #[.string ⟨#[]⟩, .int .i64 0, .string ⟨#[]⟩] 79))
      obtain ⟨X, hX⟩ : ∃ x, wg.heap.size = x := ⟨_, rfl⟩
      have HXL := Lib.hid (show W0.heap.size ≤ X from by rw [← hX]; exact HBg.out.size)
      obtain ⟨wo, hwo⟩ : ∃ x, wg.alloc (.cells #[.string ⟨#[]⟩, .int .i64 0, .string ⟨#[]⟩] 79) = x := ⟨_, rfl⟩
      rw [hX, hwo] at HRo
      rw [hwo] at HBo HS3
      rw [hX, hwo]
      clear hX hwo
      have o0 := HRo.out.cell (j := 0) (by simp)
      have o1 := HRo.out.cell (j := 1) (by simp)
      have o2 := HRo.out.cell (j := 2) (by simp)
      have of0 := HRo.out.free 0
      have of1 := HRo.out.free 1
      have of2 := HRo.out.free 2
      simp at o0 o1 o2
      refine wpAnyH_ready (rs := [8]) (by kernel_rfl) (by simp) (AllReadyH.cons rfl (fun K hK => ?_) AllReadyH.nil)
      go_simp
      have HBF := Lib.hid (((HBo.out.setCell (p := ⟨X, 0, none⟩) HXL.out (.string s)).setCell (p := ⟨X, 1, none⟩) HXL.out (.int .i64 v)).setCell (p := ⟨X, 2, none⟩) HXL.out (.string d))
      have HRF := Lib.hid (((HRo.out.set 0 (.string s)).set 1 (.int .i64 v)).set 2 (.string d))
      clear o0 o1 o2 of0 of1 of2
      generalize (((wo.setCell ⟨X, 0, none⟩ (.string s)).setCell ⟨X, 1, none⟩ (.int .i64 v)).setCell ⟨X, 2, none⟩ (.string d)) = wF at HBF HRF ⊢
      refine hK.out _ _ (HALL.out _ HBF.out) (fun HS3 => ?_)
      clear hK K
      refine held_take (i := 9) (d := 8) (v := .bool b) rfl rfl (by kernel_rfl) (by kernel_rfl) (by kernel_rfl) (by kernel_rfl) (fun wx hS => by go_simp) HS3 ?_
      refine wpAnyH_done (by kernel_rfl) (NoPanic.normal ?_) _
      clear HS3
      have o2 := HRF.out.cell (j := 2) (by simp)
      simp at o2
      go_wp2_with fail
      refine (readclaim_any d _ HDS.out (HT.out.keep (below_via HB0.out HBF.out))).mono ?_
      rw [HRD.out]
      rintro e wr ⟨he, hB⟩
      rw [HV1.out] at he
      subst he
      have HBr := Lib.hid (below_via HBF.out hB)
      have HRo2 := Lib.hid ((HRF.out.keep hB).al (.cells #[.int .i64 ma, .int .i64 me, .int .i64 mk] 69))
      have HRR := Lib.hid ((HR.out.keep HBr.out).al (.cells #[.int .i64 ma, .int .i64 me, .int .i64 mk] 69))
      have r0 := HRR.out.cell (j := 0) (by simp)
      have r1 := HRR.out.cell (j := 1) (by simp)
      have r2 := HRR.out.cell (j := 2) (by simp)
      have rf0 := HRR.out.free 0
      have rf1 := HRR.out.free 1
      have rf2 := HRR.out.free 2
      have v1 := HRo2.out.cell (j := 1) (by simp)
      simp at r0 r1 r2 v1
      have hxb : X ≠ B0 + 1 := by have := HXL.out; have := HBR.out; omega
      have hbx : B0 + 1 ≠ X := by omega
      have hne : B0 + 1 ≠ wr.heap.size := by have := HBR.out; have := HBr.out.size; omega
      clear hB o2
      cases b with
      | false =>
        have hmx : mx = false := by rw [HVX.out, HNO.out rfl]; rfl
        subst hmx
        go_wp2_with fail
        go_region
        go_wp2
        have hb := (((HRR.out.set 0 (.int .i64 ma)).set 1 (.int .i64 me)).set 2 (.int .i64 mk)).keep (show Below _ _ (World.drew _) from below_drewN (Below.refl _ _) 1)
        unfold Row at hb
        refine bodyPost_ret (v := .tuple #[.agg #[.int .i64 ma, .int .i64 me, .int .i64 mk], .int .i64 v, .bool false]) (by simp [results, Tryz.results71, go_sem, World.cell?, hb]) rfl ⟨ma, me, mk, v, false, HV1.out, rfl, below_drewN ((((below_via HB0.out (below_alloc HBr.out _)).setCell (p := ⟨B0 + 1, 0, none⟩) HLB.out _).setCell (p := ⟨B0 + 1, 1, none⟩) HLB.out _).setCell (p := ⟨B0 + 1, 2, none⟩) HLB.out _) 1⟩
      | true =>
        go_wp2_with fail
        go_region
        go_wp2
        have hb := (((HRR.out.set 0 (.int .i64 ma)).set 1 (.int .i64 me)).set 2 (.int .i64 mk)).keep (show Below _ _ (World.drew _) from below_drewN (Below.refl _ _) 1)
        unfold Row at hb
        refine bodyPost_ret (v := .tuple #[.agg #[.int .i64 ma, .int .i64 me, .int .i64 mk], .int .i64 v, .bool mx]) (by simp [results, Tryz.results71, go_sem, World.cell?, hb]) rfl ⟨ma, me, mk, v, mx, HV1.out, rfl, below_drewN ((((below_via HB0.out (below_alloc HBr.out _)).setCell (p := ⟨B0 + 1, 0, none⟩) HLB.out _).setCell (p := ⟨B0 + 1, 1, none⟩) HLB.out _).setCell (p := ⟨B0 + 1, 2, none⟩) HLB.out _) 1⟩
    · skip
      go_simp
      refine hK.out _ _ (HALL.out _ (below_alloc HBn.out _)) (fun HS3 => ?_)
      clear hK K
      have HRo := Lib.hid (row_new wn #[.string ⟨#[]⟩, .int .i64 0, .string ⟨#[]⟩] 79)
      have HBo := Lib.hid (below_alloc HBn.out (.cells #[.string ⟨#[]⟩, .int .i64 0, .string ⟨#[]⟩] 79))
      obtain ⟨X, hX⟩ : ∃ x, wn.heap.size = x := ⟨_, rfl⟩
      have HXL := Lib.hid (show W0.heap.size ≤ X from by rw [← hX]; exact HBn.out.size)
      obtain ⟨wo, hwo⟩ : ∃ x, wn.alloc (.cells #[.string ⟨#[]⟩, .int .i64 0, .string ⟨#[]⟩] 79) = x := ⟨_, rfl⟩
      rw [hX, hwo] at HRo
      rw [hwo] at HBo HS3
      rw [hX, hwo]
      clear hX hwo
      refine wpAnyH_ready (rs := [3]) (by kernel_rfl) (by simp) (AllReadyH.cons rfl (fun K hK => ?_) AllReadyH.nil)
      go_simp
      refine (get_any a g la ca lg cg l m _ _ (HS.out.keep HBo.out)).mono ?_
      rw [HQ.out]
      rintro e wg ⟨rfl, hB⟩
      have HBg := Lib.hid (below_via HBo.out hB)
      have HRo := Lib.hid (HRo.out.keep hB)
      clear hB HBo
      refine hK.out _ _ (HALL.out _ HBg.out) (fun HS3 => ?_)
      clear hK K
      refine held_take (i := 4) (d := 11) (v := .tuple #[.agg #[.string s, .int .i64 v, .string d], .bool b]) rfl rfl (by kernel_rfl) (by kernel_rfl) (by kernel_rfl) (by kernel_rfl) (fun wx hS => by go_simp) HS3 ?_
      refine held_take (i := 5) (d := 16) (v := .agg #[.string s, .int .i64 v, .string d]) rfl rfl (by kernel_rfl) (by kernel_rfl) (by kernel_rfl) (by kernel_rfl) (fun wx hS => by go_simp) HS3 ?_
      refine held_take (i := 6) (d := 17) (v := .bool b) rfl rfl (by kernel_rfl) (by kernel_rfl) (by kernel_rfl) (by kernel_rfl) (fun wx hS => by go_simp) HS3 ?_
      have HBo := HBg
      obtain ⟨wo, rfl⟩ : ∃ x, x = wg := ⟨_, rfl⟩
      have o0 := HRo.out.cell (j := 0) (by simp)
      have o1 := HRo.out.cell (j := 1) (by simp)
      have o2 := HRo.out.cell (j := 2) (by simp)
      have of0 := HRo.out.free 0
      have of1 := HRo.out.free 1
      have of2 := HRo.out.free 2
      simp at o0 o1 o2
      refine wpAnyH_ready (rs := [8]) (by kernel_rfl) (by simp) (AllReadyH.cons rfl (fun K hK => ?_) AllReadyH.nil)
      go_simp
      have HBF := Lib.hid (((HBo.out.setCell (p := ⟨X, 0, none⟩) HXL.out (.string s)).setCell (p := ⟨X, 1, none⟩) HXL.out (.int .i64 v)).setCell (p := ⟨X, 2, none⟩) HXL.out (.string d))
      have HRF := Lib.hid (((HRo.out.set 0 (.string s)).set 1 (.int .i64 v)).set 2 (.string d))
      clear o0 o1 o2 of0 of1 of2
      generalize (((wo.setCell ⟨X, 0, none⟩ (.string s)).setCell ⟨X, 1, none⟩ (.int .i64 v)).setCell ⟨X, 2, none⟩ (.string d)) = wF at HBF HRF ⊢
      refine hK.out _ _ (HALL.out _ HBF.out) (fun HS3 => ?_)
      clear hK K
      refine held_take (i := 9) (d := 8) (v := .bool b) rfl rfl (by kernel_rfl) (by kernel_rfl) (by kernel_rfl) (by kernel_rfl) (fun wx hS => by go_simp) HS3 ?_
      refine wpAnyH_done (by kernel_rfl) (NoPanic.normal ?_) _
      clear HS3
      have o2 := HRF.out.cell (j := 2) (by simp)
      simp at o2
      go_wp2_with fail
      refine (readclaim_any d _ HDS.out (HT.out.keep (below_via HB0.out HBF.out))).mono ?_
      rw [HRD.out]
      rintro e wr ⟨he, hB⟩
      rw [HV1.out] at he
      subst he
      have HBr := Lib.hid (below_via HBF.out hB)
      have HRo2 := Lib.hid ((HRF.out.keep hB).al (.cells #[.int .i64 ma, .int .i64 me, .int .i64 mk] 69))
      have HRR := Lib.hid ((HR.out.keep HBr.out).al (.cells #[.int .i64 ma, .int .i64 me, .int .i64 mk] 69))
      have r0 := HRR.out.cell (j := 0) (by simp)
      have r1 := HRR.out.cell (j := 1) (by simp)
      have r2 := HRR.out.cell (j := 2) (by simp)
      have rf0 := HRR.out.free 0
      have rf1 := HRR.out.free 1
      have rf2 := HRR.out.free 2
      have v1 := HRo2.out.cell (j := 1) (by simp)
      simp at r0 r1 r2 v1
      have hxb : X ≠ B0 + 1 := by have := HXL.out; have := HBR.out; omega
      have hbx : B0 + 1 ≠ X := by omega
      have hne : B0 + 1 ≠ wr.heap.size := by have := HBR.out; have := HBr.out.size; omega
      clear hB o2
      cases b with
      | false =>
        have hmx : mx = false := by rw [HVX.out, HNO.out rfl]; rfl
        subst hmx
        go_wp2_with fail
        go_region
        go_wp2
        have hb := (((HRR.out.set 0 (.int .i64 ma)).set 1 (.int .i64 me)).set 2 (.int .i64 mk)).keep (show Below _ _ (World.drew _) from below_drewN (Below.refl _ _) 1)
        unfold Row at hb
        refine bodyPost_ret (v := .tuple #[.agg #[.int .i64 ma, .int .i64 me, .int .i64 mk], .int .i64 v, .bool false]) (by simp [results, Tryz.results71, go_sem, World.cell?, hb]) rfl ⟨ma, me, mk, v, false, HV1.out, rfl, below_drewN ((((below_via HB0.out (below_alloc HBr.out _)).setCell (p := ⟨B0 + 1, 0, none⟩) HLB.out _).setCell (p := ⟨B0 + 1, 1, none⟩) HLB.out _).setCell (p := ⟨B0 + 1, 2, none⟩) HLB.out _) 1⟩
      | true =>
        go_wp2_with fail
        go_region
        go_wp2
        have hb := (((HRR.out.set 0 (.int .i64 ma)).set 1 (.int .i64 me)).set 2 (.int .i64 mk)).keep (show Below _ _ (World.drew _) from below_drewN (Below.refl _ _) 1)
        unfold Row at hb
        refine bodyPost_ret (v := .tuple #[.agg #[.int .i64 ma, .int .i64 me, .int .i64 mk], .int .i64 v, .bool mx]) (by simp [results, Tryz.results71, go_sem, World.cell?, hb]) rfl ⟨ma, me, mk, v, mx, HV1.out, rfl, below_drewN ((((below_via HB0.out (below_alloc HBr.out _)).setCell (p := ⟨B0 + 1, 0, none⟩) HLB.out _).setCell (p := ⟨B0 + 1, 1, none⟩) HLB.out _).setCell (p := ⟨B0 + 1, 2, none⟩) HLB.out _) 1⟩
  · skip
    go_simp
    refine hK.out _ _ (HALL.out _ (below_alloc HV.out _)) (fun HS3 => ?_)
    clear hK K
    have HRo := Lib.hid (row_new v0 #[.string ⟨#[]⟩, .int .i64 0, .string ⟨#[]⟩] 79)
    have HBo := Lib.hid (below_alloc HV.out (.cells #[.string ⟨#[]⟩, .int .i64 0, .string ⟨#[]⟩] 79))
    obtain ⟨X, hX⟩ : ∃ x, v0.heap.size = x := ⟨_, rfl⟩
    have HXL := Lib.hid (show W0.heap.size ≤ X from by rw [← hX]; exact HV.out.size)
    obtain ⟨wo, hwo⟩ : ∃ x, v0.alloc (.cells #[.string ⟨#[]⟩, .int .i64 0, .string ⟨#[]⟩] 79) = x := ⟨_, rfl⟩
    rw [hX, hwo] at HRo
    rw [hwo] at HBo HS3
    rw [hX, hwo]
    clear hX hwo
    refine wpAnyH_ready (rs := [2]) (by kernel_rfl) (by simp) (AllReadyH.cons rfl (fun K hK => ?_) AllReadyH.nil)
    go_simp
    refine (nameof_any 2 t 0 0 0 _ (HT.out.pow.keep (below_via HB0.out HBo.out))).mono ?_
    rintro e wn ⟨rfl, hB⟩
    have HBn := Lib.hid (below_via HBo.out hB)
    have HRo := Lib.hid (HRo.out.keep hB)
    clear hB HBo
    refine hK.out _ _ (HALL.out _ HBn.out) (fun HS3 => ?_)
    clear hK K
    refine wpAnyH_ready (rs := [3]) (by kernel_rfl) (by simp) (AllReadyH.cons rfl (fun K hK => ?_) AllReadyH.nil)
    go_simp
    refine (get_any a g la ca lg cg l m _ _ (HS.out.keep HBn.out)).mono ?_
    rw [HQ.out]
    rintro e wg ⟨rfl, hB⟩
    have HBg := Lib.hid (below_via HBn.out hB)
    have HRo := Lib.hid (HRo.out.keep hB)
    clear hB
    refine hK.out _ _ (HALL.out _ HBg.out) (fun HS3 => ?_)
    clear hK K
    refine held_take (i := 4) (d := 11) (v := .tuple #[.agg #[.string s, .int .i64 v, .string d], .bool b]) rfl rfl (by kernel_rfl) (by kernel_rfl) (by kernel_rfl) (by kernel_rfl) (fun wx hS => by go_simp) HS3 ?_
    refine held_take (i := 5) (d := 16) (v := .agg #[.string s, .int .i64 v, .string d]) rfl rfl (by kernel_rfl) (by kernel_rfl) (by kernel_rfl) (by kernel_rfl) (fun wx hS => by go_simp) HS3 ?_
    refine held_take (i := 6) (d := 17) (v := .bool b) rfl rfl (by kernel_rfl) (by kernel_rfl) (by kernel_rfl) (by kernel_rfl) (fun wx hS => by go_simp) HS3 ?_
    have HBo := HBg
    obtain ⟨wo, rfl⟩ : ∃ x, x = wg := ⟨_, rfl⟩
    have o0 := HRo.out.cell (j := 0) (by simp)
    have o1 := HRo.out.cell (j := 1) (by simp)
    have o2 := HRo.out.cell (j := 2) (by simp)
    have of0 := HRo.out.free 0
    have of1 := HRo.out.free 1
    have of2 := HRo.out.free 2
    simp at o0 o1 o2
    refine wpAnyH_ready (rs := [8]) (by kernel_rfl) (by simp) (AllReadyH.cons rfl (fun K hK => ?_) AllReadyH.nil)
    go_simp
    have HBF := Lib.hid (((HBo.out.setCell (p := ⟨X, 0, none⟩) HXL.out (.string s)).setCell (p := ⟨X, 1, none⟩) HXL.out (.int .i64 v)).setCell (p := ⟨X, 2, none⟩) HXL.out (.string d))
    have HRF := Lib.hid (((HRo.out.set 0 (.string s)).set 1 (.int .i64 v)).set 2 (.string d))
    clear o0 o1 o2 of0 of1 of2
    generalize (((wo.setCell ⟨X, 0, none⟩ (.string s)).setCell ⟨X, 1, none⟩ (.int .i64 v)).setCell ⟨X, 2, none⟩ (.string d)) = wF at HBF HRF ⊢
    refine hK.out _ _ (HALL.out _ HBF.out) (fun HS3 => ?_)
    clear hK K
    refine held_take (i := 9) (d := 8) (v := .bool b) rfl rfl (by kernel_rfl) (by kernel_rfl) (by kernel_rfl) (by kernel_rfl) (fun wx hS => by go_simp) HS3 ?_
    refine wpAnyH_done (by kernel_rfl) (NoPanic.normal ?_) _
    clear HS3
    have o2 := HRF.out.cell (j := 2) (by simp)
    simp at o2
    go_wp2_with fail
    refine (readclaim_any d _ HDS.out (HT.out.keep (below_via HB0.out HBF.out))).mono ?_
    rw [HRD.out]
    rintro e wr ⟨he, hB⟩
    rw [HV1.out] at he
    subst he
    have HBr := Lib.hid (below_via HBF.out hB)
    have HRo2 := Lib.hid ((HRF.out.keep hB).al (.cells #[.int .i64 ma, .int .i64 me, .int .i64 mk] 69))
    have HRR := Lib.hid ((HR.out.keep HBr.out).al (.cells #[.int .i64 ma, .int .i64 me, .int .i64 mk] 69))
    have r0 := HRR.out.cell (j := 0) (by simp)
    have r1 := HRR.out.cell (j := 1) (by simp)
    have r2 := HRR.out.cell (j := 2) (by simp)
    have rf0 := HRR.out.free 0
    have rf1 := HRR.out.free 1
    have rf2 := HRR.out.free 2
    have v1 := HRo2.out.cell (j := 1) (by simp)
    simp at r0 r1 r2 v1
    have hxb : X ≠ B0 + 1 := by have := HXL.out; have := HBR.out; omega
    have hbx : B0 + 1 ≠ X := by omega
    have hne : B0 + 1 ≠ wr.heap.size := by have := HBR.out; have := HBr.out.size; omega
    clear hB o2
    cases b with
    | false =>
      have hmx : mx = false := by rw [HVX.out, HNO.out rfl]; rfl
      subst hmx
      go_wp2_with fail
      go_region
      go_wp2
      have hb := (((HRR.out.set 0 (.int .i64 ma)).set 1 (.int .i64 me)).set 2 (.int .i64 mk)).keep (show Below _ _ (World.drew _) from below_drewN (Below.refl _ _) 1)
      unfold Row at hb
      refine bodyPost_ret (v := .tuple #[.agg #[.int .i64 ma, .int .i64 me, .int .i64 mk], .int .i64 v, .bool false]) (by simp [results, Tryz.results71, go_sem, World.cell?, hb]) rfl ⟨ma, me, mk, v, false, HV1.out, rfl, below_drewN ((((below_via HB0.out (below_alloc HBr.out _)).setCell (p := ⟨B0 + 1, 0, none⟩) HLB.out _).setCell (p := ⟨B0 + 1, 1, none⟩) HLB.out _).setCell (p := ⟨B0 + 1, 2, none⟩) HLB.out _) 1⟩
    | true =>
      go_wp2_with fail
      go_region
      go_wp2
      have hb := (((HRR.out.set 0 (.int .i64 ma)).set 1 (.int .i64 me)).set 2 (.int .i64 mk)).keep (show Below _ _ (World.drew _) from below_drewN (Below.refl _ _) 1)
      unfold Row at hb
      refine bodyPost_ret (v := .tuple #[.agg #[.int .i64 ma, .int .i64 me, .int .i64 mk], .int .i64 v, .bool mx]) (by simp [results, Tryz.results71, go_sem, World.cell?, hb]) rfl ⟨ma, me, mk, v, mx, HV1.out, rfl, below_drewN ((((below_via HB0.out (below_alloc HBr.out _)).setCell (p := ⟨B0 + 1, 0, none⟩) HLB.out _).setCell (p := ⟨B0 + 1, 1, none⟩) HLB.out _).setCell (p := ⟨B0 + 1, 2, none⟩) HLB.out _) 1⟩
end Go.Proofs.YtbjlojmadellgaaGreatDoor
namespace Go.Proofs.YtbjlojmadellgaaGreatDoor
open Go.ChangeShapes Go.WideShapes Go.ChangeAt Go.RowKit
set_option linter.unusedVariables false
set_option maxRecDepth 100000

def mGet (o : Option (Bool × Int × Int)) : Bool × Int × Int := o.getD (false, 0, 0)
def cGet (o : Option (Int × Int × Int)) : Int × Int × Int := o.getD (0, 0, 0)
theorem rm_eq (o : Option (Bool × Int × Int)) : rmV o = .tuple #[.agg #[.bool (mGet o).1, .int .i64 (mGet o).2.1, .int .i64 (mGet o).2.2], .bool o.isSome] := by cases o <;> rfl
theorem rc_eq (o : Option (Int × Int × Int)) : rcV o = .tuple #[.agg #[.int .i64 (cGet o).1, .int .i64 (cGet o).2.1, .int .i64 (cGet o).2.2], .bool o.isSome] := by cases o <;> rfl
/-- What standingOf returns, as cells. -/
def standC (l : Objs) (t : Int) : Array Value := #[.int .i64 t, .bool (mGet (markS l t)).1, .int .i64 (mGet (markS l t)).2.1, .int .i64 (mGet (markS l t)).2.2, .bool (markS l t).isSome, .int .i64 (cGet (claimS l t)).1, .int .i64 (cGet (claimS l t)).2.1, .int .i64 (cGet (claimS l t)).2.2, .bool (claimS l t).isSome]

set_option maxHeartbeats 8000000 in
theorem standingof_any (a g : Option Addr) (la ca lg cg : Nat) (l : Objs) (m : Gones) (t : Int) (w : World) (h : StoAt w a la l g lg m) (hsz : ∀ i, i < la → (obj2 l i).size ≤ 1048576) (hT : TabsR w) :
    Calls Tryz.prog 54 #[.agg #[.slice a la ca, .slice g lg cg], .int .i64 t] w (fun e w' => e = .returned (.agg (standC l t)) ∧ Below w.heap.size w w') := by
  obtain ⟨B0, hB0⟩ : ∃ B, w.heap.size = B := ⟨_, rfl⟩
  obtain ⟨W0, hW0⟩ : ∃ x, ((w.alloc (.cells #[.slice a la ca, .slice g lg cg] 40)).alloc (.cells #[.int .i64 0, .bool false, .int .i64 0, .int .i64 0, .bool false, .int .i64 0, .int .i64 0, .int .i64 0, .bool false] 71)).alloc (.cells #[.int .i64 t, .bool false, .int .i64 0, .int .i64 0, .bool false, .int .i64 0, .int .i64 0, .int .i64 0, .bool false] 71) = x := ⟨_, rfl⟩
  have HB0 := Lib.hid (show Below w.heap.size w W0 from by rw [← hW0]; exact below_alloc (below_alloc (below_alloc (Below.refl _ _) _) _) _)
  have HX := Lib.hid (show Row W0 B0 40 #[.slice a la ca, .slice g lg cg] from by rw [← hW0, ← hB0]; exact ((row_new w _ _).al _).al _)
  have HR := Lib.hid (show Row W0 (B0 + 1) 71 #[.int .i64 0, .bool false, .int .i64 0, .int .i64 0, .bool false, .int .i64 0, .int .i64 0, .int .i64 0, .bool false] from by rw [← hW0, ← hB0]; exact (row_new1 w _ _ _).al _)
  have HS9 := Lib.hid (show Row W0 (B0 + 1 + 1) 71 #[.int .i64 t, .bool false, .int .i64 0, .int .i64 0, .bool false, .int .i64 0, .int .i64 0, .int .i64 0, .bool false] from by
    have := row_new1 (w.alloc (.cells #[.slice a la ca, .slice g lg cg] 40)) (.cells #[.int .i64 0, .bool false, .int .i64 0, .int .i64 0, .bool false, .int .i64 0, .int .i64 0, .int .i64 0, .bool false] 71) #[.int .i64 t, .bool false, .int .i64 0, .int .i64 0, .bool false, .int .i64 0, .int .i64 0, .int .i64 0, .bool false] 71
    rw [← hW0, ← hB0]
    simpa using this)
  have HS := Lib.hid (h.keep HB0.out)
  have HT := Lib.hid (hT.keep HB0.out)
  have HZ := Lib.hid hsz
  have HSW := Lib.hid h
  have HTW := Lib.hid hT
  have HW0 := Lib.hid hW0
  have HLB := Lib.hid (show w.heap.size ≤ B0 from by omega)
  have HLT := Lib.hid HS9.out.lt
  obtain ⟨⟨ma, me, mk⟩, hmg⟩ : ∃ x, mGet (markS l t) = x := ⟨_, rfl⟩
  obtain ⟨⟨c1, c2, c3⟩, hcg⟩ : ∃ x, cGet (claimS l t) = x := ⟨_, rfl⟩
  obtain ⟨mx, hmx⟩ : ∃ x, (markS l t).isSome = x := ⟨_, rfl⟩
  obtain ⟨cx, hcx⟩ : ∃ x, (claimS l t).isSome = x := ⟨_, rfl⟩
  have HMV := Lib.hid (rm_eq (markS l t))
  have HCV := Lib.hid (rc_eq (claimS l t))
  have HST := Lib.hid (show standC l t = #[.int .i64 t, .bool ma, .int .i64 me, .int .i64 mk, .bool mx, .int .i64 c1, .int .i64 c2, .int .i64 c3, .bool cx] by unfold standC; rw [hmg, hcg, hmx, hcx])
  rw [hmg, hmx] at HMV
  rw [hcg, hcx] at HCV
  have x0 := HX.out.cell (j := 0) (by simp)
  have x1 := HX.out.cell (j := 1) (by simp)
  simp at x0 x1
  clear h hsz hT hW0 hmg hcg hmx hcx
  go_enter Tryz.func54, Tryz.ntmps54
  go_wp2_with fail
  rw [HW0.out]
  try rw [hB0]
  clear hB0
  refine (markin_any a g la ca lg cg l m t _ HS.out HZ.out HT.out).mono ?_
  rintro e w1 ⟨he, hB⟩
  rw [HMV.out] at he
  subst he
  have HB := Lib.hid hB
  have HX1 := Lib.hid (HX.out.keep hB)
  have HR1 := Lib.hid (HR.out.keep hB)
  have HT1 := Lib.hid (HS9.out.keep hB)
  clear hB x0 x1
  have t1 := HT1.out.cell (j := 1) (by simp)
  have t2 := HT1.out.cell (j := 2) (by simp)
  have t3 := HT1.out.cell (j := 3) (by simp)
  have t4 := HT1.out.cell (j := 4) (by simp)
  have tf1 := HT1.out.free 1
  have tf2 := HT1.out.free 2
  have tf3 := HT1.out.free 3
  have tf4 := HT1.out.free 4
  simp at t1 t2 t3 t4
  have HX2 := Lib.hid ((((HX1.out.put (show B0 ≠ B0 + 1 + 1 by omega) 1 (.bool ma)).put (show B0 ≠ B0 + 1 + 1 by omega) 2 (.int .i64 me)).put (show B0 ≠ B0 + 1 + 1 by omega) 3 (.int .i64 mk)).put (show B0 ≠ B0 + 1 + 1 by omega) 4 (.bool mx))
  have HR2 := Lib.hid ((((HR1.out.put (show B0 + 1 ≠ B0 + 1 + 1 by omega) 1 (.bool ma)).put (show B0 + 1 ≠ B0 + 1 + 1 by omega) 2 (.int .i64 me)).put (show B0 + 1 ≠ B0 + 1 + 1 by omega) 3 (.int .i64 mk)).put (show B0 + 1 ≠ B0 + 1 + 1 by omega) 4 (.bool mx))
  have HT2 := Lib.hid ((((HT1.out.set 1 (.bool ma)).set 2 (.int .i64 me)).set 3 (.int .i64 mk)).set 4 (.bool mx))
  have HBA := Lib.hid (((((below_via HB0.out HB.out).setCell (p := ⟨B0 + 1 + 1, 1, none⟩) (by have := HLB.out; show w.heap.size ≤ B0 + 1 + 1; omega) (.bool ma)).setCell (p := ⟨B0 + 1 + 1, 2, none⟩) (by have := HLB.out; show w.heap.size ≤ B0 + 1 + 1; omega) (.int .i64 me)).setCell (p := ⟨B0 + 1 + 1, 3, none⟩) (by have := HLB.out; show w.heap.size ≤ B0 + 1 + 1; omega) (.int .i64 mk)).setCell (p := ⟨B0 + 1 + 1, 4, none⟩) (by have := HLB.out; show w.heap.size ≤ B0 + 1 + 1; omega) (.bool mx))
  obtain ⟨w2, hw2⟩ : ∃ x, (((w1.setCell ⟨B0 + 1 + 1, 1, none⟩ (.bool ma)).setCell ⟨B0 + 1 + 1, 2, none⟩ (.int .i64 me)).setCell ⟨B0 + 1 + 1, 3, none⟩ (.int .i64 mk)).setCell ⟨B0 + 1 + 1, 4, none⟩ (.bool mx) = x := ⟨_, rfl⟩
  rw [hw2] at HX2 HR2 HT2 HBA
  have HW2 := Lib.hid hw2
  have x0 := HX2.out.cell (j := 0) (by simp)
  have x1 := HX2.out.cell (j := 1) (by simp)
  simp at x0 x1
  rw [← hw2] at x0 x1
  clear hw2
  go_wp2_with fail
  rw [HW2.out]
  refine (claimin_any a g la ca lg cg l m t _ (HSW.out.keep HBA.out) HZ.out (HTW.out.keep HBA.out)).mono ?_
  rintro e w3 ⟨a1, a2, a3, cv, a4, hv, rfl, hB⟩
  rw [HCV.out] at hv
  simp at hv
  obtain ⟨⟨rfl, rfl, rfl⟩, rfl⟩ := hv
  have HBC := Lib.hid (below_via HBA.out hB)
  have HR3 := Lib.hid (HR2.out.keep hB)
  have HT3 := Lib.hid (HT2.out.keep hB)
  clear hB x0 x1 HW2 HX2 HR2 HT2
  have n1 : B0 + 1 ≠ B0 + 1 + 1 := by omega
  have n2 : B0 + 1 + 1 ≠ B0 + 1 := by omega
  have t0 := HT3.out.cell (j := 0) (by simp)
  have t1 := HT3.out.cell (j := 1) (by simp)
  have t2 := HT3.out.cell (j := 2) (by simp)
  have t3 := HT3.out.cell (j := 3) (by simp)
  have t4 := HT3.out.cell (j := 4) (by simp)
  have t5 := HT3.out.cell (j := 5) (by simp)
  have t6 := HT3.out.cell (j := 6) (by simp)
  have t7 := HT3.out.cell (j := 7) (by simp)
  have t8 := HT3.out.cell (j := 8) (by simp)
  have tf0 := HT3.out.free 0
  have tf1 := HT3.out.free 1
  have tf2 := HT3.out.free 2
  have tf3 := HT3.out.free 3
  have tf4 := HT3.out.free 4
  have tf5 := HT3.out.free 5
  have tf6 := HT3.out.free 6
  have tf7 := HT3.out.free 7
  have tf8 := HT3.out.free 8
  simp at t0 t1 t2 t3 t4 t5 t6 t7 t8
  have r0 := HR3.out.cell (j := 0) (by simp)
  have r1 := HR3.out.cell (j := 1) (by simp)
  have r2 := HR3.out.cell (j := 2) (by simp)
  have r3 := HR3.out.cell (j := 3) (by simp)
  have r4 := HR3.out.cell (j := 4) (by simp)
  have r5 := HR3.out.cell (j := 5) (by simp)
  have r6 := HR3.out.cell (j := 6) (by simp)
  have r7 := HR3.out.cell (j := 7) (by simp)
  have r8 := HR3.out.cell (j := 8) (by simp)
  have rf0 := HR3.out.free 0
  have rf1 := HR3.out.free 1
  have rf2 := HR3.out.free 2
  have rf3 := HR3.out.free 3
  have rf4 := HR3.out.free 4
  have rf5 := HR3.out.free 5
  have rf6 := HR3.out.free 6
  have rf7 := HR3.out.free 7
  have rf8 := HR3.out.free 8
  simp at r0 r1 r2 r3 r4 r5 r6 r7 r8
  go_wp2
  have hb := (((((((((((((HR3.out.put n1 5 (.int .i64 c1)).put n1 6 (.int .i64 c2)).put n1 7 (.int .i64 c3)).put n1 8 (.bool cx)).set 0 (.int .i64 t)).set 1 (.bool ma)).set 2 (.int .i64 me)).set 3 (.int .i64 mk)).set 4 (.bool mx)).set 5 (.int .i64 c1)).set 6 (.int .i64 c2)).set 7 (.int .i64 c3)).set 8 (.bool cx))
  unfold Row at hb
  have hl2 : w.heap.size ≤ B0 + 1 + 1 := by have := HLB.out; omega
  have hl1 : w.heap.size ≤ B0 + 1 := by have := HLB.out; omega
  refine bodyPost_ret (v := .agg #[.int .i64 t, .bool ma, .int .i64 me, .int .i64 mk, .bool mx, .int .i64 c1, .int .i64 c2, .int .i64 c3, .bool cx]) (by simp [results, Tryz.results54, go_sem, World.cell?, hb]) rfl ⟨by rw [HST.out], (((((((((((((HBC.out.setCell (p := ⟨B0 + 1 + 1, 5, none⟩) hl2 _).setCell (p := ⟨B0 + 1 + 1, 6, none⟩) hl2 _).setCell (p := ⟨B0 + 1 + 1, 7, none⟩) hl2 _).setCell (p := ⟨B0 + 1 + 1, 8, none⟩) hl2 _).setCell (p := ⟨B0 + 1, 0, none⟩) hl1 _).setCell (p := ⟨B0 + 1, 1, none⟩) hl1 _).setCell (p := ⟨B0 + 1, 2, none⟩) hl1 _).setCell (p := ⟨B0 + 1, 3, none⟩) hl1 _).setCell (p := ⟨B0 + 1, 4, none⟩) hl1 _).setCell (p := ⟨B0 + 1, 5, none⟩) hl1 _).setCell (p := ⟨B0 + 1, 6, none⟩) hl1 _).setCell (p := ⟨B0 + 1, 7, none⟩) hl1 _).setCell (p := ⟨B0 + 1, 8, none⟩) hl1 _)⟩
end Go.Proofs.YtbjlojmadellgaaGreatDoor
namespace Go.Proofs.YtbjlojmadellgaaGreatDoor
open Go.ChangeShapes Go.WideShapes Go.ChangeAt Go.RowKit
set_option linter.unusedVariables false
set_option maxRecDepth 100000

/-- The state of a task by its mark and its claim. -/
def stT (o : Option (Bool × Int × Int)) (c : Option (Int × Int × Int)) (now : Int) : Int × Int × Int :=
  if o.isSome && (mGet o).1 then (3, (mGet o).2.1, (mGet o).2.2) else if o.isSome then (4, (mGet o).2.1, (mGet o).2.2)
  else if c.isSome && decide (now < (cGet c).2.2) then (2, (cGet c).2.1, (cGet c).1) else (1, (cGet c).2.1, 0)
def stateT (l : Objs) (now : Int) (t : Int) : Int × Int × Int := stT (markS l t) (claimS l t) now
/-- The board of N tasks. -/
def boardL (l : Objs) (now : Int) (L : List Nat) : List (Int × Int × Int) := L.map fun (k : Nat) => stateT l now (k : Int)
def stV (x : Int × Int × Int) : Value := .agg #[.int .i64 x.1, .int .i64 x.2.1, .int .i64 x.2.2]

set_option maxHeartbeats 4000000 in
theorem taken_any (t me mk c1 c2 c3 now : Int) (ma mx cx : Bool) (w : World) :
    Calls Tryz.prog 63 #[.agg #[.int .i64 t, .bool ma, .int .i64 me, .int .i64 mk, .bool mx, .int .i64 c1, .int .i64 c2, .int .i64 c3, .bool cx], .int .i64 now] w (MadeBool (cx && decide (now < c3)) w) := by
  cases cx with
  | false =>
    go_enter Tryz.func63, Tryz.ntmps63
    go_wp2
    go_ret
    exact ⟨rfl, below_alloc (Below.refl _ _) _⟩
  | true =>
    go_enter Tryz.func63, Tryz.ntmps63
    go_wp2
    go_ret
    exact ⟨rfl, below_alloc (Below.refl _ _) _⟩

set_option maxHeartbeats 8000000 in
theorem state_any (t now : Int) (l : Objs) (w : World) :
    Calls Tryz.prog 38 #[.agg (standC l t), .int .i64 now] w (fun e w' => e = .returned (stV (stateT l now t)) ∧ Below w.heap.size w w') := by
  unfold standC stateT stT stV
  obtain ⟨⟨ma, me, mk⟩, hmg⟩ : ∃ x, mGet (markS l t) = x := ⟨_, rfl⟩
  obtain ⟨⟨c1, c2, c3⟩, hcg⟩ : ∃ x, cGet (claimS l t) = x := ⟨_, rfl⟩
  obtain ⟨mx, hmx⟩ : ∃ x, (markS l t).isSome = x := ⟨_, rfl⟩
  obtain ⟨cx, hcx⟩ : ∃ x, (claimS l t).isSome = x := ⟨_, rfl⟩
  rw [hmg, hcg, hmx, hcx]
  clear hmg hcg hmx hcx
  obtain ⟨B0, hB0⟩ : ∃ B, w.heap.size = B := ⟨_, rfl⟩
  obtain ⟨W0, hW0⟩ : ∃ x, (w.alloc (.cells #[.int .i64 t, .bool ma, .int .i64 me, .int .i64 mk, .bool mx, .int .i64 c1, .int .i64 c2, .int .i64 c3, .bool cx] 71)).alloc (.cells #[.int .i64 0, .int .i64 0, .int .i64 0] 77) = x := ⟨_, rfl⟩
  have HB0 := Lib.hid (show Below w.heap.size w W0 from by rw [← hW0]; exact below_alloc (below_alloc (Below.refl _ _) _) _)
  have HX := Lib.hid (show Row W0 B0 71 #[.int .i64 t, .bool ma, .int .i64 me, .int .i64 mk, .bool mx, .int .i64 c1, .int .i64 c2, .int .i64 c3, .bool cx] from by rw [← hW0, ← hB0]; exact (row_new w _ _).al _)
  have HR := Lib.hid (show Row W0 (B0 + 1) 77 #[.int .i64 0, .int .i64 0, .int .i64 0] from by rw [← hW0, ← hB0]; exact row_new1 w _ _ _)
  have HW0 := Lib.hid hW0
  have HLB := Lib.hid (show w.heap.size ≤ B0 + 1 from by omega)
  have x1 := HX.out.cell (j := 1) (by simp)
  have x2 := HX.out.cell (j := 2) (by simp)
  have x3 := HX.out.cell (j := 3) (by simp)
  have x4 := HX.out.cell (j := 4) (by simp)
  have x5 := HX.out.cell (j := 5) (by simp)
  have x6 := HX.out.cell (j := 6) (by simp)
  simp at x1 x2 x3 x4 x5 x6
  have r0 := HR.out.cell (j := 0) (by simp)
  have r1 := HR.out.cell (j := 1) (by simp)
  have r2 := HR.out.cell (j := 2) (by simp)
  have rf0 := HR.out.free 0
  have rf1 := HR.out.free 1
  have rf2 := HR.out.free 2
  simp at r0 r1 r2
  clear hW0
  cases mx with
  | true =>
    cases ma with
    | true =>
      go_enter Tryz.func38, Tryz.ntmps38
      go_wp2
      have hb := row_new1 w (.cells #[.int .i64 t, .bool true, .int .i64 me, .int .i64 mk, .bool true, .int .i64 c1, .int .i64 c2, .int .i64 c3, .bool cx] 71) #[.int .i64 3, .int .i64 me, .int .i64 mk] 77
      have hz := below_alloc (below_alloc (Below.refl w.heap.size w) (.cells #[.int .i64 t, .bool true, .int .i64 me, .int .i64 mk, .bool true, .int .i64 c1, .int .i64 c2, .int .i64 c3, .bool cx] 71)) (.cells #[.int .i64 3, .int .i64 me, .int .i64 mk] 77)
      rw [hB0] at hb hz
      unfold Row at hb
      exact bodyPost_ret (v := .agg #[.int .i64 3, .int .i64 me, .int .i64 mk]) (by simp [results, Tryz.results38, go_sem, World.cell?, hb]) rfl ⟨rfl, hz⟩
    | false =>
      go_enter Tryz.func38, Tryz.ntmps38
      go_wp2
      have hb := row_new1 w (.cells #[.int .i64 t, .bool false, .int .i64 me, .int .i64 mk, .bool true, .int .i64 c1, .int .i64 c2, .int .i64 c3, .bool cx] 71) #[.int .i64 4, .int .i64 me, .int .i64 mk] 77
      have hz := below_alloc (below_alloc (Below.refl w.heap.size w) (.cells #[.int .i64 t, .bool false, .int .i64 me, .int .i64 mk, .bool true, .int .i64 c1, .int .i64 c2, .int .i64 c3, .bool cx] 71)) (.cells #[.int .i64 4, .int .i64 me, .int .i64 mk] 77)
      rw [hB0] at hb hz
      unfold Row at hb
      exact bodyPost_ret (v := .agg #[.int .i64 4, .int .i64 me, .int .i64 mk]) (by simp [results, Tryz.results38, go_sem, World.cell?, hb]) rfl ⟨rfl, hz⟩
  | false =>
    go_enter Tryz.func38, Tryz.ntmps38
    go_wp2_with fail
    rw [HW0.out]
    try rw [hB0]
    refine (taken_any _ _ _ _ _ _ _ _ _ _ _).mono ?_
    rintro e w1 ⟨rfl, hB⟩
    have HRx := Lib.hid (HR.out.keep hB)
    have HBx := Lib.hid (below_via HB0.out hB)
    have HXx := Lib.hid (HX.out.keep hB)
    clear x1 x2 x3 x4 x5 x6 r0 r1 r2 rf0 rf1 rf2 hB
    have x5 := HXx.out.cell (j := 5) (by simp)
    have x6 := HXx.out.cell (j := 6) (by simp)
    simp at x5 x6
    have r0 := HRx.out.cell (j := 0) (by simp)
    have r1 := HRx.out.cell (j := 1) (by simp)
    have r2 := HRx.out.cell (j := 2) (by simp)
    have rf0 := HRx.out.free 0
    have rf1 := HRx.out.free 1
    have rf2 := HRx.out.free 2
    simp at r0 r1 r2
    obtain ⟨b, hb9⟩ : ∃ b, (cx && decide (now < c3)) = b := ⟨_, rfl⟩
    rw [hb9]
    cases b with
    | true =>
      go_wp2
      have hb := ((HRx.out.set 0 (.int .i64 2)).set 1 (.int .i64 c2)).set 2 (.int .i64 c1)
      have hz := ((HBx.out.setCell (p := ⟨B0 + 1, 0, none⟩) HLB.out (.int .i64 2)).setCell (p := ⟨B0 + 1, 1, none⟩) HLB.out (.int .i64 c2)).setCell (p := ⟨B0 + 1, 2, none⟩) HLB.out (.int .i64 c1)
      rw [hB0] at hz
      unfold Row at hb
      exact bodyPost_ret (v := .agg #[.int .i64 2, .int .i64 c2, .int .i64 c1]) (by simp [results, Tryz.results38, go_sem, World.cell?, hb]) rfl ⟨rfl, hz⟩
    | false =>
      go_wp2
      have hb := ((HRx.out.set 0 (.int .i64 1)).set 1 (.int .i64 c2)).set 2 (.int .i64 0)
      have hz := ((HBx.out.setCell (p := ⟨B0 + 1, 0, none⟩) HLB.out (.int .i64 1)).setCell (p := ⟨B0 + 1, 1, none⟩) HLB.out (.int .i64 c2)).setCell (p := ⟨B0 + 1, 2, none⟩) HLB.out (.int .i64 0)
      rw [hB0] at hz
      unfold Row at hb
      exact bodyPost_ret (v := .agg #[.int .i64 1, .int .i64 c2, .int .i64 0]) (by simp [results, Tryz.results38, go_sem, World.cell?, hb]) rfl ⟨rfl, hz⟩
end Go.Proofs.YtbjlojmadellgaaGreatDoor
