
/- The model's BoardOf, walked. Only new blocks are made. -/
import Derived.Test.YtbjlojmadellgaaGreatDoorMg33
import Derived.Test.YtbjlojmadellgaaGreatDoorMg30
import Derived.Test.YtbjlojmadellgaaGreatDoorMg1
namespace Go.Proofs.YtbjlojmadellgaaGreatDoor
open Go.ChangeShapes Go.WideShapes Go.ChangeAt Go.RowKit
set_option linter.unusedVariables false
set_option maxRecDepth 100000

set_option maxHeartbeats 8000000 in
theorem sboardof_any (p js : Option Addr) (pl pc sl sc : Nat) (e1 : Bool) (o1 n1 : Int) (li : Instrs) (ms : Strs) (a g : Option Addr) (la ca lg cg : Nat) (l : Objs) (m : Gones) (N : Nat) (w : World)
    (hj : JobAt w p pl li js sl ms) (hjz : ∀ i, i < sl → (strAt ms i).size ≤ 1048576) (hs : StoAt w a la l g lg m) (hsz : ∀ i, i < la → (obj2 l i).size ≤ 1048576) (hN : tasksB li o1 n1 ms sl = (N : Int)) (hN7 : N ≤ 100) (now : Int) :
    Calls Tryz.prog 13 #[.agg #[.slice p pl pc, .bool e1, .int .i64 o1, .int .i64 n1, .slice js sl sc], .agg #[.slice a la ca, .slice g lg cg], .int .i64 now] w (MadeBd l now N w) := by
  obtain ⟨i0, hi, hz0, hz1, hz2⟩ := info_parts infoState
  obtain ⟨B0, hB0⟩ : ∃ B, w.heap.size = B := ⟨_, rfl⟩
  obtain ⟨W0, hW0⟩ : ∃ x, (w.alloc (.cells #[.slice p pl pc, .bool e1, .int .i64 o1, .int .i64 n1, .slice js sl sc] 35)).alloc (.cells #[.slice a la ca, .slice g lg cg] 40) = x := ⟨_, rfl⟩
  have HB0 := Lib.hid (show Below w.heap.size w W0 from by rw [← hW0]; exact below_alloc (below_alloc (Below.refl _ _) _) _)
  have HX := Lib.hid (show Row W0 B0 35 #[.slice p pl pc, .bool e1, .int .i64 o1, .int .i64 n1, .slice js sl sc] from by rw [← hW0, ← hB0]; exact (row_new w _ _).al _)
  have HY := Lib.hid (show Row W0 (B0 + 1) 40 #[.slice a la ca, .slice g lg cg] from by rw [← hW0, ← hB0]; exact row_new1 w _ _ _)
  have HJ := Lib.hid (hj.keep HB0.out)
  have HS := Lib.hid (hs.keep HB0.out)
  have HJZ := Lib.hid hjz
  have HSZ := Lib.hid hsz
  have HN := Lib.hid hN
  have HW0 := Lib.hid hW0
  have HZ0 := Lib.hid (show W0.heap.size = B0 + 1 + 1 by rw [← hW0, ← hB0]; simp)
  clear hj hjz hs hsz hN hW0
  go_enter Tryz.func13, Tryz.ntmps13
  go_wp2_with fail
  rw [HW0.out]
  try rw [hB0]
  clear hB0
  go_loopw [7, 8] (fun v t wr => ∃ (k : Nat) (q : Option Addr) (cp : Nat), k ≤ N ∧ v = .slice q k cp ∧ t = .int .i64 (k : Int) ∧ Hid (wr.ownsRow W0.heap.size 77 3 (.slice q k cp) k (cellsState (boardL l now (List.range k)))) ∧ Hid (Below W0.heap.size W0 wr)) (fun _ t _ => N - (intOf t).toNat)
  case atStart => exact ⟨0, _, _, Nat.zero_le _, rfl, rfl, Lib.hid (by have h := own_zeroState (base := W0.heap.size) (row_new W0 #[] 77) (Nat.le_refl _); rw [HZ0.out] at h ⊢; exact h), Lib.hid (below_alloc (Below.refl _ _) _)⟩
  case round =>
    obtain ⟨k, q, cp, hk, rfl, rfl, HO, HB⟩ := hrel
    have HX1 := Lib.hid (HX.out.keep HB.out)
    have x0 := HX1.out.cell (j := 0) (by simp)
    have x1 := HX1.out.cell (j := 1) (by simp)
    have x2 := HX1.out.cell (j := 2) (by simp)
    have x3 := HX1.out.cell (j := 3) (by simp)
    have x4 := HX1.out.cell (j := 4) (by simp)
    simp at x0 x1 x2 x3 x4
    go_wp2_with fail
    refine (stasks_any p js pl pc sl sc e1 o1 n1 li ms _ (HJ.out.keep HB.out) HJZ.out).mono ?_
    rw [HN.out]
    rintro e w1 ⟨rfl, hB⟩
    have HO := Lib.hid (own_below HO.out hB)
    have HB := Lib.hid (below_via HB.out hB)
    have HY1 := Lib.hid (HY.out.keep HB.out)
    have y0 := HY1.out.cell (j := 0) (by simp)
    have y1 := HY1.out.cell (j := 1) (by simp)
    simp at y0 y1
    clear hB x0 x1 x2 x3 x4 HX1
    by_cases hlt : k < N
    · have hi1 : (k : Int) < (N : Int) := by omega
      obtain ⟨b, hb⟩ : ∃ b, (markS l (k : Int)).isSome = b := ⟨_, rfl⟩
      obtain ⟨cx, hcx⟩ : ∃ b, (claimS l (k : Int)).isSome = b := ⟨_, rfl⟩
      have HMV := Lib.hid (rm_eq (markS l (k : Int)))
      have HCV := Lib.hid (rc_eq (claimS l (k : Int)))
      obtain ⟨⟨ma, me, mk⟩, hmg⟩ : ∃ x, mGet (markS l (k : Int)) = x := ⟨_, rfl⟩
      obtain ⟨⟨c1, c2, c3⟩, hcg⟩ : ∃ x, cGet (claimS l (k : Int)) = x := ⟨_, rfl⟩
      rw [hb, hmg] at HMV
      rw [hcx, hcg] at HCV
      have HMB := Lib.hid hb
      have HMG := Lib.hid hmg
      have HCB := Lib.hid hcx
      have HCG := Lib.hid hcg
      clear hb hmg hcx hcg
      go_wp2_with fail
      refine (smarkin_any a g la ca lg cg l m (k : Int) _ (HS.out.keep HB.out) HSZ.out).mono ?_
      rintro e w2 ⟨he, hBw⟩
      rw [HMV.out] at he
      subst he
      have HB2 := Lib.hid (below_via HB.out hBw)
      clear y0 y1 HY1 HB
      cases b with
      | true =>
        cases ma with
        | true =>
          have HST := Lib.hid (show stateT l now (k : Int) = (3, me, mk) by unfold stateT stT; rw [HMB.out, HMG.out]; rfl)
          have HO9 := Lib.hid (own_below HO.out hBw)
          have HB9 := HB2
          clear hBw HO
          go_wp2_with (at_builtin; (refine wpList_append_own _ rfl _ _ 45 rfl W0.heap.size 77 i0 _ 3 24 Tryz.underlying45 hi hz0 hz1 hz2 rfl (by decide) _ _ _ rfl ((HO9.out.alloc _).alloc _) ⟨w2.heap.size + 1, 0, none⟩ 1 1 [.int .i64 3, .int .i64 me, .int .i64 mk] rfl rfl (by intro j u hj; have h9 := bst_new (w2.alloc (.cells #[.bool true, .int .i64 me, .int .i64 mk] 58)) _ _ _ 77 j u hj; rw [World.size_alloc] at h9; exact h9) (by intro u hu; simp at hu; rcases hu with rfl | rfl | rfl <;> rfl) (by unfold maxLen; omega) (by omega) (by have := HB9.out.size; simp; omega) ?_); intro v' w9 hown1 hgrow hnil; have HO1 := Lib.hid hown1; have HG := Lib.hid hgrow; clear hown1 hgrow hnil)
          obtain ⟨q1, cp1, rfl⟩ := own_form HO1.out
          go_roundw
          case rel =>
            refine ⟨k + 1, q1, cp1, by omega, rfl, by go_num, Lib.hid ?_, Lib.hid ((((HB9.out.alloc HB9.out.size _).alloc (by have := HB9.out.size; simp; omega) _)).grown HG.out (by have := HB9.out.size; simp; omega) (fun j hj => (HO9.out.lt j hj).1))⟩
            rw [List.range_succ, board_snoc, HST.out, cellsState_snoc]
            exact HO1.out
          case measure => simp [intOf]; omega
        | false =>
          have HST := Lib.hid (show stateT l now (k : Int) = (4, me, mk) by unfold stateT stT; rw [HMB.out, HMG.out]; rfl)
          have HO9 := Lib.hid (own_below HO.out hBw)
          have HB9 := HB2
          clear hBw HO
          go_wp2_with (at_builtin; (refine wpList_append_own _ rfl _ _ 45 rfl W0.heap.size 77 i0 _ 3 24 Tryz.underlying45 hi hz0 hz1 hz2 rfl (by decide) _ _ _ rfl ((HO9.out.alloc _).alloc _) ⟨w2.heap.size + 1, 0, none⟩ 1 1 [.int .i64 4, .int .i64 me, .int .i64 mk] rfl rfl (by intro j u hj; have h9 := bst_new (w2.alloc (.cells #[.bool false, .int .i64 me, .int .i64 mk] 58)) _ _ _ 77 j u hj; rw [World.size_alloc] at h9; exact h9) (by intro u hu; simp at hu; rcases hu with rfl | rfl | rfl <;> rfl) (by unfold maxLen; omega) (by omega) (by have := HB9.out.size; simp; omega) ?_); intro v' w9 hown1 hgrow hnil; have HO1 := Lib.hid hown1; have HG := Lib.hid hgrow; clear hown1 hgrow hnil)
          obtain ⟨q1, cp1, rfl⟩ := own_form HO1.out
          go_roundw
          case rel =>
            refine ⟨k + 1, q1, cp1, by omega, rfl, by go_num, Lib.hid ?_, Lib.hid ((((HB9.out.alloc HB9.out.size _).alloc (by have := HB9.out.size; simp; omega) _)).grown HG.out (by have := HB9.out.size; simp; omega) (fun j hj => (HO9.out.lt j hj).1))⟩
            rw [List.range_succ, board_snoc, HST.out, cellsState_snoc]
            exact HO1.out
          case measure => simp [intOf]; omega
      | false =>
        obtain ⟨⟨⟨s, v, d⟩, b⟩, hq⟩ : ∃ q, getAux (nameB 2 (k : Int) 0 0 0) l = q := ⟨_, rfl⟩
        have HQ := Lib.hid hq
        have HD := Lib.hid (show dataOf l (nameB 2 (k : Int) 0 0 0) = d by unfold dataOf; rw [hq])
        have HDS := Lib.hid (show d.size ≤ 1048576 by rw [← HD.out]; exact data_size (fun i hi => HSZ.out i (by rw [← HS.out.o.length]; exact hi)))
        have HRD := Lib.hid (show rclaim d.data.toList = claimS l (k : Int) by unfold claimS; rw [HD.out])
        have HO := Lib.hid (own_below HO.out hBw)
        clear hq hBw
        have yy0 := (HY.out.keep HB2.out).cell (j := 0) (by simp)
        go_wp2_with fail
        obtain ⟨wM, hwM⟩ : ∃ x, w2.alloc (.cells #[.bool ma, .int .i64 me, .int .i64 mk] 58) = x := ⟨_, rfl⟩
        have HBM := Lib.hid (show Below W0.heap.size W0 wM by rw [← hwM]; exact below_alloc HB2.out _)
        have HOM := Lib.hid (show wM.ownsRow W0.heap.size 77 3 (.slice q k cp) k (cellsState (boardL l now (List.range k))) by rw [← hwM]; exact HO.out.alloc _)
        rw [hwM]
        clear hwM yy0 HB2 HO
        have HSM := Lib.hid (HS.out.keep HBM.out)
        obtain ⟨Bs, hBs⟩ : ∃ x, B0 + 1 = x := ⟨_, rfl⟩
        have HYM := Lib.hid (hBs ▸ HY.out.keep HBM.out)
        rw [hBs]
        have HBS := Lib.hid hBs
        clear hBs
        have HALL := Lib.hid (fun w' (hb : Below wM.heap.size wM w') => (show Hid (Below wM.heap.size wM w') ∧ w'.cell? ⟨Bs, 0, none⟩ = some (.slice a la ca) ∧ w'.cell? ⟨Bs, 1, none⟩ = some (.slice g lg cg) from by
          have hr := HYM.out.keep hb
          have k0 := hr.cell (j := 0) (by simp)
          have k1 := hr.cell (j := 1) (by simp)
          simp at k0 k1
          exact ⟨Lib.hid hb, k0, k1⟩))
        refine wp_region_noPanic ?_
        obtain ⟨v0, hv0⟩ : ∃ x, wM.drew = x := ⟨_, rfl⟩
        have HV := Lib.hid (show Below wM.heap.size wM v0 from by rw [← hv0]; exact below_drewN (Below.refl _ _) 1)
        refine wp_region_held_drew (S := (fun w' => Hid (Below wM.heap.size wM w') ∧ w'.cell? ⟨Bs, 0, none⟩ = some (.slice a la ca) ∧ w'.cell? ⟨Bs, 1, none⟩ = some (.slice g lg cg))) (by kernel_rfl) (by rw [hv0]; exact HALL.out _ HV.out) (fun HS3 => ?_)
        rw [hv0] at HS3 ⊢
        clear hv0
        refine held_take (i := 0) (d := 51) (v := .agg #[.slice a la ca, .slice g lg cg]) rfl rfl (by kernel_rfl) (by kernel_rfl) (by kernel_rfl) (by kernel_rfl) (fun wx hS => by obtain ⟨_, h0, h1⟩ := hS; go_simp) HS3 ?_
        refine held_take (i := 1) (d := 52) (v := .int .i64 (k : Int)) rfl rfl (by kernel_rfl) (by kernel_rfl) (by kernel_rfl) (by kernel_rfl) (fun wx hS => by go_simp) HS3 ?_
        refine wpAnyH_ready (rs := [2, 7]) (by kernel_rfl) (by simp) (AllReadyH.cons rfl (fun K hK => ?_) (AllReadyH.cons rfl (fun K hK => ?_) AllReadyH.nil))
        · skip
          go_simp
          refine (snameof_any 2 (k : Int) 0 0 0 _).mono ?_
          rintro e wn ⟨rfl, hB⟩
          have HBn := Lib.hid (below_via HV.out hB)
          clear hB
          refine hK.out _ _ (HALL.out _ HBn.out) (fun HS3 => ?_)
          clear hK K
          refine wpAnyH_ready (rs := [3, 7]) (by kernel_rfl) (by simp) (AllReadyH.cons rfl (fun K hK => ?_) (AllReadyH.cons rfl (fun K hK => ?_) AllReadyH.nil))
          · skip
            go_simp
            refine (sget_any a g la ca lg cg l m _ _ (HSM.out.keep HBn.out)).mono ?_
            rw [HQ.out]
            rintro e wg ⟨rfl, hB⟩
            have HBg := Lib.hid (below_via HBn.out hB)
            clear hB
            refine hK.out _ _ (HALL.out _ HBg.out) (fun HS3 => ?_)
            clear hK K
            refine held_take (i := 4) (d := 50) (v := .tuple #[.agg #[.string s, .int .i64 v, .string d], .bool b]) rfl rfl (by kernel_rfl) (by kernel_rfl) (by kernel_rfl) (by kernel_rfl) (fun wx hS => by go_simp) HS3 ?_
            refine held_take (i := 5) (d := 55) (v := .agg #[.string s, .int .i64 v, .string d]) rfl rfl (by kernel_rfl) (by kernel_rfl) (by kernel_rfl) (by kernel_rfl) (fun wx hS => by go_simp) HS3 ?_
            refine held_take (i := 6) (d := 56) (v := .bool b) rfl rfl (by kernel_rfl) (by kernel_rfl) (by kernel_rfl) (by kernel_rfl) (fun wx hS => by go_simp) HS3 ?_
            refine wpAnyH_ready (rs := [7]) (by kernel_rfl) (by simp) (AllReadyH.cons rfl (fun K hK => ?_) AllReadyH.nil)
            go_simp
            refine hK.out _ _ (HALL.out _ (below_alloc HBg.out _)) (fun HS3 => ?_)
            clear hK K
            have HRo := Lib.hid (row_new wg #[.string ⟨#[]⟩, .int .i64 0, .string ⟨#[]⟩] 79)
            have HBo := Lib.hid (below_alloc HBg.out (.cells #[.string ⟨#[]⟩, .int .i64 0, .string ⟨#[]⟩] 79))
            obtain ⟨X, hX⟩ : ∃ x, wg.heap.size = x := ⟨_, rfl⟩
            have HXL := Lib.hid (show wM.heap.size ≤ X from by rw [← hX]; exact HBg.out.size)
            obtain ⟨wo, hwo⟩ : ∃ x, wg.alloc (.cells #[.string ⟨#[]⟩, .int .i64 0, .string ⟨#[]⟩] 79) = x := ⟨_, rfl⟩
            rw [hX, hwo] at HRo
            rw [hwo] at HBo HS3
            rw [hX, hwo]
            clear hX hwo
            have o0 := HRo.out.cell (j := 0) (by simp)
            have o1 := HRo.out.cell (j := 1) (by simp)
            have o2 := HRo.out.cell (j := 2) (by simp)
            have of0 := HRo.out.free 0
            have of1 := HRo.out.free 1
            have of2 := HRo.out.free 2
            simp at o0 o1 o2
            refine wpAnyH_ready (rs := [8]) (by kernel_rfl) (by simp) (AllReadyH.cons rfl (fun K hK => ?_) AllReadyH.nil)
            go_simp
            have HBF := Lib.hid (((HBo.out.setCell (p := ⟨X, 0, none⟩) HXL.out (.string s)).setCell (p := ⟨X, 1, none⟩) HXL.out (.int .i64 v)).setCell (p := ⟨X, 2, none⟩) HXL.out (.string d))
            have HRF := Lib.hid (((HRo.out.set 0 (.string s)).set 1 (.int .i64 v)).set 2 (.string d))
            clear o0 o1 o2 of0 of1 of2
            generalize (((wo.setCell ⟨X, 0, none⟩ (.string s)).setCell ⟨X, 1, none⟩ (.int .i64 v)).setCell ⟨X, 2, none⟩ (.string d)) = wF at HBF HRF ⊢
            refine hK.out _ _ (HALL.out _ HBF.out) (fun HS3 => ?_)
            clear hK K
            refine held_take (i := 9) (d := 12) (v := .bool b) rfl rfl (by kernel_rfl) (by kernel_rfl) (by kernel_rfl) (by kernel_rfl) (fun wx hS => by go_simp) HS3 ?_
            refine wpAnyH_done (by kernel_rfl) (NoPanic.normal ?_) _
            clear HS3
            have hbs9 := HBS.out
            subst hbs9
            have o2 := HRF.out.cell (j := 2) (by simp)
            simp at o2
            go_wp2_with fail
            refine (sreadclaim_any d _ HDS.out).mono ?_
            rw [HRD.out]
            rintro e wr9 ⟨he, hB⟩
            rw [HCV.out] at he
            subst he
            have HBr := Lib.hid (below_via HBF.out hB)
            have HB9 := Lib.hid (below_via HBM.out HBr.out)
            have HO9 := Lib.hid (own_below HOM.out HBr.out)
            clear hB o2
            obtain ⟨y, hy⟩ : ∃ y, (cx && decide (now < c3)) = y := ⟨_, rfl⟩
            have HST0 := Lib.hid (show stateT l now (k : Int) = if y then (2, c2, c1) else (1, c2, 0) by unfold stateT stT; rw [HMB.out, HMG.out, HCB.out, HCG.out, ← hy]; rfl)
            cases cx with
            | false =>
              obtain rfl : y = false := by rw [← hy]; rfl
              have HST := Lib.hid (show stateT l now (k : Int) = (1, c2, 0) from HST0.out)
              clear hy HST0
              go_wp2_with (at_builtin; (refine wpList_append_own _ rfl _ _ 45 rfl W0.heap.size 77 i0 _ 3 24 Tryz.underlying45 hi hz0 hz1 hz2 rfl (by decide) _ _ _ rfl ((HO9.out.alloc _).alloc _) ⟨wr9.heap.size + 1, 0, none⟩ 1 1 [.int .i64 1, .int .i64 c2, .int .i64 0] rfl rfl (by intro j u hj; have h9 := bst_new (wr9.alloc (.cells #[.int .i64 c1, .int .i64 c2, .int .i64 c3] 69)) _ _ _ 77 j u hj; rw [World.size_alloc] at h9; exact h9) (by intro u hu; simp at hu; rcases hu with rfl | rfl | rfl <;> rfl) (by unfold maxLen; omega) (by omega) (by have := HB9.out.size; simp; omega) ?_); intro v' w9 hown1 hgrow hnil; have HO1 := Lib.hid hown1; have HG := Lib.hid hgrow; clear hown1 hgrow hnil)
              obtain ⟨q1, cp1, rfl⟩ := own_form HO1.out
              go_roundw
              case rel =>
                refine ⟨k + 1, q1, cp1, by omega, rfl, by go_num, Lib.hid ?_, Lib.hid ((((HB9.out.alloc HB9.out.size _).alloc (by have := HB9.out.size; simp; omega) _)).grown HG.out (by have := HB9.out.size; simp; omega) (fun j hj => (HO9.out.lt j hj).1))⟩
                rw [List.range_succ, board_snoc, HST.out, cellsState_snoc]
                exact HO1.out
              case measure => simp [intOf]; omega
            | true =>
              by_cases hnow : now < c3
              · obtain rfl : y = true := by rw [← hy]; simp [hnow]
                have HST := Lib.hid (show stateT l now (k : Int) = (2, c2, c1) from HST0.out)
                clear hy HST0
                go_wp2_with (at_builtin; (refine wpList_append_own _ rfl _ _ 45 rfl W0.heap.size 77 i0 _ 3 24 Tryz.underlying45 hi hz0 hz1 hz2 rfl (by decide) _ _ _ rfl ((HO9.out.alloc _).alloc _) ⟨wr9.heap.size + 1, 0, none⟩ 1 1 [.int .i64 2, .int .i64 c2, .int .i64 c1] rfl rfl (by intro j u hj; have h9 := bst_new (wr9.alloc (.cells #[.int .i64 c1, .int .i64 c2, .int .i64 c3] 69)) _ _ _ 77 j u hj; rw [World.size_alloc] at h9; exact h9) (by intro u hu; simp at hu; rcases hu with rfl | rfl | rfl <;> rfl) (by unfold maxLen; omega) (by omega) (by have := HB9.out.size; simp; omega) ?_); intro v' w9 hown1 hgrow hnil; have HO1 := Lib.hid hown1; have HG := Lib.hid hgrow; clear hown1 hgrow hnil)
                obtain ⟨q1, cp1, rfl⟩ := own_form HO1.out
                go_roundw
                case rel =>
                  refine ⟨k + 1, q1, cp1, by omega, rfl, by go_num, Lib.hid ?_, Lib.hid ((((HB9.out.alloc HB9.out.size _).alloc (by have := HB9.out.size; simp; omega) _)).grown HG.out (by have := HB9.out.size; simp; omega) (fun j hj => (HO9.out.lt j hj).1))⟩
                  rw [List.range_succ, board_snoc, HST.out, cellsState_snoc]
                  exact HO1.out
                case measure => simp [intOf]; omega
              · obtain rfl : y = false := by rw [← hy]; simp [hnow]
                have HST := Lib.hid (show stateT l now (k : Int) = (1, c2, 0) from HST0.out)
                clear hy HST0
                go_wp2_with (at_builtin; (refine wpList_append_own _ rfl _ _ 45 rfl W0.heap.size 77 i0 _ 3 24 Tryz.underlying45 hi hz0 hz1 hz2 rfl (by decide) _ _ _ rfl ((HO9.out.alloc _).alloc _) ⟨wr9.heap.size + 1, 0, none⟩ 1 1 [.int .i64 1, .int .i64 c2, .int .i64 0] rfl rfl (by intro j u hj; have h9 := bst_new (wr9.alloc (.cells #[.int .i64 c1, .int .i64 c2, .int .i64 c3] 69)) _ _ _ 77 j u hj; rw [World.size_alloc] at h9; exact h9) (by intro u hu; simp at hu; rcases hu with rfl | rfl | rfl <;> rfl) (by unfold maxLen; omega) (by omega) (by have := HB9.out.size; simp; omega) ?_); intro v' w9 hown1 hgrow hnil; have HO1 := Lib.hid hown1; have HG := Lib.hid hgrow; clear hown1 hgrow hnil)
                obtain ⟨q1, cp1, rfl⟩ := own_form HO1.out
                go_roundw
                case rel =>
                  refine ⟨k + 1, q1, cp1, by omega, rfl, by go_num, Lib.hid ?_, Lib.hid ((((HB9.out.alloc HB9.out.size _).alloc (by have := HB9.out.size; simp; omega) _)).grown HG.out (by have := HB9.out.size; simp; omega) (fun j hj => (HO9.out.lt j hj).1))⟩
                  rw [List.range_succ, board_snoc, HST.out, cellsState_snoc]
                  exact HO1.out
                case measure => simp [intOf]; omega
          · skip
            go_simp
            refine hK.out _ _ (HALL.out _ (below_alloc HBn.out _)) (fun HS3 => ?_)
            clear hK K
            have HRo := Lib.hid (row_new wn #[.string ⟨#[]⟩, .int .i64 0, .string ⟨#[]⟩] 79)
            have HBo := Lib.hid (below_alloc HBn.out (.cells #[.string ⟨#[]⟩, .int .i64 0, .string ⟨#[]⟩] 79))
            obtain ⟨X, hX⟩ : ∃ x, wn.heap.size = x := ⟨_, rfl⟩
            have HXL := Lib.hid (show wM.heap.size ≤ X from by rw [← hX]; exact HBn.out.size)
            obtain ⟨wo, hwo⟩ : ∃ x, wn.alloc (.cells #[.string ⟨#[]⟩, .int .i64 0, .string ⟨#[]⟩] 79) = x := ⟨_, rfl⟩
            rw [hX, hwo] at HRo
            rw [hwo] at HBo HS3
            rw [hX, hwo]
            clear hX hwo
            refine wpAnyH_ready (rs := [3]) (by kernel_rfl) (by simp) (AllReadyH.cons rfl (fun K hK => ?_) AllReadyH.nil)
            go_simp
            refine (sget_any a g la ca lg cg l m _ _ (HSM.out.keep HBo.out)).mono ?_
            rw [HQ.out]
            rintro e wg ⟨rfl, hB⟩
            have HBg := Lib.hid (below_via HBo.out hB)
            have HRo := Lib.hid (HRo.out.keep hB)
            clear hB HBo
            refine hK.out _ _ (HALL.out _ HBg.out) (fun HS3 => ?_)
            clear hK K
            refine held_take (i := 4) (d := 50) (v := .tuple #[.agg #[.string s, .int .i64 v, .string d], .bool b]) rfl rfl (by kernel_rfl) (by kernel_rfl) (by kernel_rfl) (by kernel_rfl) (fun wx hS => by go_simp) HS3 ?_
            refine held_take (i := 5) (d := 55) (v := .agg #[.string s, .int .i64 v, .string d]) rfl rfl (by kernel_rfl) (by kernel_rfl) (by kernel_rfl) (by kernel_rfl) (fun wx hS => by go_simp) HS3 ?_
            refine held_take (i := 6) (d := 56) (v := .bool b) rfl rfl (by kernel_rfl) (by kernel_rfl) (by kernel_rfl) (by kernel_rfl) (fun wx hS => by go_simp) HS3 ?_
            have HBo := HBg
            obtain ⟨wo, rfl⟩ : ∃ x, x = wg := ⟨_, rfl⟩
            have o0 := HRo.out.cell (j := 0) (by simp)
            have o1 := HRo.out.cell (j := 1) (by simp)
            have o2 := HRo.out.cell (j := 2) (by simp)
            have of0 := HRo.out.free 0
            have of1 := HRo.out.free 1
            have of2 := HRo.out.free 2
            simp at o0 o1 o2
            refine wpAnyH_ready (rs := [8]) (by kernel_rfl) (by simp) (AllReadyH.cons rfl (fun K hK => ?_) AllReadyH.nil)
            go_simp
            have HBF := Lib.hid (((HBo.out.setCell (p := ⟨X, 0, none⟩) HXL.out (.string s)).setCell (p := ⟨X, 1, none⟩) HXL.out (.int .i64 v)).setCell (p := ⟨X, 2, none⟩) HXL.out (.string d))
            have HRF := Lib.hid (((HRo.out.set 0 (.string s)).set 1 (.int .i64 v)).set 2 (.string d))
            clear o0 o1 o2 of0 of1 of2
            generalize (((wo.setCell ⟨X, 0, none⟩ (.string s)).setCell ⟨X, 1, none⟩ (.int .i64 v)).setCell ⟨X, 2, none⟩ (.string d)) = wF at HBF HRF ⊢
            refine hK.out _ _ (HALL.out _ HBF.out) (fun HS3 => ?_)
            clear hK K
            refine held_take (i := 9) (d := 12) (v := .bool b) rfl rfl (by kernel_rfl) (by kernel_rfl) (by kernel_rfl) (by kernel_rfl) (fun wx hS => by go_simp) HS3 ?_
            refine wpAnyH_done (by kernel_rfl) (NoPanic.normal ?_) _
            clear HS3
            have hbs9 := HBS.out
            subst hbs9
            have o2 := HRF.out.cell (j := 2) (by simp)
            simp at o2
            go_wp2_with fail
            refine (sreadclaim_any d _ HDS.out).mono ?_
            rw [HRD.out]
            rintro e wr9 ⟨he, hB⟩
            rw [HCV.out] at he
            subst he
            have HBr := Lib.hid (below_via HBF.out hB)
            have HB9 := Lib.hid (below_via HBM.out HBr.out)
            have HO9 := Lib.hid (own_below HOM.out HBr.out)
            clear hB o2
            obtain ⟨y, hy⟩ : ∃ y, (cx && decide (now < c3)) = y := ⟨_, rfl⟩
            have HST0 := Lib.hid (show stateT l now (k : Int) = if y then (2, c2, c1) else (1, c2, 0) by unfold stateT stT; rw [HMB.out, HMG.out, HCB.out, HCG.out, ← hy]; rfl)
            cases cx with
            | false =>
              obtain rfl : y = false := by rw [← hy]; rfl
              have HST := Lib.hid (show stateT l now (k : Int) = (1, c2, 0) from HST0.out)
              clear hy HST0
              go_wp2_with (at_builtin; (refine wpList_append_own _ rfl _ _ 45 rfl W0.heap.size 77 i0 _ 3 24 Tryz.underlying45 hi hz0 hz1 hz2 rfl (by decide) _ _ _ rfl ((HO9.out.alloc _).alloc _) ⟨wr9.heap.size + 1, 0, none⟩ 1 1 [.int .i64 1, .int .i64 c2, .int .i64 0] rfl rfl (by intro j u hj; have h9 := bst_new (wr9.alloc (.cells #[.int .i64 c1, .int .i64 c2, .int .i64 c3] 69)) _ _ _ 77 j u hj; rw [World.size_alloc] at h9; exact h9) (by intro u hu; simp at hu; rcases hu with rfl | rfl | rfl <;> rfl) (by unfold maxLen; omega) (by omega) (by have := HB9.out.size; simp; omega) ?_); intro v' w9 hown1 hgrow hnil; have HO1 := Lib.hid hown1; have HG := Lib.hid hgrow; clear hown1 hgrow hnil)
              obtain ⟨q1, cp1, rfl⟩ := own_form HO1.out
              go_roundw
              case rel =>
                refine ⟨k + 1, q1, cp1, by omega, rfl, by go_num, Lib.hid ?_, Lib.hid ((((HB9.out.alloc HB9.out.size _).alloc (by have := HB9.out.size; simp; omega) _)).grown HG.out (by have := HB9.out.size; simp; omega) (fun j hj => (HO9.out.lt j hj).1))⟩
                rw [List.range_succ, board_snoc, HST.out, cellsState_snoc]
                exact HO1.out
              case measure => simp [intOf]; omega
            | true =>
              by_cases hnow : now < c3
              · obtain rfl : y = true := by rw [← hy]; simp [hnow]
                have HST := Lib.hid (show stateT l now (k : Int) = (2, c2, c1) from HST0.out)
                clear hy HST0
                go_wp2_with (at_builtin; (refine wpList_append_own _ rfl _ _ 45 rfl W0.heap.size 77 i0 _ 3 24 Tryz.underlying45 hi hz0 hz1 hz2 rfl (by decide) _ _ _ rfl ((HO9.out.alloc _).alloc _) ⟨wr9.heap.size + 1, 0, none⟩ 1 1 [.int .i64 2, .int .i64 c2, .int .i64 c1] rfl rfl (by intro j u hj; have h9 := bst_new (wr9.alloc (.cells #[.int .i64 c1, .int .i64 c2, .int .i64 c3] 69)) _ _ _ 77 j u hj; rw [World.size_alloc] at h9; exact h9) (by intro u hu; simp at hu; rcases hu with rfl | rfl | rfl <;> rfl) (by unfold maxLen; omega) (by omega) (by have := HB9.out.size; simp; omega) ?_); intro v' w9 hown1 hgrow hnil; have HO1 := Lib.hid hown1; have HG := Lib.hid hgrow; clear hown1 hgrow hnil)
                obtain ⟨q1, cp1, rfl⟩ := own_form HO1.out
                go_roundw
                case rel =>
                  refine ⟨k + 1, q1, cp1, by omega, rfl, by go_num, Lib.hid ?_, Lib.hid ((((HB9.out.alloc HB9.out.size _).alloc (by have := HB9.out.size; simp; omega) _)).grown HG.out (by have := HB9.out.size; simp; omega) (fun j hj => (HO9.out.lt j hj).1))⟩
                  rw [List.range_succ, board_snoc, HST.out, cellsState_snoc]
                  exact HO1.out
                case measure => simp [intOf]; omega
              · obtain rfl : y = false := by rw [← hy]; simp [hnow]
                have HST := Lib.hid (show stateT l now (k : Int) = (1, c2, 0) from HST0.out)
                clear hy HST0
                go_wp2_with (at_builtin; (refine wpList_append_own _ rfl _ _ 45 rfl W0.heap.size 77 i0 _ 3 24 Tryz.underlying45 hi hz0 hz1 hz2 rfl (by decide) _ _ _ rfl ((HO9.out.alloc _).alloc _) ⟨wr9.heap.size + 1, 0, none⟩ 1 1 [.int .i64 1, .int .i64 c2, .int .i64 0] rfl rfl (by intro j u hj; have h9 := bst_new (wr9.alloc (.cells #[.int .i64 c1, .int .i64 c2, .int .i64 c3] 69)) _ _ _ 77 j u hj; rw [World.size_alloc] at h9; exact h9) (by intro u hu; simp at hu; rcases hu with rfl | rfl | rfl <;> rfl) (by unfold maxLen; omega) (by omega) (by have := HB9.out.size; simp; omega) ?_); intro v' w9 hown1 hgrow hnil; have HO1 := Lib.hid hown1; have HG := Lib.hid hgrow; clear hown1 hgrow hnil)
                obtain ⟨q1, cp1, rfl⟩ := own_form HO1.out
                go_roundw
                case rel =>
                  refine ⟨k + 1, q1, cp1, by omega, rfl, by go_num, Lib.hid ?_, Lib.hid ((((HB9.out.alloc HB9.out.size _).alloc (by have := HB9.out.size; simp; omega) _)).grown HG.out (by have := HB9.out.size; simp; omega) (fun j hj => (HO9.out.lt j hj).1))⟩
                  rw [List.range_succ, board_snoc, HST.out, cellsState_snoc]
                  exact HO1.out
                case measure => simp [intOf]; omega
        · skip
          go_simp
          refine hK.out _ _ (HALL.out _ (below_alloc HV.out _)) (fun HS3 => ?_)
          clear hK K
          have HRo := Lib.hid (row_new v0 #[.string ⟨#[]⟩, .int .i64 0, .string ⟨#[]⟩] 79)
          have HBo := Lib.hid (below_alloc HV.out (.cells #[.string ⟨#[]⟩, .int .i64 0, .string ⟨#[]⟩] 79))
          obtain ⟨X, hX⟩ : ∃ x, v0.heap.size = x := ⟨_, rfl⟩
          have HXL := Lib.hid (show wM.heap.size ≤ X from by rw [← hX]; exact HV.out.size)
          obtain ⟨wo, hwo⟩ : ∃ x, v0.alloc (.cells #[.string ⟨#[]⟩, .int .i64 0, .string ⟨#[]⟩] 79) = x := ⟨_, rfl⟩
          rw [hX, hwo] at HRo
          rw [hwo] at HBo HS3
          rw [hX, hwo]
          clear hX hwo
          refine wpAnyH_ready (rs := [2]) (by kernel_rfl) (by simp) (AllReadyH.cons rfl (fun K hK => ?_) AllReadyH.nil)
          go_simp
          refine (snameof_any 2 (k : Int) 0 0 0 _).mono ?_
          rintro e wn ⟨rfl, hB⟩
          have HBn := Lib.hid (below_via HBo.out hB)
          have HRo := Lib.hid (HRo.out.keep hB)
          clear hB HBo
          refine hK.out _ _ (HALL.out _ HBn.out) (fun HS3 => ?_)
          clear hK K
          refine wpAnyH_ready (rs := [3]) (by kernel_rfl) (by simp) (AllReadyH.cons rfl (fun K hK => ?_) AllReadyH.nil)
          go_simp
          refine (sget_any a g la ca lg cg l m _ _ (HSM.out.keep HBn.out)).mono ?_
          rw [HQ.out]
          rintro e wg ⟨rfl, hB⟩
          have HBg := Lib.hid (below_via HBn.out hB)
          have HRo := Lib.hid (HRo.out.keep hB)
          clear hB
          refine hK.out _ _ (HALL.out _ HBg.out) (fun HS3 => ?_)
          clear hK K
          refine held_take (i := 4) (d := 50) (v := .tuple #[.agg #[.string s, .int .i64 v, .string d], .bool b]) rfl rfl (by kernel_rfl) (by kernel_rfl) (by kernel_rfl) (by kernel_rfl) (fun wx hS => by go_simp) HS3 ?_
          refine held_take (i := 5) (d := 55) (v := .agg #[.string s, .int .i64 v, .string d]) rfl rfl (by kernel_rfl) (by kernel_rfl) (by kernel_rfl) (by kernel_rfl) (fun wx hS => by go_simp) HS3 ?_
          refine held_take (i := 6) (d := 56) (v := .bool b) rfl rfl (by kernel_rfl) (by kernel_rfl) (by kernel_rfl) (by kernel_rfl) (fun wx hS => by go_simp) HS3 ?_
          have HBo := HBg
          obtain ⟨wo, rfl⟩ : ∃ x, x = wg := ⟨_, rfl⟩
          have o0 := HRo.out.cell (j := 0) (by simp)
          have o1 := HRo.out.cell (j := 1) (by simp)
          have o2 := HRo.out.cell (j := 2) (by simp)
          have of0 := HRo.out.free 0
          have of1 := HRo.out.free 1
          have of2 := HRo.out.free 2
          simp at o0 o1 o2
          refine wpAnyH_ready (rs := [8]) (by kernel_rfl) (by simp) (AllReadyH.cons rfl (fun K hK => ?_) AllReadyH.nil)
          go_simp
          have HBF := Lib.hid (((HBo.out.setCell (p := ⟨X, 0, none⟩) HXL.out (.string s)).setCell (p := ⟨X, 1, none⟩) HXL.out (.int .i64 v)).setCell (p := ⟨X, 2, none⟩) HXL.out (.string d))
          have HRF := Lib.hid (((HRo.out.set 0 (.string s)).set 1 (.int .i64 v)).set 2 (.string d))
          clear o0 o1 o2 of0 of1 of2
          generalize (((wo.setCell ⟨X, 0, none⟩ (.string s)).setCell ⟨X, 1, none⟩ (.int .i64 v)).setCell ⟨X, 2, none⟩ (.string d)) = wF at HBF HRF ⊢
          refine hK.out _ _ (HALL.out _ HBF.out) (fun HS3 => ?_)
          clear hK K
          refine held_take (i := 9) (d := 12) (v := .bool b) rfl rfl (by kernel_rfl) (by kernel_rfl) (by kernel_rfl) (by kernel_rfl) (fun wx hS => by go_simp) HS3 ?_
          refine wpAnyH_done (by kernel_rfl) (NoPanic.normal ?_) _
          clear HS3
          have hbs9 := HBS.out
          subst hbs9
          have o2 := HRF.out.cell (j := 2) (by simp)
          simp at o2
          go_wp2_with fail
          refine (sreadclaim_any d _ HDS.out).mono ?_
          rw [HRD.out]
          rintro e wr9 ⟨he, hB⟩
          rw [HCV.out] at he
          subst he
          have HBr := Lib.hid (below_via HBF.out hB)
          have HB9 := Lib.hid (below_via HBM.out HBr.out)
          have HO9 := Lib.hid (own_below HOM.out HBr.out)
          clear hB o2
          obtain ⟨y, hy⟩ : ∃ y, (cx && decide (now < c3)) = y := ⟨_, rfl⟩
          have HST0 := Lib.hid (show stateT l now (k : Int) = if y then (2, c2, c1) else (1, c2, 0) by unfold stateT stT; rw [HMB.out, HMG.out, HCB.out, HCG.out, ← hy]; rfl)
          cases cx with
          | false =>
            obtain rfl : y = false := by rw [← hy]; rfl
            have HST := Lib.hid (show stateT l now (k : Int) = (1, c2, 0) from HST0.out)
            clear hy HST0
            go_wp2_with (at_builtin; (refine wpList_append_own _ rfl _ _ 45 rfl W0.heap.size 77 i0 _ 3 24 Tryz.underlying45 hi hz0 hz1 hz2 rfl (by decide) _ _ _ rfl ((HO9.out.alloc _).alloc _) ⟨wr9.heap.size + 1, 0, none⟩ 1 1 [.int .i64 1, .int .i64 c2, .int .i64 0] rfl rfl (by intro j u hj; have h9 := bst_new (wr9.alloc (.cells #[.int .i64 c1, .int .i64 c2, .int .i64 c3] 69)) _ _ _ 77 j u hj; rw [World.size_alloc] at h9; exact h9) (by intro u hu; simp at hu; rcases hu with rfl | rfl | rfl <;> rfl) (by unfold maxLen; omega) (by omega) (by have := HB9.out.size; simp; omega) ?_); intro v' w9 hown1 hgrow hnil; have HO1 := Lib.hid hown1; have HG := Lib.hid hgrow; clear hown1 hgrow hnil)
            obtain ⟨q1, cp1, rfl⟩ := own_form HO1.out
            go_roundw
            case rel =>
              refine ⟨k + 1, q1, cp1, by omega, rfl, by go_num, Lib.hid ?_, Lib.hid ((((HB9.out.alloc HB9.out.size _).alloc (by have := HB9.out.size; simp; omega) _)).grown HG.out (by have := HB9.out.size; simp; omega) (fun j hj => (HO9.out.lt j hj).1))⟩
              rw [List.range_succ, board_snoc, HST.out, cellsState_snoc]
              exact HO1.out
            case measure => simp [intOf]; omega
          | true =>
            by_cases hnow : now < c3
            · obtain rfl : y = true := by rw [← hy]; simp [hnow]
              have HST := Lib.hid (show stateT l now (k : Int) = (2, c2, c1) from HST0.out)
              clear hy HST0
              go_wp2_with (at_builtin; (refine wpList_append_own _ rfl _ _ 45 rfl W0.heap.size 77 i0 _ 3 24 Tryz.underlying45 hi hz0 hz1 hz2 rfl (by decide) _ _ _ rfl ((HO9.out.alloc _).alloc _) ⟨wr9.heap.size + 1, 0, none⟩ 1 1 [.int .i64 2, .int .i64 c2, .int .i64 c1] rfl rfl (by intro j u hj; have h9 := bst_new (wr9.alloc (.cells #[.int .i64 c1, .int .i64 c2, .int .i64 c3] 69)) _ _ _ 77 j u hj; rw [World.size_alloc] at h9; exact h9) (by intro u hu; simp at hu; rcases hu with rfl | rfl | rfl <;> rfl) (by unfold maxLen; omega) (by omega) (by have := HB9.out.size; simp; omega) ?_); intro v' w9 hown1 hgrow hnil; have HO1 := Lib.hid hown1; have HG := Lib.hid hgrow; clear hown1 hgrow hnil)
              obtain ⟨q1, cp1, rfl⟩ := own_form HO1.out
              go_roundw
              case rel =>
                refine ⟨k + 1, q1, cp1, by omega, rfl, by go_num, Lib.hid ?_, Lib.hid ((((HB9.out.alloc HB9.out.size _).alloc (by have := HB9.out.size; simp; omega) _)).grown HG.out (by have := HB9.out.size; simp; omega) (fun j hj => (HO9.out.lt j hj).1))⟩
                rw [List.range_succ, board_snoc, HST.out, cellsState_snoc]
                exact HO1.out
              case measure => simp [intOf]; omega
            · obtain rfl : y = false := by rw [← hy]; simp [hnow]
              have HST := Lib.hid (show stateT l now (k : Int) = (1, c2, 0) from HST0.out)
              clear hy HST0
              go_wp2_with (at_builtin; (refine wpList_append_own _ rfl _ _ 45 rfl W0.heap.size 77 i0 _ 3 24 Tryz.underlying45 hi hz0 hz1 hz2 rfl (by decide) _ _ _ rfl ((HO9.out.alloc _).alloc _) ⟨wr9.heap.size + 1, 0, none⟩ 1 1 [.int .i64 1, .int .i64 c2, .int .i64 0] rfl rfl (by intro j u hj; have h9 := bst_new (wr9.alloc (.cells #[.int .i64 c1, .int .i64 c2, .int .i64 c3] 69)) _ _ _ 77 j u hj; rw [World.size_alloc] at h9; exact h9) (by intro u hu; simp at hu; rcases hu with rfl | rfl | rfl <;> rfl) (by unfold maxLen; omega) (by omega) (by have := HB9.out.size; simp; omega) ?_); intro v' w9 hown1 hgrow hnil; have HO1 := Lib.hid hown1; have HG := Lib.hid hgrow; clear hown1 hgrow hnil)
              obtain ⟨q1, cp1, rfl⟩ := own_form HO1.out
              go_roundw
              case rel =>
                refine ⟨k + 1, q1, cp1, by omega, rfl, by go_num, Lib.hid ?_, Lib.hid ((((HB9.out.alloc HB9.out.size _).alloc (by have := HB9.out.size; simp; omega) _)).grown HG.out (by have := HB9.out.size; simp; omega) (fun j hj => (HO9.out.lt j hj).1))⟩
                rw [List.range_succ, board_snoc, HST.out, cellsState_snoc]
                exact HO1.out
              case measure => simp [intOf]; omega
    · obtain rfl : k = N := by omega
      go_wp2
      go_ret
      exact ⟨_, rfl, World.ownsRow.mono HO.out HB0.out.size, below_via HB0.out HB.out⟩
end Go.Proofs.YtbjlojmadellgaaGreatDoor
