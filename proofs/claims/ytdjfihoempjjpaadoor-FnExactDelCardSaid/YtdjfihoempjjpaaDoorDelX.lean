
/- The exact law on Del, walked: for every store and arguments that may be read it returns true and only makes new blocks. -/
import Derived.Test.YtdjfihoempjjpaaDoorCreK
namespace Go.Proofs.YtdjfihoempjjpaaDoor
open Go.ChangeShapes Go.WideShapes Go.ChangeAt Go.RowKit
set_option linter.unusedVariables false
set_option maxRecDepth 100000

set_option maxHeartbeats 8000000 in
theorem fnExactDel_walk (a g : Option Addr) (la ca lg cg : Nat) (l : Objs) (m : Gones) (A : ErrA) (key : ByteArray) (ver : Int) (w : World) (h : StoAt w a la l g lg m) (hA : TabsEA A w) (hkey : key.size ≤ maxLen) :
    Calls Tryd.prog 5 #[.agg #[.slice a la ca, .slice g lg cg], .string key, .int .i64 ver] w fun e w' => e = .returned (.bool true) ∧ Below w.heap.size w w' := by
  obtain ⟨R, hR⟩ := isDel_some l m key ver
  have HSP := Lib.hid (isDel_sto hR)
  have HRI := Lib.hid hR
  clear hR
  obtain ⟨L, hL⟩ : ∃ L, resO R = L := ⟨_, rfl⟩
  obtain ⟨M, hM⟩ : ∃ M, resG R = M := ⟨_, rfl⟩
  obtain ⟨nl, hnl⟩ : ∃ n, L.length = n := ⟨_, rfl⟩
  obtain ⟨nm, hnm⟩ : ∃ n, M.length = n := ⟨_, rfl⟩
  obtain ⟨C, hC⟩ : ∃ C, R.2.2 = C := ⟨_, rfl⟩
  rw [hL, hM] at HSP
  have hfew := HSP.out.few
  rw [hnl, hnm] at hfew
  have HLM := Lib.hid (fun w e w' => toLD hL hM hnl hnm hC (w := w) e w')
  obtain ⟨KK, hKK⟩ : ∃ K, 1 + 3 * nl + 2 * nm = K := ⟨_, rfl⟩
  have HKK := Lib.hid hKK
  clear hL hM hnl hnm hC hKK
  have HS := Lib.hid h
  have HTA := Lib.hid hA
  have HDkey := Lib.hid hkey
  have HX := Lib.hid (row_new w #[.slice a la ca, .slice g lg cg] 25)
  have HB := Lib.hid (below_alloc (Below.refl w.heap.size w) (.cells #[.slice a la ca, .slice g lg cg] 25))
  clear h hA
  by_cases hbkey : 1048576 < key.size
  · have hd := HDkey.out
    unfold maxLen at hd
    go_enter Tryd.func5, Tryd.ntmps5
    go_wp2
    go_ret
    exact ⟨rfl, HB.out⟩
  go_enter Tryd.func5, Tryd.ntmps5
  go_wp2_with fail
  refine (szsto_any _ _ _ _ _ _ l m _ _ (HS.out.keep HB.out) (by decide) (by decide)).mono ?_
  rintro e w1 ⟨x, hx0, hx1, rfl, hB, hf⟩
  have HX := Lib.hid (HX.out.keep hB)
  have HB := Lib.hid (below_via HB.out hB)
  have HF := Lib.hid hf
  obtain ⟨y0, y1⟩ := row_cells2 HX.out
  clear hB hf
  by_cases hx : x < 0
  · go_wp2
    go_ret
    exact ⟨rfl, HB.out⟩
  have hla : la ≤ 1048576 := (HF.out (by omega)).1.1
  have hlg : lg ≤ 1048576 := (HF.out (by omega)).2.1
  clear HF
  go_wp2_with fail
  refine (tosto_any _ _ _ _ _ _ l m _ (HS.out.keep HB.out) hla hlg).mono ?_
  rintro e w2 ⟨B1, C1, rfl, hS, hB, _, _, _, _⟩
  have HS1 := Lib.hid (stoI_made hS hla hlg)
  have HX := Lib.hid (HX.out.keep hB)
  have HNW2 := Lib.hid HX.out.lt
  have HB := Lib.hid (below_via HB.out hB)
  clear hS hB y0 y1
  go_wp2_with fail
  refine ((sdel_any _ _ _ _ _ _ l m key ver R _ HS1.out hla hlg HDkey.out HRI.out).mono (HLM.out _)).mono ?_
  rintro e w3 ⟨q8, c8, p8, d8, rfl, hB, hK⟩
  obtain ⟨P8, hP8⟩ : ∃ x, w3.heap.size = x := ⟨_, rfl⟩
  obtain ⟨w4, hw4⟩ : ∃ x, w3.alloc (.cells #[.slice q8 nl c8, .slice p8 nm d8] 30) = x := ⟨_, rfl⟩
  have H8 := Lib.hid (show StoK w2.heap.size w4 q8 nl c8 p8 nm d8 L M by rw [← hw4]; exact hK.keep (below_alloc (Below.refl _ _) _))
  have HI8 := Lib.hid (show In2 0 P8 q8 p8 by rw [← hP8]; exact ⟨fun g hg => ⟨Nat.zero_le _, (hK.in2.a g hg).2⟩, fun g hg => ⟨Nat.zero_le _, (hK.in2.b g hg).2⟩⟩)
  have HP8 := Lib.hid (show Row w4 P8 30 #[.slice q8 nl c8, .slice p8 nm d8] by rw [← hw4, ← hP8]; exact row_new _ _ _)
  have HX := Lib.hid (show Row w4 w.heap.size 25 #[.slice a la ca, .slice g lg cg] by rw [← hw4]; exact (HX.out.keep hB).al _)
  have HB := Lib.hid (show Below w.heap.size w w4 by rw [← hw4]; exact below_alloc (below_via HB.out hB) _)
  have hNP : w.heap.size < P8 := by rw [← hP8]; exact Nat.lt_of_lt_of_le HNW2.out hB.size
  clear hB hK HS1
  obtain ⟨y0, y1⟩ := row_cells2 HX.out
  go_wp2_with fail
  try rw [hw4]
  try rw [hP8]
  clear y0 y1 hw4 hP8
  refine (tosto_any _ _ _ _ _ _ l m _ (HS.out.keep HB.out) hla hlg).mono ?_
  rintro e w5 ⟨B2, C2, rfl, hS, hB, hB2, hBC, ⟨cB, rB, sB⟩, cC, rC, sC⟩
  obtain ⟨Z, hZ⟩ : ∃ x, w5.heap.size = x := ⟨_, rfl⟩
  obtain ⟨w6, hw6⟩ : ∃ x, w5.alloc (.cells #[.slice (some ⟨B2, 0, none⟩) la la, .slice (some ⟨C2, 0, none⟩) lg lg] 30) = x := ⟨_, rfl⟩
  have HS2 := Lib.hid (show StoAt w6 (some ⟨B2, 0, none⟩) la l (some ⟨C2, 0, none⟩) lg m by rw [← hw6]; exact hS.keep (below_alloc (Below.refl _ _) _))
  have HZ := Lib.hid (show Row w6 Z 30 #[.slice (some ⟨B2, 0, none⟩) la la, .slice (some ⟨C2, 0, none⟩) lg lg] by rw [← hw6, ← hZ]; exact row_new _ _ _)
  have HRB := Lib.hid (show Row w6 B2 60 cB by rw [← hw6]; exact rB.al _)
  have HRC := Lib.hid (show Row w6 C2 101 cC by rw [← hw6]; exact rC.al _)
  have HSB := Lib.hid sB
  have HSC := Lib.hid sC
  have hPB : P8 < B2 := Nat.lt_of_lt_of_le HP8.out.lt hB2
  have hCZ : C2 < Z := by rw [← hZ]; exact rC.lt
  have hZ6 : Z < w6.heap.size := HZ.out.lt
  have H8 := Lib.hid (show StoK w2.heap.size w6 q8 nl c8 p8 nm d8 L M by rw [← hw6]; exact (H8.out.keep hB).keep (below_alloc (Below.refl _ _) _))
  have HP8 := Lib.hid (show Row w6 P8 30 #[.slice q8 nl c8, .slice p8 nm d8] by rw [← hw6]; exact (HP8.out.keep hB).al _)
  have HX := Lib.hid (show Row w6 w.heap.size 25 #[.slice a la ca, .slice g lg cg] by rw [← hw6]; exact (HX.out.keep hB).al _)
  have HB := Lib.hid (show Below w.heap.size w w6 by rw [← hw6]; exact below_alloc (below_via HB.out hB) _)
  clear hS hB hB2 rB rC sB sC
  obtain ⟨z0, z1⟩ := row_cells2 HZ.out
  go_wp2_with fail
  try rw [hw6]
  try rw [hZ]
  clear z0 z1 hw6 hZ
  refine ((pde_any _ _ _ _ _ _ l m A key ver R _ HS2.out hla hlg (HTA.out.keep (HB.out)) HDkey.out HRI.out).mono (HLM.out _)).mono ?_
  rintro e w7 ⟨q12, c12, p12, d12, rfl, hB, hK⟩
  obtain ⟨P12, hP12⟩ : ∃ x, w7.heap.size = x := ⟨_, rfl⟩
  obtain ⟨w8, hw8⟩ : ∃ x, w7.alloc (.cells #[.slice q12 nl c12, .slice p12 nm d12] 30) = x := ⟨_, rfl⟩
  have H12 := Lib.hid (show StoK w6.heap.size w8 q12 nl c12 p12 nm d12 L M by rw [← hw8]; exact hK.keep (below_alloc (Below.refl _ _) _))
  have HI12 := Lib.hid (show In2 (Z + 1) P12 q12 p12 by rw [← hP12]; exact ⟨fun g hg => by have := hK.in2.a g hg; omega, fun g hg => by have := hK.in2.b g hg; omega⟩)
  have HP12 := Lib.hid (show Row w8 P12 30 #[.slice q12 nl c12, .slice p12 nm d12] by rw [← hw8, ← hP12]; exact row_new _ _ _)
  have hZP : Z < P12 := by rw [← hP12]; exact Nat.lt_of_lt_of_le hZ6 hB.size
  have H8 := Lib.hid (show StoK w2.heap.size w8 q8 nl c8 p8 nm d8 L M by rw [← hw8]; exact (H8.out.keep hB).keep (below_alloc (Below.refl _ _) _))
  have HP8 := Lib.hid (show Row w8 P8 30 #[.slice q8 nl c8, .slice p8 nm d8] by rw [← hw8]; exact (HP8.out.keep hB).al _)
  have HX := Lib.hid (show Row w8 w.heap.size 25 #[.slice a la ca, .slice g lg cg] by rw [← hw8]; exact (HX.out.keep hB).al _)
  have HS2 := Lib.hid (show StoAt w8 (some ⟨B2, 0, none⟩) la l (some ⟨C2, 0, none⟩) lg m by rw [← hw8]; exact (HS2.out.keep hB).keep (below_alloc (Below.refl _ _) _))
  have HZ := Lib.hid (show Row w8 Z 30 #[.slice (some ⟨B2, 0, none⟩) la la, .slice (some ⟨C2, 0, none⟩) lg lg] by rw [← hw8]; exact (HZ.out.keep hB).al _)
  have HRB := Lib.hid (show Row w8 B2 60 cB by rw [← hw8]; exact (HRB.out.keep hB).al _)
  have HRC := Lib.hid (show Row w8 C2 101 cC by rw [← hw8]; exact (HRC.out.keep hB).al _)
  have HB := Lib.hid (show Below w.heap.size w w8 by rw [← hw8]; exact below_alloc (below_via HB.out hB) _)
  clear hB hK hZ6
  obtain ⟨u0, u1⟩ := row_cells2 HP8.out
  obtain ⟨v0, v1⟩ := row_cells2 HP12.out
  go_wp2_with fail
  try rw [hw8]
  try rw [hP12]
  clear u0 u1 v0 v1 hw8 hP12
  refine (eqsto_same _ _ _ _ _ _ _ _ _ _ L M _ (H12.out.sto HSP.out) (H8.out.sto HSP.out)).mono ?_
  rintro e w9 ⟨rfl, hB⟩
  have H12 := Lib.hid (H12.out.keep hB)
  have HP12 := Lib.hid (HP12.out.keep hB)
  have H8 := Lib.hid (H8.out.keep hB)
  have HP8 := Lib.hid (HP8.out.keep hB)
  have HX := Lib.hid (HX.out.keep hB)
  have HS2 := Lib.hid (HS2.out.keep hB)
  have HZ := Lib.hid (HZ.out.keep hB)
  have HRB := Lib.hid (HRB.out.keep hB)
  have HRC := Lib.hid (HRC.out.keep hB)
  have HB := Lib.hid (below_via HB.out hB)
  clear hB
  obtain ⟨y0, y1⟩ := row_cells2 HX.out
  obtain ⟨z0, z1⟩ := row_cells2 HZ.out
  have HA := Lib.hid (Below.refl w9.heap.size w9).drew
  go_wp2_with fail
  go_region_held3 (fun w' => Hid (Below w9.heap.size w9 w') ∧ w'.cell? ⟨w.heap.size, 0, none⟩ = some (.slice a la ca) ∧ w'.cell? ⟨w.heap.size, 1, none⟩ = some (.slice g lg cg) ∧ w'.cell? ⟨Z, 0, none⟩ = some (.slice (some ⟨B2, 0, none⟩) la la) ∧ w'.cell? ⟨Z, 1, none⟩ = some (.slice (some ⟨C2, 0, none⟩) lg lg))
    (first | exact ⟨HA, y0, y1, z0, z1⟩ | exact ⟨HA, e0, e1, f0, f1⟩)
    (first | (go_at_call 13; refine (tosto_any _ _ _ _ _ _ l m _ (HS.out.keep (below_via HB.out HA.out)) hla hlg).mono ?_; rintro e wx ⟨B3, C3, rfl, hS, hB, _, _, _, _⟩; have e0 := (hB.cell (p := ⟨w.heap.size, 0, none⟩) (World.block_lt_of_cell? _ _ y0)).trans y0; have e1 := (hB.cell (p := ⟨w.heap.size, 1, none⟩) (World.block_lt_of_cell? _ _ y1)).trans y1; have f0 := (hB.cell (p := ⟨Z, 0, none⟩) (World.block_lt_of_cell? _ _ z0)).trans z0; have f1 := (hB.cell (p := ⟨Z, 1, none⟩) (World.block_lt_of_cell? _ _ z1)).trans z1; have HS4 := Lib.hid (HS2.out.keep (below_via HA.out hB)); have HA := Lib.hid (below_via HA.out hB); have HS3 := Lib.hid hS; clear hS hB) | (go_at_call 15; refine (eqsto_same _ _ _ _ _ _ _ _ _ _ l m _ HS4.out HS3.out).mono ?_; rintro e wy ⟨rfl, hB⟩; have e0 := (hB.cell (p := ⟨w.heap.size, 0, none⟩) (World.block_lt_of_cell? _ _ e0)).trans e0; have e1 := (hB.cell (p := ⟨w.heap.size, 1, none⟩) (World.block_lt_of_cell? _ _ e1)).trans e1; have f0 := (hB.cell (p := ⟨Z, 0, none⟩) (World.block_lt_of_cell? _ _ f0)).trans f0; have f1 := (hB.cell (p := ⟨Z, 1, none⟩) (World.block_lt_of_cell? _ _ f1)).trans f1; have HA := Lib.hid (below_via HA.out hB); clear hB))
  have H12 := Lib.hid (H12.out.keep HA.out)
  have HP12 := Lib.hid (HP12.out.keep HA.out)
  have H8 := Lib.hid (H8.out.keep HA.out)
  have HP8 := Lib.hid (HP8.out.keep HA.out)
  have HX := Lib.hid (HX.out.keep HA.out)
  have HZ := Lib.hid (HZ.out.keep HA.out)
  have HRB := Lib.hid (HRB.out.keep HA.out)
  have HRC := Lib.hid (HRC.out.keep HA.out)
  have HB := Lib.hid (below_via HB.out HA.out)
  clear HA HS2
  obtain ⟨z0, z1⟩ := row_cells2 HZ.out
  go_wp2_with fail
  refine (marksto_any B2 C2 la lg cB cC _ HRB.out HRC.out HSB.out HSC.out hBC hla hlg).mono ?_
  rintro e wa ⟨r, rfl, hU⟩
  have HB := Lib.hid (hU.below HB.out (by omega))
  have HX := Lib.hid (hU.row HX.out (.inl (by omega)))
  have HP8 := Lib.hid (hU.row HP8.out (.inl hPB))
  have HP12 := Lib.hid (hU.row HP12.out (.inr (by omega)))
  have H8 := Lib.hid (H8.out.butR hU HI8.out (.inl (by omega)))
  have H12 := Lib.hid (H12.out.butR hU HI12.out (.inr (by omega)))
  obtain ⟨u0, u1⟩ := row_cells2 HP8.out
  obtain ⟨v0, v1⟩ := row_cells2 HP12.out
  clear hU HZ HRB HRC HSB HSC z0 z1
  have hr0 : (0 : Int) ≤ (r : Int) := by omega
  go_wp2_with fail
  refine (eqsto_same _ _ _ _ _ _ _ _ _ _ L M _ (H12.out.sto HSP.out) (H8.out.sto HSP.out)).mono ?_
  rintro e wb ⟨rfl, hB⟩
  have H12 := Lib.hid (H12.out.keep hB)
  have HP12 := Lib.hid (HP12.out.keep hB)
  have H8 := Lib.hid (H8.out.keep hB)
  have HP8 := Lib.hid (HP8.out.keep hB)
  have HX := Lib.hid (HX.out.keep hB)
  have HB := Lib.hid (below_via HB.out hB)
  clear hB u0 u1 v0 v1 hr0
  obtain ⟨v0, v1⟩ := row_cells2 HP12.out
  go_wp2_with fail
  refine (markk_any _ nl c12 nm d12 q12 p12 L M _ H12.out (by omega) (by omega)).mono ?_
  unfold MadeMK
  rw [HKK.out]
  rintro e wc ⟨rfl, hU, hmo, hmg⟩
  have HB := Lib.hid (hU.belowI HB.out HI12.out (by omega))
  have HX := Lib.hid (hU.rowI HX.out HI12.out (.inl (by omega)))
  have HP8 := Lib.hid (hU.rowI HP8.out HI12.out (.inl (by omega)))
  have HP12 := Lib.hid (hU.rowI HP12.out HI12.out (.inr (Nat.le_refl _)))
  have H8 := Lib.hid (H8.out.butK hU HI8.out HI12.out (.inl (by omega)))
  have HMO := Lib.hid hmo
  have HMG := Lib.hid hmg
  clear hU hmo hmg v0 v1 H12
  obtain ⟨v0, v1⟩ := row_cells2 HP12.out
  go_wp2_with fail
  refine (heldk_any nl c12 nm d12 q12 p12 _ HMO.out HMG.out (by omega) (by omega)).mono ?_
  unfold HeldMK
  rw [HKK.out]
  rintro e wd ⟨rfl, hB⟩
  have HMO := Lib.hid (HMO.out.keep hB)
  have HMG := Lib.hid (HMG.out.keep hB)
  have HP12 := Lib.hid (HP12.out.keep hB)
  have H8 := Lib.hid (H8.out.keep hB)
  have HP8 := Lib.hid (HP8.out.keep hB)
  have HX := Lib.hid (HX.out.keep hB)
  have HB := Lib.hid (below_via HB.out hB)
  clear hB v0 v1
  obtain ⟨y0, y1⟩ := row_cells2 HX.out
  have hk0 : ¬ ((KK : Int) < 0) := by omega
  go_wp2_with fail
  refine (tosto_any _ _ _ _ _ _ l m _ (HS.out.keep HB.out) hla hlg).mono ?_
  rintro e we ⟨B4, C4, rfl, hS, hB, _, _, _, _⟩
  have HS4 := Lib.hid hS
  have HMO := Lib.hid (HMO.out.keep hB)
  have HMG := Lib.hid (HMG.out.keep hB)
  have HP12 := Lib.hid (HP12.out.keep hB)
  have H8 := Lib.hid (H8.out.keep hB)
  have HP8 := Lib.hid (HP8.out.keep hB)
  have HB := Lib.hid (below_via HB.out hB)
  clear hS hB y0 y1 hk0 HX
  go_wp2_with fail
  refine ((pde_any _ _ _ _ _ _ l m A key ver R _ HS4.out hla hlg (HTA.out.keep (HB.out)) HDkey.out HRI.out).mono (HLM.out _)).mono ?_
  rintro e wf ⟨q18, c18, p18, d18, rfl, hB, hK⟩
  obtain ⟨P18, hP18⟩ : ∃ x, wf.heap.size = x := ⟨_, rfl⟩
  obtain ⟨wg, hwg⟩ : ∃ x, wf.alloc (.cells #[.slice q18 nl c18, .slice p18 nm d18] 30) = x := ⟨_, rfl⟩
  have H18 := Lib.hid (show StoK we.heap.size wg q18 nl c18 p18 nm d18 L M by rw [← hwg]; exact hK.keep (below_alloc (Below.refl _ _) _))
  have HP18 := Lib.hid (show Row wg P18 30 #[.slice q18 nl c18, .slice p18 nm d18] by rw [← hwg, ← hP18]; exact row_new _ _ _)
  have HMO := Lib.hid (show MKo wg q12 nl 1 by rw [← hwg]; exact (HMO.out.keep hB).keep (below_alloc (Below.refl _ _) _))
  have HMG := Lib.hid (show MKg wg p12 nm (1 + 3 * nl) by rw [← hwg]; exact (HMG.out.keep hB).keep (below_alloc (Below.refl _ _) _))
  have HP12 := Lib.hid (show Row wg P12 30 #[.slice q12 nl c12, .slice p12 nm d12] by rw [← hwg]; exact (HP12.out.keep hB).al _)
  have H8 := Lib.hid (show StoK w2.heap.size wg q8 nl c8 p8 nm d8 L M by rw [← hwg]; exact (H8.out.keep hB).keep (below_alloc (Below.refl _ _) _))
  have HP8 := Lib.hid (show Row wg P8 30 #[.slice q8 nl c8, .slice p8 nm d8] by rw [← hwg]; exact (HP8.out.keep hB).al _)
  have HB := Lib.hid (show Below w.heap.size w wg by rw [← hwg]; exact below_alloc (below_via HB.out hB) _)
  clear hB hK
  obtain ⟨u0, u1⟩ := row_cells2 HP8.out
  obtain ⟨v0, v1⟩ := row_cells2 HP18.out
  go_wp2_with fail
  try rw [hwg]
  try rw [hP18]
  clear u0 u1 v0 v1 hwg hP18
  refine (eqsto_same _ _ _ _ _ _ _ _ _ _ L M _ (H18.out.sto HSP.out) (H8.out.sto HSP.out)).mono ?_
  rintro e wh ⟨rfl, hB⟩
  have HMO := Lib.hid (HMO.out.keep hB)
  have HMG := Lib.hid (HMG.out.keep hB)
  have HP12 := Lib.hid (HP12.out.keep hB)
  have HB := Lib.hid (below_via HB.out hB)
  clear hB
  obtain ⟨v0, v1⟩ := row_cells2 HP12.out
  go_wp2_with fail
  refine (heldk_any nl c12 nm d12 q12 p12 _ HMO.out HMG.out (by omega) (by omega)).mono ?_
  unfold HeldMK
  rw [HKK.out]
  rintro e wi ⟨rfl, hB⟩
  have HB := Lib.hid (below_via HB.out hB)
  clear hB v0 v1
  have hk0 : ¬ ((KK : Int) < 0) := by omega
  go_wp2
  go_ret
  exact ⟨rfl, HB.out⟩
end Go.Proofs.YtdjfihoempjjpaaDoor
