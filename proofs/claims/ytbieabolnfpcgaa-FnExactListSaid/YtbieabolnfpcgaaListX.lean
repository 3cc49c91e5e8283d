
/- The exact law on List, walked: for every store, two texts and number that may be read it returns true and only makes new blocks. -/
import Derived.Test.YtbieabolnfpcgaaListP
import Derived.Test.YtbieabolnfpcgaaMarkSto
namespace Go.Proofs.Ytbieabolnfpcgaa
open Go.ChangeShapes Go.WideShapes Go.ChangeAt Go.RowKit
set_option linter.unusedVariables false
set_option maxRecDepth 100000

set_option maxHeartbeats 8000000 in
theorem fnExactList_walk (a g : Option Addr) (la ca lg cg : Nat) (l : Objs) (m : Gones) (p af : ByteArray) (nn : Int) (w : World) (h : StoAt w a la l g lg m) (hp : p.size ≤ maxLen) (haf : af.size ≤ maxLen) :
    Calls Try.prog 6 #[.agg #[.slice a la ca, .slice g lg cg], .string p, .string af, .int .i64 nn] w fun e w' => e = .returned (.bool true) ∧ Below w.heap.size w w' := by
  have HS := Lib.hid h
  have HP := Lib.hid hp
  have HX := Lib.hid (row_new w #[.slice a la ca, .slice g lg cg] 25)
  have HB := Lib.hid (below_alloc (Below.refl w.heap.size w) (.cells #[.slice a la ca, .slice g lg cg] 25))
  obtain ⟨W, hW⟩ : ∃ W, listB p af l la nn = W := ⟨_, rfl⟩
  obtain ⟨hwl, hsh⟩ := listB_few p af nn h.o
  rw [hW] at hsh hwl
  obtain ⟨n, hn⟩ : ∃ n, W.length = n := ⟨_, rfl⟩
  rw [hn] at hwl
  have hnm : n ≤ maxLen := by unfold maxLen; omega
  have hn40 : 1 + n ≤ 1099511627776 := by omega
  have HW := Lib.hid hW
  have HN := Lib.hid hn
  have HSH := Lib.hid hsh
  clear h hW hn hsh hp
  unfold maxLen at haf
  by_cases hbig : 1048576 < p.size
  · go_enter Try.func6, Try.ntmps6
    go_wp2
    go_ret
    exact ⟨rfl, HB.out⟩
  by_cases hbig2 : 1048576 < af.size
  · go_enter Try.func6, Try.ntmps6
    go_wp2
    go_ret
    exact ⟨rfl, HB.out⟩
  go_enter Try.func6, Try.ntmps6
  go_wp2_with fail
  refine (szsto_any _ _ _ _ _ _ l m _ _ (HS.out.keep HB.out) (by decide) (by decide)).mono ?_
  rintro e w1 ⟨x, hx0, hx1, rfl, hB, hf⟩
  have HX := Lib.hid (HX.out.keep hB)
  have HB := Lib.hid (below_via HB.out hB)
  have HF := Lib.hid hf
  have y0 := HX.out.cell (j := 0) (by simp)
  have y1 := HX.out.cell (j := 1) (by simp)
  simp at y0 y1
  clear hB hf
  by_cases hx : x < 0
  · go_wp2
    go_ret
    exact ⟨rfl, HB.out⟩
  have hla : la ≤ 1048576 := (HF.out (by omega)).1.1
  have hlg : lg ≤ 1048576 := (HF.out (by omega)).2.1
  clear HF
  go_wp2_with fail
  refine (tosto_any _ _ _ _ _ _ l m _ (HS.out.keep HB.out) hla hlg).mono ?_
  rintro e w2 ⟨B1, C1, rfl, hS, hB, _, _, _, _⟩
  have HS1 := Lib.hid hS
  have HX := Lib.hid (HX.out.keep hB)
  have HB := Lib.hid (below_via HB.out hB)
  clear hS hB y0 y1
  go_wp2_with fail
  refine (slist_any _ _ _ _ _ _ l m p af nn _ HS1.out HP.out hla).mono ?_
  rw [HW.out]
  rintro e w3 ⟨q0, cp0, rfl, h0, hB⟩
  have H0 := Lib.hid h0
  have HX := Lib.hid (HX.out.keep hB)
  have HB := Lib.hid (below_via HB.out hB)
  have HLT0 := Lib.hid (show 0 < n → ∀ g, q0 = some ⟨g, 0, none⟩ → g < w3.heap.size from fun hp g hg => (ks_lt h0 (by rw [HN.out]; exact hp) g hg).2)
  have y0 := HX.out.cell (j := 0) (by simp)
  have y1 := HX.out.cell (j := 1) (by simp)
  simp at y0 y1
  clear h0 hB HS1
  rw [HN.out]
  go_wp2_with fail
  refine (tosto_any _ _ _ _ _ _ l m _ (HS.out.keep HB.out) hla hlg).mono ?_
  rintro e w4 ⟨B2, C2, rfl, hS, hB, hB2, hBC, ⟨cB, rB, sB⟩, cC, rC, sC⟩
  have HS2 := Lib.hid (hS.keep (below_alloc (Below.refl _ _) (.cells #[.slice (some ⟨B2, 0, none⟩) la la, .slice (some ⟨C2, 0, none⟩) lg lg] 34)))
  have HY := Lib.hid (row_new w4 #[.slice (some ⟨B2, 0, none⟩) la la, .slice (some ⟨C2, 0, none⟩) lg lg] 34)
  have HRB := Lib.hid (rB.al (.cells #[.slice (some ⟨B2, 0, none⟩) la la, .slice (some ⟨C2, 0, none⟩) lg lg] 34))
  have HRC := Lib.hid (rC.al (.cells #[.slice (some ⟨B2, 0, none⟩) la la, .slice (some ⟨C2, 0, none⟩) lg lg] 34))
  have HSB := Lib.hid sB
  have HSC := Lib.hid sC
  have HBC := Lib.hid hBC
  have HCZ := Lib.hid rC.lt
  have HXB := Lib.hid (show w.heap.size < B2 from Nat.lt_of_lt_of_le HX.out.lt hB2)
  have HLT0 := Lib.hid (show 0 < n → ∀ g, q0 = some ⟨g, 0, none⟩ → g < B2 from fun hp g hg => Nat.lt_of_lt_of_le (HLT0.out hp g hg) hB2)
  have H0 := Lib.hid (ks_keep (ks_keep H0.out hB) (below_alloc (Below.refl _ _) (.cells #[.slice (some ⟨B2, 0, none⟩) la la, .slice (some ⟨C2, 0, none⟩) lg lg] 34)))
  have HX := Lib.hid ((HX.out.keep hB).al (.cells #[.slice (some ⟨B2, 0, none⟩) la la, .slice (some ⟨C2, 0, none⟩) lg lg] 34))
  have HB := Lib.hid (below_alloc (below_via HB.out hB) (.cells #[.slice (some ⟨B2, 0, none⟩) la la, .slice (some ⟨C2, 0, none⟩) lg lg] 34))
  obtain ⟨Z, hZ⟩ : ∃ Z, w4.heap.size = Z := ⟨_, rfl⟩
  rw [hZ] at HY HCZ
  clear hS hB y0 y1 hB2 hBC rB sB rC sC
  go_wp2_with fail
  refine (list_any _ _ _ _ _ _ l m p af nn _ HS2.out HP.out hla).mono ?_
  rw [HW.out]
  rintro e w5 ⟨q1, cp1, rfl, h1, hB⟩
  have H1 := Lib.hid h1
  have HGT1 := Lib.hid (show 0 < n → ∀ g, q1 = some ⟨g, 0, none⟩ → Z < g from fun hp g hg => by
    have := (ks_lt h1 (by rw [HN.out]; exact hp) g hg).1
    have e1 : (w4.alloc (.cells #[.slice (some ⟨B2, 0, none⟩) la la, .slice (some ⟨C2, 0, none⟩) lg lg] 34)).heap.size = Z + 1 := by simp [hZ]
    omega)
  clear hZ
  have H0 := Lib.hid (ks_keep H0.out hB)
  have HS2 := Lib.hid (HS2.out.keep hB)
  have HX := Lib.hid (HX.out.keep hB)
  have HY := Lib.hid (HY.out.keep hB)
  have HRB := Lib.hid (HRB.out.keep hB)
  have HRC := Lib.hid (HRC.out.keep hB)
  have HB := Lib.hid (below_via HB.out hB)
  clear h1 hB
  rw [HN.out]
  go_wp2_with fail
  refine (eqstrs_same _ _ _ _ _ _ _ (strs_of_ks H1.out HN.out hnm HSH.out) (strs_of_ks H0.out HN.out hnm HSH.out)).mono ?_
  rintro e w6 ⟨rfl, hB⟩
  have H1 := Lib.hid (ks_keep H1.out hB)
  have H0 := Lib.hid (ks_keep H0.out hB)
  have HS2 := Lib.hid (HS2.out.keep hB)
  have HX := Lib.hid (HX.out.keep hB)
  have HY := Lib.hid (HY.out.keep hB)
  have HRB := Lib.hid (HRB.out.keep hB)
  have HRC := Lib.hid (HRC.out.keep hB)
  have HB := Lib.hid (below_via HB.out hB)
  clear hB
  have y0 := HX.out.cell (j := 0) (by simp)
  have y1 := HX.out.cell (j := 1) (by simp)
  have z0 := HY.out.cell (j := 0) (by simp)
  have z1 := HY.out.cell (j := 1) (by simp)
  simp at y0 y1 z0 z1
  have HA := Lib.hid (Below.refl w6.heap.size w6).drew
  go_wp2_with fail
  go_region_held3 (fun w' => Hid (Below w6.heap.size w6 w') ∧ w'.cell? ⟨w.heap.size, 0, none⟩ = some (.slice a la ca) ∧ w'.cell? ⟨w.heap.size, 1, none⟩ = some (.slice g lg cg) ∧ w'.cell? ⟨Z, 0, none⟩ = some (.slice (some ⟨B2, 0, none⟩) la la) ∧ w'.cell? ⟨Z, 1, none⟩ = some (.slice (some ⟨C2, 0, none⟩) lg lg))
    (first | exact ⟨HA, y0, y1, z0, z1⟩ | exact ⟨HA, e0, e1, f0, f1⟩)
    (first | (go_at_call 10; refine (tosto_any _ _ _ _ _ _ l m _ (HS.out.keep (below_via HB.out HA.out)) hla hlg).mono ?_; rintro e w7 ⟨B3, C3, rfl, hS, hB, _, _, _, _⟩; have e0 := (hB.cell (p := ⟨w.heap.size, 0, none⟩) (World.block_lt_of_cell? _ _ y0)).trans y0; have e1 := (hB.cell (p := ⟨w.heap.size, 1, none⟩) (World.block_lt_of_cell? _ _ y1)).trans y1; have f0 := (hB.cell (p := ⟨Z, 0, none⟩) (World.block_lt_of_cell? _ _ z0)).trans z0; have f1 := (hB.cell (p := ⟨Z, 1, none⟩) (World.block_lt_of_cell? _ _ z1)).trans z1; have HS4 := Lib.hid (HS2.out.keep (below_via HA.out hB)); have HA := Lib.hid (below_via HA.out hB); have HS3 := Lib.hid hS; clear hS hB) | (go_at_call 13; refine (eqsto_same _ _ _ _ _ _ _ _ _ _ l m _ HS4.out HS3.out).mono ?_; rintro e w8 ⟨rfl, hB⟩; have e0 := (hB.cell (p := ⟨w.heap.size, 0, none⟩) (World.block_lt_of_cell? _ _ e0)).trans e0; have e1 := (hB.cell (p := ⟨w.heap.size, 1, none⟩) (World.block_lt_of_cell? _ _ e1)).trans e1; have f0 := (hB.cell (p := ⟨Z, 0, none⟩) (World.block_lt_of_cell? _ _ f0)).trans f0; have f1 := (hB.cell (p := ⟨Z, 1, none⟩) (World.block_lt_of_cell? _ _ f1)).trans f1; have HA := Lib.hid (below_via HA.out hB); clear hB))
  have H1 := Lib.hid (ks_keep H1.out HA.out)
  have H0 := Lib.hid (ks_keep H0.out HA.out)
  have HX := Lib.hid (HX.out.keep HA.out)
  have HY := Lib.hid (HY.out.keep HA.out)
  have HRB := Lib.hid (HRB.out.keep HA.out)
  have HRC := Lib.hid (HRC.out.keep HA.out)
  have HB := Lib.hid (below_via HB.out HA.out)
  clear HA HS2
  have z0 := HY.out.cell (j := 0) (by simp)
  have z1 := HY.out.cell (j := 1) (by simp)
  simp at z0 z1
  go_wp2_with fail
  refine (marksto_any B2 C2 la lg cB cC _ HRB.out HRC.out HSB.out HSC.out HBC.out hla hlg).mono ?_
  rintro e w9 ⟨r, rfl, hU⟩
  have HB := Lib.hid (hU.below HB.out (by have := HXB.out; omega))
  have HX := Lib.hid (hU.row HX.out (.inl HXB.out))
  have H0 := Lib.hid (hU.ks H0.out (fun hp g hg => .inl (HLT0.out (by rw [← HN.out]; exact hp) g hg)))
  have H1 := Lib.hid (hU.ks H1.out (fun hp g hg => .inr (by have := HGT1.out (by rw [← HN.out]; exact hp) g hg; have := HCZ.out; omega)))
  have y0 := HX.out.cell (j := 0) (by simp)
  have y1 := HX.out.cell (j := 1) (by simp)
  simp at y0 y1
  clear hU HY HRB HRC HSB HSC z0 z1
  have hr0 : (0 : Int) ≤ (r : Int) := by omega
  go_wp2_with fail
  refine (eqstrs_same _ _ _ _ _ _ _ (strs_of_ks H1.out HN.out hnm HSH.out) (strs_of_ks H0.out HN.out hnm HSH.out)).mono ?_
  rintro e wa ⟨rfl, hB⟩
  have H1 := Lib.hid (ks_keep H1.out hB)
  have H0 := Lib.hid (ks_keep H0.out hB)
  have HX := Lib.hid (HX.out.keep hB)
  have HB := Lib.hid (below_via HB.out hB)
  clear hB y0 y1 hr0
  go_wp2_with fail
  by_cases hn0 : n = 0
  · subst hn0
    refine (mark_none q1 cp1 1 _).mono ?_
    rintro e wb ⟨rfl, rfl⟩
    go_wp2_with fail
    refine (held_none q1 cp1 1 _).mono ?_
    rintro e wb ⟨rfl, rfl⟩
    have y0 := HX.out.cell (j := 0) (by simp)
    have y1 := HX.out.cell (j := 1) (by simp)
    simp at y0 y1
    go_wp2_with fail
    refine (tosto_any _ _ _ _ _ _ l m _ (HS.out.keep HB.out) hla hlg).mono ?_
    rintro e wb ⟨B4, C4, rfl, hS, hB, _, _, _, _⟩
    have HG := Lib.hid hS
    have H0 := Lib.hid (ks_keep H0.out hB)
    have HB := Lib.hid (below_via HB.out hB)
    clear hS hB y0 y1 HX
    go_wp2_with fail
    refine (list_any _ _ _ _ _ _ l m p af nn _ HG.out HP.out hla).mono ?_
    rw [HW.out]
    rintro e wc ⟨q2, cp2, rfl, h2, hB⟩
    have H2 := Lib.hid h2
    have H0 := Lib.hid (ks_keep H0.out hB)
    have HB := Lib.hid (below_via HB.out hB)
    clear h2 hB HG
    rw [HN.out]
    go_wp2_with fail
    refine (eqstrs_same _ _ _ _ _ _ _ (strs_of_ks H2.out HN.out hnm HSH.out) (strs_of_ks H0.out HN.out hnm HSH.out)).mono ?_
    rintro e wd ⟨rfl, hB⟩
    have HB := Lib.hid (below_via HB.out hB)
    clear hB
    go_wp2_with fail
    refine (held_none q1 cp1 1 _).mono ?_
    rintro e we ⟨rfl, rfl⟩
    go_wp2
    go_ret
    exact ⟨rfl, HB.out⟩
  · have hpos : 0 < n := by omega
    obtain ⟨gb, gc, rfl, hrow, hsz⟩ : ∃ g gc, q1 = some ⟨g, 0, none⟩ ∧ Row wa g 9 gc ∧ n ≤ gc.size := by
      rcases H1.out with h0 | ⟨g, gc, hq, _, hr, h1, _⟩
      · rw [HN.out] at h0; omega
      · exact ⟨g, gc, hq, hr, by rw [← HN.out]; exact h1⟩
    have hBg : Z < gb := HGT1.out hpos gb rfl
    have HNE := Lib.hid (show 0 < n → ∀ g', q0 = some ⟨g', 0, none⟩ → g' ≠ gb from fun hp g' hg' => by have := HLT0.out hp g' hg'; have := HCZ.out; have := HBC.out; omega)
    have HGG := Lib.hid (show w.heap.size < gb by have := HXB.out; have := HCZ.out; have := HBC.out; omega)
    refine (markstrs_any gb n cp1 1 _ _ gc _ hrow rfl hsz (Nat.le_refl 1) hn40).mono ?_
    clear hrow hsz hBg
    obtain ⟨mm, hm⟩ : ∃ m, 1 + n = m := ⟨_, rfl⟩
    rintro e wb ⟨he, hg, gc1, hr1, _, hmk⟩
    rw [hm] at he
    subst he
    have H0 := Lib.hid (ks_grown H0.out hg (by rw [HN.out]; exact HNE.out))
    have HX := Lib.hid (row_grown2 HX.out hg (Nat.ne_of_lt HGG.out))
    have HB := Lib.hid (HB.out.grown hg HB.out.size (fun k hk => by cases hk; exact Nat.le_of_lt HGG.out))
    have HRW := Lib.hid hr1
    have HM := Lib.hid hmk
    have HMM := Lib.hid hm
    clear hg hr1 hmk hm
    go_wp2_with fail
    refine (heldstrs_any gb n cp1 1 _ gc1 _ HRW.out HM.out (Nat.le_refl 1) hn40).mono ?_
    rintro e wc ⟨he, hB⟩
    rw [HMM.out] at he
    subst he
    have H0 := Lib.hid (ks_keep H0.out hB)
    have HX := Lib.hid (HX.out.keep hB)
    have HRW := Lib.hid (HRW.out.keep hB)
    have HB := Lib.hid (below_via HB.out hB)
    have y0 := HX.out.cell (j := 0) (by simp)
    have y1 := HX.out.cell (j := 1) (by simp)
    simp at y0 y1
    clear hB
    go_wp2_with fail
    refine (tosto_any _ _ _ _ _ _ l m _ (HS.out.keep HB.out) hla hlg).mono ?_
    rintro e wd ⟨B4, C4, rfl, hS, hB, _, _, _, _⟩
    have HG := Lib.hid hS
    have H0 := Lib.hid (ks_keep H0.out hB)
    have HRW := Lib.hid (HRW.out.keep hB)
    have HB := Lib.hid (below_via HB.out hB)
    clear hS hB y0 y1 HX
    go_wp2_with fail
    refine (list_any _ _ _ _ _ _ l m p af nn _ HG.out HP.out hla).mono ?_
    rw [HW.out]
    rintro e we ⟨q2, cp2, rfl, h2, hB⟩
    have H2 := Lib.hid h2
    have H0 := Lib.hid (ks_keep H0.out hB)
    have HRW := Lib.hid (HRW.out.keep hB)
    have HB := Lib.hid (below_via HB.out hB)
    clear h2 hB HG
    rw [HN.out]
    go_wp2_with fail
    refine (eqstrs_same _ _ _ _ _ _ _ (strs_of_ks H2.out HN.out hnm HSH.out) (strs_of_ks H0.out HN.out hnm HSH.out)).mono ?_
    rintro e wf ⟨rfl, hB⟩
    have HRW := Lib.hid (HRW.out.keep hB)
    have HB := Lib.hid (below_via HB.out hB)
    clear hB
    go_wp2_with fail
    refine (heldstrs_any gb n cp1 1 _ gc1 _ HRW.out HM.out (Nat.le_refl 1) hn40).mono ?_
    rintro e wg ⟨he, hB⟩
    rw [HMM.out] at he
    subst he
    have HB := Lib.hid (below_via HB.out hB)
    clear hB
    go_wp2
    go_ret
    exact ⟨rfl, HB.out⟩
end Go.Proofs.Ytbieabolnfpcgaa
