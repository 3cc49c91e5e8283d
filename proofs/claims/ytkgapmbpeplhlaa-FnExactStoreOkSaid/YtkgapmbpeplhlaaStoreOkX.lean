
/- The exact law on StoreOk, walked: for every store that may be read it returns true and only makes new blocks. -/
import Derived.Test.YtkgapmbpeplhlaaAllKeys
namespace Go.Proofs.Ytkgapmbpeplhlaa
open Go.ChangeShapes Go.WideShapes Go.ChangeAt Go.RowKit
set_option linter.unusedVariables false
set_option maxRecDepth 100000

set_option maxHeartbeats 4000000 in
theorem fnExactStoreOk_walk (a g : Option Addr) (la ca lg cg : Nat) (l : Objs) (m : Gones) (w : World) (h : StoAt w a la l g lg m) :
    Calls Try.prog 3 #[.agg #[.slice a la ca, .slice g lg cg]] w fun e w' => e = .returned (.bool true) ∧ Below w.heap.size w w' := by
  have HS := Lib.hid h
  have HX := Lib.hid (row_new w #[.slice a la ca, .slice g lg cg] 25)
  have HB := Lib.hid (below_alloc (Below.refl w.heap.size w) (.cells #[.slice a la ca, .slice g lg cg] 25))
  clear h
  go_enter Try.func3, Try.ntmps3
  go_wp2_with fail
  refine (szsto_any _ _ _ _ _ _ l m _ _ (HS.out.keep HB.out) (by decide) (by decide)).mono ?_
  rintro e w1 ⟨x, hx0, hx1, rfl, hB, hf⟩
  have HX := Lib.hid (HX.out.keep hB)
  have HB := Lib.hid (below_via HB.out hB)
  have HF := Lib.hid hf
  have y0 := HX.out.cell (j := 0) (by simp)
  have y1 := HX.out.cell (j := 1) (by simp)
  simp at y0 y1
  clear hB hf
  by_cases hx : x < 0
  · go_wp2
    go_ret
    exact ⟨rfl, HB.out⟩
  have hla : la ≤ 1048576 := (HF.out (by omega)).1.1
  have hlg : lg ≤ 1048576 := (HF.out (by omega)).2.1
  clear HF
  go_wp2_with fail
  refine (tosto_any _ _ _ _ _ _ l m _ (HS.out.keep HB.out) hla hlg).mono ?_
  rintro e w2 ⟨B1, C1, rfl, hS, hB, _, _, _, _⟩
  have HS1 := Lib.hid hS
  have HX := Lib.hid (HX.out.keep hB)
  have HB := Lib.hid (below_via HB.out hB)
  clear hS hB y0 y1
  go_wp2_with fail
  refine (sstoreok_any _ _ _ _ _ _ l m _ HS1.out hla hlg).mono ?_
  rintro e w3 ⟨b1, rfl, hb1, hB⟩
  have HP := Lib.hid hb1
  have HX := Lib.hid (HX.out.keep hB)
  have HB := Lib.hid (below_via HB.out hB)
  have y0 := HX.out.cell (j := 0) (by simp)
  have y1 := HX.out.cell (j := 1) (by simp)
  simp at y0 y1
  clear hB hb1 HS1
  go_wp2_with fail
  refine (tosto_any _ _ _ _ _ _ l m _ (HS.out.keep HB.out) hla hlg).mono ?_
  rintro e w4 ⟨B2, C2, rfl, hS, hB, _, _, _, _⟩
  have HS2 := Lib.hid (hS.keep (below_alloc (Below.refl _ _) (.cells #[.slice (some ⟨B2, 0, none⟩) la la, .slice (some ⟨C2, 0, none⟩) lg lg] 31)))
  have HY := Lib.hid (row_new w4 #[.slice (some ⟨B2, 0, none⟩) la la, .slice (some ⟨C2, 0, none⟩) lg lg] 31)
  have HX := Lib.hid ((HX.out.keep hB).al (.cells #[.slice (some ⟨B2, 0, none⟩) la la, .slice (some ⟨C2, 0, none⟩) lg lg] 31))
  have HB := Lib.hid (below_alloc (below_via HB.out hB) (.cells #[.slice (some ⟨B2, 0, none⟩) la la, .slice (some ⟨C2, 0, none⟩) lg lg] 31))
  obtain ⟨Z, hZ⟩ : ∃ Z, w4.heap.size = Z := ⟨_, rfl⟩
  rw [hZ] at HY
  clear hS hB y0 y1
  go_wp2_with fail
  clear hZ
  refine (storeok_any _ _ _ _ _ _ l m _ HS2.out hla hlg).mono ?_
  rintro e w5 ⟨b2, rfl, hb2, hB⟩
  have hbb : b2 = b1 := by
    have h1 := HP.out
    cases b1 <;> cases b2 <;> simp_all
  subst hbb
  have HX := Lib.hid (HX.out.keep hB)
  have HY := Lib.hid (HY.out.keep hB)
  have HS2 := Lib.hid (HS2.out.keep hB)
  have HB := Lib.hid (below_via HB.out hB)
  clear hB hb2 HP
  have y0 := HX.out.cell (j := 0) (by simp)
  have y1 := HX.out.cell (j := 1) (by simp)
  have z0 := HY.out.cell (j := 0) (by simp)
  have z1 := HY.out.cell (j := 1) (by simp)
  simp at y0 y1 z0 z1
  have HB := Lib.hid HB.out.drew
  have HS2 := Lib.hid (HS2.out.keep (Below.refl _ _).drew)
  cases b2
  all_goals
    go_wp2_with fail
    go_region_held3 (fun w' => Hid (Below w.heap.size w w') ∧ w'.cell? ⟨w.heap.size, 0, none⟩ = some (.slice a la ca) ∧ w'.cell? ⟨w.heap.size, 1, none⟩ = some (.slice g lg cg) ∧ w'.cell? ⟨Z, 0, none⟩ = some (.slice (some ⟨B2, 0, none⟩) la la) ∧ w'.cell? ⟨Z, 1, none⟩ = some (.slice (some ⟨C2, 0, none⟩) lg lg))
      (first | exact ⟨HB, y0, y1, z0, z1⟩ | exact ⟨HB, e0, e1, f0, f1⟩)
      (first | (go_at_call 8; refine (tosto_any _ _ _ _ _ _ l m _ (HS.out.keep HB.out) hla hlg).mono ?_; rintro e w6 ⟨B3, C3, rfl, hS, hB, _, _, _, _⟩; have e0 := (hB.cell (p := ⟨w.heap.size, 0, none⟩) (World.block_lt_of_cell? _ _ y0)).trans y0; have e1 := (hB.cell (p := ⟨w.heap.size, 1, none⟩) (World.block_lt_of_cell? _ _ y1)).trans y1; have f0 := (hB.cell (p := ⟨Z, 0, none⟩) (World.block_lt_of_cell? _ _ z0)).trans z0; have f1 := (hB.cell (p := ⟨Z, 1, none⟩) (World.block_lt_of_cell? _ _ z1)).trans z1; have HB := Lib.hid (below_via HB.out hB); have HS2 := Lib.hid (HS2.out.keep hB); have HS3 := Lib.hid hS; clear hS hB) | (go_at_call 10; refine (eqsto_same _ _ _ _ _ _ _ _ _ _ l m _ HS2.out HS3.out).mono ?_; rintro e w7 ⟨rfl, hB⟩; have e0 := (hB.cell (p := ⟨w.heap.size, 0, none⟩) (World.block_lt_of_cell? _ _ e0)).trans e0; have e1 := (hB.cell (p := ⟨w.heap.size, 1, none⟩) (World.block_lt_of_cell? _ _ e1)).trans e1; have f0 := (hB.cell (p := ⟨Z, 0, none⟩) (World.block_lt_of_cell? _ _ f0)).trans f0; have f1 := (hB.cell (p := ⟨Z, 1, none⟩) (World.block_lt_of_cell? _ _ f1)).trans f1; have HB := Lib.hid (below_via HB.out hB); clear hB))
    go_wp2
    go_ret
    exact ⟨rfl, HB.out⟩
end Go.Proofs.Ytkgapmbpeplhlaa
