
/- The law on JobText, walked: both sides write the job alike, and it stays what it was. -/
import Derived.Test.YtgijalecpeabjaaDoorJobTS
namespace Go.Proofs.YtgijalecpeabjaaDoor
open Go.ChangeShapes Go.WideShapes Go.ChangeAt Go.RowKit
set_option linter.unusedVariables false
set_option maxRecDepth 100000

set_option maxHeartbeats 8000000 in
theorem fnExactJobText_walk (p s : Option Addr) (pl pc sl sc : Nat) (e1 : Bool) (o1 n1 : Int) (l : Instrs) (m : Strs) (w : World) (h : JobAt w p pl l s sl m) (hn : ∀ i, i < pl → In64 (ins1 l i)) (hT : TabsJ w) :
    Calls Tryd.prog 8 #[.agg #[.slice p pl pc, .bool e1, .int .i64 o1, .int .i64 n1, .slice s sl sc]] w fun e w' => e = .returned (.bool true) ∧ Below w.heap.size w w' := by
  have HS := Lib.hid h
  have HT := Lib.hid hT
  have HN := Lib.hid hn
  have HX := Lib.hid (row_new w #[.slice p pl pc, .bool e1, .int .i64 o1, .int .i64 n1, .slice s sl sc] 40)
  have HB := Lib.hid (below_alloc (Below.refl w.heap.size w) (.cells #[.slice p pl pc, .bool e1, .int .i64 o1, .int .i64 n1, .slice s sl sc] 40))
  obtain ⟨q, hq⟩ : ∃ q, jobTx l e1 o1 n1 m sl = q := ⟨_, rfl⟩
  have HQ := Lib.hid hq
  clear h hT hn hq
  go_enter Tryd.func8, Tryd.ntmps8
  go_wp2_with fail
  refine (szjob_any _ _ _ _ _ _ _ _ _ l m _ _ (HS.out.keep HB.out) (by decide) (by decide)).mono ?_
  rintro e w1 ⟨x, hx0, hx1, rfl, hB, hf⟩
  have HX := Lib.hid (HX.out.keep hB)
  have HB := Lib.hid (below_via HB.out hB)
  have HF := Lib.hid hf
  have y0 := HX.out.cell (j := 0) (by simp)
  have y1 := HX.out.cell (j := 1) (by simp)
  have y2 := HX.out.cell (j := 2) (by simp)
  have y3 := HX.out.cell (j := 3) (by simp)
  have y4 := HX.out.cell (j := 4) (by simp)
  simp at y0 y1 y2 y3 y4
  clear hB hf
  by_cases hx : x < 0
  · go_wp2
    go_ret
    exact ⟨rfl, HB.out⟩
  obtain ⟨hpl, hsl, hz⟩ := HF.out (by omega)
  have HZ := Lib.hid hz
  clear HF hz
  go_wp2_with fail
  refine (tojob_any _ _ _ _ _ _ _ _ _ l m _ (HS.out.keep HB.out) hpl hsl).mono ?_
  rintro e w2 ⟨B1, C1, rfl, hS, hB, _, _⟩
  have HS1 := Lib.hid hS
  have HX := Lib.hid (HX.out.keep hB)
  have HB := Lib.hid (below_via HB.out hB)
  clear hS hB y0 y1 y2 y3 y4
  go_wp2_with fail
  refine (sjobtext_any _ _ _ _ _ _ _ _ _ l m _ HS1.out HZ.out HN.out).mono ?_
  rw [HQ.out]
  rintro e w3 ⟨rfl, hB⟩
  have HX := Lib.hid (HX.out.keep hB)
  have HB := Lib.hid (below_via HB.out hB)
  have y0 := HX.out.cell (j := 0) (by simp)
  have y1 := HX.out.cell (j := 1) (by simp)
  have y2 := HX.out.cell (j := 2) (by simp)
  have y3 := HX.out.cell (j := 3) (by simp)
  have y4 := HX.out.cell (j := 4) (by simp)
  simp at y0 y1 y2 y3 y4
  clear hB HS1
  go_wp2_with fail
  refine (tojob_any _ _ _ _ _ _ _ _ _ l m _ (HS.out.keep HB.out) hpl hsl).mono ?_
  rintro e w4 ⟨B2, C2, rfl, hS, hB, _, _⟩
  have HS2 := Lib.hid (hS.keep (below_alloc (Below.refl _ _) (.cells #[.slice (some ⟨B2, 0, none⟩) pl pl, .bool e1, .int .i64 o1, .int .i64 n1, .slice (some ⟨C2, 0, none⟩) sl sl] 44)))
  have HY := Lib.hid (row_new w4 #[.slice (some ⟨B2, 0, none⟩) pl pl, .bool e1, .int .i64 o1, .int .i64 n1, .slice (some ⟨C2, 0, none⟩) sl sl] 44)
  have HX := Lib.hid ((HX.out.keep hB).al (.cells #[.slice (some ⟨B2, 0, none⟩) pl pl, .bool e1, .int .i64 o1, .int .i64 n1, .slice (some ⟨C2, 0, none⟩) sl sl] 44))
  have HB := Lib.hid (below_alloc (below_via HB.out hB) (.cells #[.slice (some ⟨B2, 0, none⟩) pl pl, .bool e1, .int .i64 o1, .int .i64 n1, .slice (some ⟨C2, 0, none⟩) sl sl] 44))
  obtain ⟨Z, hZ⟩ : ∃ Z, w4.heap.size = Z := ⟨_, rfl⟩
  rw [hZ] at HY
  clear hS hB y0 y1 y2 y3 y4
  go_wp2_with fail
  clear hZ
  refine (jobtext_any _ _ _ _ _ _ _ _ _ l m _ HS2.out HZ.out HN.out (HT.out.keep HB.out)).mono ?_
  rw [HQ.out]
  rintro e w5 ⟨rfl, hB⟩
  have HX := Lib.hid (HX.out.keep hB)
  have HY := Lib.hid (HY.out.keep hB)
  have HS2 := Lib.hid (HS2.out.keep hB)
  have HB := Lib.hid (below_via HB.out hB)
  clear hB
  have y0 := HX.out.cell (j := 0) (by simp)
  have y1 := HX.out.cell (j := 1) (by simp)
  have y2 := HX.out.cell (j := 2) (by simp)
  have y3 := HX.out.cell (j := 3) (by simp)
  have y4 := HX.out.cell (j := 4) (by simp)
  have z0 := HY.out.cell (j := 0) (by simp)
  have z1 := HY.out.cell (j := 1) (by simp)
  have z2 := HY.out.cell (j := 2) (by simp)
  have z3 := HY.out.cell (j := 3) (by simp)
  have z4 := HY.out.cell (j := 4) (by simp)
  simp at y0 y1 y2 y3 y4 z0 z1 z2 z3 z4
  have HB := Lib.hid HB.out.drew
  have HS2 := Lib.hid (HS2.out.keep (Below.refl _ _).drew)
  go_wp2_with fail
  go_region_held3 (fun w' => Hid (Below w.heap.size w w') ∧ w'.cell? ⟨w.heap.size, 0, none⟩ = some (.slice p pl pc) ∧ w'.cell? ⟨w.heap.size, 1, none⟩ = some (.bool e1) ∧ w'.cell? ⟨w.heap.size, 2, none⟩ = some (.int .i64 o1) ∧ w'.cell? ⟨w.heap.size, 3, none⟩ = some (.int .i64 n1) ∧ w'.cell? ⟨w.heap.size, 4, none⟩ = some (.slice s sl sc) ∧ w'.cell? ⟨Z, 0, none⟩ = some (.slice (some ⟨B2, 0, none⟩) pl pl) ∧ w'.cell? ⟨Z, 1, none⟩ = some (.bool e1) ∧ w'.cell? ⟨Z, 2, none⟩ = some (.int .i64 o1) ∧ w'.cell? ⟨Z, 3, none⟩ = some (.int .i64 n1) ∧ w'.cell? ⟨Z, 4, none⟩ = some (.slice (some ⟨C2, 0, none⟩) sl sl))
    (first | exact ⟨HB, y0, y1, y2, y3, y4, z0, z1, z2, z3, z4⟩ | exact ⟨HB, e10, e11, e12, e13, e14, f0, f1, f2, f3, f4⟩)
    (first | (go_at_call 28; refine (tojob_any _ _ _ _ _ _ _ _ _ l m _ (HS.out.keep HB.out) hpl hsl).mono ?_; rintro e w6 ⟨B3, C3, rfl, hS, hB, _, _⟩; have e10 := (hB.cell (p := ⟨w.heap.size, 0, none⟩) (World.block_lt_of_cell? _ _ y0)).trans y0; have e11 := (hB.cell (p := ⟨w.heap.size, 1, none⟩) (World.block_lt_of_cell? _ _ y1)).trans y1; have e12 := (hB.cell (p := ⟨w.heap.size, 2, none⟩) (World.block_lt_of_cell? _ _ y2)).trans y2; have e13 := (hB.cell (p := ⟨w.heap.size, 3, none⟩) (World.block_lt_of_cell? _ _ y3)).trans y3; have e14 := (hB.cell (p := ⟨w.heap.size, 4, none⟩) (World.block_lt_of_cell? _ _ y4)).trans y4; have f0 := (hB.cell (p := ⟨Z, 0, none⟩) (World.block_lt_of_cell? _ _ z0)).trans z0; have f1 := (hB.cell (p := ⟨Z, 1, none⟩) (World.block_lt_of_cell? _ _ z1)).trans z1; have f2 := (hB.cell (p := ⟨Z, 2, none⟩) (World.block_lt_of_cell? _ _ z2)).trans z2; have f3 := (hB.cell (p := ⟨Z, 3, none⟩) (World.block_lt_of_cell? _ _ z3)).trans z3; have f4 := (hB.cell (p := ⟨Z, 4, none⟩) (World.block_lt_of_cell? _ _ z4)).trans z4; have HB := Lib.hid (below_via HB.out hB); have HS2 := Lib.hid (HS2.out.keep hB); have HS3 := Lib.hid hS; clear hS hB) | (go_at_call 30; refine (eqjob_same _ _ _ _ _ _ _ _ _ _ _ _ _ l m _ HS2.out HS3.out).mono ?_; rintro e w7 ⟨rfl, hB⟩; have e10 := (hB.cell (p := ⟨w.heap.size, 0, none⟩) (World.block_lt_of_cell? _ _ e10)).trans e10; have e11 := (hB.cell (p := ⟨w.heap.size, 1, none⟩) (World.block_lt_of_cell? _ _ e11)).trans e11; have e12 := (hB.cell (p := ⟨w.heap.size, 2, none⟩) (World.block_lt_of_cell? _ _ e12)).trans e12; have e13 := (hB.cell (p := ⟨w.heap.size, 3, none⟩) (World.block_lt_of_cell? _ _ e13)).trans e13; have e14 := (hB.cell (p := ⟨w.heap.size, 4, none⟩) (World.block_lt_of_cell? _ _ e14)).trans e14; have f0 := (hB.cell (p := ⟨Z, 0, none⟩) (World.block_lt_of_cell? _ _ f0)).trans f0; have f1 := (hB.cell (p := ⟨Z, 1, none⟩) (World.block_lt_of_cell? _ _ f1)).trans f1; have f2 := (hB.cell (p := ⟨Z, 2, none⟩) (World.block_lt_of_cell? _ _ f2)).trans f2; have f3 := (hB.cell (p := ⟨Z, 3, none⟩) (World.block_lt_of_cell? _ _ f3)).trans f3; have f4 := (hB.cell (p := ⟨Z, 4, none⟩) (World.block_lt_of_cell? _ _ f4)).trans f4; have HB := Lib.hid (below_via HB.out hB); clear hB))
  go_wp2
  go_ret
  exact ⟨rfl, HB.out⟩
end Go.Proofs.YtgijalecpeabjaaDoor
