
/- The exact law on MapOf, walked: both sides answer alike; nothing that came in is written into; the answer owns its memory. -/
import Derived.Test.YtdphganbnlmgcaaGreatDoorMapP
import Derived.Test.YtdphganbnlmgcaaGreatDoorMapS
import Derived.Test.YtdphganbnlmgcaaGreatDoorMg43
import Derived.Test.YtdphganbnlmgcaaGreatDoorJobR
import Derived.Test.YtdphganbnlmgcaaGreatDoorMg10
namespace Go.Proofs.YtdphganbnlmgcaaGreatDoor
open Go.ChangeShapes Go.WideShapes Go.ChangeAt Go.RowKit Go.MuLone
set_option linter.unusedVariables false
set_option maxRecDepth 100000

theorem below_lo {n lo : Nat} {a b c : World} (h : Below n a b) (k : Below lo b c) (hn : n ≤ lo) (hs : n ≤ b.heap.size) : Below n a c :=
  ⟨k.os.trans h.os, k.tape.trans h.tape, k.output.trans h.output, Nat.le_trans h.size k.size, fun i hi => (k.block i (Nat.lt_of_lt_of_le hi hn)).trans (h.block i hi)⟩
theorem row_lo {lo B : Nat} {T : TypeId} {cur : Array Value} {a b : World} (h : Row a B T cur) (k : Below lo a b) (hB : B < lo) : Row b B T cur := (k.block B hB).trans h
theorem RunsB.oth {base : Nat} {w w1 : World} {q : Option Addr} {LS : List Recs} (h : RunsB base w q LS) (ho : ∀ X, X < w.heap.size → base ≤ X → w1.heap[X]? = w.heap[X]?) : RunsB base w1 q LS := by
  rcases h with h | ⟨G, cur, g, hq, hb, hr, hi, hd⟩
  · exact .inl h
  · refine .inr ⟨G, cur, g, hq, hb, (ho G hr.lt hb).trans hr, fun i hi2 => ?_, hd⟩
    obtain ⟨p, c, e1, e2⟩ := hi i hi2
    refine ⟨p, c, e1, ?_⟩
    rcases e2 with e2 | ⟨rc, r1, r2, r3, r4, r5⟩
    · exact .inl e2
    · exact .inr ⟨rc, r1, r2, (ho _ r3.lt r2).trans r3, r4, r5⟩

set_option maxHeartbeats 8000000 in
theorem fnExactMapOf_walk (p s : Option Addr) (pl pc sl sc : Nat) (e1 : Bool) (o1 n1 : Int) (l : Instrs) (m : Strs) (t : Int) (w : World) (h : JobAt w p pl l s sl m) (hn : ∀ i, i < pl → In64 (ins1 l i)) (hT : TabsRP w) :
    Calls Tryz.prog 3 #[.agg #[.slice p pl pc, .bool e1, .int .i64 o1, .int .i64 n1, .slice s sl sc], .int .i64 t] w fun e w' => e = .returned (.bool true) ∧ Below w.heap.size w w' := by
  have HS := Lib.hid h
  have HT := Lib.hid hT
  have HN := Lib.hid hn
  obtain ⟨B0, hB0⟩ : ∃ B, w.heap.size = B := ⟨_, rfl⟩
  have HX := Lib.hid (show Row _ B0 25 _ from hB0 ▸ row_new w #[.slice p pl pc, .bool e1, .int .i64 o1, .int .i64 n1, .slice s sl sc] 25)
  have HB := Lib.hid (below_alloc (Below.refl w.heap.size w) (.cells #[.slice p pl pc, .bool e1, .int .i64 o1, .int .i64 n1, .slice s sl sc] 25))
  obtain ⟨LS, hLS⟩ : ∃ x, (mapJ l e1 o1 n1 m sl t).1 = x := ⟨_, rfl⟩
  obtain ⟨c, hc⟩ : ∃ x, (mapJ l e1 o1 n1 m sl t).2 = x := ⟨_, rfl⟩
  have HRES := Lib.hid (show mapJ l e1 o1 n1 m sl t = (LS, c) by rw [← hLS, ← hc])
  have HF := Lib.hid (mapJ_few l e1 o1 n1 m sl t)
  rw [hLS] at HF
  obtain ⟨n, hnn⟩ : ∃ n, LS.length = n := ⟨_, rfl⟩
  have HNN := Lib.hid hnn
  have HRL := Lib.hid (show ∀ base w q, RunsB base w q LS → RunLs w q n LS from fun base w q h => by have := h.ls HF.out; rw [hnn] at this; exact this)
  have hcc : (c != c) = false := by simp
  obtain ⟨mm, hmm⟩ : ∃ x, 1 + 2 * (allTo LS LS.length).length = x := ⟨_, rfl⟩
  have HMM := Lib.hid hmm
  obtain ⟨w0, hw0⟩ : ∃ x, w.alloc (.cells #[.slice p pl pc, .bool e1, .int .i64 o1, .int .i64 n1, .slice s sl sc] 25) = x := ⟨_, rfl⟩
  have HW0 := Lib.hid hw0
  rw [hw0] at HX HB
  have HB0 := Lib.hid hB0
  clear h hT hn hLS hc hnn hmm hw0 hB0
  go_enter Tryz.func3, Tryz.ntmps3
  have y0 := HX.out.cell (j := 0) (by simp)
  have y1 := HX.out.cell (j := 1) (by simp)
  have y2 := HX.out.cell (j := 2) (by simp)
  have y3 := HX.out.cell (j := 3) (by simp)
  have y4 := HX.out.cell (j := 4) (by simp)
  simp at y0 y1 y2 y3 y4
  go_wp2_with fail
  rw [HW0.out]
  try rw [HB0.out]
  refine (szjob_any _ _ _ _ _ _ _ _ _ l m _ _ (HS.out.keep HB.out) (by decide) (by decide)).mono ?_
  rintro e w1 ⟨x, hx0, hx1, rfl, hB, hf⟩
  have HSZ := Lib.hid hf
  have HX := Lib.hid (HX.out.keep hB)
  have HB := Lib.hid (below_via HB.out hB)
  clear hB hf
  clear y0 y1 y2 y3 y4
  have y0 := HX.out.cell (j := 0) (by simp)
  have y1 := HX.out.cell (j := 1) (by simp)
  have y2 := HX.out.cell (j := 2) (by simp)
  have y3 := HX.out.cell (j := 3) (by simp)
  have y4 := HX.out.cell (j := 4) (by simp)
  simp at y0 y1 y2 y3 y4
  by_cases hx : x < 0
  · go_wp2
    go_ret
    exact ⟨rfl, HB.out⟩
  obtain ⟨hpl, hsl, hz⟩ := HSZ.out (by omega)
  have HZ := Lib.hid hz
  have HMOD := Lib.hid (fun p s pc sc w (h : JobAt w p pl l s sl m) => smapof_any p s pl pc sl sc e1 o1 n1 l m t w h HN.out HZ.out)
  have HIMP := Lib.hid (fun p s pc sc w (h : JobAt w p pl l s sl m) (hT : TabsRP w) => mapof_any p s pl pc sl sc e1 o1 n1 l m t w h HN.out HZ.out hT)
  unfold MadeSSL at HMOD
  unfold MadeSS at HIMP
  simp only [HRES.out, HNN.out] at HMOD HIMP
  clear HSZ hz
  go_wp2_with fail
  refine (tojob_any _ _ _ _ _ _ _ _ _ l m _ (HS.out.keep HB.out) hpl hsl).mono ?_
  rintro e w2 ⟨B1, C1, rfl, hS, hB, _, _⟩
  have HS1 := Lib.hid hS
  have HX := Lib.hid (HX.out.keep hB)
  have HB := Lib.hid (below_via HB.out hB)
  clear hB hS
  clear y0 y1 y2 y3 y4
  go_wp2_with fail
  refine (HMOD.out _ _ _ _ _ HS1.out).mono ?_
  rintro e w3 ⟨q0, cp0, rfl, hB, hls⟩
  have H0 := Lib.hid hls
  have HX := Lib.hid (HX.out.keep hB)
  have HB := Lib.hid (below_via HB.out hB)
  clear hB hls HS1 HMOD
  have HBX := Lib.hid (Below.refl w3.heap.size w3)
  have HWX := Lib.hid HB.out.size
  have HBL := Lib.hid HX.out.lt
  have y0 := HX.out.cell (j := 0) (by simp)
  have y1 := HX.out.cell (j := 1) (by simp)
  have y2 := HX.out.cell (j := 2) (by simp)
  have y3 := HX.out.cell (j := 3) (by simp)
  have y4 := HX.out.cell (j := 4) (by simp)
  simp at y0 y1 y2 y3 y4
  go_wp2_with fail
  refine (tojobR_any _ _ _ _ _ _ _ _ _ l m _ (HS.out.keep HB.out) hpl hsl).mono ?_
  rintro e w4 ⟨B2, C2, curI, curS, rfl, hS, hB, hB2, hBC, hrI, hsI, hrS, hsS⟩
  have HRI := Lib.hid hrI
  have HRS := Lib.hid hrS
  have HSI := Lib.hid hsI
  have HSS := Lib.hid hsS
  have HS2 := Lib.hid hS
  have HX := Lib.hid (HX.out.keep hB)
  have HB := Lib.hid (below_via HB.out hB)
  have HBX := Lib.hid (below_via HBX.out hB)
  clear hB hS hrI hrS hsI hsS
  clear y0 y1 y2 y3 y4
  obtain ⟨Z, hZ⟩ : ∃ Z, w4.heap.size = Z := ⟨_, rfl⟩
  have HCZ := Lib.hid (show C2 < Z from by rw [← hZ]; exact HRS.out.lt)
  have HY := Lib.hid (show Row _ Z 32 _ from hZ ▸ row_new w4 #[.slice (some ⟨B2, 0, none⟩) pl pl, .bool e1, .int .i64 o1, .int .i64 n1, .slice (some ⟨C2, 0, none⟩) sl sl] 32)
  have hal := below_alloc (Below.refl w4.heap.size w4) (.cells #[.slice (some ⟨B2, 0, none⟩) pl pl, .bool e1, .int .i64 o1, .int .i64 n1, .slice (some ⟨C2, 0, none⟩) sl sl] 32)
  have HX := Lib.hid (HX.out.keep hal)
  have HB := Lib.hid (below_via HB.out hal)
  have HBX := Lib.hid (below_via HBX.out hal)
  have HRI := Lib.hid (HRI.out.keep hal)
  have HRS := Lib.hid (HRS.out.keep hal)
  have HS2 := Lib.hid (HS2.out.keep hal)
  have HZ3 := Lib.hid (show w3.heap.size ≤ Z from by have := HCZ.out; omega)
  go_wp2_with fail
  try rw [hZ]
  obtain ⟨w5, hw5⟩ : ∃ x, w4.alloc (.cells #[.slice (some ⟨B2, 0, none⟩) pl pl, .bool e1, .int .i64 o1, .int .i64 n1, .slice (some ⟨C2, 0, none⟩) sl sl] 32) = x := ⟨_, rfl⟩
  rw [hw5] at HX HB HBX HRI HRS HS2 HY
  rw [hw5]
  have HB5 := Lib.hid (show Z < w5.heap.size from HY.out.lt)
  clear hw5 hal hZ
  refine (HIMP.out _ _ _ _ _ HS2.out (HT.out.keep HB.out)).mono ?_
  rintro e w6 ⟨q1, cp1, rfl, hB, hr⟩
  obtain ⟨BZ, hBZ⟩ : ∃ x, w5.heap.size = x := ⟨_, rfl⟩
  have HBZ := Lib.hid (show Z < BZ from by rw [← hBZ]; exact HB5.out)
  rw [hBZ] at hr
  have H1 := Lib.hid hr
  have HX := Lib.hid (HX.out.keep hB)
  have HB := Lib.hid (below_via HB.out hB)
  have HBX := Lib.hid (below_via HBX.out hB)
  have HRI := Lib.hid (HRI.out.keep hB)
  have HRS := Lib.hid (HRS.out.keep hB)
  have HS2 := Lib.hid (HS2.out.keep hB)
  have HY := Lib.hid (HY.out.keep hB)
  have HZS := Lib.hid (show BZ ≤ w6.heap.size from by rw [← hBZ]; exact hB.size)
  clear hB hr hBZ HB5
  go_wp2_with fail
  refine (eqss_same _ _ _ _ _ _ _ (HRL.out _ _ _ H1.out) (H0.out.keep HBX.out)).mono ?_
  rintro e w7 ⟨rfl, hB⟩
  have HX := Lib.hid (HX.out.keep hB)
  have HB := Lib.hid (below_via HB.out hB)
  have HBX := Lib.hid (below_via HBX.out hB)
  have HRI := Lib.hid (HRI.out.keep hB)
  have HRS := Lib.hid (HRS.out.keep hB)
  have HS2 := Lib.hid (HS2.out.keep hB)
  have HY := Lib.hid (HY.out.keep hB)
  have H1 := Lib.hid (H1.out.keep hB)
  have HZS := Lib.hid (Nat.le_trans HZS.out hB.size)
  clear hB
  have y0 := HX.out.cell (j := 0) (by simp)
  have y1 := HX.out.cell (j := 1) (by simp)
  have y2 := HX.out.cell (j := 2) (by simp)
  have y3 := HX.out.cell (j := 3) (by simp)
  have y4 := HX.out.cell (j := 4) (by simp)
  simp at y0 y1 y2 y3 y4
  have z0 := HY.out.cell (j := 0) (by simp)
  have z1 := HY.out.cell (j := 1) (by simp)
  have z2 := HY.out.cell (j := 2) (by simp)
  have z3 := HY.out.cell (j := 3) (by simp)
  have z4 := HY.out.cell (j := 4) (by simp)
  simp at z0 z1 z2 z3 z4
  go_wp2_with fail
  refine wp_region_noPanic ?_
  obtain ⟨v0, hv0⟩ : ∃ x, w7.drew = x := ⟨_, rfl⟩
  have hD := below_drewN (Below.refl w7.heap.size w7) 1
  have HD : Hid (Below w7.heap.size w7 v0) := Lib.hid (by rw [← hv0]; exact hD)
  clear hD
  have y0 := (HD.out.cell (p := ⟨B0, 0, none⟩) (World.block_lt_of_cell? _ _ y0)).trans y0
  have y1 := (HD.out.cell (p := ⟨B0, 1, none⟩) (World.block_lt_of_cell? _ _ y1)).trans y1
  have y2 := (HD.out.cell (p := ⟨B0, 2, none⟩) (World.block_lt_of_cell? _ _ y2)).trans y2
  have y3 := (HD.out.cell (p := ⟨B0, 3, none⟩) (World.block_lt_of_cell? _ _ y3)).trans y3
  have y4 := (HD.out.cell (p := ⟨B0, 4, none⟩) (World.block_lt_of_cell? _ _ y4)).trans y4
  have z0 := (HD.out.cell (p := ⟨Z, 0, none⟩) (World.block_lt_of_cell? _ _ z0)).trans z0
  have z1 := (HD.out.cell (p := ⟨Z, 1, none⟩) (World.block_lt_of_cell? _ _ z1)).trans z1
  have z2 := (HD.out.cell (p := ⟨Z, 2, none⟩) (World.block_lt_of_cell? _ _ z2)).trans z2
  have z3 := (HD.out.cell (p := ⟨Z, 3, none⟩) (World.block_lt_of_cell? _ _ z3)).trans z3
  have z4 := (HD.out.cell (p := ⟨Z, 4, none⟩) (World.block_lt_of_cell? _ _ z4)).trans z4
  refine wp_region_held_drew (S := (fun w' => Hid (Below w7.heap.size w7 w') ∧ w'.cell? ⟨B0, 0, none⟩ = some (.slice p pl pc) ∧ w'.cell? ⟨B0, 1, none⟩ = some (.bool e1) ∧ w'.cell? ⟨B0, 2, none⟩ = some (.int .i64 o1) ∧ w'.cell? ⟨B0, 3, none⟩ = some (.int .i64 n1) ∧ w'.cell? ⟨B0, 4, none⟩ = some (.slice s sl sc) ∧ w'.cell? ⟨Z, 0, none⟩ = some (.slice (some ⟨B2, 0, none⟩) pl pl) ∧ w'.cell? ⟨Z, 1, none⟩ = some (.bool e1) ∧ w'.cell? ⟨Z, 2, none⟩ = some (.int .i64 o1) ∧ w'.cell? ⟨Z, 3, none⟩ = some (.int .i64 n1) ∧ w'.cell? ⟨Z, 4, none⟩ = some (.slice (some ⟨C2, 0, none⟩) sl sl))) (by kernel_rfl) (by rw [hv0]; exact ⟨HD, y0, y1, y2, y3, y4, z0, z1, z2, z3, z4⟩) (fun HS3 => ?_)
  rw [hv0] at HS3 ⊢
  clear hv0
  refine held_take (i := 0) (d := 45) (v := .agg #[.slice (some ⟨B2, 0, none⟩) pl pl, .bool e1, .int .i64 o1, .int .i64 n1, .slice (some ⟨C2, 0, none⟩) sl sl]) rfl rfl (by kernel_rfl) (by kernel_rfl) (by kernel_rfl) (by kernel_rfl) (fun wx hS => by obtain ⟨_, h0, h1, h2, h3, h4, g0, g1, g2, g3, g4⟩ := hS; go_simp) HS3 ?_
  refine held_take (i := 1) (d := 46) (v := .agg #[.slice p pl pc, .bool e1, .int .i64 o1, .int .i64 n1, .slice s sl sc]) rfl rfl (by kernel_rfl) (by kernel_rfl) (by kernel_rfl) (by kernel_rfl) (fun wx hS => by obtain ⟨_, h0, h1, h2, h3, h4, g0, g1, g2, g3, g4⟩ := hS; go_simp) HS3 ?_
  refine wpAnyH_ready (rs := [2]) (by kernel_rfl) (by simp) (AllReadyH.cons rfl (fun K hK => ?_) AllReadyH.nil)
  go_simp
  refine (tojob_any _ _ _ _ _ _ _ _ _ l m _ (HS.out.keep (below_via HB.out HD.out)) hpl hsl).mono ?_
  rintro e w8 ⟨B3, C3, rfl, hS, hB, _, _⟩
  have HS3J := Lib.hid hS
  have HE := Lib.hid (below_via HD.out hB)
  have y0 := (hB.cell (p := ⟨B0, 0, none⟩) (World.block_lt_of_cell? _ _ y0)).trans y0
  have y1 := (hB.cell (p := ⟨B0, 1, none⟩) (World.block_lt_of_cell? _ _ y1)).trans y1
  have y2 := (hB.cell (p := ⟨B0, 2, none⟩) (World.block_lt_of_cell? _ _ y2)).trans y2
  have y3 := (hB.cell (p := ⟨B0, 3, none⟩) (World.block_lt_of_cell? _ _ y3)).trans y3
  have y4 := (hB.cell (p := ⟨B0, 4, none⟩) (World.block_lt_of_cell? _ _ y4)).trans y4
  have z0 := (hB.cell (p := ⟨Z, 0, none⟩) (World.block_lt_of_cell? _ _ z0)).trans z0
  have z1 := (hB.cell (p := ⟨Z, 1, none⟩) (World.block_lt_of_cell? _ _ z1)).trans z1
  have z2 := (hB.cell (p := ⟨Z, 2, none⟩) (World.block_lt_of_cell? _ _ z2)).trans z2
  have z3 := (hB.cell (p := ⟨Z, 3, none⟩) (World.block_lt_of_cell? _ _ z3)).trans z3
  have z4 := (hB.cell (p := ⟨Z, 4, none⟩) (World.block_lt_of_cell? _ _ z4)).trans z4
  clear hB hS
  refine hK.out _ _ ⟨HE, y0, y1, y2, y3, y4, z0, z1, z2, z3, z4⟩ (fun HS3 => ?_)
  clear hK K
  refine wpAnyH_ready (rs := [3]) (by kernel_rfl) (by simp) (AllReadyH.cons rfl (fun K hK => ?_) AllReadyH.nil)
  go_simp
  refine (eqjob_same _ _ _ _ _ _ _ _ _ _ _ _ _ l m _ (HS2.out.keep HE.out) HS3J.out).mono ?_
  rintro e w9 ⟨rfl, hB⟩
  have HG := Lib.hid (below_via HE.out hB)
  have y0 := (hB.cell (p := ⟨B0, 0, none⟩) (World.block_lt_of_cell? _ _ y0)).trans y0
  have y1 := (hB.cell (p := ⟨B0, 1, none⟩) (World.block_lt_of_cell? _ _ y1)).trans y1
  have y2 := (hB.cell (p := ⟨B0, 2, none⟩) (World.block_lt_of_cell? _ _ y2)).trans y2
  have y3 := (hB.cell (p := ⟨B0, 3, none⟩) (World.block_lt_of_cell? _ _ y3)).trans y3
  have y4 := (hB.cell (p := ⟨B0, 4, none⟩) (World.block_lt_of_cell? _ _ y4)).trans y4
  have z0 := (hB.cell (p := ⟨Z, 0, none⟩) (World.block_lt_of_cell? _ _ z0)).trans z0
  have z1 := (hB.cell (p := ⟨Z, 1, none⟩) (World.block_lt_of_cell? _ _ z1)).trans z1
  have z2 := (hB.cell (p := ⟨Z, 2, none⟩) (World.block_lt_of_cell? _ _ z2)).trans z2
  have z3 := (hB.cell (p := ⟨Z, 3, none⟩) (World.block_lt_of_cell? _ _ z3)).trans z3
  have z4 := (hB.cell (p := ⟨Z, 4, none⟩) (World.block_lt_of_cell? _ _ z4)).trans z4
  clear hB
  refine hK.out _ _ ⟨HG, y0, y1, y2, y3, y4, z0, z1, z2, z3, z4⟩ (fun HS3 => ?_)
  clear hK K HS3J HE HD
  refine held_take (i := 4) (d := 49) (v := .bool false) rfl rfl (by kernel_rfl) (by kernel_rfl) (by kernel_rfl) (by kernel_rfl) (fun wx hS => by go_simp) HS3 ?_
  refine wpAnyH_done (by kernel_rfl) (NoPanic.normal ?_) _
  have HX := Lib.hid (HX.out.keep HG.out)
  have HB := Lib.hid (below_via HB.out HG.out)
  have HBX := Lib.hid (below_via HBX.out HG.out)
  have HRI := Lib.hid (HRI.out.keep HG.out)
  have HRS := Lib.hid (HRS.out.keep HG.out)
  have HS2 := Lib.hid (HS2.out.keep HG.out)
  have HY := Lib.hid (HY.out.keep HG.out)
  have H1 := Lib.hid (H1.out.keep HG.out)
  have HZS := Lib.hid (Nat.le_trans HZS.out HG.out.size)
  clear HG
  go_wp2_with fail
  refine (markjob_any B2 C2 w3.heap.size pl sl pl sl e1 o1 n1 curI curS _ HRI.out HSI.out HRS.out HSS.out hB2 hBC hpl hsl HBX.out.size).mono ?_
  rintro e w10 ⟨k, rfl, hB, ho⟩
  have hk0 : ¬ (k : Int) < 0 := by omega
  have HX := Lib.hid (row_lo HX.out hB HBL.out)
  have H1 := Lib.hid (H1.out.oth (fun X hX hb => ho X hX (by have := HCZ.out; have := HBZ.out; omega) (by have := HCZ.out; have := HBZ.out; omega)))
  have HB := Lib.hid (below_lo HB.out hB HWX.out HB.out.size)
  have HBX := Lib.hid (below_lo HBX.out hB (Nat.le_refl _) HBX.out.size)
  have HZS := Lib.hid (Nat.le_trans HZS.out hB.size)
  clear y0 y1 y2 y3 y4
  clear z0 z1 z2 z3 z4
  clear hB ho HRI HRS HS2 HY HSI HSS
  go_wp2_with fail
  refine (eqss_same _ _ _ _ _ _ _ (HRL.out _ _ _ H1.out) (H0.out.keep HBX.out)).mono ?_
  rintro e w11 ⟨rfl, hB⟩
  have HX := Lib.hid (HX.out.keep hB)
  have HB := Lib.hid (below_via HB.out hB)
  have HBX := Lib.hid (below_via HBX.out hB)
  have H1 := Lib.hid (H1.out.keep hB)
  have HZS := Lib.hid (Nat.le_trans HZS.out hB.size)
  clear hB
  go_wp2_with fail
  refine (markss_run q1 n cp1 BZ LS _ HNN.out H1.out HF.out HZS.out).mono ?_
  rintro e w12 ⟨he, hB, hh⟩
  rw [HMM.out] at he
  subst he
  have HX := Lib.hid (row_lo HX.out hB (by have := HBL.out; have := HZ3.out; have := HBZ.out; omega))
  have HB := Lib.hid (below_lo HB.out hB (by have := HWX.out; have := HZ3.out; have := HBZ.out; omega) HB.out.size)
  have HBX := Lib.hid (below_lo HBX.out hB (by have := HZ3.out; have := HBZ.out; omega) HBX.out.size)
  have HH := Lib.hid hh
  clear hB hh H1 HZS
  go_wp2_with fail
  refine (heldss_run q1 n cp1 LS _ HNN.out HH.out HF.out).mono ?_
  rintro e w13 ⟨he, hB⟩
  rw [HMM.out] at he
  subst he
  have HX := Lib.hid (HX.out.keep hB)
  have HB := Lib.hid (below_via HB.out hB)
  have HBX := Lib.hid (below_via HBX.out hB)
  have HH := Lib.hid (HH.out.keep hB)
  clear hB
  have y0 := HX.out.cell (j := 0) (by simp)
  have y1 := HX.out.cell (j := 1) (by simp)
  have y2 := HX.out.cell (j := 2) (by simp)
  have y3 := HX.out.cell (j := 3) (by simp)
  have y4 := HX.out.cell (j := 4) (by simp)
  simp at y0 y1 y2 y3 y4
  go_wp2_with fail
  refine (tojob_any _ _ _ _ _ _ _ _ _ l m _ (HS.out.keep HB.out) hpl hsl).mono ?_
  rintro e w14 ⟨B4, C4, rfl, hS, hB, _, _⟩
  have HS4 := Lib.hid hS
  have HX := Lib.hid (HX.out.keep hB)
  have HB := Lib.hid (below_via HB.out hB)
  have HBX := Lib.hid (below_via HBX.out hB)
  have HH := Lib.hid (HH.out.keep hB)
  clear hB hS
  clear y0 y1 y2 y3 y4
  go_wp2_with fail
  refine (HIMP.out _ _ _ _ _ HS4.out (HT.out.keep HB.out)).mono ?_
  rintro e w15 ⟨q2, cp2, rfl, hB, hr⟩
  have H2 := Lib.hid (HRL.out _ _ _ hr)
  have HX := Lib.hid (HX.out.keep hB)
  have HB := Lib.hid (below_via HB.out hB)
  have HBX := Lib.hid (below_via HBX.out hB)
  have HH := Lib.hid (HH.out.keep hB)
  clear hB hr HS4
  go_wp2_with fail
  refine (eqss_same _ _ _ _ _ _ _ H2.out (H0.out.keep HBX.out)).mono ?_
  rintro e w16 ⟨rfl, hB⟩
  have HX := Lib.hid (HX.out.keep hB)
  have HB := Lib.hid (below_via HB.out hB)
  have HBX := Lib.hid (below_via HBX.out hB)
  have HH := Lib.hid (HH.out.keep hB)
  clear hB
  go_wp2_with fail
  refine (heldss_run q1 n cp1 LS _ HNN.out HH.out HF.out).mono ?_
  rintro e w17 ⟨he, hB⟩
  rw [HMM.out] at he
  subst he
  have HB := Lib.hid (below_via HB.out hB)
  clear hB
  go_wp2
  go_ret
  exact ⟨rfl, HB.out⟩
end Go.Proofs.YtdphganbnlmgcaaGreatDoor
