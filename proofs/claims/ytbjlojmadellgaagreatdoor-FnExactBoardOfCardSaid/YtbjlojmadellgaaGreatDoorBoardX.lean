
/- The exact law on BoardOf, walked: both sides answer alike; nothing that came in is written into; the answer owns its memory. -/
import Derived.Test.YtbjlojmadellgaaGreatDoorBoardS
import Derived.Test.YtbjlojmadellgaaGreatDoorDoneX
import Derived.Test.YtbjlojmadellgaaGreatDoorMg2
import Derived.Test.YtbjlojmadellgaaGreatDoorStateMark
import Derived.Test.YtbjlojmadellgaaGreatDoorMg1
import Derived.Test.YtbjlojmadellgaaGreatDoorMg39
import Derived.Test.YtbjlojmadellgaaGreatDoorMg23
import Derived.Test.YtbjlojmadellgaaGreatDoorJobInN
import Derived.Test.YtbjlojmadellgaaGreatDoorMg21
namespace Go.Proofs.YtbjlojmadellgaaGreatDoor
open Go.ChangeShapes Go.WideShapes Go.ChangeAt Go.RowKit
set_option linter.unusedVariables false
set_option maxRecDepth 100000

/-- The end of BoardOf, as a slice that holds the board. -/
def MadeBk (l : Objs) (now : Int) (N : Nat) (w : World) (e : Ending) (w' : World) : Prop :=
  ∃ q cp, e = .returned (.slice q N cp) ∧ StateK w.heap.size w' q (boardL l now (List.range N)) ∧ Below w.heap.size w w'
theorem bk_of {l : Objs} {now : Int} {N : Nat} {w w' : World} {e : Ending} (h : MadeBd l now N w e w') : MadeBk l now N w e w' := by
  obtain ⟨v, rfl, ho, hB⟩ := h
  obtain ⟨q, cp, rfl⟩ := own_form ho
  have hl : (boardL l now (List.range N)).length = N := by simp [boardL]
  exact ⟨q, cp, rfl, bstk_of_own (by rw [hl]; exact ho), hB⟩

theorem row_oth {B : Nat} {T : TypeId} {cur : Array Value} {a b : World} (h : Row a B T cur) (e : b.heap[B]? = a.heap[B]?) : Row b B T cur := e.trans h
theorem below_lo {n lo : Nat} {a b c : World} (h : Below n a b) (k : Below lo b c) (hn : n ≤ lo) (hs : n ≤ b.heap.size) : Below n a c :=
  ⟨k.os.trans h.os, k.tape.trans h.tape, k.output.trans h.output, Nat.le_trans h.size k.size, fun i hi => (k.block i (Nat.lt_of_lt_of_le hi hn)).trans (h.block i hi)⟩
theorem bstk_oth {base : Nat} {w w1 : World} {q : Option Addr} {W : States} (h : StateK base w q W) (ho : 0 < W.length → ∀ g, q = some ⟨g, 0, none⟩ → g < w.heap.size → w1.heap[g]? = w.heap[g]?) : StateK base w1 q W := by
  rcases h with h0 | ⟨g', cur, rfl, hb, hr, h1, h2⟩
  · exact .inl h0
  · by_cases h0 : W.length = 0
    · exact .inl h0
    · exact .inr ⟨g', cur, rfl, hb, row_oth hr (ho (by omega) g' rfl hr.lt), h1, h2⟩

set_option maxHeartbeats 8000000 in
theorem fnExactBoardOf_walk (p s : Option Addr) (pl pc sl sc : Nat) (e1 : Bool) (o1 n1 : Int) (li : Instrs) (ms : Strs) (a g : Option Addr) (la ca lg cg : Nat) (l : Objs) (m : Gones) (now : Int) (w : World) (hj : JobAt w p pl li s sl ms) (hs : StoAt w a la l g lg m) (hT : TabsRP w) :
    Calls Tryz.prog 4 #[.agg #[.slice p pl pc, .bool e1, .int .i64 o1, .int .i64 n1, .slice s sl sc], .agg #[.slice a la ca, .slice g lg cg], .int .i64 now] w fun e w' => e = .returned (.bool true) ∧ Below w.heap.size w w' := by
  obtain ⟨B0, hB0⟩ : ∃ B, w.heap.size = B := ⟨_, rfl⟩
  obtain ⟨W0, hW0⟩ : ∃ x, (w.alloc (.cells #[.slice p pl pc, .bool e1, .int .i64 o1, .int .i64 n1, .slice s sl sc] 25)).alloc (.cells #[.slice a la ca, .slice g lg cg] 29) = x := ⟨_, rfl⟩
  have HB := Lib.hid (show Below w.heap.size w W0 from by rw [← hW0]; exact below_alloc (below_alloc (Below.refl _ _) _) _)
  have HX := Lib.hid (show Row W0 B0 25 #[.slice p pl pc, .bool e1, .int .i64 o1, .int .i64 n1, .slice s sl sc] from by rw [← hW0, ← hB0]; exact (row_new w _ _).al _)
  have HY := Lib.hid (show Row W0 (B0 + 1) 29 #[.slice a la ca, .slice g lg cg] from by rw [← hW0, ← hB0]; exact row_new1 w _ _ _)
  have HW0 := Lib.hid hW0
  have HJ := Lib.hid hj
  have HS := Lib.hid hs
  have HT := Lib.hid hT
  obtain ⟨N, hN, hN7⟩ := tasksB_nat li o1 n1 ms sl
  have HN := Lib.hid hN
  have HN7 := Lib.hid hN7
  obtain ⟨W, hW⟩ : ∃ x, boardL l now (List.range N) = x := ⟨_, rfl⟩
  have HWD := Lib.hid hW
  have HLN := Lib.hid (show W.length = N by rw [← hW]; simp [boardL])
  have hNm : N ≤ maxLen := by unfold maxLen; omega
  clear hj hs hT hW0 hN hW
  go_enter Tryz.func4, Tryz.ntmps4
  have y0 := HX.out.cell (j := 0) (by simp)
  have y1 := HX.out.cell (j := 1) (by simp)
  have y2 := HX.out.cell (j := 2) (by simp)
  have y3 := HX.out.cell (j := 3) (by simp)
  have y4 := HX.out.cell (j := 4) (by simp)
  simp at y0 y1 y2 y3 y4
  go_wp2_with fail
  rw [HW0.out]
  try rw [hB0]
  clear hB0
  refine (szjob_any _ _ _ _ _ _ _ _ _ li ms _ _ (HJ.out.keep HB.out) (by decide) (by decide)).mono ?_
  rintro e w1 ⟨x, hx0, hx1, rfl, hB, hf⟩
  have HSZ := Lib.hid hf
  have HX := Lib.hid (HX.out.keep hB)
  have HY := Lib.hid (HY.out.keep hB)
  have HB := Lib.hid (below_via HB.out hB)
  clear hB hf
  clear y0 y1 y2 y3 y4
  by_cases hx : x < 0
  · go_wp2
    go_ret
    exact ⟨rfl, HB.out⟩
  obtain ⟨hpl, hsl, hz⟩ := HSZ.out (by omega)
  have HZJ := Lib.hid hz
  clear HSZ hz
  have z0 := HY.out.cell (j := 0) (by simp)
  have z1 := HY.out.cell (j := 1) (by simp)
  simp at z0 z1
  go_wp2_with fail
  refine (szsto_any _ _ _ _ _ _ l m _ _ (HS.out.keep HB.out) (by omega) hx1).mono ?_
  rintro e w2 ⟨y, hy0, hy1, rfl, hB, hf⟩
  have HSZ := Lib.hid hf
  have HX := Lib.hid (HX.out.keep hB)
  have HY := Lib.hid (HY.out.keep hB)
  have HB := Lib.hid (below_via HB.out hB)
  clear hB hf
  clear z0 z1
  by_cases hyn : y < 0
  · go_wp2
    go_ret
    exact ⟨rfl, HB.out⟩
  have hla : la ≤ 1048576 := (HSZ.out (by omega)).1.1
  have hlg : lg ≤ 1048576 := (HSZ.out (by omega)).2.1
  have HZS := Lib.hid (show ∀ i, i < la → (obj2 l i).size ≤ 1048576 from fun i hi => ((HSZ.out (by omega)).1.2 i hi).2)
  clear HSZ
  go_wp2_with fail
  have HALL := Lib.hid (fun w' (hb : Below w2.heap.size w2 w') => (show (fun w' => Hid (Below w2.heap.size w2 w') ∧ w'.cell? ⟨B0, 0, none⟩ = some (.slice p pl pc) ∧ w'.cell? ⟨B0, 1, none⟩ = some (.bool e1) ∧ w'.cell? ⟨B0, 2, none⟩ = some (.int .i64 o1) ∧ w'.cell? ⟨B0, 3, none⟩ = some (.int .i64 n1) ∧ w'.cell? ⟨B0, 4, none⟩ = some (.slice s sl sc) ∧ w'.cell? ⟨(B0 + 1), 0, none⟩ = some (.slice a la ca) ∧ w'.cell? ⟨(B0 + 1), 1, none⟩ = some (.slice g lg cg)) w' from by
    have hrHX := HX.out.keep hb
    have k0 := hrHX.cell (j := 0) (by simp)
    have k1 := hrHX.cell (j := 1) (by simp)
    have k2 := hrHX.cell (j := 2) (by simp)
    have k3 := hrHX.cell (j := 3) (by simp)
    have k4 := hrHX.cell (j := 4) (by simp)
    have hrHY := HY.out.keep hb
    have k5 := hrHY.cell (j := 0) (by simp)
    have k6 := hrHY.cell (j := 1) (by simp)
    simp at k0 k1 k2 k3 k4 k5 k6
    exact ⟨Lib.hid hb, k0, k1, k2, k3, k4, k5, k6⟩))
  refine wp_region_noPanic ?_
  obtain ⟨v0, hv0⟩ : ∃ x, w2.drew = x := ⟨_, rfl⟩
  have HD := Lib.hid (show Below w2.heap.size w2 v0 from by rw [← hv0]; exact below_drewN (Below.refl _ _) 1)
  refine wp_region_held_drew (S := (fun w' => Hid (Below w2.heap.size w2 w') ∧ w'.cell? ⟨B0, 0, none⟩ = some (.slice p pl pc) ∧ w'.cell? ⟨B0, 1, none⟩ = some (.bool e1) ∧ w'.cell? ⟨B0, 2, none⟩ = some (.int .i64 o1) ∧ w'.cell? ⟨B0, 3, none⟩ = some (.int .i64 n1) ∧ w'.cell? ⟨B0, 4, none⟩ = some (.slice s sl sc) ∧ w'.cell? ⟨(B0 + 1), 0, none⟩ = some (.slice a la ca) ∧ w'.cell? ⟨(B0 + 1), 1, none⟩ = some (.slice g lg cg))) (by kernel_rfl) (by rw [hv0]; exact HALL.out _ HD.out) (fun HS3 => ?_)
  rw [hv0] at HS3 ⊢
  clear hv0
  refine held_take (i := 0) (d := 26) (v := .agg #[.slice p pl pc, .bool e1, .int .i64 o1, .int .i64 n1, .slice s sl sc]) rfl rfl (by kernel_rfl) (by kernel_rfl) (by kernel_rfl) (by kernel_rfl) (fun wx hS => by obtain ⟨_, h0, h1, h2, h3, h4, h5, h6⟩ := hS; go_simp) HS3 ?_
  refine held_take (i := 2) (d := 28) (v := .agg #[.slice a la ca, .slice g lg cg]) rfl rfl (by kernel_rfl) (by kernel_rfl) (by kernel_rfl) (by kernel_rfl) (fun wx hS => by obtain ⟨_, h0, h1, h2, h3, h4, h5, h6⟩ := hS; go_simp) HS3 ?_
  refine held_take (i := 4) (d := 30) (v := .int .i64 now) rfl rfl (by kernel_rfl) (by kernel_rfl) (by kernel_rfl) (by kernel_rfl) (fun wx hS => by go_simp) HS3 ?_
  refine wpAnyH_ready (rs := [1]) (by kernel_rfl) (by simp) (AllReadyH.cons rfl (fun K hK => ?_) AllReadyH.nil)
  go_simp
  refine (tojob_any _ _ _ _ _ _ _ _ _ li ms _ (HJ.out.keep (below_via HB.out HD.out)) hpl hsl).mono ?_
  rintro e w3 ⟨B1, C1, rfl, hJ, hB, _, _⟩
  have HJ1 := Lib.hid hJ
  have HE := Lib.hid (below_via HD.out hB)
  clear hB hJ
  refine hK.out _ _ (HALL.out _ HE.out) (fun HS3 => ?_)
  clear hK K
  refine wpAnyH_ready (rs := [3]) (by kernel_rfl) (by simp) (AllReadyH.cons rfl (fun K hK => ?_) AllReadyH.nil)
  go_simp
  refine (tosto_any _ _ _ _ _ _ l m _ (HS.out.keep (below_via HB.out HE.out)) hla hlg).mono ?_
  rintro e w4 ⟨D1, E1, rfl, hS4, hB, _, _, _, _⟩
  have HS4 := Lib.hid hS4
  have HJ1 := Lib.hid (HJ1.out.keep hB)
  have HG := Lib.hid (below_via HE.out hB)
  clear hB hS4
  refine hK.out _ _ (HALL.out _ HG.out) (fun HS3 => ?_)
  clear hK K
  refine wpAnyH_ready (rs := [5]) (by kernel_rfl) (by simp) (AllReadyH.cons rfl (fun K hK => ?_) AllReadyH.nil)
  go_simp
  refine ((sboardof_any _ _ _ _ _ _ _ _ _ li ms _ _ _ _ _ _ l m N _ HJ1.out HZJ.out HS4.out HZS.out HN.out HN7.out now).mono fun _ _ => bk_of).mono ?_
  unfold MadeBk
  rw [HWD.out]
  rintro e w5 ⟨q0, cp0, rfl, h0, hB⟩
  have H0 := Lib.hid h0
  have HLT0 := Lib.hid (show 0 < N → ∀ g, q0 = some ⟨g, 0, none⟩ → g < w5.heap.size from fun hp g hg => (bstk_lt h0 (by rw [HLN.out]; exact hp) g hg).2)
  clear h0
  have HH := Lib.hid (below_via HG.out hB)
  clear hB
  refine hK.out _ _ (HALL.out _ HH.out) (fun HS3 => ?_)
  clear hK K
  refine held_take (i := 6) (d := 8) (v := .slice q0 N cp0) rfl rfl (by kernel_rfl) (by kernel_rfl) (by kernel_rfl) (by kernel_rfl) (fun wx hS => by go_simp) HS3 ?_
  refine wpAnyH_done (by kernel_rfl) (NoPanic.normal ?_) _
  clear HS3 HALL HD HE HG HJ1 HS4
  have HX := Lib.hid (HX.out.keep HH.out)
  have HY := Lib.hid (HY.out.keep HH.out)
  have HB := Lib.hid (below_via HB.out HH.out)
  clear HH
  have y0 := HX.out.cell (j := 0) (by simp)
  have y1 := HX.out.cell (j := 1) (by simp)
  have y2 := HX.out.cell (j := 2) (by simp)
  have y3 := HX.out.cell (j := 3) (by simp)
  have y4 := HX.out.cell (j := 4) (by simp)
  simp at y0 y1 y2 y3 y4
  go_wp2_with fail
  refine (tojobR_any _ _ _ _ _ _ _ _ _ li ms _ (HJ.out.keep HB.out) hpl hsl).mono ?_
  rintro e w6 ⟨B2, C2, curI, curS, rfl, hJ, hB, hB2, hBC, hrI, hsI, hrS, hsS⟩
  have HWL := Lib.hid HB.out.size
  have HJ2 := Lib.hid hJ
  have HRI := Lib.hid hrI
  have HRS := Lib.hid hrS
  have HSI := Lib.hid hsI
  have HSS := Lib.hid hsS
  have HB2 := Lib.hid hB2
  have HBCJ := Lib.hid hBC
  have HBL := Lib.hid HY.out.lt
  have HW5 := Lib.hid hB.size
  have HX := Lib.hid (HX.out.keep hB)
  have HY := Lib.hid (HY.out.keep hB)
  have HB := Lib.hid (below_via HB.out hB)
  have H0 := Lib.hid (bstk_keep H0.out hB)
  clear hB hJ hB2 hBC hrI hrS hsI hsS
  clear y0 y1 y2 y3 y4
  obtain ⟨Z, hZ⟩ : ∃ Z, w6.heap.size = Z := ⟨_, rfl⟩
  have HCZ := Lib.hid (show C2 < Z from by rw [← hZ]; exact HRS.out.lt)
  have HW5 := Lib.hid (show w5.heap.size ≤ Z from by rw [← hZ]; exact HW5.out)
  obtain ⟨w7, hw7⟩ : ∃ x, w6.alloc (.cells #[.slice (some ⟨B2, 0, none⟩) pl pl, .bool e1, .int .i64 o1, .int .i64 n1, .slice (some ⟨C2, 0, none⟩) sl sl] 35) = x := ⟨_, rfl⟩
  have hal : Below w6.heap.size w6 w7 := by rw [← hw7]; exact below_alloc (Below.refl _ _) _
  have HU := Lib.hid (show Row w7 Z 35 #[.slice (some ⟨B2, 0, none⟩) pl pl, .bool e1, .int .i64 o1, .int .i64 n1, .slice (some ⟨C2, 0, none⟩) sl sl] from by rw [← hw7, ← hZ]; exact row_new w6 _ _)
  have HX := Lib.hid (HX.out.keep hal)
  have HY := Lib.hid (HY.out.keep hal)
  have HB := Lib.hid (below_via HB.out hal)
  have H0 := Lib.hid (bstk_keep H0.out hal)
  have HJ2 := Lib.hid (HJ2.out.keep hal)
  have HRI := Lib.hid (HRI.out.keep hal)
  have HRS := Lib.hid (HRS.out.keep hal)
  have HW7 := Lib.hid hw7
  clear hal hw7
  have z0 := HY.out.cell (j := 0) (by simp)
  have z1 := HY.out.cell (j := 1) (by simp)
  simp at z0 z1
  rw [← HW7.out] at z0 z1
  go_wp2_with fail
  rw [HW7.out]
  try rw [hZ]
  clear hZ
  refine (tosto_any _ _ _ _ _ _ l m _ (HS.out.keep HB.out) hla hlg).mono ?_
  rintro e w8 ⟨B3, C3, rfl, hS4, hB, hB3, hBC3, ⟨cB, rB, sB⟩, cC, rC, sC⟩
  have HS5 := Lib.hid hS4
  have HRB := Lib.hid rB
  have HRC := Lib.hid rC
  have HSB := Lib.hid sB
  have HSC := Lib.hid sC
  have HBCS := Lib.hid hBC3
  have HZB := Lib.hid (show Z < B3 from Nat.lt_of_lt_of_le HU.out.lt hB3)
  have HX := Lib.hid (HX.out.keep hB)
  have HY := Lib.hid (HY.out.keep hB)
  have HB := Lib.hid (below_via HB.out hB)
  have H0 := Lib.hid (bstk_keep H0.out hB)
  have HJ2 := Lib.hid (HJ2.out.keep hB)
  have HRI := Lib.hid (HRI.out.keep hB)
  have HRS := Lib.hid (HRS.out.keep hB)
  have HU := Lib.hid (HU.out.keep hB)
  clear hB hS4 hB3 hBC3 rB sB rC sC
  clear z0 z1
  obtain ⟨Q, hQ⟩ : ∃ Z, w8.heap.size = Z := ⟨_, rfl⟩
  have HCQ := Lib.hid (show C3 < Q from by rw [← hQ]; exact HRC.out.lt)
  obtain ⟨w9, hw9⟩ : ∃ x, w8.alloc (.cells #[.slice (some ⟨B3, 0, none⟩) la la, .slice (some ⟨C3, 0, none⟩) lg lg] 40) = x := ⟨_, rfl⟩
  have hal : Below w8.heap.size w8 w9 := by rw [← hw9]; exact below_alloc (Below.refl _ _) _
  have HV := Lib.hid (show Row w9 Q 40 #[.slice (some ⟨B3, 0, none⟩) la la, .slice (some ⟨C3, 0, none⟩) lg lg] from by rw [← hw9, ← hQ]; exact row_new w8 _ _)
  have HX := Lib.hid (HX.out.keep hal)
  have HY := Lib.hid (HY.out.keep hal)
  have HB := Lib.hid (below_via HB.out hal)
  have H0 := Lib.hid (bstk_keep H0.out hal)
  have HJ2 := Lib.hid (HJ2.out.keep hal)
  have HRI := Lib.hid (HRI.out.keep hal)
  have HRS := Lib.hid (HRS.out.keep hal)
  have HU := Lib.hid (HU.out.keep hal)
  have HS5 := Lib.hid (HS5.out.keep hal)
  have HRB := Lib.hid (HRB.out.keep hal)
  have HRC := Lib.hid (HRC.out.keep hal)
  have HW9 := Lib.hid hw9
  clear hal hw9
  have u0 := HU.out.cell (j := 0) (by simp)
  have u1 := HU.out.cell (j := 1) (by simp)
  have u2 := HU.out.cell (j := 2) (by simp)
  have u3 := HU.out.cell (j := 3) (by simp)
  have u4 := HU.out.cell (j := 4) (by simp)
  simp at u0 u1 u2 u3 u4
  rw [← HW9.out] at u0 u1 u2 u3 u4
  go_wp2_with fail
  rw [HW9.out]
  try rw [hQ]
  clear hQ
  refine ((boardof_any _ _ _ _ _ _ _ _ _ li ms _ _ _ _ _ _ l m N _ HJ2.out HZJ.out HS5.out HZS.out (HT.out.keep HB.out) HN.out HN7.out now).mono fun _ _ => bk_of).mono ?_
  unfold MadeBk
  rw [HWD.out]
  rintro e w10 ⟨q1, cp1, rfl, h1, hB⟩
  have H1 := Lib.hid h1
  have HQ9 := Lib.hid (show 0 < N → ∀ g, q1 = some ⟨g, 0, none⟩ → Q < g from fun hp g hg => Nat.lt_of_lt_of_le HV.out.lt (bstk_lt h1 (by rw [HLN.out]; exact hp) g hg).1)
  clear h1
  have HX := Lib.hid (HX.out.keep hB)
  have HY := Lib.hid (HY.out.keep hB)
  have HB := Lib.hid (below_via HB.out hB)
  have H0 := Lib.hid (bstk_keep H0.out hB)
  have HJ2 := Lib.hid (HJ2.out.keep hB)
  have HRI := Lib.hid (HRI.out.keep hB)
  have HRS := Lib.hid (HRS.out.keep hB)
  have HU := Lib.hid (HU.out.keep hB)
  have HS5 := Lib.hid (HS5.out.keep hB)
  have HRB := Lib.hid (HRB.out.keep hB)
  have HRC := Lib.hid (HRC.out.keep hB)
  have HV := Lib.hid (HV.out.keep hB)
  clear hB
  go_wp2_with fail
  refine (eqbsts_same _ _ _ _ _ W _ (bsts_of_k H1.out HLN.out hNm (fun _ _ => trivial)) (bsts_of_k H0.out HLN.out hNm (fun _ _ => trivial))).mono ?_
  rintro e w14 ⟨rfl, hB⟩
  have H1 := Lib.hid (bstk_keep H1.out hB)
  have HX := Lib.hid (HX.out.keep hB)
  have HY := Lib.hid (HY.out.keep hB)
  have HB := Lib.hid (below_via HB.out hB)
  have H0 := Lib.hid (bstk_keep H0.out hB)
  have HJ2 := Lib.hid (HJ2.out.keep hB)
  have HRI := Lib.hid (HRI.out.keep hB)
  have HRS := Lib.hid (HRS.out.keep hB)
  have HU := Lib.hid (HU.out.keep hB)
  have HS5 := Lib.hid (HS5.out.keep hB)
  have HRB := Lib.hid (HRB.out.keep hB)
  have HRC := Lib.hid (HRC.out.keep hB)
  have HV := Lib.hid (HV.out.keep hB)
  clear hB
  clear u0 u1 u2 u3 u4
  go_wp2_with fail
  obtain ⟨wy, rfl⟩ : ∃ x, x = w14 := ⟨_, rfl⟩
  have HALL := Lib.hid (fun w' (hb : Below wy.heap.size wy w') => (show (fun w' => Hid (Below wy.heap.size wy w') ∧ w'.cell? ⟨B0, 0, none⟩ = some (.slice p pl pc) ∧ w'.cell? ⟨B0, 1, none⟩ = some (.bool e1) ∧ w'.cell? ⟨B0, 2, none⟩ = some (.int .i64 o1) ∧ w'.cell? ⟨B0, 3, none⟩ = some (.int .i64 n1) ∧ w'.cell? ⟨B0, 4, none⟩ = some (.slice s sl sc) ∧ w'.cell? ⟨Z, 0, none⟩ = some (.slice (some ⟨B2, 0, none⟩) pl pl) ∧ w'.cell? ⟨Z, 1, none⟩ = some (.bool e1) ∧ w'.cell? ⟨Z, 2, none⟩ = some (.int .i64 o1) ∧ w'.cell? ⟨Z, 3, none⟩ = some (.int .i64 n1) ∧ w'.cell? ⟨Z, 4, none⟩ = some (.slice (some ⟨C2, 0, none⟩) sl sl)) w' from by
    have hrHX := HX.out.keep hb
    have k0 := hrHX.cell (j := 0) (by simp)
    have k1 := hrHX.cell (j := 1) (by simp)
    have k2 := hrHX.cell (j := 2) (by simp)
    have k3 := hrHX.cell (j := 3) (by simp)
    have k4 := hrHX.cell (j := 4) (by simp)
    have hrHU := HU.out.keep hb
    have k5 := hrHU.cell (j := 0) (by simp)
    have k6 := hrHU.cell (j := 1) (by simp)
    have k7 := hrHU.cell (j := 2) (by simp)
    have k8 := hrHU.cell (j := 3) (by simp)
    have k9 := hrHU.cell (j := 4) (by simp)
    simp at k0 k1 k2 k3 k4 k5 k6 k7 k8 k9
    exact ⟨Lib.hid hb, k0, k1, k2, k3, k4, k5, k6, k7, k8, k9⟩))
  refine wp_region_noPanic ?_
  obtain ⟨v0, hv0⟩ : ∃ x, wy.drew = x := ⟨_, rfl⟩
  have HD := Lib.hid (show Below wy.heap.size wy v0 from by rw [← hv0]; exact below_drewN (Below.refl _ _) 1)
  refine wp_region_held_drew (S := (fun w' => Hid (Below wy.heap.size wy w') ∧ w'.cell? ⟨B0, 0, none⟩ = some (.slice p pl pc) ∧ w'.cell? ⟨B0, 1, none⟩ = some (.bool e1) ∧ w'.cell? ⟨B0, 2, none⟩ = some (.int .i64 o1) ∧ w'.cell? ⟨B0, 3, none⟩ = some (.int .i64 n1) ∧ w'.cell? ⟨B0, 4, none⟩ = some (.slice s sl sc) ∧ w'.cell? ⟨Z, 0, none⟩ = some (.slice (some ⟨B2, 0, none⟩) pl pl) ∧ w'.cell? ⟨Z, 1, none⟩ = some (.bool e1) ∧ w'.cell? ⟨Z, 2, none⟩ = some (.int .i64 o1) ∧ w'.cell? ⟨Z, 3, none⟩ = some (.int .i64 n1) ∧ w'.cell? ⟨Z, 4, none⟩ = some (.slice (some ⟨C2, 0, none⟩) sl sl))) (by kernel_rfl) (by rw [hv0]; exact HALL.out _ HD.out) (fun HS3 => ?_)
  rw [hv0] at HS3 ⊢
  clear hv0
  refine held_take (i := 0) (d := 44) (v := .agg #[.slice (some ⟨B2, 0, none⟩) pl pl, .bool e1, .int .i64 o1, .int .i64 n1, .slice (some ⟨C2, 0, none⟩) sl sl]) rfl rfl (by kernel_rfl) (by kernel_rfl) (by kernel_rfl) (by kernel_rfl) (fun wx hS => by obtain ⟨_, h0, h1, h2, h3, h4, h5, h6, h7, h8, h9⟩ := hS; go_simp) HS3 ?_
  refine held_take (i := 1) (d := 45) (v := .agg #[.slice p pl pc, .bool e1, .int .i64 o1, .int .i64 n1, .slice s sl sc]) rfl rfl (by kernel_rfl) (by kernel_rfl) (by kernel_rfl) (by kernel_rfl) (fun wx hS => by obtain ⟨_, h0, h1, h2, h3, h4, h5, h6, h7, h8, h9⟩ := hS; go_simp) HS3 ?_
  refine wpAnyH_ready (rs := [2]) (by kernel_rfl) (by simp) (AllReadyH.cons rfl (fun K hK => ?_) AllReadyH.nil)
  go_simp
  refine (tojob_any _ _ _ _ _ _ _ _ _ li ms _ (HJ.out.keep (below_via HB.out HD.out)) hpl hsl).mono ?_
  rintro e w11 ⟨B4, C4, rfl, hJ, hB, _, _⟩
  have HJ4 := Lib.hid hJ
  have HE := Lib.hid (below_via HD.out hB)
  clear hB hJ
  refine hK.out _ _ (HALL.out _ HE.out) (fun HS3 => ?_)
  clear hK K
  refine wpAnyH_ready (rs := [3]) (by kernel_rfl) (by simp) (AllReadyH.cons rfl (fun K hK => ?_) AllReadyH.nil)
  go_simp
  refine (eqjob_same _ _ _ _ _ _ _ _ _ _ _ _ _ li ms _ (HJ2.out.keep HE.out) HJ4.out).mono ?_
  rintro e w12 ⟨rfl, hB⟩
  have HG := Lib.hid (below_via HE.out hB)
  clear hB
  refine hK.out _ _ (HALL.out _ HG.out) (fun HS3 => ?_)
  clear hK K
  refine held_take (i := 4) (d := 48) (v := .bool false) rfl rfl (by kernel_rfl) (by kernel_rfl) (by kernel_rfl) (by kernel_rfl) (fun wx hS => by go_simp) HS3 ?_
  refine wpAnyH_done (by kernel_rfl) (NoPanic.normal ?_) _
  clear HS3 HALL HD HE HJ4
  have HX := Lib.hid (HX.out.keep HG.out)
  have HY := Lib.hid (HY.out.keep HG.out)
  have HB := Lib.hid (below_via HB.out HG.out)
  have H0 := Lib.hid (bstk_keep H0.out HG.out)
  have HJ2 := Lib.hid (HJ2.out.keep HG.out)
  have HRI := Lib.hid (HRI.out.keep HG.out)
  have HRS := Lib.hid (HRS.out.keep HG.out)
  have HU := Lib.hid (HU.out.keep HG.out)
  have HS5 := Lib.hid (HS5.out.keep HG.out)
  have HRB := Lib.hid (HRB.out.keep HG.out)
  have HRC := Lib.hid (HRC.out.keep HG.out)
  have HV := Lib.hid (HV.out.keep HG.out)
  have H1 := Lib.hid (bstk_keep H1.out HG.out)
  clear HG
  go_wp2_with fail
  obtain ⟨wz, rfl⟩ : ∃ x, x = w12 := ⟨_, rfl⟩
  have HALL := Lib.hid (fun w' (hb : Below wz.heap.size wz w') => (show (fun w' => Hid (Below wz.heap.size wz w') ∧ w'.cell? ⟨(B0 + 1), 0, none⟩ = some (.slice a la ca) ∧ w'.cell? ⟨(B0 + 1), 1, none⟩ = some (.slice g lg cg) ∧ w'.cell? ⟨Q, 0, none⟩ = some (.slice (some ⟨B3, 0, none⟩) la la) ∧ w'.cell? ⟨Q, 1, none⟩ = some (.slice (some ⟨C3, 0, none⟩) lg lg)) w' from by
    have hrHY := HY.out.keep hb
    have k0 := hrHY.cell (j := 0) (by simp)
    have k1 := hrHY.cell (j := 1) (by simp)
    have hrHV := HV.out.keep hb
    have k2 := hrHV.cell (j := 0) (by simp)
    have k3 := hrHV.cell (j := 1) (by simp)
    simp at k0 k1 k2 k3
    exact ⟨Lib.hid hb, k0, k1, k2, k3⟩))
  refine wp_region_noPanic ?_
  obtain ⟨v0, hv0⟩ : ∃ x, wz.drew = x := ⟨_, rfl⟩
  have HD := Lib.hid (show Below wz.heap.size wz v0 from by rw [← hv0]; exact below_drewN (Below.refl _ _) 1)
  refine wp_region_held_drew (S := (fun w' => Hid (Below wz.heap.size wz w') ∧ w'.cell? ⟨(B0 + 1), 0, none⟩ = some (.slice a la ca) ∧ w'.cell? ⟨(B0 + 1), 1, none⟩ = some (.slice g lg cg) ∧ w'.cell? ⟨Q, 0, none⟩ = some (.slice (some ⟨B3, 0, none⟩) la la) ∧ w'.cell? ⟨Q, 1, none⟩ = some (.slice (some ⟨C3, 0, none⟩) lg lg))) (by kernel_rfl) (by rw [hv0]; exact HALL.out _ HD.out) (fun HS3 => ?_)
  rw [hv0] at HS3 ⊢
  clear hv0
  refine held_take (i := 0) (d := 49) (v := .agg #[.slice (some ⟨B3, 0, none⟩) la la, .slice (some ⟨C3, 0, none⟩) lg lg]) rfl rfl (by kernel_rfl) (by kernel_rfl) (by kernel_rfl) (by kernel_rfl) (fun wx hS => by obtain ⟨_, h0, h1, h2, h3⟩ := hS; go_simp) HS3 ?_
  refine held_take (i := 1) (d := 50) (v := .agg #[.slice a la ca, .slice g lg cg]) rfl rfl (by kernel_rfl) (by kernel_rfl) (by kernel_rfl) (by kernel_rfl) (fun wx hS => by obtain ⟨_, h0, h1, h2, h3⟩ := hS; go_simp) HS3 ?_
  refine wpAnyH_ready (rs := [2]) (by kernel_rfl) (by simp) (AllReadyH.cons rfl (fun K hK => ?_) AllReadyH.nil)
  go_simp
  refine (tosto_any _ _ _ _ _ _ l m _ (HS.out.keep (below_via HB.out HD.out)) hla hlg).mono ?_
  rintro e w11 ⟨B4, C4, rfl, hS6, hB, _, _, _, _⟩
  have HS6 := Lib.hid hS6
  have HE := Lib.hid (below_via HD.out hB)
  clear hB hS6
  refine hK.out _ _ (HALL.out _ HE.out) (fun HS3 => ?_)
  clear hK K
  refine wpAnyH_ready (rs := [3]) (by kernel_rfl) (by simp) (AllReadyH.cons rfl (fun K hK => ?_) AllReadyH.nil)
  go_simp
  refine (eqsto_same _ _ _ _ _ _ _ _ _ _ l m _ (HS5.out.keep HE.out) HS6.out).mono ?_
  rintro e w13 ⟨rfl, hB⟩
  have HG := Lib.hid (below_via HE.out hB)
  clear hB
  refine hK.out _ _ (HALL.out _ HG.out) (fun HS3 => ?_)
  clear hK K
  refine held_take (i := 4) (d := 53) (v := .bool false) rfl rfl (by kernel_rfl) (by kernel_rfl) (by kernel_rfl) (by kernel_rfl) (fun wx hS => by go_simp) HS3 ?_
  refine wpAnyH_done (by kernel_rfl) (NoPanic.normal ?_) _
  clear HS3 HALL HD HE HS6
  have HX := Lib.hid (HX.out.keep HG.out)
  have HY := Lib.hid (HY.out.keep HG.out)
  have HB := Lib.hid (below_via HB.out HG.out)
  have H0 := Lib.hid (bstk_keep H0.out HG.out)
  have HJ2 := Lib.hid (HJ2.out.keep HG.out)
  have HRI := Lib.hid (HRI.out.keep HG.out)
  have HRS := Lib.hid (HRS.out.keep HG.out)
  have HU := Lib.hid (HU.out.keep HG.out)
  have HS5 := Lib.hid (HS5.out.keep HG.out)
  have HRB := Lib.hid (HRB.out.keep HG.out)
  have HRC := Lib.hid (HRC.out.keep HG.out)
  have HV := Lib.hid (HV.out.keep HG.out)
  have H1 := Lib.hid (bstk_keep H1.out HG.out)
  clear HG
  have HIN := Lib.hid (show B0 + 1 < w5.heap.size ∧ w5.heap.size ≤ B2 ∧ B2 < C2 ∧ C2 < Z ∧ Z < B3 ∧ B3 < C3 ∧ C3 < Q from ⟨HBL.out, HB2.out, HBCJ.out, HCZ.out, HZB.out, HBCS.out, HCQ.out⟩)
  obtain ⟨L5, hL5⟩ : ∃ x, w5.heap.size = x := ⟨_, rfl⟩
  rw [hL5] at HIN HWL HLT0
  have HLT0 := Lib.hid (show 0 < N → ∀ g, q0 = some ⟨g, 0, none⟩ → g < L5 from HLT0.out)
  clear hL5 HBL HB2 HCZ HZB HW5
  clear HJ2 HS5
  have u0 := HU.out.cell (j := 0) (by simp)
  have u1 := HU.out.cell (j := 1) (by simp)
  have u2 := HU.out.cell (j := 2) (by simp)
  have u3 := HU.out.cell (j := 3) (by simp)
  have u4 := HU.out.cell (j := 4) (by simp)
  simp at u0 u1 u2 u3 u4
  go_wp2_with fail
  have HW6 := Lib.hid (show L5 ≤ w13.heap.size from by have := HIN.out; have := HRI.out.lt; omega)
  refine (markjobb_any B2 C2 L5 pl sl pl sl e1 o1 n1 curI curS _ HRI.out HSI.out HRS.out HSS.out HIN.out.2.1 HBCJ.out hpl hsl HW6.out).mono ?_
  rintro e w20 ⟨k1, rfl, hk1, hk2, hB, ho⟩
  have HX := Lib.hid (row_oth HX.out (ho _ HX.out.lt (by have := HIN.out; omega) (by have := HIN.out; omega)))
  have HY := Lib.hid (row_oth HY.out (ho _ HY.out.lt (by have := HIN.out; omega) (by have := HIN.out; omega)))
  have HV := Lib.hid (row_oth HV.out (ho _ HV.out.lt (by have := HIN.out; omega) (by have := HIN.out; omega)))
  have HRB := Lib.hid (row_oth HRB.out (ho _ HRB.out.lt (by have := HIN.out; omega) (by have := HIN.out; omega)))
  have HRC := Lib.hid (row_oth HRC.out (ho _ HRC.out.lt (by have := HIN.out; omega) (by have := HIN.out; omega)))
  have H0 := Lib.hid (bstk_oth H0.out (fun hp g hg hl => ho g hl (by have := HIN.out; have := HLT0.out (by rw [← HLN.out]; exact hp) g hg; omega) (by have := HIN.out; have := HLT0.out (by rw [← HLN.out]; exact hp) g hg; omega)))
  have H1 := Lib.hid (bstk_oth H1.out (fun hp g hg hl => ho g hl (by have := HIN.out; have := HQ9.out (by rw [← HLN.out]; exact hp) g hg; omega) (by have := HIN.out; have := HQ9.out (by rw [← HLN.out]; exact hp) g hg; omega)))
  have HB := Lib.hid (below_lo HB.out hB HWL.out HB.out.size)
  clear hB ho HRI HRS HSI HSS HU HBCJ
  clear u0 u1 u2 u3 u4
  have v0 := HV.out.cell (j := 0) (by simp)
  have v1 := HV.out.cell (j := 1) (by simp)
  simp at v0 v1
  go_wp2_with fail
  refine (markstok_any B3 C3 la lg k1 cB cC _ HRB.out HRC.out HSB.out HSC.out HBCS.out hla hlg hk1 (by omega)).mono ?_
  rintro e w21 ⟨k2, rfl, hb⟩
  have HX := Lib.hid (hb.row HX.out (.inl (by have := HIN.out; omega)))
  have HY := Lib.hid (hb.row HY.out (.inl (by have := HIN.out; omega)))
  have H0 := Lib.hid (bstk_oth H0.out (fun hp g hg hl => hb.block g hl (.inl (by have := HIN.out; have := HLT0.out (by rw [← HLN.out]; exact hp) g hg; omega))))
  have H1 := Lib.hid (bstk_oth H1.out (fun hp g hg hl => hb.block g hl (.inr (by have := HIN.out; have := HQ9.out (by rw [← HLN.out]; exact hp) g hg; omega))))
  have HB := Lib.hid (hb.below HB.out (by have := HWL.out; have := HIN.out; omega))
  clear hb HRB HRC HSB HSC HBCS HV
  clear v0 v1 hk1 hk2
  have hk0 : ¬ (k2 : Int) < 0 := by omega
  go_wp2_with fail
  refine (eqbsts_same _ _ _ _ _ W _ (bsts_of_k H1.out HLN.out hNm (fun _ _ => trivial)) (bsts_of_k H0.out HLN.out hNm (fun _ _ => trivial))).mono ?_
  rintro e w22 ⟨rfl, hB⟩
  have HX := Lib.hid (HX.out.keep hB)
  have HY := Lib.hid (HY.out.keep hB)
  have HB := Lib.hid (below_via HB.out hB)
  have H0 := Lib.hid (bstk_keep H0.out hB)
  have H1 := Lib.hid (bstk_keep H1.out hB)
  clear hB
  go_wp2_with fail
  clear HW0 HW7 HW9
  have hN40 : 1 + 3 * N ≤ 1099511627776 := by have := HN7.out; omega
  by_cases hn0 : N = 0
  · subst hn0
    refine (markbsts_none q1 cp1 1 _).mono ?_
    rintro e wb ⟨rfl, rfl⟩
    go_wp2_with fail
    refine (heldbsts_none q1 cp1 1 _).mono ?_
    rintro e wb ⟨rfl, rfl⟩
    have y0 := HX.out.cell (j := 0) (by simp)
    have y1 := HX.out.cell (j := 1) (by simp)
    have y2 := HX.out.cell (j := 2) (by simp)
    have y3 := HX.out.cell (j := 3) (by simp)
    have y4 := HX.out.cell (j := 4) (by simp)
    simp at y0 y1 y2 y3 y4
    have z0 := HY.out.cell (j := 0) (by simp)
    have z1 := HY.out.cell (j := 1) (by simp)
    simp at z0 z1
    go_wp2_with fail
    clear y0 y1 y2 y3 y4 z0 z1
    obtain ⟨aw, rfl⟩ : ∃ x, x = w22 := ⟨_, rfl⟩
    have HALL := Lib.hid (fun w' (hb : Below aw.heap.size aw w') => (show (fun w' => Hid (Below aw.heap.size aw w') ∧ w'.cell? ⟨B0, 0, none⟩ = some (.slice p pl pc) ∧ w'.cell? ⟨B0, 1, none⟩ = some (.bool e1) ∧ w'.cell? ⟨B0, 2, none⟩ = some (.int .i64 o1) ∧ w'.cell? ⟨B0, 3, none⟩ = some (.int .i64 n1) ∧ w'.cell? ⟨B0, 4, none⟩ = some (.slice s sl sc) ∧ w'.cell? ⟨(B0 + 1), 0, none⟩ = some (.slice a la ca) ∧ w'.cell? ⟨(B0 + 1), 1, none⟩ = some (.slice g lg cg)) w' from by
      have hrHX := HX.out.keep hb
      have k0 := hrHX.cell (j := 0) (by simp)
      have k1 := hrHX.cell (j := 1) (by simp)
      have k2 := hrHX.cell (j := 2) (by simp)
      have k3 := hrHX.cell (j := 3) (by simp)
      have k4 := hrHX.cell (j := 4) (by simp)
      have hrHY := HY.out.keep hb
      have k5 := hrHY.cell (j := 0) (by simp)
      have k6 := hrHY.cell (j := 1) (by simp)
      simp at k0 k1 k2 k3 k4 k5 k6
      exact ⟨Lib.hid hb, k0, k1, k2, k3, k4, k5, k6⟩))
    refine wp_region_noPanic ?_
    obtain ⟨v0, hv0⟩ : ∃ x, aw.drew = x := ⟨_, rfl⟩
    have HD := Lib.hid (show Below aw.heap.size aw v0 from by rw [← hv0]; exact below_drewN (Below.refl _ _) 1)
    refine wp_region_held_drew (S := (fun w' => Hid (Below aw.heap.size aw w') ∧ w'.cell? ⟨B0, 0, none⟩ = some (.slice p pl pc) ∧ w'.cell? ⟨B0, 1, none⟩ = some (.bool e1) ∧ w'.cell? ⟨B0, 2, none⟩ = some (.int .i64 o1) ∧ w'.cell? ⟨B0, 3, none⟩ = some (.int .i64 n1) ∧ w'.cell? ⟨B0, 4, none⟩ = some (.slice s sl sc) ∧ w'.cell? ⟨(B0 + 1), 0, none⟩ = some (.slice a la ca) ∧ w'.cell? ⟨(B0 + 1), 1, none⟩ = some (.slice g lg cg))) (by kernel_rfl) (by rw [hv0]; exact HALL.out _ HD.out) (fun HS3 => ?_)
    rw [hv0] at HS3 ⊢
    clear hv0
    refine held_take (i := 0) (d := 79) (v := .agg #[.slice p pl pc, .bool e1, .int .i64 o1, .int .i64 n1, .slice s sl sc]) rfl rfl (by kernel_rfl) (by kernel_rfl) (by kernel_rfl) (by kernel_rfl) (fun wx hS => by obtain ⟨_, h0, h1, h2, h3, h4, h5, h6⟩ := hS; go_simp) HS3 ?_
    refine held_take (i := 2) (d := 81) (v := .agg #[.slice a la ca, .slice g lg cg]) rfl rfl (by kernel_rfl) (by kernel_rfl) (by kernel_rfl) (by kernel_rfl) (fun wx hS => by obtain ⟨_, h0, h1, h2, h3, h4, h5, h6⟩ := hS; go_simp) HS3 ?_
    refine held_take (i := 4) (d := 83) (v := .int .i64 now) rfl rfl (by kernel_rfl) (by kernel_rfl) (by kernel_rfl) (by kernel_rfl) (fun wx hS => by go_simp) HS3 ?_
    refine wpAnyH_ready (rs := [1]) (by kernel_rfl) (by simp) (AllReadyH.cons rfl (fun K hK => ?_) AllReadyH.nil)
    go_simp
    refine (tojob_any _ _ _ _ _ _ _ _ _ li ms _ (HJ.out.keep (below_via HB.out HD.out)) hpl hsl).mono ?_
    rintro e a3 ⟨B6, C6, rfl, hJ, hB, _, _⟩
    have HJ6 := Lib.hid hJ
    have HE := Lib.hid (below_via HD.out hB)
    clear hB hJ
    refine hK.out _ _ (HALL.out _ HE.out) (fun HS3 => ?_)
    clear hK K
    refine wpAnyH_ready (rs := [3]) (by kernel_rfl) (by simp) (AllReadyH.cons rfl (fun K hK => ?_) AllReadyH.nil)
    go_simp
    refine (tosto_any _ _ _ _ _ _ l m _ (HS.out.keep (below_via HB.out HE.out)) hla hlg).mono ?_
    rintro e a4 ⟨B7, C7, rfl, hS4, hB, _, _, _, _⟩
    have HS7 := Lib.hid hS4
    have HJ6 := Lib.hid (HJ6.out.keep hB)
    have HG := Lib.hid (below_via HE.out hB)
    clear hB hS4
    refine hK.out _ _ (HALL.out _ HG.out) (fun HS3 => ?_)
    clear hK K
    refine wpAnyH_ready (rs := [5]) (by kernel_rfl) (by simp) (AllReadyH.cons rfl (fun K hK => ?_) AllReadyH.nil)
    go_simp
    refine ((boardof_any _ _ _ _ _ _ _ _ _ li ms _ _ _ _ _ _ l m _ _ HJ6.out HZJ.out HS7.out HZS.out (HT.out.keep (below_via HB.out HG.out)) HN.out HN7.out now).mono fun _ _ => bk_of).mono ?_
    unfold MadeBk
    rw [HWD.out]
    rintro e a5 ⟨q2, cp2, rfl, h2, hB⟩
    have H2 := Lib.hid h2
    clear h2
    have HH := Lib.hid (below_via HG.out hB)
    clear hB
    refine hK.out _ _ (HALL.out _ HH.out) (fun HS3 => ?_)
    clear hK K
    refine held_take (i := 6) (d := 15) (v := .slice q2 0 cp2) rfl rfl (by kernel_rfl) (by kernel_rfl) (by kernel_rfl) (by kernel_rfl) (fun wx hS => by go_simp) HS3 ?_
    refine wpAnyH_done (by kernel_rfl) (NoPanic.normal ?_) _
    clear HS3 HALL HD HE HG HJ6 HS7
    have HX := Lib.hid (HX.out.keep HH.out)
    have HY := Lib.hid (HY.out.keep HH.out)
    have HB := Lib.hid (below_via HB.out HH.out)
    have H0 := Lib.hid (bstk_keep H0.out HH.out)
    clear HH
    go_wp2_with fail
    refine (eqbsts_same _ _ _ _ _ W _ (bsts_of_k H2.out HLN.out hNm (fun _ _ => trivial)) (bsts_of_k H0.out HLN.out hNm (fun _ _ => trivial))).mono ?_
    rintro e a6 ⟨rfl, hB⟩
    have HB := Lib.hid (below_via HB.out hB)
    clear hB
    go_wp2_with fail
    refine (heldbsts_none q1 cp1 1 _).mono ?_
    rintro e wz ⟨rfl, rfl⟩
    go_wp2
    go_ret
    exact ⟨rfl, HB.out⟩
  · have hpos : 0 < N := by omega
    obtain ⟨gb, gc, rfl, hrow, hsz⟩ : ∃ g gc, q1 = some ⟨g, 0, none⟩ ∧ Row w22 g 77 gc ∧ N * 3 ≤ gc.size := by
      rcases H1.out with h0 | ⟨g, gc, hq, _, hr, h1, _⟩
      · rw [HLN.out] at h0; omega
      · exact ⟨g, gc, hq, hr, by rw [← HLN.out]; exact h1⟩
    have hBg : Q < gb := HQ9.out hpos gb rfl
    have HGB := Lib.hid (show L5 < gb ∧ B0 + 1 < gb by have := HIN.out; omega)
    have HNE := Lib.hid (show ∀ g', q0 = some ⟨g', 0, none⟩ → some g' ≠ some gb from fun g' hg' hc => by have := HLT0.out hpos g' hg'; have := HGB.out; simp at hc; omega)
    have HGG := Lib.hid (show w.heap.size ≤ gb by have := HWL.out; have := HGB.out; omega)
    refine (markbsts_any gb N cp1 1 _ _ gc _ hrow rfl hsz (Nat.le_refl 1) hN40).mono ?_
    clear hrow hsz hBg H1
    obtain ⟨mm, hm⟩ : ∃ m, 1 + 3 * N = m := ⟨_, rfl⟩
    rintro e wb ⟨he, hg, gc1, hr1, _, hmk⟩
    rw [hm] at he
    subst he
    have HX := Lib.hid (row_grown2 HX.out hg (by have := HGB.out; omega))
    have HY := Lib.hid (row_grown2 HY.out hg (by have := HGB.out; omega))
    have H0 := Lib.hid (bstk_grown H0.out hg HNE.out)
    have HB := Lib.hid (HB.out.grown hg HB.out.size (fun k hk => by cases hk; exact HGG.out))
    have HRW := Lib.hid hr1
    have HM := Lib.hid hmk
    have HMM := Lib.hid hm
    clear hg hr1 hmk hm
    go_wp2_with fail
    refine (heldbsts_any gb N cp1 1 _ gc1 _ HRW.out HM.out (Nat.le_refl 1) hN40).mono ?_
    rintro e wc ⟨he, hB⟩
    rw [HMM.out] at he
    subst he
    have HX := Lib.hid (HX.out.keep hB)
    have HY := Lib.hid (HY.out.keep hB)
    have HB := Lib.hid (below_via HB.out hB)
    have H0 := Lib.hid (bstk_keep H0.out hB)
    have HRW := Lib.hid (HRW.out.keep hB)
    clear hB
    have y0 := HX.out.cell (j := 0) (by simp)
    have y1 := HX.out.cell (j := 1) (by simp)
    have y2 := HX.out.cell (j := 2) (by simp)
    have y3 := HX.out.cell (j := 3) (by simp)
    have y4 := HX.out.cell (j := 4) (by simp)
    simp at y0 y1 y2 y3 y4
    have z0 := HY.out.cell (j := 0) (by simp)
    have z1 := HY.out.cell (j := 1) (by simp)
    simp at z0 z1
    go_wp2_with fail
    clear y0 y1 y2 y3 y4 z0 z1
    obtain ⟨bw, rfl⟩ : ∃ x, x = wc := ⟨_, rfl⟩
    have HALL := Lib.hid (fun w' (hb : Below bw.heap.size bw w') => (show (fun w' => Hid (Below bw.heap.size bw w') ∧ w'.cell? ⟨B0, 0, none⟩ = some (.slice p pl pc) ∧ w'.cell? ⟨B0, 1, none⟩ = some (.bool e1) ∧ w'.cell? ⟨B0, 2, none⟩ = some (.int .i64 o1) ∧ w'.cell? ⟨B0, 3, none⟩ = some (.int .i64 n1) ∧ w'.cell? ⟨B0, 4, none⟩ = some (.slice s sl sc) ∧ w'.cell? ⟨(B0 + 1), 0, none⟩ = some (.slice a la ca) ∧ w'.cell? ⟨(B0 + 1), 1, none⟩ = some (.slice g lg cg)) w' from by
      have hrHX := HX.out.keep hb
      have k0 := hrHX.cell (j := 0) (by simp)
      have k1 := hrHX.cell (j := 1) (by simp)
      have k2 := hrHX.cell (j := 2) (by simp)
      have k3 := hrHX.cell (j := 3) (by simp)
      have k4 := hrHX.cell (j := 4) (by simp)
      have hrHY := HY.out.keep hb
      have k5 := hrHY.cell (j := 0) (by simp)
      have k6 := hrHY.cell (j := 1) (by simp)
      simp at k0 k1 k2 k3 k4 k5 k6
      exact ⟨Lib.hid hb, k0, k1, k2, k3, k4, k5, k6⟩))
    refine wp_region_noPanic ?_
    obtain ⟨v0, hv0⟩ : ∃ x, bw.drew = x := ⟨_, rfl⟩
    have HD := Lib.hid (show Below bw.heap.size bw v0 from by rw [← hv0]; exact below_drewN (Below.refl _ _) 1)
    refine wp_region_held_drew (S := (fun w' => Hid (Below bw.heap.size bw w') ∧ w'.cell? ⟨B0, 0, none⟩ = some (.slice p pl pc) ∧ w'.cell? ⟨B0, 1, none⟩ = some (.bool e1) ∧ w'.cell? ⟨B0, 2, none⟩ = some (.int .i64 o1) ∧ w'.cell? ⟨B0, 3, none⟩ = some (.int .i64 n1) ∧ w'.cell? ⟨B0, 4, none⟩ = some (.slice s sl sc) ∧ w'.cell? ⟨(B0 + 1), 0, none⟩ = some (.slice a la ca) ∧ w'.cell? ⟨(B0 + 1), 1, none⟩ = some (.slice g lg cg))) (by kernel_rfl) (by rw [hv0]; exact HALL.out _ HD.out) (fun HS3 => ?_)
    rw [hv0] at HS3 ⊢
    clear hv0
    refine held_take (i := 0) (d := 79) (v := .agg #[.slice p pl pc, .bool e1, .int .i64 o1, .int .i64 n1, .slice s sl sc]) rfl rfl (by kernel_rfl) (by kernel_rfl) (by kernel_rfl) (by kernel_rfl) (fun wx hS => by obtain ⟨_, h0, h1, h2, h3, h4, h5, h6⟩ := hS; go_simp) HS3 ?_
    refine held_take (i := 2) (d := 81) (v := .agg #[.slice a la ca, .slice g lg cg]) rfl rfl (by kernel_rfl) (by kernel_rfl) (by kernel_rfl) (by kernel_rfl) (fun wx hS => by obtain ⟨_, h0, h1, h2, h3, h4, h5, h6⟩ := hS; go_simp) HS3 ?_
    refine held_take (i := 4) (d := 83) (v := .int .i64 now) rfl rfl (by kernel_rfl) (by kernel_rfl) (by kernel_rfl) (by kernel_rfl) (fun wx hS => by go_simp) HS3 ?_
    refine wpAnyH_ready (rs := [1]) (by kernel_rfl) (by simp) (AllReadyH.cons rfl (fun K hK => ?_) AllReadyH.nil)
    go_simp
    refine (tojob_any _ _ _ _ _ _ _ _ _ li ms _ (HJ.out.keep (below_via HB.out HD.out)) hpl hsl).mono ?_
    rintro e b3 ⟨B6, C6, rfl, hJ, hB, _, _⟩
    have HJ6 := Lib.hid hJ
    have HE := Lib.hid (below_via HD.out hB)
    clear hB hJ
    refine hK.out _ _ (HALL.out _ HE.out) (fun HS3 => ?_)
    clear hK K
    refine wpAnyH_ready (rs := [3]) (by kernel_rfl) (by simp) (AllReadyH.cons rfl (fun K hK => ?_) AllReadyH.nil)
    go_simp
    refine (tosto_any _ _ _ _ _ _ l m _ (HS.out.keep (below_via HB.out HE.out)) hla hlg).mono ?_
    rintro e b4 ⟨B7, C7, rfl, hS4, hB, _, _, _, _⟩
    have HS7 := Lib.hid hS4
    have HJ6 := Lib.hid (HJ6.out.keep hB)
    have HG := Lib.hid (below_via HE.out hB)
    clear hB hS4
    refine hK.out _ _ (HALL.out _ HG.out) (fun HS3 => ?_)
    clear hK K
    refine wpAnyH_ready (rs := [5]) (by kernel_rfl) (by simp) (AllReadyH.cons rfl (fun K hK => ?_) AllReadyH.nil)
    go_simp
    refine ((boardof_any _ _ _ _ _ _ _ _ _ li ms _ _ _ _ _ _ l m _ _ HJ6.out HZJ.out HS7.out HZS.out (HT.out.keep (below_via HB.out HG.out)) HN.out HN7.out now).mono fun _ _ => bk_of).mono ?_
    unfold MadeBk
    rw [HWD.out]
    rintro e b5 ⟨q2, cp2, rfl, h2, hB⟩
    have H2 := Lib.hid h2
    clear h2
    have HH := Lib.hid (below_via HG.out hB)
    clear hB
    refine hK.out _ _ (HALL.out _ HH.out) (fun HS3 => ?_)
    clear hK K
    refine held_take (i := 6) (d := 15) (v := .slice q2 N cp2) rfl rfl (by kernel_rfl) (by kernel_rfl) (by kernel_rfl) (by kernel_rfl) (fun wx hS => by go_simp) HS3 ?_
    refine wpAnyH_done (by kernel_rfl) (NoPanic.normal ?_) _
    clear HS3 HALL HD HE HG HJ6 HS7
    have HX := Lib.hid (HX.out.keep HH.out)
    have HY := Lib.hid (HY.out.keep HH.out)
    have HB := Lib.hid (below_via HB.out HH.out)
    have H0 := Lib.hid (bstk_keep H0.out HH.out)
    have HRW := Lib.hid (HRW.out.keep HH.out)
    clear HH
    go_wp2_with fail
    refine (eqbsts_same _ _ _ _ _ W _ (bsts_of_k H2.out HLN.out hNm (fun _ _ => trivial)) (bsts_of_k H0.out HLN.out hNm (fun _ _ => trivial))).mono ?_
    rintro e b6 ⟨rfl, hB⟩
    have HB := Lib.hid (below_via HB.out hB)
    have HRW := Lib.hid (HRW.out.keep hB)
    clear hB
    go_wp2_with fail
    refine (heldbsts_any gb N cp1 1 _ gc1 _ HRW.out HM.out (Nat.le_refl 1) hN40).mono ?_
    rintro e wd ⟨he, hB⟩
    rw [HMM.out] at he
    subst he
    have HB := Lib.hid (below_via HB.out hB)
    clear hB
    go_wp2
    go_ret
    exact ⟨rfl, HB.out⟩
end Go.Proofs.YtbjlojmadellgaaGreatDoor
