
/- The laws' copy of a job, told by its rows; the laws' marks in a job. -/
import Derived.Test.YtdphganbnlmgcaaGreatDoorJob
import Derived.Test.YtdphganbnlmgcaaGreatDoorMg11
import Derived.Test.YtdphganbnlmgcaaGreatDoorMg0
import Derived.Test.YtdphganbnlmgcaaGreatDoorMg1
namespace Go.Proofs.YtdphganbnlmgcaaGreatDoor
open Go.ChangeShapes Go.WideShapes Go.ChangeAt Go.RowKit
set_option linter.unusedVariables false
set_option maxRecDepth 100000

/-- The end of the laws' copy of a job. -/
def MadeJobR (pl : Nat) (e1 : Bool) (o1 n1 : Int) (l : Instrs) (sl : Nat) (m : Strs) (w : World) (e : Ending) (w' : World) : Prop :=
  ∃ (B C : Nat) (curI curS : Array Value), e = .returned (.agg #[.slice (some ⟨B, 0, none⟩) pl pl, .bool e1, .int .i64 o1, .int .i64 n1, .slice (some ⟨C, 0, none⟩) sl sl]) ∧ JobAt w' (some ⟨B, 0, none⟩) pl l (some ⟨C, 0, none⟩) sl m ∧ Below w.heap.size w w' ∧ w.heap.size ≤ B ∧ B < C ∧ Row w' B 90 curI ∧ curI.size = pl * 3 ∧ Row w' C 9 curS ∧ curS.size = sl

set_option maxHeartbeats 4000000 in
theorem tojobR_any (p s : Option Addr) (pl pc sl sc : Nat) (e1 : Bool) (o1 n1 : Int) (l : Instrs) (m : Strs) (w : World) (h : JobAt w p pl l s sl m) (hpl : pl ≤ 1048576) (hsl : sl ≤ 1048576) :
    Calls Tryz.prog 6 #[.agg #[.slice p pl pc, .bool e1, .int .i64 o1, .int .i64 n1, .slice s sl sc]] w (MadeJobR pl e1 o1 n1 l sl m w) := by
  obtain ⟨bx, hbx⟩ : ∃ bx : Array Value, #[.slice p pl pc, .bool e1, .int .i64 o1, .int .i64 n1, .slice s sl sc] = bx := ⟨_, rfl⟩
  obtain ⟨z, hz⟩ : ∃ z : Array Value, #[.slice none 0 0, .bool false, .int .i64 0, .int .i64 0, .slice none 0 0] = z := ⟨_, rfl⟩
  obtain ⟨W0, hW0⟩ : ∃ W0, ((w.alloc (.cells bx 25)).alloc (.cells z 32)).alloc (.cells z 32) = W0 := ⟨_, rfl⟩
  have hB0 : Below w.heap.size w W0 := by rw [← hW0]; exact below_alloc (below_alloc (below_alloc (Below.refl w.heap.size w) _) _) _
  have hX0 : Row W0 w.heap.size 25 bx := by rw [← hW0]; exact ((row_new w bx _).al _).al _
  have hR0 : Row W0 (w.heap.size + 1) 32 z := by rw [← hW0]; exact (row_new1 w _ z _).al _
  have hO0 : Row W0 (w.heap.size + 1 + 1) 32 z := by
    have := row_new1 (w.alloc (.cells bx 25)) (.cells z 32) z 32
    rw [← hW0]
    simpa using this
  rw [← hbx] at hX0
  rw [← hz] at hR0 hO0
  rw [← hbx, ← hz] at hW0
  clear hbx hz bx z
  have HB := Lib.hid hB0
  have HX := Lib.hid hX0
  have HR := Lib.hid hR0
  have HO := Lib.hid hO0
  have HS := Lib.hid h
  have HW := Lib.hid hW0
  have HZ := Lib.hid (show w.heap.size + 1 + 1 < W0.heap.size from hO0.lt)
  clear h hB0 hX0 hR0 hO0 hW0
  go_enter Tryz.func6, Tryz.ntmps6
  go_wp2_with fail
  rw [HW.out]
  refine (toinss_any _ _ _ _ _ (HS.out.keep HB.out).i hpl).mono ?_
  rintro e w1 ⟨rfl, hO, hB, cur1, hr1, hs1⟩
  obtain ⟨B, hBe⟩ : ∃ B, W0.heap.size = B := ⟨_, rfl⟩
  rw [hBe] at hO hr1 ⊢
  have HBB := Lib.hid (show w.heap.size + 1 + 1 < B ∧ B < w1.heap.size from ⟨by rw [← hBe]; exact HZ.out, hr1.lt⟩)
  have HRI := Lib.hid hr1
  have HSI := Lib.hid hs1
  have HX := Lib.hid (HX.out.keep hB)
  have HO := Lib.hid (HO.out.keep hB)
  have HR := Lib.hid (HR.out.keep hB)
  have HB := Lib.hid (below_via HB.out hB)
  have HOO := Lib.hid hO
  have c1 := HX.out.cell (j := 1) (by simp)
  have c2 := HX.out.cell (j := 2) (by simp)
  have c3 := HX.out.cell (j := 3) (by simp)
  have c4 := HX.out.cell (j := 4) (by simp)
  have d0 := HO.out.cell (j := 0) (by simp)
  have d1 := HO.out.cell (j := 1) (by simp)
  have d2 := HO.out.cell (j := 2) (by simp)
  have d3 := HO.out.cell (j := 3) (by simp)
  have f0 := HO.out.free 0
  have f1 := HO.out.free 1
  have f2 := HO.out.free 2
  have f3 := HO.out.free 3
  simp at c1 c2 c3 c4 d0 d1 d2 d3
  clear hB hO hBe hr1 hs1
  go_wp2_with fail
  obtain ⟨P, hP⟩ : ∃ P : Value, .slice (some ⟨B, 0, none⟩) pl pl = P := ⟨_, rfl⟩
  have HP := Lib.hid hP
  obtain ⟨O, hOe⟩ : ∃ O, w.heap.size + 1 + 1 = O := ⟨_, rfl⟩
  have HOE := Lib.hid hOe
  rw [hOe] at HO d0 d1 d2 d3 f0 f1 f2 f3
  simp only [hP, hOe]
  have e1' : ∀ b off, (some (⟨B, 0, none⟩ : Addr)) = some ⟨b, off, none⟩ → b ≠ O := fun b off e => by simp only [Option.some.injEq, Addr.mk.injEq] at e; have := HBB.out.1; omega
  have hro : w.heap.size + 1 ≠ O := by omega
  have hbo : w.heap.size ≤ O := by omega
  have HI := Lib.hid ((((HOO.out.put e1' 0 P).put e1' 1 (.bool e1)).put e1' 2 (.int .i64 o1)).put e1' 3 (.int .i64 n1))
  have hbO : B ≠ O := by have := HBB.out.1; omega
  have HRI := Lib.hid ((((HRI.out.put hbO 0 P).put hbO 1 (.bool e1)).put hbO 2 (.int .i64 o1)).put hbO 3 (.int .i64 n1))
  have HR := Lib.hid ((((HR.out.put hro 0 P).put hro 1 (.bool e1)).put hro 2 (.int .i64 o1)).put hro 3 (.int .i64 n1))
  have HO := Lib.hid ((((HO.out.set 0 P).set 1 (.bool e1)).set 2 (.int .i64 o1)).set 3 (.int .i64 n1))
  have HB := Lib.hid ((((HB.out.setCell (p := ⟨O, 0, none⟩) hbo P).setCell (p := ⟨O, 1, none⟩) hbo (.bool e1)).setCell (p := ⟨O, 2, none⟩) hbo (.int .i64 o1)).setCell (p := ⟨O, 3, none⟩) hbo (.int .i64 n1))
  have hsz4 : ((((w1.setCell ⟨O, 0, none⟩ P).setCell ⟨O, 1, none⟩ (.bool e1)).setCell ⟨O, 2, none⟩ (.int .i64 o1)).setCell ⟨O, 3, none⟩ (.int .i64 n1)).heap.size = w1.heap.size := by simp [World.setCell]
  obtain ⟨W4, hW4⟩ : ∃ W4, (((w1.setCell ⟨O, 0, none⟩ P).setCell ⟨O, 1, none⟩ (.bool e1)).setCell ⟨O, 2, none⟩ (.int .i64 o1)).setCell ⟨O, 3, none⟩ (.int .i64 n1) = W4 := ⟨_, rfl⟩
  rw [hW4] at HI HR HO HB HRI hsz4 ⊢
  have HBC := Lib.hid (show B < W4.heap.size by rw [hsz4]; exact HBB.out.2)
  clear hW4 hsz4 c1 c2 c3 c4 d0 d1 d2 d3 f0 f1 f2 f3 HOO
  refine (tostrs_any _ _ _ _ _ (HS.out.keep HB.out).t hsl).mono ?_
  rintro e w2 ⟨rfl, hG, hB, cur2, hr2, hs2⟩
  obtain ⟨C, hCe⟩ : ∃ C, W4.heap.size = C := ⟨_, rfl⟩
  rw [hCe] at hG hr2 HBC ⊢
  have HRS := Lib.hid hr2
  have HSS := Lib.hid hs2
  have HRI := Lib.hid (HRI.out.keep hB)
  have HI := Lib.hid (HI.out.keep hB)
  have HR := Lib.hid (HR.out.keep hB)
  have HO := Lib.hid (HO.out.keep hB)
  have HB := Lib.hid (below_via HB.out hB)
  have HG := Lib.hid hG
  clear hB hG hCe hr2 hs2
  have d0 := HO.out.cell (j := 0) (by simp)
  have d1 := HO.out.cell (j := 1) (by simp)
  have d2 := HO.out.cell (j := 2) (by simp)
  have d3 := HO.out.cell (j := 3) (by simp)
  have d4 := HO.out.cell (j := 4) (by simp)
  have f0 := HO.out.free 0
  have f1 := HO.out.free 1
  have f2 := HO.out.free 2
  have f3 := HO.out.free 3
  have f4 := HO.out.free 4
  have r0 := HR.out.cell (j := 0) (by simp)
  have r1 := HR.out.cell (j := 1) (by simp)
  have r2 := HR.out.cell (j := 2) (by simp)
  have r3 := HR.out.cell (j := 3) (by simp)
  have r4 := HR.out.cell (j := 4) (by simp)
  have s0 := HR.out.free 0
  have s1 := HR.out.free 1
  have s2 := HR.out.free 2
  have s3 := HR.out.free 3
  have s4 := HR.out.free 4
  simp at d0 d1 d2 d3 d4 r0 r1 r2 r3 r4
  obtain rfl := HP.out
  go_wp2_with fail
  have hoe : w.heap.size + 1 + 1 = O := HOE.out
  have hbb := HBB.out.1
  have hbc := HBC.out
  have hb := (((((HR.out.put (show w.heap.size + 1 ≠ O by omega) 4 (.slice (some ⟨C, 0, none⟩) sl sl)).set 0 (.slice (some ⟨B, 0, none⟩) pl pl)).set 1 (.bool e1)).set 2 (.int .i64 o1)).set 3 (.int .i64 n1)).set 4 (.slice (some ⟨C, 0, none⟩) sl sl)
  unfold Row at hb
  have q1 : ∀ b off, (some (⟨B, 0, none⟩ : Addr)) = some ⟨b, off, none⟩ → b ≠ O := fun b off e => by simp only [Option.some.injEq, Addr.mk.injEq] at e; omega
  have q2 : ∀ b off, (some (⟨B, 0, none⟩ : Addr)) = some ⟨b, off, none⟩ → b ≠ w.heap.size + 1 := fun b off e => by simp only [Option.some.injEq, Addr.mk.injEq] at e; omega
  have q3 : ∀ b off, (some (⟨C, 0, none⟩ : Addr)) = some ⟨b, off, none⟩ → b ≠ O := fun b off e => by simp only [Option.some.injEq, Addr.mk.injEq] at e; omega
  have q4 : ∀ b off, (some (⟨C, 0, none⟩ : Addr)) = some ⟨b, off, none⟩ → b ≠ w.heap.size + 1 := fun b off e => by simp only [Option.some.injEq, Addr.mk.injEq] at e; omega
  refine bodyPost_ret (v := .agg #[.slice (some ⟨B, 0, none⟩) pl pl, .bool e1, .int .i64 o1, .int .i64 n1, .slice (some ⟨C, 0, none⟩) sl sl]) (by simp [results, Tryz.results6, go_sem, World.cell?, hb]) rfl ⟨B, C, cur1, cur2, rfl, ⟨?_, ?_⟩, ?_, by omega, hbc, ?_, HSI.out, ?_, HSS.out⟩
  · exact (((((HI.out.put q1 _ _).put q2 _ _).put q2 _ _).put q2 _ _).put q2 _ _).put q2 _ _
  · exact (((((HG.out.put q3 _ _).put q4 _ _).put q4 _ _).put q4 _ _).put q4 _ _).put q4 _ _
  · have k1 : w.heap.size ≤ O := by omega
    have k2 : w.heap.size ≤ w.heap.size + 1 := by omega
    exact (((((HB.out.setCell (p := ⟨O, 4, none⟩) k1 _).setCell (p := ⟨w.heap.size + 1, 0, none⟩) k2 _).setCell (p := ⟨w.heap.size + 1, 1, none⟩) k2 _).setCell (p := ⟨w.heap.size + 1, 2, none⟩) k2 _).setCell (p := ⟨w.heap.size + 1, 3, none⟩) k2 _).setCell (p := ⟨w.heap.size + 1, 4, none⟩) k2 _
  · exact (((((HRI.out.put (show B ≠ O by omega) 4 _).put (show B ≠ w.heap.size + 1 by omega) 0 _).put (show B ≠ w.heap.size + 1 by omega) 1 _).put (show B ≠ w.heap.size + 1 by omega) 2 _).put (show B ≠ w.heap.size + 1 by omega) 3 _).put (show B ≠ w.heap.size + 1 by omega) 4 _
  · exact (((((HRS.out.put (show C ≠ O by omega) 4 _).put (show C ≠ w.heap.size + 1 by omega) 0 _).put (show C ≠ w.heap.size + 1 by omega) 1 _).put (show C ≠ w.heap.size + 1 by omega) 2 _).put (show C ≠ w.heap.size + 1 by omega) 3 _).put (show C ≠ w.heap.size + 1 by omega) 4 _

/-- The end of marking a job: blocks from lo on may have changed, but for those that lie apart. -/
def MarkedJob (B C lo : Nat) (w : World) (e : Ending) (w' : World) : Prop :=
  ∃ k : Nat, e = .returned (.int .i64 (k : Int)) ∧ Below lo w w' ∧ ∀ X, X < w.heap.size → X ≠ B → X ≠ C → w'.heap[X]? = w.heap[X]?
set_option maxHeartbeats 2000000 in
theorem markjob_any (B C lo pl sl pc sc : Nat) (e1 : Bool) (o1 n1 : Int) (curI curS : Array Value) (w : World) (hI : Row w B 90 curI) (hi : curI.size = pl * 3) (hS : Row w C 9 curS) (hs : curS.size = sl) (hB : lo ≤ B) (hBC : B < C) (hpl : pl ≤ 1048576) (hsl : sl ≤ 1048576) (hw : lo ≤ w.heap.size) :
    Calls Tryz.prog 10 #[.agg #[.slice (some ⟨B, 0, none⟩) pl pc, .bool e1, .int .i64 o1, .int .i64 n1, .slice (some ⟨C, 0, none⟩) sl sc], .int .i64 1] w (MarkedJob B C lo w) := by
  have HI := Lib.hid (hI.al (.cells #[.slice (some ⟨B, 0, none⟩) pl pc, .bool e1, .int .i64 o1, .int .i64 n1, .slice (some ⟨C, 0, none⟩) sl sc] 32))
  have HS := Lib.hid (hS.al (.cells #[.slice (some ⟨B, 0, none⟩) pl pc, .bool e1, .int .i64 o1, .int .i64 n1, .slice (some ⟨C, 0, none⟩) sl sc] 32))
  have HX := Lib.hid (row_new w #[.slice (some ⟨B, 0, none⟩) pl pc, .bool e1, .int .i64 o1, .int .i64 n1, .slice (some ⟨C, 0, none⟩) sl sc] 32)
  have hBl := hI.lt
  have hCl := hS.lt
  have HA := Lib.hid (below_alloc (Below.refl w.heap.size w) (.cells #[.slice (some ⟨B, 0, none⟩) pl pc, .bool e1, .int .i64 o1, .int .i64 n1, .slice (some ⟨C, 0, none⟩) sl sc] 32))
  have HLO := Lib.hid (show Below lo w (w.alloc (.cells #[.slice (some ⟨B, 0, none⟩) pl pc, .bool e1, .int .i64 o1, .int .i64 n1, .slice (some ⟨C, 0, none⟩) sl sc] 32)) from ⟨HA.out.os, HA.out.tape, HA.out.output, HA.out.size, fun i hi => HA.out.block i (Nat.lt_of_lt_of_le hi hw)⟩)
  obtain ⟨X, hX⟩ : ∃ X, w.heap.size = X := ⟨_, rfl⟩
  obtain ⟨v, hv⟩ : ∃ v, w.alloc (.cells #[.slice (some ⟨B, 0, none⟩) pl pc, .bool e1, .int .i64 o1, .int .i64 n1, .slice (some ⟨C, 0, none⟩) sl sc] 32) = v := ⟨_, rfl⟩
  rw [hv, hX] at HX
  rw [hv] at HI HS HA HLO
  have hXl := HX.out.lt
  have x0 := HX.out.cell (j := 0) (by simp)
  simp at x0
  clear hI hS
  have HV := Lib.hid hv
  clear hv
  go_enter Tryz.func10, Tryz.ntmps10
  go_wp2_with fail
  rw [HV.out]
  try rw [hX]
  refine (markinss_any B pl pc 1 _ _ curI _ HI.out rfl (by rw [hi]; exact Nat.le_refl _) (Nat.le_refl 1) (by omega)).mono ?_
  rintro e w1 ⟨he, hg, _, _, _⟩
  obtain ⟨m1, hm1⟩ : ∃ m1, 1 + 3 * pl = m1 := ⟨_, rfl⟩
  rw [hm1] at he
  subst he
  have HS1 := Lib.hid (HS.out.grown hg (by simp; omega))
  have HX1 := Lib.hid (HX.out.grown hg (by simp; omega))
  have HG1 := Lib.hid hg
  have x4 := HX1.out.cell (j := 4) (by simp)
  simp at x4
  clear hg x0
  go_wp2_with fail
  refine (markstrs_any C sl sc m1 _ _ curS _ HS1.out rfl (by rw [hs]; exact Nat.le_refl _) (by omega) (by omega)).mono ?_
  rintro e w2 ⟨he, hg, _, _, _⟩
  obtain ⟨m2, hm2⟩ : ∃ m2, m1 + sl = m2 := ⟨_, rfl⟩
  rw [hm2] at he
  subst he
  have HG2 := Lib.hid hg
  clear hg x4
  go_wp2
  go_ret
  refine ⟨m2, rfl, (HLO.out.grown HG1.out (Nat.le_trans hw (by omega)) (fun k hk => by cases hk; exact hB)).grown HG2.out (by have := HG1.out.size; have := HLO.out.size; omega) (fun k hk => by cases hk; omega), fun Y hY h1 h2 => ?_⟩
  rw [HG2.out.block Y (by have := HG1.out.size; omega) (by simpa using h2), HG1.out.block Y (by omega) (by simpa using h1), HA.out.block Y hY]
end Go.Proofs.YtdphganbnlmgcaaGreatDoor
