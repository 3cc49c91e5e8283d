/- Texts put together, as a claim holds at most sixty files. -/
import Derived.Test.YtbjlojmadellgaaGreatDoorMg2
import Derived.Test.YtbjlojmadellgaaGreatDoorMg0
import Derived.Test.YtbjlojmadellgaaGreatDoorMg1
namespace Go.Proofs.YtbjlojmadellgaaGreatDoor
open Go.ChangeShapes Go.WideShapes Go.ChangeAt Go.RowKit
set_option linter.unusedVariables false
set_option maxRecDepth 100000

theorem StrsAt.put {w : World} {a : Option Addr} {len : Nat} {l : Strs} (h : StrsAt w a len l) {X : Nat} (hne : ∀ b off, a = some ⟨b, off, none⟩ → b ≠ X) (j : Nat) (v : Value) : StrsAt (w.setCell ⟨X, j, none⟩ v) a len l := by
  refine ⟨h.length, h.max, h.sizes, ?_⟩
  rcases h.src with h0 | ⟨b, off, ha, hb, hc⟩
  · exact .inl h0
  · have e : ∀ o, (w.setCell ⟨X, j, none⟩ v).cell? ⟨b, o, none⟩ = w.cell? ⟨b, o, none⟩ := fun o => by
      simp only [World.cell?, Below.heap_setCell w ⟨X, j, none⟩ v b (hne b off ha)]
    exact .inr ⟨b, off, ha, by simpa [World.setCell] using hb, fun i hi => by simpa only [e] using hc i hi⟩
theorem sum_part (l : Strs) : ∀ {n i : Nat}, i < n → (strAt l i).size ≤ sumTo l n
  | n + 1, i, h => by
    show _ ≤ sumTo l n + (strAt l n).size
    by_cases h' : i = n
    · subst h'; omega
    · have := sum_part l (show i < n by omega); omega

/-- A job that may be read: its instructions and its splits. -/
structure JobAt (w : World) (p : Option Addr) (pl : Nat) (l : Instrs) (s : Option Addr) (sl : Nat) (m : Strs) : Prop where
  i : InstrsAt w p pl l
  t : StrsAt w s sl m
theorem JobAt.keep {w w1 : World} {p s : Option Addr} {pl sl : Nat} {l : Instrs} {m : Strs} (h : JobAt w p pl l s sl m) (hB : Below w.heap.size w w1) : JobAt w1 p pl l s sl m := ⟨h.i.keep hB, h.t.keep hB⟩
theorem JobAt.put {w : World} {p s : Option Addr} {pl sl : Nat} {l : Instrs} {m : Strs} (h : JobAt w p pl l s sl m) {X : Nat} (h1 : ∀ b off, p = some ⟨b, off, none⟩ → b ≠ X) (h2 : ∀ b off, s = some ⟨b, off, none⟩ → b ≠ X) (j : Nat) (v : Value) : JobAt (w.setCell ⟨X, j, none⟩ v) p pl l s sl m := ⟨h.i.put h1 j v, h.t.put h2 j v⟩

def JobSized (pl : Nat) (l : Instrs) (sl : Nat) (m : Strs) (w : World) (e : Ending) (w' : World) : Prop :=
  ∃ x : Int, -1 ≤ x ∧ x ≤ 1048576 ∧ e = .returned (.int .i64 x) ∧ Below w.heap.size w w' ∧ (0 ≤ x → pl ≤ 1048576 ∧ sl ≤ 1048576 ∧ ∀ i, i < sl → (strAt m i).size ≤ 1048576)

set_option maxHeartbeats 1000000 in
theorem szjob_any (p s : Option Addr) (pl pc sl sc : Nat) (e1 : Bool) (o1 n1 : Int) (l : Instrs) (m : Strs) (left : Int) (w : World) (h : JobAt w p pl l s sl m) (h0 : 0 ≤ left) (h1 : left ≤ 1048576) :
    Calls Tryz.prog 5 #[.agg #[.slice p pl pc, .bool e1, .int .i64 o1, .int .i64 n1, .slice s sl sc], .int .i64 left] w (JobSized pl l sl m w) := by
  have HB := Lib.hid (below_alloc (Below.refl w.heap.size w) (.cells #[.slice p pl pc, .bool e1, .int .i64 o1, .int .i64 n1, .slice s sl sc] 25))
  have HX := Lib.hid (row_new w #[.slice p pl pc, .bool e1, .int .i64 o1, .int .i64 n1, .slice s sl sc] 25)
  have HS := Lib.hid (h.keep HB.out)
  clear h
  go_enter Tryz.func5, Tryz.ntmps5
  go_wp2_with fail
  refine (szinss_any _ _ _ _ _ _ HS.out.i h0 h1).mono ?_
  rintro e w1 ⟨x, hx0, hx1, rfl, hB, hf⟩
  have HF := Lib.hid hf
  have HX := Lib.hid (HX.out.keep hB)
  have HS := Lib.hid (HS.out.keep hB)
  have HB := Lib.hid (below_via HB.out hB)
  have c4 := HX.out.cell (j := 4) (by simp)
  simp at c4
  clear hB hf
  by_cases hn : x < 0
  · go_wp2
    go_ret
    exact ⟨-1, by omega, by omega, rfl, HB.out, fun h => by omega⟩
  · go_wp2_with fail
    refine (szstrs_any _ _ _ _ _ _ HS.out.t (by omega) hx1).mono ?_
    rintro e w2 ⟨y, hy0, hy1, rfl, rfl, hf⟩
    have HF2 := Lib.hid hf
    clear hf
    by_cases hn2 : y < 0
    · go_wp2
      go_ret
      exact ⟨-1, by omega, by omega, rfl, HB.out, fun h => by omega⟩
    · go_wp2
      go_ret
      refine ⟨y, hy0, hy1, rfl, HB.out, fun h => ⟨(HF.out (by omega)).1, ?_, fun i hi => ?_⟩⟩
      · have := HF2.out (by omega); omega
      · have := HF2.out (by omega); have := sum_part m hi; omega

/-- The end of the laws' copy of a job. -/
def MadeJob (pl : Nat) (e1 : Bool) (o1 n1 : Int) (l : Instrs) (sl : Nat) (m : Strs) (w : World) (e : Ending) (w' : World) : Prop :=
  ∃ B C : Nat, e = .returned (.agg #[.slice (some ⟨B, 0, none⟩) pl pl, .bool e1, .int .i64 o1, .int .i64 n1, .slice (some ⟨C, 0, none⟩) sl sl]) ∧ JobAt w' (some ⟨B, 0, none⟩) pl l (some ⟨C, 0, none⟩) sl m ∧ Below w.heap.size w w' ∧ w.heap.size ≤ B ∧ B < C

set_option maxHeartbeats 4000000 in
theorem tojob_any (p s : Option Addr) (pl pc sl sc : Nat) (e1 : Bool) (o1 n1 : Int) (l : Instrs) (m : Strs) (w : World) (h : JobAt w p pl l s sl m) (hpl : pl ≤ 1048576) (hsl : sl ≤ 1048576) :
    Calls Tryz.prog 8 #[.agg #[.slice p pl pc, .bool e1, .int .i64 o1, .int .i64 n1, .slice s sl sc]] w (MadeJob pl e1 o1 n1 l sl m w) := by
  obtain ⟨bx, hbx⟩ : ∃ bx : Array Value, #[.slice p pl pc, .bool e1, .int .i64 o1, .int .i64 n1, .slice s sl sc] = bx := ⟨_, rfl⟩
  obtain ⟨z, hz⟩ : ∃ z : Array Value, #[.slice none 0 0, .bool false, .int .i64 0, .int .i64 0, .slice none 0 0] = z := ⟨_, rfl⟩
  obtain ⟨W0, hW0⟩ : ∃ W0, ((w.alloc (.cells bx 25)).alloc (.cells z 35)).alloc (.cells z 35) = W0 := ⟨_, rfl⟩
  have hB0 : Below w.heap.size w W0 := by rw [← hW0]; exact below_alloc (below_alloc (below_alloc (Below.refl w.heap.size w) _) _) _
  have hX0 : Row W0 w.heap.size 25 bx := by rw [← hW0]; exact ((row_new w bx _).al _).al _
  have hR0 : Row W0 (w.heap.size + 1) 35 z := by rw [← hW0]; exact (row_new1 w _ z _).al _
  have hO0 : Row W0 (w.heap.size + 1 + 1) 35 z := by
    have := row_new1 (w.alloc (.cells bx 25)) (.cells z 35) z 35
    rw [← hW0]
    simpa using this
  rw [← hbx] at hX0
  rw [← hz] at hR0 hO0
  rw [← hbx, ← hz] at hW0
  clear hbx hz bx z
  have HB := Lib.hid hB0
  have HX := Lib.hid hX0
  have HR := Lib.hid hR0
  have HO := Lib.hid hO0
  have HS := Lib.hid h
  have HW := Lib.hid hW0
  have HZ := Lib.hid (show w.heap.size + 1 + 1 < W0.heap.size from hO0.lt)
  clear h hB0 hX0 hR0 hO0 hW0
  go_enter Tryz.func8, Tryz.ntmps8
  go_wp2_with fail
  rw [HW.out]
  refine (toinss_any _ _ _ _ _ (HS.out.keep HB.out).i hpl).mono ?_
  rintro e w1 ⟨rfl, hO, hB, cur1, hr1, _⟩
  obtain ⟨B, hBe⟩ : ∃ B, W0.heap.size = B := ⟨_, rfl⟩
  rw [hBe] at hO hr1 ⊢
  have HBB := Lib.hid (show w.heap.size + 1 + 1 < B ∧ B < w1.heap.size from ⟨by rw [← hBe]; exact HZ.out, hr1.lt⟩)
  have HX := Lib.hid (HX.out.keep hB)
  have HO := Lib.hid (HO.out.keep hB)
  have HR := Lib.hid (HR.out.keep hB)
  have HB := Lib.hid (below_via HB.out hB)
  have HOO := Lib.hid hO
  have c1 := HX.out.cell (j := 1) (by simp)
  have c2 := HX.out.cell (j := 2) (by simp)
  have c3 := HX.out.cell (j := 3) (by simp)
  have c4 := HX.out.cell (j := 4) (by simp)
  have d0 := HO.out.cell (j := 0) (by simp)
  have d1 := HO.out.cell (j := 1) (by simp)
  have d2 := HO.out.cell (j := 2) (by simp)
  have d3 := HO.out.cell (j := 3) (by simp)
  have f0 := HO.out.free 0
  have f1 := HO.out.free 1
  have f2 := HO.out.free 2
  have f3 := HO.out.free 3
  simp at c1 c2 c3 c4 d0 d1 d2 d3
  clear hB hO hBe hr1
  go_wp2_with fail
  obtain ⟨P, hP⟩ : ∃ P : Value, .slice (some ⟨B, 0, none⟩) pl pl = P := ⟨_, rfl⟩
  have HP := Lib.hid hP
  obtain ⟨O, hOe⟩ : ∃ O, w.heap.size + 1 + 1 = O := ⟨_, rfl⟩
  have HOE := Lib.hid hOe
  rw [hOe] at HO d0 d1 d2 d3 f0 f1 f2 f3
  simp only [hP, hOe]
  have e1' : ∀ b off, (some (⟨B, 0, none⟩ : Addr)) = some ⟨b, off, none⟩ → b ≠ O := fun b off e => by simp only [Option.some.injEq, Addr.mk.injEq] at e; have := HBB.out.1; omega
  have hro : w.heap.size + 1 ≠ O := by omega
  have hbo : w.heap.size ≤ O := by omega
  have HI := Lib.hid ((((HOO.out.put e1' 0 P).put e1' 1 (.bool e1)).put e1' 2 (.int .i64 o1)).put e1' 3 (.int .i64 n1))
  have HR := Lib.hid ((((HR.out.put hro 0 P).put hro 1 (.bool e1)).put hro 2 (.int .i64 o1)).put hro 3 (.int .i64 n1))
  have HO := Lib.hid ((((HO.out.set 0 P).set 1 (.bool e1)).set 2 (.int .i64 o1)).set 3 (.int .i64 n1))
  have HB := Lib.hid ((((HB.out.setCell (p := ⟨O, 0, none⟩) hbo P).setCell (p := ⟨O, 1, none⟩) hbo (.bool e1)).setCell (p := ⟨O, 2, none⟩) hbo (.int .i64 o1)).setCell (p := ⟨O, 3, none⟩) hbo (.int .i64 n1))
  have hsz4 : ((((w1.setCell ⟨O, 0, none⟩ P).setCell ⟨O, 1, none⟩ (.bool e1)).setCell ⟨O, 2, none⟩ (.int .i64 o1)).setCell ⟨O, 3, none⟩ (.int .i64 n1)).heap.size = w1.heap.size := by simp [World.setCell]
  obtain ⟨W4, hW4⟩ : ∃ W4, (((w1.setCell ⟨O, 0, none⟩ P).setCell ⟨O, 1, none⟩ (.bool e1)).setCell ⟨O, 2, none⟩ (.int .i64 o1)).setCell ⟨O, 3, none⟩ (.int .i64 n1) = W4 := ⟨_, rfl⟩
  rw [hW4] at HI HR HO HB hsz4 ⊢
  have HBC := Lib.hid (show B < W4.heap.size by rw [hsz4]; exact HBB.out.2)
  clear hW4 hsz4 c1 c2 c3 c4 d0 d1 d2 d3 f0 f1 f2 f3 HOO
  refine (tostrs_any _ _ _ _ _ (HS.out.keep HB.out).t hsl).mono ?_
  rintro e w2 ⟨rfl, hG, hB, _⟩
  obtain ⟨C, hCe⟩ : ∃ C, W4.heap.size = C := ⟨_, rfl⟩
  rw [hCe] at hG HBC ⊢
  have HI := Lib.hid (HI.out.keep hB)
  have HR := Lib.hid (HR.out.keep hB)
  have HO := Lib.hid (HO.out.keep hB)
  have HB := Lib.hid (below_via HB.out hB)
  have HG := Lib.hid hG
  clear hB hG hCe
  have d0 := HO.out.cell (j := 0) (by simp)
  have d1 := HO.out.cell (j := 1) (by simp)
  have d2 := HO.out.cell (j := 2) (by simp)
  have d3 := HO.out.cell (j := 3) (by simp)
  have d4 := HO.out.cell (j := 4) (by simp)
  have f0 := HO.out.free 0
  have f1 := HO.out.free 1
  have f2 := HO.out.free 2
  have f3 := HO.out.free 3
  have f4 := HO.out.free 4
  have r0 := HR.out.cell (j := 0) (by simp)
  have r1 := HR.out.cell (j := 1) (by simp)
  have r2 := HR.out.cell (j := 2) (by simp)
  have r3 := HR.out.cell (j := 3) (by simp)
  have r4 := HR.out.cell (j := 4) (by simp)
  have s0 := HR.out.free 0
  have s1 := HR.out.free 1
  have s2 := HR.out.free 2
  have s3 := HR.out.free 3
  have s4 := HR.out.free 4
  simp at d0 d1 d2 d3 d4 r0 r1 r2 r3 r4
  obtain rfl := HP.out
  go_wp2_with fail
  have hoe : w.heap.size + 1 + 1 = O := HOE.out
  have hbb := HBB.out.1
  have hbc := HBC.out
  have hb := (((((HR.out.put (show w.heap.size + 1 ≠ O by omega) 4 (.slice (some ⟨C, 0, none⟩) sl sl)).set 0 (.slice (some ⟨B, 0, none⟩) pl pl)).set 1 (.bool e1)).set 2 (.int .i64 o1)).set 3 (.int .i64 n1)).set 4 (.slice (some ⟨C, 0, none⟩) sl sl)
  unfold Row at hb
  have q1 : ∀ b off, (some (⟨B, 0, none⟩ : Addr)) = some ⟨b, off, none⟩ → b ≠ O := fun b off e => by simp only [Option.some.injEq, Addr.mk.injEq] at e; omega
  have q2 : ∀ b off, (some (⟨B, 0, none⟩ : Addr)) = some ⟨b, off, none⟩ → b ≠ w.heap.size + 1 := fun b off e => by simp only [Option.some.injEq, Addr.mk.injEq] at e; omega
  have q3 : ∀ b off, (some (⟨C, 0, none⟩ : Addr)) = some ⟨b, off, none⟩ → b ≠ O := fun b off e => by simp only [Option.some.injEq, Addr.mk.injEq] at e; omega
  have q4 : ∀ b off, (some (⟨C, 0, none⟩ : Addr)) = some ⟨b, off, none⟩ → b ≠ w.heap.size + 1 := fun b off e => by simp only [Option.some.injEq, Addr.mk.injEq] at e; omega
  refine bodyPost_ret (v := .agg #[.slice (some ⟨B, 0, none⟩) pl pl, .bool e1, .int .i64 o1, .int .i64 n1, .slice (some ⟨C, 0, none⟩) sl sl]) (by simp [results, Tryz.results8, go_sem, World.cell?, hb]) rfl ⟨B, C, rfl, ⟨?_, ?_⟩, ?_, by omega, hbc⟩
  · exact (((((HI.out.put q1 _ _).put q2 _ _).put q2 _ _).put q2 _ _).put q2 _ _).put q2 _ _
  · exact (((((HG.out.put q3 _ _).put q4 _ _).put q4 _ _).put q4 _ _).put q4 _ _).put q4 _ _
  · have k1 : w.heap.size ≤ O := by omega
    have k2 : w.heap.size ≤ w.heap.size + 1 := by omega
    exact (((((HB.out.setCell (p := ⟨O, 4, none⟩) k1 _).setCell (p := ⟨w.heap.size + 1, 0, none⟩) k2 _).setCell (p := ⟨w.heap.size + 1, 1, none⟩) k2 _).setCell (p := ⟨w.heap.size + 1, 2, none⟩) k2 _).setCell (p := ⟨w.heap.size + 1, 3, none⟩) k2 _).setCell (p := ⟨w.heap.size + 1, 4, none⟩) k2 _

set_option maxHeartbeats 1000000 in
theorem eqjob_same (p1 s1 p2 s2 : Option Addr) (pl c1 c2 sl d1 d2 : Nat) (e1 : Bool) (o1 n1 : Int) (l : Instrs) (m : Strs) (w : World) (h1 : JobAt w p1 pl l s1 sl m) (h2 : JobAt w p2 pl l s2 sl m) :
    Calls Tryz.prog 11 #[.agg #[.slice p1 pl c1, .bool e1, .int .i64 o1, .int .i64 n1, .slice s1 sl d1], .agg #[.slice p2 pl c2, .bool e1, .int .i64 o1, .int .i64 n1, .slice s2 sl d2]] w (MadeBool true w) := by
  have hB1 := below_alloc (Below.refl w.heap.size w) (.cells #[.slice p1 pl c1, .bool e1, .int .i64 o1, .int .i64 n1, .slice s1 sl d1] 35)
  have HB := Lib.hid (below_alloc hB1 (.cells #[.slice p2 pl c2, .bool e1, .int .i64 o1, .int .i64 n1, .slice s2 sl d2] 35))
  have HX := Lib.hid ((row_new w #[.slice p1 pl c1, .bool e1, .int .i64 o1, .int .i64 n1, .slice s1 sl d1] 35).al (.cells #[.slice p2 pl c2, .bool e1, .int .i64 o1, .int .i64 n1, .slice s2 sl d2] 35))
  have HY := Lib.hid (row_new1 w (.cells #[.slice p1 pl c1, .bool e1, .int .i64 o1, .int .i64 n1, .slice s1 sl d1] 35) #[.slice p2 pl c2, .bool e1, .int .i64 o1, .int .i64 n1, .slice s2 sl d2] 35)
  have HS1 := Lib.hid (h1.keep HB.out)
  have HS2 := Lib.hid (h2.keep HB.out)
  clear h1 h2 hB1
  go_enter Tryz.func11, Tryz.ntmps11
  go_wp2_with fail
  refine (eqinss_same _ _ _ _ _ _ _ HS1.out.i HS2.out.i).mono ?_
  rintro e w1 ⟨rfl, hB⟩
  have HX := Lib.hid (HX.out.keep hB)
  have HY := Lib.hid (HY.out.keep hB)
  have HS1 := Lib.hid (HS1.out.keep hB)
  have HS2 := Lib.hid (HS2.out.keep hB)
  have HB := Lib.hid (below_via HB.out hB)
  have x1 := HX.out.cell (j := 1) (by simp)
  have x2 := HX.out.cell (j := 2) (by simp)
  have x3 := HX.out.cell (j := 3) (by simp)
  have x4 := HX.out.cell (j := 4) (by simp)
  have y1 := HY.out.cell (j := 1) (by simp)
  have y2 := HY.out.cell (j := 2) (by simp)
  have y3 := HY.out.cell (j := 3) (by simp)
  have y4 := HY.out.cell (j := 4) (by simp)
  simp at x1 x2 x3 x4 y1 y2 y3 y4
  clear hB
  go_wp2_with fail
  refine (eqstrs_same _ _ _ _ _ _ _ HS1.out.t HS2.out.t).mono ?_
  rintro e w2 ⟨rfl, hB⟩
  have HB := Lib.hid (below_via HB.out hB)
  clear hB
  go_wp2
  go_ret
  exact ⟨rfl, HB.out⟩
end Go.Proofs.YtbjlojmadellgaaGreatDoor
namespace Go.Proofs.YtbjlojmadellgaaGreatDoor
open Go.ChangeShapes Go.WideShapes Go.ChangeAt Go.RowKit
set_option linter.unusedVariables false
set_option maxRecDepth 100000

theorem marktextI_any (x : Int) (k0 : Nat) (w : World) (hx : x = (k0 : Int)) (h1 : 1 ≤ k0) (h2 : k0 ≤ 1099511627776) :
    Calls Tryz.prog 64 #[.int .i64 x] w (MadeStr (mtext k0) w) := by
  subst hx
  exact marktext_any k0 w h1 h2
theorem grown_belowI {w a b : World} {row : Option Nat} (hg : w.grownBy a row) (hB : Below a.heap.size a b) : w.grownBy b row :=
  ⟨hB.os.trans hg.os, hB.tape.trans hg.tape, hB.output.trans hg.output, Nat.le_trans hg.size hB.size, fun i hi hne => (hB.block i (Nat.lt_of_lt_of_le hi hg.size)).trans (hg.block i hi hne)⟩
theorem grown_setI {w a : World} {B : Nat} (hg : w.grownBy a (some B)) (j : Nat) (x : Value) : w.grownBy (a.setCell ⟨B, j, none⟩ x) (some B) :=
  ⟨hg.os, hg.tape, hg.output, by have := hg.size; simpa [World.setCell] using this, fun i hi hne => (Below.heap_setCell _ _ _ _ (fun e => hne (by rw [e]))).trans (hg.block i hi hne)⟩
end Go.Proofs.YtbjlojmadellgaaGreatDoor
namespace Go.Proofs.YtbjlojmadellgaaGreatDoor
open Go.ChangeShapes Go.WideShapes Go.ChangeAt Go.RowKit
set_option linter.unusedVariables false
set_option maxRecDepth 100000

/-- Row B holds the marks from number k0 on in its first n values. -/
def MarkedInstr (cur : Array Value) (k0 n : Nat) : Prop := ∀ j, j < n → cur[j * 3]? = some (.int .i64 ((k0 + 3 * j + 0 : Nat) : Int)) ∧ cur[j * 3 + 1]? = some (.int .i64 ((k0 + 3 * j + 1 : Nat) : Int)) ∧ cur[j * 3 + 2]? = some (.string (mtext (k0 + 3 * j + 2)))
theorem MarkedInstr.step {cur : Array Value} {k0 k : Nat} (h : MarkedInstr cur k0 k) (hk : k * 3 + 2 < cur.size) : MarkedInstr (((cur.setIfInBounds (k * 3) (.int .i64 ((k0 + 3 * k + 0 : Nat) : Int))).setIfInBounds (k * 3 + 1) (.int .i64 ((k0 + 3 * k + 1 : Nat) : Int))).setIfInBounds (k * 3 + 2) (.string (mtext (k0 + 3 * k + 2)))) k0 (k + 1) := by
  intro j hj
  rcases Nat.lt_or_ge j k with hlt | hge
  · obtain ⟨e0, e1, e2⟩ := h j hlt
    refine ⟨?_, ?_, ?_⟩
    · rw [Array.getElem?_setIfInBounds_ne (by omega), Array.getElem?_setIfInBounds_ne (by omega), Array.getElem?_setIfInBounds_ne (by omega)]; exact e0
    · rw [Array.getElem?_setIfInBounds_ne (by omega), Array.getElem?_setIfInBounds_ne (by omega), Array.getElem?_setIfInBounds_ne (by omega)]; exact e1
    · rw [Array.getElem?_setIfInBounds_ne (by omega), Array.getElem?_setIfInBounds_ne (by omega), Array.getElem?_setIfInBounds_ne (by omega)]; exact e2
  · obtain rfl : j = k := by omega
    refine ⟨?_, ?_, ?_⟩
    · rw [Array.getElem?_setIfInBounds_ne (by omega), Array.getElem?_setIfInBounds_ne (by omega)]; rw [Array.getElem?_setIfInBounds_self_of_lt (by first | omega | (simp only [Array.size_setIfInBounds]; omega))]
    · rw [Array.getElem?_setIfInBounds_ne (by omega)]; rw [Array.getElem?_setIfInBounds_self_of_lt (by first | omega | (simp only [Array.size_setIfInBounds]; omega))]
    · rw [Array.getElem?_setIfInBounds_self_of_lt (by first | omega | (simp only [Array.size_setIfInBounds]; omega))]
def MadeMarksInstr (B : Nat) (E : TypeId) (k0 len n : Nat) (w : World) (e : Ending) (w' : World) : Prop :=
  e = .returned (.int .i64 ((k0 + 3 * len : Nat) : Int)) ∧ w.grownBy w' (some B) ∧ ∃ cur, Row w' B E cur ∧ cur.size = n ∧ MarkedInstr cur k0 len

set_option maxHeartbeats 2000000 in
theorem markinss_any (B len cap k0 n : Nat) (E : TypeId) (cur0 : Array Value) (w : World) (h : Row w B E cur0) (hn : cur0.size = n) (hl : len * 3 ≤ n) (h1 : 1 ≤ k0) (h2 : k0 + 3 * len ≤ 1099511627776) :
    Calls Tryz.prog 40 #[.slice (some ⟨B, 0, none⟩) len cap, .int .i64 k0] w (MadeMarksInstr B E k0 len n w) := by
  have HR := Lib.hid h
  have HN := Lib.hid hn
  clear h hn
  go_enter Tryz.func40, Tryz.ntmps40
  go_wp2
  go_loopw [1, 5] (fun t i wr => ∃ k : Nat, k ≤ len ∧ i = .int .i64 k ∧ t = .int .i64 ((k0 + 3 * k : Nat) : Int) ∧ Hid (w.grownBy wr (some B) ∧ ∃ cur, Row wr B E cur ∧ cur.size = n ∧ MarkedInstr cur k0 k)) (fun _ i _ => len - (intOf i).toNat)
  case atStart => exact ⟨0, Nat.zero_le _, rfl, rfl, World.grownBy.refl _ _, cur0, HR.out, HN.out, fun j hj => by omega⟩
  case round =>
    obtain ⟨k, hk, rfl, rfl, HW⟩ := hrel
    clear HR HN
    by_cases hlt : k < len
    · obtain ⟨q, hq⟩ : ∃ q, k0 + 3 * k = q := ⟨_, rfl⟩
      rw [hq]
      have hq1 : 1 ≤ q := by omega
      have hq2 : q + 3 ≤ 1099511627776 := by omega
      have HQ := Lib.hid hq
      obtain ⟨hg, cur, hr, hs, hm⟩ := HW.out
      have HG := Lib.hid hg
      have HS := Lib.hid hs
      have HM := Lib.hid hm
      have HRW := Lib.hid hr
      have HKN := Lib.hid (show k * 3 + 2 < cur.size by rw [hs]; omega)
      clear hq hg hr hs hm HW
      obtain ⟨v0, hA0⟩ : ∃ v, wr.cell? ⟨B, k * 3, none⟩ = some v := ⟨_, HRW.out.cell (by have := HKN.out; omega)⟩
      have hf0 := HRW.out.free (k * 3)
      obtain ⟨v1, hA1⟩ : ∃ v, wr.cell? ⟨B, k * 3 + 1, none⟩ = some v := ⟨_, HRW.out.cell (by have := HKN.out; omega)⟩
      have hf1 := HRW.out.free (k * 3 + 1)
      go_wp2_with fail
      refine (marktextI_any _ (q + 2) _ (by omega) (by omega) (by omega)).mono ?_
      rintro e w4 ⟨rfl, hB⟩
      have HRW := Lib.hid (((HRW.out.set (k * 3) (.int .i64 ((q + 0 : Nat) : Int))).set (k * 3 + 1) (.int .i64 ((q + 1 : Nat) : Int))).keep hB)
      have HG := Lib.hid (grown_belowI (grown_setI (grown_setI HG.out (k * 3) (.int .i64 ((q + 0 : Nat) : Int))) (k * 3 + 1) (.int .i64 ((q + 1 : Nat) : Int))) hB)
      clear hB
      obtain ⟨v2, hA2⟩ : ∃ v, w4.cell? ⟨B, k * 3 + 2, none⟩ = some v := ⟨_, HRW.out.cell (by simp only [Array.size_setIfInBounds]; have := HKN.out; omega)⟩
      have hf2 := HRW.out.free (k * 3 + 2)
      go_wp2
      go_roundw
      case rel => exact ⟨k + 1, by omega, by go_num, by have := HQ.out; go_num, (grown_setI HG.out _ _), _, (HRW.out.set _ _), by simpa using HS.out, by have e := HM.out.step HKN.out; rw [HQ.out] at e; exact e⟩
      case measure => simp [intOf]; omega
    · obtain rfl : k = len := by omega
      go_wp2
      go_ret
      obtain ⟨hg, cur, hr, hs, hm⟩ := HW.out
      exact ⟨rfl, hg, cur, hr, hs, hm⟩

theorem markinss_none (q : Option Addr) (cap k0 : Nat) (w : World) : Calls Tryz.prog 40 #[.slice q 0 cap, .int .i64 k0] w fun e w' => e = .returned (.int .i64 k0) ∧ w = w' := by
  go_enter Tryz.func40, Tryz.ntmps40
  go_wp2
  go_loop [1, 5] (fun t i => t = .int .i64 k0 ∧ i = .int .i64 0) (fun _ _ => 0)
  case atStart => exact ⟨rfl, rfl⟩
  case round =>
    obtain ⟨rfl, rfl⟩ := hrel
    go_wp2
    go_ret
    exact ⟨rfl, rfl⟩
end Go.Proofs.YtbjlojmadellgaaGreatDoor
namespace Go.Proofs.YtbjlojmadellgaaGreatDoor
open Go.ChangeShapes Go.WideShapes Go.ChangeAt Go.RowKit
set_option linter.unusedVariables false
set_option maxRecDepth 100000

/-- The end of the laws' copy of a job. -/
def MadeJobR (pl : Nat) (e1 : Bool) (o1 n1 : Int) (l : Instrs) (sl : Nat) (m : Strs) (w : World) (e : Ending) (w' : World) : Prop :=
  ∃ (B C : Nat) (curI curS : Array Value), e = .returned (.agg #[.slice (some ⟨B, 0, none⟩) pl pl, .bool e1, .int .i64 o1, .int .i64 n1, .slice (some ⟨C, 0, none⟩) sl sl]) ∧ JobAt w' (some ⟨B, 0, none⟩) pl l (some ⟨C, 0, none⟩) sl m ∧ Below w.heap.size w w' ∧ w.heap.size ≤ B ∧ B < C ∧ Row w' B 100 curI ∧ curI.size = pl * 3 ∧ Row w' C 9 curS ∧ curS.size = sl

set_option maxHeartbeats 4000000 in
theorem tojobR_any (p s : Option Addr) (pl pc sl sc : Nat) (e1 : Bool) (o1 n1 : Int) (l : Instrs) (m : Strs) (w : World) (h : JobAt w p pl l s sl m) (hpl : pl ≤ 1048576) (hsl : sl ≤ 1048576) :
    Calls Tryz.prog 8 #[.agg #[.slice p pl pc, .bool e1, .int .i64 o1, .int .i64 n1, .slice s sl sc]] w (MadeJobR pl e1 o1 n1 l sl m w) := by
  obtain ⟨bx, hbx⟩ : ∃ bx : Array Value, #[.slice p pl pc, .bool e1, .int .i64 o1, .int .i64 n1, .slice s sl sc] = bx := ⟨_, rfl⟩
  obtain ⟨z, hz⟩ : ∃ z : Array Value, #[.slice none 0 0, .bool false, .int .i64 0, .int .i64 0, .slice none 0 0] = z := ⟨_, rfl⟩
  obtain ⟨W0, hW0⟩ : ∃ W0, ((w.alloc (.cells bx 25)).alloc (.cells z 35)).alloc (.cells z 35) = W0 := ⟨_, rfl⟩
  have hB0 : Below w.heap.size w W0 := by rw [← hW0]; exact below_alloc (below_alloc (below_alloc (Below.refl w.heap.size w) _) _) _
  have hX0 : Row W0 w.heap.size 25 bx := by rw [← hW0]; exact ((row_new w bx _).al _).al _
  have hR0 : Row W0 (w.heap.size + 1) 35 z := by rw [← hW0]; exact (row_new1 w _ z _).al _
  have hO0 : Row W0 (w.heap.size + 1 + 1) 35 z := by
    have := row_new1 (w.alloc (.cells bx 25)) (.cells z 35) z 35
    rw [← hW0]
    simpa using this
  rw [← hbx] at hX0
  rw [← hz] at hR0 hO0
  rw [← hbx, ← hz] at hW0
  clear hbx hz bx z
  have HB := Lib.hid hB0
  have HX := Lib.hid hX0
  have HR := Lib.hid hR0
  have HO := Lib.hid hO0
  have HS := Lib.hid h
  have HW := Lib.hid hW0
  have HZ := Lib.hid (show w.heap.size + 1 + 1 < W0.heap.size from hO0.lt)
  clear h hB0 hX0 hR0 hO0 hW0
  go_enter Tryz.func8, Tryz.ntmps8
  go_wp2_with fail
  rw [HW.out]
  refine (toinss_any _ _ _ _ _ (HS.out.keep HB.out).i hpl).mono ?_
  rintro e w1 ⟨rfl, hO, hB, cur1, hr1, hs1⟩
  obtain ⟨B, hBe⟩ : ∃ B, W0.heap.size = B := ⟨_, rfl⟩
  rw [hBe] at hO hr1 ⊢
  have HBB := Lib.hid (show w.heap.size + 1 + 1 < B ∧ B < w1.heap.size from ⟨by rw [← hBe]; exact HZ.out, hr1.lt⟩)
  have HRI := Lib.hid hr1
  have HSI := Lib.hid hs1
  have HX := Lib.hid (HX.out.keep hB)
  have HO := Lib.hid (HO.out.keep hB)
  have HR := Lib.hid (HR.out.keep hB)
  have HB := Lib.hid (below_via HB.out hB)
  have HOO := Lib.hid hO
  have c1 := HX.out.cell (j := 1) (by simp)
  have c2 := HX.out.cell (j := 2) (by simp)
  have c3 := HX.out.cell (j := 3) (by simp)
  have c4 := HX.out.cell (j := 4) (by simp)
  have d0 := HO.out.cell (j := 0) (by simp)
  have d1 := HO.out.cell (j := 1) (by simp)
  have d2 := HO.out.cell (j := 2) (by simp)
  have d3 := HO.out.cell (j := 3) (by simp)
  have f0 := HO.out.free 0
  have f1 := HO.out.free 1
  have f2 := HO.out.free 2
  have f3 := HO.out.free 3
  simp at c1 c2 c3 c4 d0 d1 d2 d3
  clear hB hO hBe hr1 hs1
  go_wp2_with fail
  obtain ⟨P, hP⟩ : ∃ P : Value, .slice (some ⟨B, 0, none⟩) pl pl = P := ⟨_, rfl⟩
  have HP := Lib.hid hP
  obtain ⟨O, hOe⟩ : ∃ O, w.heap.size + 1 + 1 = O := ⟨_, rfl⟩
  have HOE := Lib.hid hOe
  rw [hOe] at HO d0 d1 d2 d3 f0 f1 f2 f3
  simp only [hP, hOe]
  have e1' : ∀ b off, (some (⟨B, 0, none⟩ : Addr)) = some ⟨b, off, none⟩ → b ≠ O := fun b off e => by simp only [Option.some.injEq, Addr.mk.injEq] at e; have := HBB.out.1; omega
  have hro : w.heap.size + 1 ≠ O := by omega
  have hbo : w.heap.size ≤ O := by omega
  have HI := Lib.hid ((((HOO.out.put e1' 0 P).put e1' 1 (.bool e1)).put e1' 2 (.int .i64 o1)).put e1' 3 (.int .i64 n1))
  have hbO : B ≠ O := by have := HBB.out.1; omega
  have HRI := Lib.hid ((((HRI.out.put hbO 0 P).put hbO 1 (.bool e1)).put hbO 2 (.int .i64 o1)).put hbO 3 (.int .i64 n1))
  have HR := Lib.hid ((((HR.out.put hro 0 P).put hro 1 (.bool e1)).put hro 2 (.int .i64 o1)).put hro 3 (.int .i64 n1))
  have HO := Lib.hid ((((HO.out.set 0 P).set 1 (.bool e1)).set 2 (.int .i64 o1)).set 3 (.int .i64 n1))
  have HB := Lib.hid ((((HB.out.setCell (p := ⟨O, 0, none⟩) hbo P).setCell (p := ⟨O, 1, none⟩) hbo (.bool e1)).setCell (p := ⟨O, 2, none⟩) hbo (.int .i64 o1)).setCell (p := ⟨O, 3, none⟩) hbo (.int .i64 n1))
  have hsz4 : ((((w1.setCell ⟨O, 0, none⟩ P).setCell ⟨O, 1, none⟩ (.bool e1)).setCell ⟨O, 2, none⟩ (.int .i64 o1)).setCell ⟨O, 3, none⟩ (.int .i64 n1)).heap.size = w1.heap.size := by simp [World.setCell]
  obtain ⟨W4, hW4⟩ : ∃ W4, (((w1.setCell ⟨O, 0, none⟩ P).setCell ⟨O, 1, none⟩ (.bool e1)).setCell ⟨O, 2, none⟩ (.int .i64 o1)).setCell ⟨O, 3, none⟩ (.int .i64 n1) = W4 := ⟨_, rfl⟩
  rw [hW4] at HI HR HO HB HRI hsz4 ⊢
  have HBC := Lib.hid (show B < W4.heap.size by rw [hsz4]; exact HBB.out.2)
  clear hW4 hsz4 c1 c2 c3 c4 d0 d1 d2 d3 f0 f1 f2 f3 HOO
  refine (tostrs_any _ _ _ _ _ (HS.out.keep HB.out).t hsl).mono ?_
  rintro e w2 ⟨rfl, hG, hB, cur2, hr2, hs2⟩
  obtain ⟨C, hCe⟩ : ∃ C, W4.heap.size = C := ⟨_, rfl⟩
  rw [hCe] at hG hr2 HBC ⊢
  have HRS := Lib.hid hr2
  have HSS := Lib.hid hs2
  have HRI := Lib.hid (HRI.out.keep hB)
  have HI := Lib.hid (HI.out.keep hB)
  have HR := Lib.hid (HR.out.keep hB)
  have HO := Lib.hid (HO.out.keep hB)
  have HB := Lib.hid (below_via HB.out hB)
  have HG := Lib.hid hG
  clear hB hG hCe hr2 hs2
  have d0 := HO.out.cell (j := 0) (by simp)
  have d1 := HO.out.cell (j := 1) (by simp)
  have d2 := HO.out.cell (j := 2) (by simp)
  have d3 := HO.out.cell (j := 3) (by simp)
  have d4 := HO.out.cell (j := 4) (by simp)
  have f0 := HO.out.free 0
  have f1 := HO.out.free 1
  have f2 := HO.out.free 2
  have f3 := HO.out.free 3
  have f4 := HO.out.free 4
  have r0 := HR.out.cell (j := 0) (by simp)
  have r1 := HR.out.cell (j := 1) (by simp)
  have r2 := HR.out.cell (j := 2) (by simp)
  have r3 := HR.out.cell (j := 3) (by simp)
  have r4 := HR.out.cell (j := 4) (by simp)
  have s0 := HR.out.free 0
  have s1 := HR.out.free 1
  have s2 := HR.out.free 2
  have s3 := HR.out.free 3
  have s4 := HR.out.free 4
  simp at d0 d1 d2 d3 d4 r0 r1 r2 r3 r4
  obtain rfl := HP.out
  go_wp2_with fail
  have hoe : w.heap.size + 1 + 1 = O := HOE.out
  have hbb := HBB.out.1
  have hbc := HBC.out
  have hb := (((((HR.out.put (show w.heap.size + 1 ≠ O by omega) 4 (.slice (some ⟨C, 0, none⟩) sl sl)).set 0 (.slice (some ⟨B, 0, none⟩) pl pl)).set 1 (.bool e1)).set 2 (.int .i64 o1)).set 3 (.int .i64 n1)).set 4 (.slice (some ⟨C, 0, none⟩) sl sl)
  unfold Row at hb
  have q1 : ∀ b off, (some (⟨B, 0, none⟩ : Addr)) = some ⟨b, off, none⟩ → b ≠ O := fun b off e => by simp only [Option.some.injEq, Addr.mk.injEq] at e; omega
  have q2 : ∀ b off, (some (⟨B, 0, none⟩ : Addr)) = some ⟨b, off, none⟩ → b ≠ w.heap.size + 1 := fun b off e => by simp only [Option.some.injEq, Addr.mk.injEq] at e; omega
  have q3 : ∀ b off, (some (⟨C, 0, none⟩ : Addr)) = some ⟨b, off, none⟩ → b ≠ O := fun b off e => by simp only [Option.some.injEq, Addr.mk.injEq] at e; omega
  have q4 : ∀ b off, (some (⟨C, 0, none⟩ : Addr)) = some ⟨b, off, none⟩ → b ≠ w.heap.size + 1 := fun b off e => by simp only [Option.some.injEq, Addr.mk.injEq] at e; omega
  refine bodyPost_ret (v := .agg #[.slice (some ⟨B, 0, none⟩) pl pl, .bool e1, .int .i64 o1, .int .i64 n1, .slice (some ⟨C, 0, none⟩) sl sl]) (by simp [results, Tryz.results8, go_sem, World.cell?, hb]) rfl ⟨B, C, cur1, cur2, rfl, ⟨?_, ?_⟩, ?_, by omega, hbc, ?_, HSI.out, ?_, HSS.out⟩
  · exact (((((HI.out.put q1 _ _).put q2 _ _).put q2 _ _).put q2 _ _).put q2 _ _).put q2 _ _
  · exact (((((HG.out.put q3 _ _).put q4 _ _).put q4 _ _).put q4 _ _).put q4 _ _).put q4 _ _
  · have k1 : w.heap.size ≤ O := by omega
    have k2 : w.heap.size ≤ w.heap.size + 1 := by omega
    exact (((((HB.out.setCell (p := ⟨O, 4, none⟩) k1 _).setCell (p := ⟨w.heap.size + 1, 0, none⟩) k2 _).setCell (p := ⟨w.heap.size + 1, 1, none⟩) k2 _).setCell (p := ⟨w.heap.size + 1, 2, none⟩) k2 _).setCell (p := ⟨w.heap.size + 1, 3, none⟩) k2 _).setCell (p := ⟨w.heap.size + 1, 4, none⟩) k2 _
  · exact (((((HRI.out.put (show B ≠ O by omega) 4 _).put (show B ≠ w.heap.size + 1 by omega) 0 _).put (show B ≠ w.heap.size + 1 by omega) 1 _).put (show B ≠ w.heap.size + 1 by omega) 2 _).put (show B ≠ w.heap.size + 1 by omega) 3 _).put (show B ≠ w.heap.size + 1 by omega) 4 _
  · exact (((((HRS.out.put (show C ≠ O by omega) 4 _).put (show C ≠ w.heap.size + 1 by omega) 0 _).put (show C ≠ w.heap.size + 1 by omega) 1 _).put (show C ≠ w.heap.size + 1 by omega) 2 _).put (show C ≠ w.heap.size + 1 by omega) 3 _).put (show C ≠ w.heap.size + 1 by omega) 4 _

/-- The end of marking a job: blocks from lo on may have changed, but for those that lie apart. -/
def MarkedJob (B C lo : Nat) (w : World) (e : Ending) (w' : World) : Prop :=
  ∃ k : Nat, e = .returned (.int .i64 (k : Int)) ∧ Below lo w w' ∧ ∀ X, X < w.heap.size → X ≠ B → X ≠ C → w'.heap[X]? = w.heap[X]?
set_option maxHeartbeats 2000000 in
theorem markjob_any (B C lo pl sl pc sc : Nat) (e1 : Bool) (o1 n1 : Int) (curI curS : Array Value) (w : World) (hI : Row w B 100 curI) (hi : curI.size = pl * 3) (hS : Row w C 9 curS) (hs : curS.size = sl) (hB : lo ≤ B) (hBC : B < C) (hpl : pl ≤ 1048576) (hsl : sl ≤ 1048576) (hw : lo ≤ w.heap.size) :
    Calls Tryz.prog 16 #[.agg #[.slice (some ⟨B, 0, none⟩) pl pc, .bool e1, .int .i64 o1, .int .i64 n1, .slice (some ⟨C, 0, none⟩) sl sc], .int .i64 1] w (MarkedJob B C lo w) := by
  have HI := Lib.hid (hI.al (.cells #[.slice (some ⟨B, 0, none⟩) pl pc, .bool e1, .int .i64 o1, .int .i64 n1, .slice (some ⟨C, 0, none⟩) sl sc] 35))
  have HS := Lib.hid (hS.al (.cells #[.slice (some ⟨B, 0, none⟩) pl pc, .bool e1, .int .i64 o1, .int .i64 n1, .slice (some ⟨C, 0, none⟩) sl sc] 35))
  have HX := Lib.hid (row_new w #[.slice (some ⟨B, 0, none⟩) pl pc, .bool e1, .int .i64 o1, .int .i64 n1, .slice (some ⟨C, 0, none⟩) sl sc] 35)
  have hBl := hI.lt
  have hCl := hS.lt
  have HA := Lib.hid (below_alloc (Below.refl w.heap.size w) (.cells #[.slice (some ⟨B, 0, none⟩) pl pc, .bool e1, .int .i64 o1, .int .i64 n1, .slice (some ⟨C, 0, none⟩) sl sc] 35))
  have HLO := Lib.hid (show Below lo w (w.alloc (.cells #[.slice (some ⟨B, 0, none⟩) pl pc, .bool e1, .int .i64 o1, .int .i64 n1, .slice (some ⟨C, 0, none⟩) sl sc] 35)) from ⟨HA.out.os, HA.out.tape, HA.out.output, HA.out.size, fun i hi => HA.out.block i (Nat.lt_of_lt_of_le hi hw)⟩)
  obtain ⟨X, hX⟩ : ∃ X, w.heap.size = X := ⟨_, rfl⟩
  obtain ⟨v, hv⟩ : ∃ v, w.alloc (.cells #[.slice (some ⟨B, 0, none⟩) pl pc, .bool e1, .int .i64 o1, .int .i64 n1, .slice (some ⟨C, 0, none⟩) sl sc] 35) = v := ⟨_, rfl⟩
  rw [hv, hX] at HX
  rw [hv] at HI HS HA HLO
  have hXl := HX.out.lt
  have x0 := HX.out.cell (j := 0) (by simp)
  simp at x0
  clear hI hS
  have HV := Lib.hid hv
  clear hv
  go_enter Tryz.func16, Tryz.ntmps16
  go_wp2_with fail
  rw [HV.out]
  try rw [hX]
  refine (markinss_any B pl pc 1 _ _ curI _ HI.out rfl (by rw [hi]; exact Nat.le_refl _) (Nat.le_refl 1) (by omega)).mono ?_
  rintro e w1 ⟨he, hg, _, _, _⟩
  obtain ⟨m1, hm1⟩ : ∃ m1, 1 + 3 * pl = m1 := ⟨_, rfl⟩
  rw [hm1] at he
  subst he
  have HS1 := Lib.hid (HS.out.grown hg (by simp; omega))
  have HX1 := Lib.hid (HX.out.grown hg (by simp; omega))
  have HG1 := Lib.hid hg
  have x4 := HX1.out.cell (j := 4) (by simp)
  simp at x4
  clear hg x0
  go_wp2_with fail
  refine (markstrs_any C sl sc m1 _ _ curS _ HS1.out rfl (by rw [hs]; exact Nat.le_refl _) (by omega) (by omega)).mono ?_
  rintro e w2 ⟨he, hg, _, _, _⟩
  obtain ⟨m2, hm2⟩ : ∃ m2, m1 + sl = m2 := ⟨_, rfl⟩
  rw [hm2] at he
  subst he
  have HG2 := Lib.hid hg
  clear hg x4
  go_wp2
  go_ret
  refine ⟨m2, rfl, (HLO.out.grown HG1.out (Nat.le_trans hw (by omega)) (fun k hk => by cases hk; exact hB)).grown HG2.out (by have := HG1.out.size; have := HLO.out.size; omega) (fun k hk => by cases hk; omega), fun Y hY h1 h2 => ?_⟩
  rw [HG2.out.block Y (by have := HG1.out.size; omega) (by simpa using h2), HG1.out.block Y (by omega) (by simpa using h1), HA.out.block Y hY]
end Go.Proofs.YtbjlojmadellgaaGreatDoor
namespace Go.Proofs.YtbjlojmadellgaaGreatDoor
open Go.ChangeShapes Go.WideShapes Go.ChangeAt Go.RowKit
set_option linter.unusedVariables false
set_option maxRecDepth 100000

def MarkedJobB (B C lo : Nat) (w : World) (e : Ending) (w' : World) : Prop :=
  ∃ k : Nat, e = .returned (.int .i64 (k : Int)) ∧ 1 ≤ k ∧ k ≤ 10000000 ∧ Below lo w w' ∧ ∀ X, X < w.heap.size → X ≠ B → X ≠ C → w'.heap[X]? = w.heap[X]?
set_option maxHeartbeats 2000000 in
theorem markjobb_any (B C lo pl sl pc sc : Nat) (e1 : Bool) (o1 n1 : Int) (curI curS : Array Value) (w : World) (hI : Row w B 100 curI) (hi : curI.size = pl * 3) (hS : Row w C 9 curS) (hs : curS.size = sl) (hB : lo ≤ B) (hBC : B < C) (hpl : pl ≤ 1048576) (hsl : sl ≤ 1048576) (hw : lo ≤ w.heap.size) :
    Calls Tryz.prog 16 #[.agg #[.slice (some ⟨B, 0, none⟩) pl pc, .bool e1, .int .i64 o1, .int .i64 n1, .slice (some ⟨C, 0, none⟩) sl sc], .int .i64 1] w (MarkedJobB B C lo w) := by
  have HI := Lib.hid (hI.al (.cells #[.slice (some ⟨B, 0, none⟩) pl pc, .bool e1, .int .i64 o1, .int .i64 n1, .slice (some ⟨C, 0, none⟩) sl sc] 35))
  have HS := Lib.hid (hS.al (.cells #[.slice (some ⟨B, 0, none⟩) pl pc, .bool e1, .int .i64 o1, .int .i64 n1, .slice (some ⟨C, 0, none⟩) sl sc] 35))
  have HX := Lib.hid (row_new w #[.slice (some ⟨B, 0, none⟩) pl pc, .bool e1, .int .i64 o1, .int .i64 n1, .slice (some ⟨C, 0, none⟩) sl sc] 35)
  have hBl := hI.lt
  have hCl := hS.lt
  have HA := Lib.hid (below_alloc (Below.refl w.heap.size w) (.cells #[.slice (some ⟨B, 0, none⟩) pl pc, .bool e1, .int .i64 o1, .int .i64 n1, .slice (some ⟨C, 0, none⟩) sl sc] 35))
  have HLO := Lib.hid (show Below lo w (w.alloc (.cells #[.slice (some ⟨B, 0, none⟩) pl pc, .bool e1, .int .i64 o1, .int .i64 n1, .slice (some ⟨C, 0, none⟩) sl sc] 35)) from ⟨HA.out.os, HA.out.tape, HA.out.output, HA.out.size, fun i hi => HA.out.block i (Nat.lt_of_lt_of_le hi hw)⟩)
  obtain ⟨X, hX⟩ : ∃ X, w.heap.size = X := ⟨_, rfl⟩
  obtain ⟨v, hv⟩ : ∃ v, w.alloc (.cells #[.slice (some ⟨B, 0, none⟩) pl pc, .bool e1, .int .i64 o1, .int .i64 n1, .slice (some ⟨C, 0, none⟩) sl sc] 35) = v := ⟨_, rfl⟩
  rw [hv, hX] at HX
  rw [hv] at HI HS HA HLO
  have hXl := HX.out.lt
  have x0 := HX.out.cell (j := 0) (by simp)
  simp at x0
  clear hI hS
  have HV := Lib.hid hv
  clear hv
  go_enter Tryz.func16, Tryz.ntmps16
  go_wp2_with fail
  rw [HV.out]
  try rw [hX]
  refine (markinss_any B pl pc 1 _ _ curI _ HI.out rfl (by rw [hi]; exact Nat.le_refl _) (Nat.le_refl 1) (by omega)).mono ?_
  rintro e w1 ⟨he, hg, _, _, _⟩
  obtain ⟨m1, hm1⟩ : ∃ m1, 1 + 3 * pl = m1 := ⟨_, rfl⟩
  rw [hm1] at he
  subst he
  have HS1 := Lib.hid (HS.out.grown hg (by simp; omega))
  have HX1 := Lib.hid (HX.out.grown hg (by simp; omega))
  have HG1 := Lib.hid hg
  have x4 := HX1.out.cell (j := 4) (by simp)
  simp at x4
  clear hg x0
  go_wp2_with fail
  refine (markstrs_any C sl sc m1 _ _ curS _ HS1.out rfl (by rw [hs]; exact Nat.le_refl _) (by omega) (by omega)).mono ?_
  rintro e w2 ⟨he, hg, _, _, _⟩
  obtain ⟨m2, hm2⟩ : ∃ m2, m1 + sl = m2 := ⟨_, rfl⟩
  rw [hm2] at he
  subst he
  have HG2 := Lib.hid hg
  clear hg x4
  go_wp2
  go_ret
  refine ⟨m2, rfl, by omega, by omega, (HLO.out.grown HG1.out (Nat.le_trans hw (by omega)) (fun k hk => by cases hk; exact hB)).grown HG2.out (by have := HG1.out.size; have := HLO.out.size; omega) (fun k hk => by cases hk; omega), fun Y hY h1 h2 => ?_⟩
  rw [HG2.out.block Y (by have := HG1.out.size; omega) (by simpa using h2), HG1.out.block Y (by omega) (by simpa using h1), HA.out.block Y hY]
end Go.Proofs.YtbjlojmadellgaaGreatDoor
