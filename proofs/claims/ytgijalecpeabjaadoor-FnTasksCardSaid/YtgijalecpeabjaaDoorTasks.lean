
/- TasksOf of the program and of its model. Only new blocks are made. -/
import Derived.Test.YtgijalecpeabjaaDoorJobOk
namespace Go.Proofs.YtgijalecpeabjaaDoor
open Go.ChangeShapes Go.WideShapes Go.ChangeAt Go.RowKit
set_option linter.unusedVariables false
set_option maxRecDepth 100000

def tasksB (l : Instrs) (o1 n1 : Int) (m : Strs) (sl : Nat) : Int := if jobB l o1 n1 m sl then (sl : Int) + n1 else 0
def MadeIntJ (x : Int) (w : World) (e : Ending) (w' : World) : Prop := e = .returned (.int .i64 x) ∧ Below w.heap.size w w'
theorem job_few {l : Instrs} {o1 n1 : Int} {m : Strs} {sl : Nat} (h : jobB l o1 n1 m sl = true) : 1 ≤ n1 ∧ n1 ≤ 3 ∧ 1 ≤ sl ∧ sl ≤ 4 := by
  unfold jobB splitsB inB at h
  simp only [Bool.and_eq_true, decide_eq_true_eq] at h
  omega

set_option maxHeartbeats 2000000 in
theorem tasks_any (p s : Option Addr) (pl pc sl sc : Nat) (e1 : Bool) (o1 n1 : Int) (l : Instrs) (m : Strs) (w : World) (h : JobAt w p pl l s sl m) (hsz : ∀ i, i < sl → (strAt m i).size ≤ 1048576) (hT : TabsP w) :
    Calls Tryd.prog 34 #[.agg #[.slice p pl pc, .bool e1, .int .i64 o1, .int .i64 n1, .slice s sl sc]] w (MadeIntJ (tasksB l o1 n1 m sl) w) := by
  have HB := Lib.hid (below_alloc (Below.refl w.heap.size w) (.cells #[.slice p pl pc, .bool e1, .int .i64 o1, .int .i64 n1, .slice s sl sc] 44))
  have HX := Lib.hid (row_new w #[.slice p pl pc, .bool e1, .int .i64 o1, .int .i64 n1, .slice s sl sc] 44)
  have HS := Lib.hid (h.keep HB.out)
  have HT := Lib.hid (hT.keep HB.out)
  have HZ := Lib.hid hsz
  obtain ⟨q, hq⟩ : ∃ q, jobB l o1 n1 m sl = q := ⟨_, rfl⟩
  obtain ⟨r, hr⟩ : ∃ r, tasksB l o1 n1 m sl = r := ⟨_, rfl⟩
  have HQ := Lib.hid hq
  have HR := Lib.hid (show r = if q then (sl : Int) + n1 else 0 by rw [← hr, ← hq]; rfl)
  rw [hr]
  clear h hsz hT hq hr
  go_enter Tryd.func34, Tryd.ntmps34
  go_wp2_with fail
  refine (jobok_any _ _ _ _ _ _ _ _ _ l m _ HS.out HZ.out HT.out).mono ?_
  rw [HQ.out]
  rintro e w2 ⟨rfl, hB⟩
  have HX := Lib.hid (HX.out.keep hB)
  have HB := Lib.hid (below_via HB.out hB)
  have c3 := HX.out.cell (j := 3) (by simp)
  have c4 := HX.out.cell (j := 4) (by simp)
  simp at c3 c4
  clear hB
  cases q
  · go_wp2
    go_ret
    exact ⟨by rw [HR.out]; rfl, HB.out⟩
  · obtain ⟨h1, h2, h3, h4⟩ := job_few HQ.out
    go_wp2
    go_ret
    exact ⟨by rw [HR.out]; rfl, HB.out⟩

set_option maxHeartbeats 2000000 in
theorem stasks_any (p s : Option Addr) (pl pc sl sc : Nat) (e1 : Bool) (o1 n1 : Int) (l : Instrs) (m : Strs) (w : World) (h : JobAt w p pl l s sl m) (hsz : ∀ i, i < sl → (strAt m i).size ≤ 1048576) :
    Calls Tryd.prog 33 #[.agg #[.slice p pl pc, .bool e1, .int .i64 o1, .int .i64 n1, .slice s sl sc]] w (MadeIntJ (tasksB l o1 n1 m sl) w) := by
  have HB := Lib.hid (below_alloc (Below.refl w.heap.size w) (.cells #[.slice p pl pc, .bool e1, .int .i64 o1, .int .i64 n1, .slice s sl sc] 44))
  have HX := Lib.hid (row_new w #[.slice p pl pc, .bool e1, .int .i64 o1, .int .i64 n1, .slice s sl sc] 44)
  have HS := Lib.hid (h.keep HB.out)
  have HZ := Lib.hid hsz
  obtain ⟨q, hq⟩ : ∃ q, jobB l o1 n1 m sl = q := ⟨_, rfl⟩
  obtain ⟨r, hr⟩ : ∃ r, tasksB l o1 n1 m sl = r := ⟨_, rfl⟩
  have HQ := Lib.hid hq
  have HR := Lib.hid (show r = if q then (sl : Int) + n1 else 0 by rw [← hr, ← hq]; rfl)
  rw [hr]
  clear h hsz hq hr
  go_enter Tryd.func33, Tryd.ntmps33
  go_wp2_with fail
  refine (sjobok_any _ _ _ _ _ _ _ _ _ l m _ HS.out HZ.out).mono ?_
  rw [HQ.out]
  rintro e w2 ⟨rfl, hB⟩
  have HX := Lib.hid (HX.out.keep hB)
  have HB := Lib.hid (below_via HB.out hB)
  have c3 := HX.out.cell (j := 3) (by simp)
  have c4 := HX.out.cell (j := 4) (by simp)
  simp at c3 c4
  clear hB
  cases q
  · go_wp2
    go_ret
    exact ⟨by rw [HR.out]; rfl, HB.out⟩
  · obtain ⟨h1, h2, h3, h4⟩ := job_few HQ.out
    go_wp2
    go_ret
    exact ⟨by rw [HR.out]; rfl, HB.out⟩
end Go.Proofs.YtgijalecpeabjaaDoor
