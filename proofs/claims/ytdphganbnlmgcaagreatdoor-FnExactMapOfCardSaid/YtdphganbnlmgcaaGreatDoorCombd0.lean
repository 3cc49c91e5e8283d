
/- The functions that combining hands about: the key of a record, the functions of the ops, and the join of two records. -/
import Derived.Test.YtdphganbnlmgcaaGreatDoorMg1
import Derived.StillTailTactics
namespace Go.Proofs.YtdphganbnlmgcaaGreatDoor
open Go.ChangeShapes Go.WideShapes Go.ChangeAt Go.RowKit
set_option linter.unusedVariables false
set_option maxRecDepth 100000

theorem reckey_any (s : ByteArray) (n : Int) (w : World) :
    Calls Tryz.prog 72 #[.agg #[.string s, .int .i64 n]] w fun e w' => e = .returned (.string s) ∧ Below w.heap.size w w' := by
  go_enter Tryz.func72, Tryz.ntmps72
  go_wp2
  go_ret
  exact ⟨rfl, below_alloc (Below.refl _ _) _⟩

theorem fn_1 (a b : Int) (w : World) : Calls Tryz.prog 62 #[.int .i64 a, .int .i64 b] w fun e w' => e = .returned (.int .i64 (combN 1 a b)) ∧ w = w' := by
  go_enter Tryz.func62, Tryz.ntmps62
  go_wp2
  go_ret
  exact ⟨by first | rfl | (rw [← comb_sum 1 a b (.inl rfl)]), rfl⟩
theorem fn_2 (a b : Int) (w : World) : Calls Tryz.prog 63 #[.int .i64 a, .int .i64 b] w fun e w' => e = .returned (.int .i64 (combN 2 a b)) ∧ w = w' := by
  by_cases h : b < a
  · have e := comb_lo a b h
    rw [← e]
    clear e
    go_enter Tryz.func63, Tryz.ntmps63
    go_wp2
    go_ret
    exact ⟨rfl, rfl⟩
  · have e := comb_lo' a b h
    rw [← e]
    clear e
    go_enter Tryz.func63, Tryz.ntmps63
    go_wp2
    go_ret
    exact ⟨rfl, rfl⟩
theorem fn_3 (a b : Int) (w : World) : Calls Tryz.prog 64 #[.int .i64 a, .int .i64 b] w fun e w' => e = .returned (.int .i64 (combN 3 a b)) ∧ w = w' := by
  by_cases h : a < b
  · have e := comb_hi a b h
    rw [← e]
    clear e
    go_enter Tryz.func64, Tryz.ntmps64
    go_wp2
    go_ret
    exact ⟨rfl, rfl⟩
  · have e := comb_hi' a b h
    rw [← e]
    clear e
    go_enter Tryz.func64, Tryz.ntmps64
    go_wp2
    go_ret
    exact ⟨rfl, rfl⟩

/-- The function value of an op. -/
def fnNum (op : Int) : Nat := if op = 2 then 63 else if op = 3 then 64 else 62
def fnOf (op : Int) : Value := .func (Fn.func (fnNum op)) #[] #[]
theorem comb_14 (a b : Int) : combN 4 a b = combN 1 a b := by rw [← comb_sum 4 a b (.inr rfl), ← comb_sum 1 a b (.inl rfl)]
theorem fn_any (op a b : Int) (w : World) (h : opOkB op = true) : Calls Tryz.prog (fnNum op) #[.int .i64 a, .int .i64 b] w fun e w' => e = .returned (.int .i64 (combN op a b)) ∧ w = w' := by
  rcases op_ways h with rfl | rfl | rfl | rfl
  · exact fn_1 a b w
  · exact fn_2 a b w
  · exact fn_3 a b w
  · rw [comb_14]; exact fn_1 a b w
theorem combinerF_any (op : Int) (w : World) (h : opOkB op = true) : Calls Tryz.prog 45 #[.int .i64 op] w fun e w' => e = .returned (.tuple #[fnOf op, .bool true]) ∧ w = w' := by
  rcases op_ways h with rfl | rfl | rfl | rfl
  all_goals (
    clear h
    go_enter Tryz.func45, Tryz.ntmps45
    go_wp2
    go_ret2
    exact ⟨rfl, rfl⟩)

theorem combinerF_no (op : Int) (w : World) (h : opOkB op = false) : Calls Tryz.prog 45 #[.int .i64 op] w fun e w' => e = .returned (.tuple #[.nilFunc, .bool false]) ∧ w = w' := by
  obtain ⟨h1, h2, h3, h4⟩ := op_none h
  have g1 : (op == 1) = false := by simpa using h1
  have g2 : (op == 2) = false := by simpa using h2
  have g3 : (op == 3) = false := by simpa using h3
  have g4 : (op == 4) = false := by simpa using h4
  clear h h1 h2 h3 h4
  go_enter Tryz.func45, Tryz.ntmps45
  go_wp2
  go_ret2
  exact ⟨rfl, rfl⟩

set_option maxHeartbeats 2000000 in
theorem join_1 (p : Nat) (s u : ByteArray) (n m : Int) (w : World) (hp : w.cell? ⟨p, 0, none⟩ = some (.func (Fn.func 62) #[] #[])) :
    Calls Tryz.prog 69 #[.agg #[.string s, .int .i64 n], .agg #[.string u, .int .i64 m], .pointer (some ⟨p, 0, none⟩)] w fun e w' => e = .returned (.agg #[.string s, .int .i64 (combN 1 n m)]) ∧ Below w.heap.size w w' := by
  have hpl : p < w.heap.size := World.block_lt_of_cell? _ _ hp
  obtain ⟨w1, hw1⟩ : ∃ w1, w1 = ((w.alloc (.cells #[.string s, .int .i64 n] 50)).alloc (.cells #[.string u, .int .i64 m] 50)).alloc (.cells #[.string ByteArray.empty, .int .i64 0] 50) := ⟨_, rfl⟩
  have r0 : Row w1 w.heap.size 50 #[.string s, .int .i64 n] := hw1 ▸ ((Row.new w _ _).keep (below_alloc (Below.refl _ _) _)).keep (below_alloc (Below.refl _ _) _)
  have r1 : Row w1 (w.heap.size + 1) 50 #[.string u, .int .i64 m] := by
    have := (Row.new (w.alloc (.cells #[.string s, .int .i64 n] 50)) 50 #[.string u, .int .i64 m]).keep (below_alloc (Below.refl _ _) (.cells #[.string ByteArray.empty, .int .i64 0] 50))
    rw [← hw1] at this
    simpa using this
  have r2 : Row w1 (w.heap.size + 1 + 1) 50 #[.string ByteArray.empty, .int .i64 0] := by
    have := Row.new ((w.alloc (.cells #[.string s, .int .i64 n] 50)).alloc (.cells #[.string u, .int .i64 m] 50)) 50 #[.string ByteArray.empty, .int .i64 0]
    rw [← hw1] at this
    simpa using this
  have hB : Below w.heap.size w w1 := hw1 ▸ below_alloc (below_alloc (below_alloc (Below.refl _ _) _) _) _
  have c0 := r0.cell (j := 0) (by simp)
  have c1 := r0.cell (j := 1) (by simp)
  have d1 := r1.cell (j := 1) (by simp)
  have e0 := r2.cell (j := 0) (by simp)
  have e1 := r2.cell (j := 1) (by simp)
  have hp1 := (hB.cell (p := ⟨p, 0, none⟩) hpl).trans hp
  have z0 := r2.free 0
  have z1 := r2.free 1
  simp only [List.getElem_toArray, List.getElem_cons_zero, List.getElem_cons_succ] at c0 c1 d1 e0 e1
  have HW := Lib.hid hw1
  have HB := Lib.hid hB
  have HR := Lib.hid r2
  clear hw1 hB r0 r1 r2 hp hpl
  go_enter Tryz.func69, Tryz.ntmps69
  go_wp2_with fail
  (first | rw [← HW.out] | (rw [show ({ data := #[] } : ByteArray) = ByteArray.empty from rfl, ← HW.out]))
  refine wp_region_still_tail 9 (by kernel_rfl) (by kernel_rfl) ?_
  simp only [List.take_succ_cons, List.take_zero, List.drop_succ_cons, List.drop_zero]
  iterate 7 still_step
  still_call ((fn_1 _ _ _).mono fun _ _ ⟨he, hw⟩ => ⟨he, hw.symm⟩)
  still_step
  refine wpStill_nil ?_
  change wpList _ _ _ _ _ w1.drew
  go_wp2
  have hr := ((HR.out.set 0 (.string s)).set 1 (.int .i64 (combN 1 n m))).keep ((Below.refl _ _).drew)
  have hh : (((w1.setCell ⟨w.heap.size + 1 + 1, 0, none⟩ (.string s)).setCell ⟨w.heap.size + 1 + 1, 1, none⟩ (.int .i64 (combN 1 n m))).drew).heap[w.heap.size + 1 + 1]? = some (.cells #[.string s, .int .i64 (combN 1 n m)] 50 (0, 0)) := hr
  have hbel := ((HB.out.setCell (p := ⟨w.heap.size + 1 + 1, 0, none⟩) (by show w.heap.size ≤ w.heap.size + 1 + 1; omega) (.string s)).setCell (p := ⟨w.heap.size + 1 + 1, 1, none⟩) (by show w.heap.size ≤ w.heap.size + 1 + 1; omega) (.int .i64 (combN 1 n m))).drew
  exact bodyPost_ret (v := .agg #[.string s, .int .i64 (combN 1 n m)]) (by simp [results, Tryz.results69, go_sem, World.cell?, hh]) rfl ⟨rfl, hbel⟩

set_option maxHeartbeats 2000000 in
theorem join_2 (p : Nat) (s u : ByteArray) (n m : Int) (w : World) (hp : w.cell? ⟨p, 0, none⟩ = some (.func (Fn.func 63) #[] #[])) :
    Calls Tryz.prog 69 #[.agg #[.string s, .int .i64 n], .agg #[.string u, .int .i64 m], .pointer (some ⟨p, 0, none⟩)] w fun e w' => e = .returned (.agg #[.string s, .int .i64 (combN 2 n m)]) ∧ Below w.heap.size w w' := by
  have hpl : p < w.heap.size := World.block_lt_of_cell? _ _ hp
  obtain ⟨w1, hw1⟩ : ∃ w1, w1 = ((w.alloc (.cells #[.string s, .int .i64 n] 50)).alloc (.cells #[.string u, .int .i64 m] 50)).alloc (.cells #[.string ByteArray.empty, .int .i64 0] 50) := ⟨_, rfl⟩
  have r0 : Row w1 w.heap.size 50 #[.string s, .int .i64 n] := hw1 ▸ ((Row.new w _ _).keep (below_alloc (Below.refl _ _) _)).keep (below_alloc (Below.refl _ _) _)
  have r1 : Row w1 (w.heap.size + 1) 50 #[.string u, .int .i64 m] := by
    have := (Row.new (w.alloc (.cells #[.string s, .int .i64 n] 50)) 50 #[.string u, .int .i64 m]).keep (below_alloc (Below.refl _ _) (.cells #[.string ByteArray.empty, .int .i64 0] 50))
    rw [← hw1] at this
    simpa using this
  have r2 : Row w1 (w.heap.size + 1 + 1) 50 #[.string ByteArray.empty, .int .i64 0] := by
    have := Row.new ((w.alloc (.cells #[.string s, .int .i64 n] 50)).alloc (.cells #[.string u, .int .i64 m] 50)) 50 #[.string ByteArray.empty, .int .i64 0]
    rw [← hw1] at this
    simpa using this
  have hB : Below w.heap.size w w1 := hw1 ▸ below_alloc (below_alloc (below_alloc (Below.refl _ _) _) _) _
  have c0 := r0.cell (j := 0) (by simp)
  have c1 := r0.cell (j := 1) (by simp)
  have d1 := r1.cell (j := 1) (by simp)
  have e0 := r2.cell (j := 0) (by simp)
  have e1 := r2.cell (j := 1) (by simp)
  have hp1 := (hB.cell (p := ⟨p, 0, none⟩) hpl).trans hp
  have z0 := r2.free 0
  have z1 := r2.free 1
  simp only [List.getElem_toArray, List.getElem_cons_zero, List.getElem_cons_succ] at c0 c1 d1 e0 e1
  have HW := Lib.hid hw1
  have HB := Lib.hid hB
  have HR := Lib.hid r2
  clear hw1 hB r0 r1 r2 hp hpl
  go_enter Tryz.func69, Tryz.ntmps69
  go_wp2_with fail
  (first | rw [← HW.out] | (rw [show ({ data := #[] } : ByteArray) = ByteArray.empty from rfl, ← HW.out]))
  refine wp_region_still_tail 9 (by kernel_rfl) (by kernel_rfl) ?_
  simp only [List.take_succ_cons, List.take_zero, List.drop_succ_cons, List.drop_zero]
  iterate 7 still_step
  still_call ((fn_2 _ _ _).mono fun _ _ ⟨he, hw⟩ => ⟨he, hw.symm⟩)
  still_step
  refine wpStill_nil ?_
  change wpList _ _ _ _ _ w1.drew
  go_wp2
  have hr := ((HR.out.set 0 (.string s)).set 1 (.int .i64 (combN 2 n m))).keep ((Below.refl _ _).drew)
  have hh : (((w1.setCell ⟨w.heap.size + 1 + 1, 0, none⟩ (.string s)).setCell ⟨w.heap.size + 1 + 1, 1, none⟩ (.int .i64 (combN 2 n m))).drew).heap[w.heap.size + 1 + 1]? = some (.cells #[.string s, .int .i64 (combN 2 n m)] 50 (0, 0)) := hr
  have hbel := ((HB.out.setCell (p := ⟨w.heap.size + 1 + 1, 0, none⟩) (by show w.heap.size ≤ w.heap.size + 1 + 1; omega) (.string s)).setCell (p := ⟨w.heap.size + 1 + 1, 1, none⟩) (by show w.heap.size ≤ w.heap.size + 1 + 1; omega) (.int .i64 (combN 2 n m))).drew
  exact bodyPost_ret (v := .agg #[.string s, .int .i64 (combN 2 n m)]) (by simp [results, Tryz.results69, go_sem, World.cell?, hh]) rfl ⟨rfl, hbel⟩

set_option maxHeartbeats 2000000 in
theorem join_3 (p : Nat) (s u : ByteArray) (n m : Int) (w : World) (hp : w.cell? ⟨p, 0, none⟩ = some (.func (Fn.func 64) #[] #[])) :
    Calls Tryz.prog 69 #[.agg #[.string s, .int .i64 n], .agg #[.string u, .int .i64 m], .pointer (some ⟨p, 0, none⟩)] w fun e w' => e = .returned (.agg #[.string s, .int .i64 (combN 3 n m)]) ∧ Below w.heap.size w w' := by
  have hpl : p < w.heap.size := World.block_lt_of_cell? _ _ hp
  obtain ⟨w1, hw1⟩ : ∃ w1, w1 = ((w.alloc (.cells #[.string s, .int .i64 n] 50)).alloc (.cells #[.string u, .int .i64 m] 50)).alloc (.cells #[.string ByteArray.empty, .int .i64 0] 50) := ⟨_, rfl⟩
  have r0 : Row w1 w.heap.size 50 #[.string s, .int .i64 n] := hw1 ▸ ((Row.new w _ _).keep (below_alloc (Below.refl _ _) _)).keep (below_alloc (Below.refl _ _) _)
  have r1 : Row w1 (w.heap.size + 1) 50 #[.string u, .int .i64 m] := by
    have := (Row.new (w.alloc (.cells #[.string s, .int .i64 n] 50)) 50 #[.string u, .int .i64 m]).keep (below_alloc (Below.refl _ _) (.cells #[.string ByteArray.empty, .int .i64 0] 50))
    rw [← hw1] at this
    simpa using this
  have r2 : Row w1 (w.heap.size + 1 + 1) 50 #[.string ByteArray.empty, .int .i64 0] := by
    have := Row.new ((w.alloc (.cells #[.string s, .int .i64 n] 50)).alloc (.cells #[.string u, .int .i64 m] 50)) 50 #[.string ByteArray.empty, .int .i64 0]
    rw [← hw1] at this
    simpa using this
  have hB : Below w.heap.size w w1 := hw1 ▸ below_alloc (below_alloc (below_alloc (Below.refl _ _) _) _) _
  have c0 := r0.cell (j := 0) (by simp)
  have c1 := r0.cell (j := 1) (by simp)
  have d1 := r1.cell (j := 1) (by simp)
  have e0 := r2.cell (j := 0) (by simp)
  have e1 := r2.cell (j := 1) (by simp)
  have hp1 := (hB.cell (p := ⟨p, 0, none⟩) hpl).trans hp
  have z0 := r2.free 0
  have z1 := r2.free 1
  simp only [List.getElem_toArray, List.getElem_cons_zero, List.getElem_cons_succ] at c0 c1 d1 e0 e1
  have HW := Lib.hid hw1
  have HB := Lib.hid hB
  have HR := Lib.hid r2
  clear hw1 hB r0 r1 r2 hp hpl
  go_enter Tryz.func69, Tryz.ntmps69
  go_wp2_with fail
  (first | rw [← HW.out] | (rw [show ({ data := #[] } : ByteArray) = ByteArray.empty from rfl, ← HW.out]))
  refine wp_region_still_tail 9 (by kernel_rfl) (by kernel_rfl) ?_
  simp only [List.take_succ_cons, List.take_zero, List.drop_succ_cons, List.drop_zero]
  iterate 7 still_step
  still_call ((fn_3 _ _ _).mono fun _ _ ⟨he, hw⟩ => ⟨he, hw.symm⟩)
  still_step
  refine wpStill_nil ?_
  change wpList _ _ _ _ _ w1.drew
  go_wp2
  have hr := ((HR.out.set 0 (.string s)).set 1 (.int .i64 (combN 3 n m))).keep ((Below.refl _ _).drew)
  have hh : (((w1.setCell ⟨w.heap.size + 1 + 1, 0, none⟩ (.string s)).setCell ⟨w.heap.size + 1 + 1, 1, none⟩ (.int .i64 (combN 3 n m))).drew).heap[w.heap.size + 1 + 1]? = some (.cells #[.string s, .int .i64 (combN 3 n m)] 50 (0, 0)) := hr
  have hbel := ((HB.out.setCell (p := ⟨w.heap.size + 1 + 1, 0, none⟩) (by show w.heap.size ≤ w.heap.size + 1 + 1; omega) (.string s)).setCell (p := ⟨w.heap.size + 1 + 1, 1, none⟩) (by show w.heap.size ≤ w.heap.size + 1 + 1; omega) (.int .i64 (combN 3 n m))).drew
  exact bodyPost_ret (v := .agg #[.string s, .int .i64 (combN 3 n m)]) (by simp [results, Tryz.results69, go_sem, World.cell?, hh]) rfl ⟨rfl, hbel⟩

theorem join_any (op : Int) (p : Nat) (s u : ByteArray) (n m : Int) (w : World) (h : opOkB op = true) (hp : w.cell? ⟨p, 0, none⟩ = some (fnOf op)) :
    Calls Tryz.prog 69 #[.agg #[.string s, .int .i64 n], .agg #[.string u, .int .i64 m], .pointer (some ⟨p, 0, none⟩)] w fun e w' => e = .returned (.agg #[.string s, .int .i64 (combN op n m)]) ∧ Below w.heap.size w w' := by
  rcases op_ways h with rfl | rfl | rfl | rfl
  · exact join_1 p s u n m w hp
  · exact join_2 p s u n m w hp
  · exact join_3 p s u n m w hp
  · rw [comb_14]; exact join_1 p s u n m w hp
end Go.Proofs.YtdphganbnlmgcaaGreatDoor
