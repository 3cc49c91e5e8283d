/- Texts put together, as a claim holds at most sixty files. -/
import Derived.Test.YtjofbeokkainlaaGreatDoorMg2
import Derived.Test.YtjofbeokkainlaaGreatDoorMg1
import Derived.StillTailTactics
import Derived.Test.YtjofbeokkainlaaGreatDoorMg20
import Derived.Test.YtjofbeokkainlaaGreatDoorMg18
namespace Go.Proofs.YtjofbeokkainlaaGreatDoor
open Go.ChangeShapes Go.WideShapes Go.ChangeAt Go.RowKit
set_option linter.unusedVariables false
set_option maxRecDepth 100000

theorem reckey_any (s : ByteArray) (n : Int) (w : World) :
    Calls Tryz.prog 39 #[.agg #[.string s, .int .i64 n]] w fun e w' => e = .returned (.string s) ∧ Below w.heap.size w w' := by
  go_enter Tryz.func39, Tryz.ntmps39
  go_wp2
  go_ret
  exact ⟨rfl, below_alloc (Below.refl _ _) _⟩

theorem fn_1 (a b : Int) (w : World) : Calls Tryz.prog 69 #[.int .i64 a, .int .i64 b] w fun e w' => e = .returned (.int .i64 (combN 1 a b)) ∧ w = w' := by
  go_enter Tryz.func69, Tryz.ntmps69
  go_wp2
  go_ret
  exact ⟨by first | rfl | (rw [← comb_sum 1 a b (.inl rfl)]), rfl⟩
theorem fn_2 (a b : Int) (w : World) : Calls Tryz.prog 70 #[.int .i64 a, .int .i64 b] w fun e w' => e = .returned (.int .i64 (combN 2 a b)) ∧ w = w' := by
  by_cases h : b < a
  · have e := comb_lo a b h
    rw [← e]
    clear e
    go_enter Tryz.func70, Tryz.ntmps70
    go_wp2
    go_ret
    exact ⟨rfl, rfl⟩
  · have e := comb_lo' a b h
    rw [← e]
    clear e
    go_enter Tryz.func70, Tryz.ntmps70
    go_wp2
    go_ret
    exact ⟨rfl, rfl⟩
theorem fn_3 (a b : Int) (w : World) : Calls Tryz.prog 71 #[.int .i64 a, .int .i64 b] w fun e w' => e = .returned (.int .i64 (combN 3 a b)) ∧ w = w' := by
  by_cases h : a < b
  · have e := comb_hi a b h
    rw [← e]
    clear e
    go_enter Tryz.func71, Tryz.ntmps71
    go_wp2
    go_ret
    exact ⟨rfl, rfl⟩
  · have e := comb_hi' a b h
    rw [← e]
    clear e
    go_enter Tryz.func71, Tryz.ntmps71
    go_wp2
    go_ret
    exact ⟨rfl, rfl⟩

/-- The function value of an op. -/
def fnNum (op : Int) : Nat := if op = 2 then 70 else if op = 3 then 71 else 69
def fnOf (op : Int) : Value := .func (Fn.func (fnNum op)) #[] #[]
theorem comb_14 (a b : Int) : combN 4 a b = combN 1 a b := by rw [← comb_sum 4 a b (.inr rfl), ← comb_sum 1 a b (.inl rfl)]
theorem fn_any (op a b : Int) (w : World) (h : opOkB op = true) : Calls Tryz.prog (fnNum op) #[.int .i64 a, .int .i64 b] w fun e w' => e = .returned (.int .i64 (combN op a b)) ∧ w = w' := by
  rcases op_ways h with rfl | rfl | rfl | rfl
  · exact fn_1 a b w
  · exact fn_2 a b w
  · exact fn_3 a b w
  · rw [comb_14]; exact fn_1 a b w
theorem combinerF_any (op : Int) (w : World) (h : opOkB op = true) : Calls Tryz.prog 36 #[.int .i64 op] w fun e w' => e = .returned (.tuple #[fnOf op, .bool true]) ∧ w = w' := by
  rcases op_ways h with rfl | rfl | rfl | rfl
  all_goals (
    clear h
    go_enter Tryz.func36, Tryz.ntmps36
    go_wp2
    go_ret2
    exact ⟨rfl, rfl⟩)

theorem combinerF_no (op : Int) (w : World) (h : opOkB op = false) : Calls Tryz.prog 36 #[.int .i64 op] w fun e w' => e = .returned (.tuple #[.nilFunc, .bool false]) ∧ w = w' := by
  obtain ⟨h1, h2, h3, h4⟩ := op_none h
  have g1 : (op == 1) = false := by simpa using h1
  have g2 : (op == 2) = false := by simpa using h2
  have g3 : (op == 3) = false := by simpa using h3
  have g4 : (op == 4) = false := by simpa using h4
  clear h h1 h2 h3 h4
  go_enter Tryz.func36, Tryz.ntmps36
  go_wp2
  go_ret2
  exact ⟨rfl, rfl⟩

set_option maxHeartbeats 2000000 in
theorem join_1 (p : Nat) (s u : ByteArray) (n m : Int) (w : World) (hp : w.cell? ⟨p, 0, none⟩ = some (.func (Fn.func 69) #[] #[])) :
    Calls Tryz.prog 37 #[.agg #[.string s, .int .i64 n], .agg #[.string u, .int .i64 m], .pointer (some ⟨p, 0, none⟩)] w fun e w' => e = .returned (.agg #[.string s, .int .i64 (combN 1 n m)]) ∧ Below w.heap.size w w' := by
  have hpl : p < w.heap.size := World.block_lt_of_cell? _ _ hp
  obtain ⟨w1, hw1⟩ : ∃ w1, w1 = ((w.alloc (.cells #[.string s, .int .i64 n] 37)).alloc (.cells #[.string u, .int .i64 m] 37)).alloc (.cells #[.string ByteArray.empty, .int .i64 0] 37) := ⟨_, rfl⟩
  have r0 : Row w1 w.heap.size 37 #[.string s, .int .i64 n] := hw1 ▸ ((Row.new w _ _).keep (below_alloc (Below.refl _ _) _)).keep (below_alloc (Below.refl _ _) _)
  have r1 : Row w1 (w.heap.size + 1) 37 #[.string u, .int .i64 m] := by
    have := (Row.new (w.alloc (.cells #[.string s, .int .i64 n] 37)) 37 #[.string u, .int .i64 m]).keep (below_alloc (Below.refl _ _) (.cells #[.string ByteArray.empty, .int .i64 0] 37))
    rw [← hw1] at this
    simpa using this
  have r2 : Row w1 (w.heap.size + 1 + 1) 37 #[.string ByteArray.empty, .int .i64 0] := by
    have := Row.new ((w.alloc (.cells #[.string s, .int .i64 n] 37)).alloc (.cells #[.string u, .int .i64 m] 37)) 37 #[.string ByteArray.empty, .int .i64 0]
    rw [← hw1] at this
    simpa using this
  have hB : Below w.heap.size w w1 := hw1 ▸ below_alloc (below_alloc (below_alloc (Below.refl _ _) _) _) _
  have c0 := r0.cell (j := 0) (by simp)
  have c1 := r0.cell (j := 1) (by simp)
  have d1 := r1.cell (j := 1) (by simp)
  have e0 := r2.cell (j := 0) (by simp)
  have e1 := r2.cell (j := 1) (by simp)
  have hp1 := (hB.cell (p := ⟨p, 0, none⟩) hpl).trans hp
  have z0 := r2.free 0
  have z1 := r2.free 1
  simp only [List.getElem_toArray, List.getElem_cons_zero, List.getElem_cons_succ] at c0 c1 d1 e0 e1
  have HW := Lib.hid hw1
  have HB := Lib.hid hB
  have HR := Lib.hid r2
  clear hw1 hB r0 r1 r2 hp hpl
  go_enter Tryz.func37, Tryz.ntmps37
  go_wp2_with fail
  (first | rw [← HW.out] | (rw [show ({ data := #[] } : ByteArray) = ByteArray.empty from rfl, ← HW.out]))
  refine wp_region_still_tail 9 (by kernel_rfl) (by kernel_rfl) ?_
  simp only [List.take_succ_cons, List.take_zero, List.drop_succ_cons, List.drop_zero]
  iterate 7 still_step
  still_call ((fn_1 _ _ _).mono fun _ _ ⟨he, hw⟩ => ⟨he, hw.symm⟩)
  still_step
  refine wpStill_nil ?_
  change wpList _ _ _ _ _ w1.drew
  go_wp2
  have hr := ((HR.out.set 0 (.string s)).set 1 (.int .i64 (combN 1 n m))).keep ((Below.refl _ _).drew)
  have hh : (((w1.setCell ⟨w.heap.size + 1 + 1, 0, none⟩ (.string s)).setCell ⟨w.heap.size + 1 + 1, 1, none⟩ (.int .i64 (combN 1 n m))).drew).heap[w.heap.size + 1 + 1]? = some (.cells #[.string s, .int .i64 (combN 1 n m)] 37 (0, 0)) := hr
  have hbel := ((HB.out.setCell (p := ⟨w.heap.size + 1 + 1, 0, none⟩) (by show w.heap.size ≤ w.heap.size + 1 + 1; omega) (.string s)).setCell (p := ⟨w.heap.size + 1 + 1, 1, none⟩) (by show w.heap.size ≤ w.heap.size + 1 + 1; omega) (.int .i64 (combN 1 n m))).drew
  exact bodyPost_ret (v := .agg #[.string s, .int .i64 (combN 1 n m)]) (by simp [results, Tryz.results37, go_sem, World.cell?, hh]) rfl ⟨rfl, hbel⟩

set_option maxHeartbeats 2000000 in
theorem join_2 (p : Nat) (s u : ByteArray) (n m : Int) (w : World) (hp : w.cell? ⟨p, 0, none⟩ = some (.func (Fn.func 70) #[] #[])) :
    Calls Tryz.prog 37 #[.agg #[.string s, .int .i64 n], .agg #[.string u, .int .i64 m], .pointer (some ⟨p, 0, none⟩)] w fun e w' => e = .returned (.agg #[.string s, .int .i64 (combN 2 n m)]) ∧ Below w.heap.size w w' := by
  have hpl : p < w.heap.size := World.block_lt_of_cell? _ _ hp
  obtain ⟨w1, hw1⟩ : ∃ w1, w1 = ((w.alloc (.cells #[.string s, .int .i64 n] 37)).alloc (.cells #[.string u, .int .i64 m] 37)).alloc (.cells #[.string ByteArray.empty, .int .i64 0] 37) := ⟨_, rfl⟩
  have r0 : Row w1 w.heap.size 37 #[.string s, .int .i64 n] := hw1 ▸ ((Row.new w _ _).keep (below_alloc (Below.refl _ _) _)).keep (below_alloc (Below.refl _ _) _)
  have r1 : Row w1 (w.heap.size + 1) 37 #[.string u, .int .i64 m] := by
    have := (Row.new (w.alloc (.cells #[.string s, .int .i64 n] 37)) 37 #[.string u, .int .i64 m]).keep (below_alloc (Below.refl _ _) (.cells #[.string ByteArray.empty, .int .i64 0] 37))
    rw [← hw1] at this
    simpa using this
  have r2 : Row w1 (w.heap.size + 1 + 1) 37 #[.string ByteArray.empty, .int .i64 0] := by
    have := Row.new ((w.alloc (.cells #[.string s, .int .i64 n] 37)).alloc (.cells #[.string u, .int .i64 m] 37)) 37 #[.string ByteArray.empty, .int .i64 0]
    rw [← hw1] at this
    simpa using this
  have hB : Below w.heap.size w w1 := hw1 ▸ below_alloc (below_alloc (below_alloc (Below.refl _ _) _) _) _
  have c0 := r0.cell (j := 0) (by simp)
  have c1 := r0.cell (j := 1) (by simp)
  have d1 := r1.cell (j := 1) (by simp)
  have e0 := r2.cell (j := 0) (by simp)
  have e1 := r2.cell (j := 1) (by simp)
  have hp1 := (hB.cell (p := ⟨p, 0, none⟩) hpl).trans hp
  have z0 := r2.free 0
  have z1 := r2.free 1
  simp only [List.getElem_toArray, List.getElem_cons_zero, List.getElem_cons_succ] at c0 c1 d1 e0 e1
  have HW := Lib.hid hw1
  have HB := Lib.hid hB
  have HR := Lib.hid r2
  clear hw1 hB r0 r1 r2 hp hpl
  go_enter Tryz.func37, Tryz.ntmps37
  go_wp2_with fail
  (first | rw [← HW.out] | (rw [show ({ data := #[] } : ByteArray) = ByteArray.empty from rfl, ← HW.out]))
  refine wp_region_still_tail 9 (by kernel_rfl) (by kernel_rfl) ?_
  simp only [List.take_succ_cons, List.take_zero, List.drop_succ_cons, List.drop_zero]
  iterate 7 still_step
  still_call ((fn_2 _ _ _).mono fun _ _ ⟨he, hw⟩ => ⟨he, hw.symm⟩)
  still_step
  refine wpStill_nil ?_
  change wpList _ _ _ _ _ w1.drew
  go_wp2
  have hr := ((HR.out.set 0 (.string s)).set 1 (.int .i64 (combN 2 n m))).keep ((Below.refl _ _).drew)
  have hh : (((w1.setCell ⟨w.heap.size + 1 + 1, 0, none⟩ (.string s)).setCell ⟨w.heap.size + 1 + 1, 1, none⟩ (.int .i64 (combN 2 n m))).drew).heap[w.heap.size + 1 + 1]? = some (.cells #[.string s, .int .i64 (combN 2 n m)] 37 (0, 0)) := hr
  have hbel := ((HB.out.setCell (p := ⟨w.heap.size + 1 + 1, 0, none⟩) (by show w.heap.size ≤ w.heap.size + 1 + 1; omega) (.string s)).setCell (p := ⟨w.heap.size + 1 + 1, 1, none⟩) (by show w.heap.size ≤ w.heap.size + 1 + 1; omega) (.int .i64 (combN 2 n m))).drew
  exact bodyPost_ret (v := .agg #[.string s, .int .i64 (combN 2 n m)]) (by simp [results, Tryz.results37, go_sem, World.cell?, hh]) rfl ⟨rfl, hbel⟩

set_option maxHeartbeats 2000000 in
theorem join_3 (p : Nat) (s u : ByteArray) (n m : Int) (w : World) (hp : w.cell? ⟨p, 0, none⟩ = some (.func (Fn.func 71) #[] #[])) :
    Calls Tryz.prog 37 #[.agg #[.string s, .int .i64 n], .agg #[.string u, .int .i64 m], .pointer (some ⟨p, 0, none⟩)] w fun e w' => e = .returned (.agg #[.string s, .int .i64 (combN 3 n m)]) ∧ Below w.heap.size w w' := by
  have hpl : p < w.heap.size := World.block_lt_of_cell? _ _ hp
  obtain ⟨w1, hw1⟩ : ∃ w1, w1 = ((w.alloc (.cells #[.string s, .int .i64 n] 37)).alloc (.cells #[.string u, .int .i64 m] 37)).alloc (.cells #[.string ByteArray.empty, .int .i64 0] 37) := ⟨_, rfl⟩
  have r0 : Row w1 w.heap.size 37 #[.string s, .int .i64 n] := hw1 ▸ ((Row.new w _ _).keep (below_alloc (Below.refl _ _) _)).keep (below_alloc (Below.refl _ _) _)
  have r1 : Row w1 (w.heap.size + 1) 37 #[.string u, .int .i64 m] := by
    have := (Row.new (w.alloc (.cells #[.string s, .int .i64 n] 37)) 37 #[.string u, .int .i64 m]).keep (below_alloc (Below.refl _ _) (.cells #[.string ByteArray.empty, .int .i64 0] 37))
    rw [← hw1] at this
    simpa using this
  have r2 : Row w1 (w.heap.size + 1 + 1) 37 #[.string ByteArray.empty, .int .i64 0] := by
    have := Row.new ((w.alloc (.cells #[.string s, .int .i64 n] 37)).alloc (.cells #[.string u, .int .i64 m] 37)) 37 #[.string ByteArray.empty, .int .i64 0]
    rw [← hw1] at this
    simpa using this
  have hB : Below w.heap.size w w1 := hw1 ▸ below_alloc (below_alloc (below_alloc (Below.refl _ _) _) _) _
  have c0 := r0.cell (j := 0) (by simp)
  have c1 := r0.cell (j := 1) (by simp)
  have d1 := r1.cell (j := 1) (by simp)
  have e0 := r2.cell (j := 0) (by simp)
  have e1 := r2.cell (j := 1) (by simp)
  have hp1 := (hB.cell (p := ⟨p, 0, none⟩) hpl).trans hp
  have z0 := r2.free 0
  have z1 := r2.free 1
  simp only [List.getElem_toArray, List.getElem_cons_zero, List.getElem_cons_succ] at c0 c1 d1 e0 e1
  have HW := Lib.hid hw1
  have HB := Lib.hid hB
  have HR := Lib.hid r2
  clear hw1 hB r0 r1 r2 hp hpl
  go_enter Tryz.func37, Tryz.ntmps37
  go_wp2_with fail
  (first | rw [← HW.out] | (rw [show ({ data := #[] } : ByteArray) = ByteArray.empty from rfl, ← HW.out]))
  refine wp_region_still_tail 9 (by kernel_rfl) (by kernel_rfl) ?_
  simp only [List.take_succ_cons, List.take_zero, List.drop_succ_cons, List.drop_zero]
  iterate 7 still_step
  still_call ((fn_3 _ _ _).mono fun _ _ ⟨he, hw⟩ => ⟨he, hw.symm⟩)
  still_step
  refine wpStill_nil ?_
  change wpList _ _ _ _ _ w1.drew
  go_wp2
  have hr := ((HR.out.set 0 (.string s)).set 1 (.int .i64 (combN 3 n m))).keep ((Below.refl _ _).drew)
  have hh : (((w1.setCell ⟨w.heap.size + 1 + 1, 0, none⟩ (.string s)).setCell ⟨w.heap.size + 1 + 1, 1, none⟩ (.int .i64 (combN 3 n m))).drew).heap[w.heap.size + 1 + 1]? = some (.cells #[.string s, .int .i64 (combN 3 n m)] 37 (0, 0)) := hr
  have hbel := ((HB.out.setCell (p := ⟨w.heap.size + 1 + 1, 0, none⟩) (by show w.heap.size ≤ w.heap.size + 1 + 1; omega) (.string s)).setCell (p := ⟨w.heap.size + 1 + 1, 1, none⟩) (by show w.heap.size ≤ w.heap.size + 1 + 1; omega) (.int .i64 (combN 3 n m))).drew
  exact bodyPost_ret (v := .agg #[.string s, .int .i64 (combN 3 n m)]) (by simp [results, Tryz.results37, go_sem, World.cell?, hh]) rfl ⟨rfl, hbel⟩

theorem join_any (op : Int) (p : Nat) (s u : ByteArray) (n m : Int) (w : World) (h : opOkB op = true) (hp : w.cell? ⟨p, 0, none⟩ = some (fnOf op)) :
    Calls Tryz.prog 37 #[.agg #[.string s, .int .i64 n], .agg #[.string u, .int .i64 m], .pointer (some ⟨p, 0, none⟩)] w fun e w' => e = .returned (.agg #[.string s, .int .i64 (combN op n m)]) ∧ Below w.heap.size w w' := by
  rcases op_ways h with rfl | rfl | rfl | rfl
  · exact join_1 p s u n m w hp
  · exact join_2 p s u n m w hp
  · exact join_3 p s u n m w hp
  · rw [comb_14]; exact join_1 p s u n m w hp
end Go.Proofs.YtjofbeokkainlaaGreatDoor
namespace Go.Proofs.YtjofbeokkainlaaGreatDoor
open Go.ChangeShapes Go.WideShapes Go.ChangeAt Go.RowKit
set_option linter.unusedVariables false
set_option maxRecDepth 100000

/-- One record more: joined to the last one, if that has its key. -/
def joinsB (W : Recs) (r : ByteArray × Int) : Bool := decide (0 < W.length) && sameKey (keyAt W (W.length - 1)) r.1
def cStep (op : Int) (W : Recs) (r : ByteArray × Int) : Recs :=
  if joinsB W r then W.set (W.length - 1) (keyAt W (W.length - 1), combN op (numAt W (W.length - 1)) r.2) else W ++ [r]
def cTo (op : Int) (l : Recs) (k : Nat) : Recs := (l.take k).foldl (cStep op) []
theorem cTo_succ (op : Int) (l : Recs) (k : Nat) (h : k < l.length) : cTo op l (k + 1) = cStep op (cTo op l k) (keyAt l k, numAt l k) := by
  unfold cTo
  rw [List.take_succ_eq_append_getElem h, List.foldl_append, at_get l k h]
  rfl
theorem cStep_len (op : Int) (W : Recs) (r : ByteArray × Int) : (cStep op W r).length ≤ W.length + 1 := by
  unfold cStep
  split
  · simp
  · simp
theorem cTo_len (op : Int) (l : Recs) : ∀ k, k ≤ l.length → (cTo op l k).length ≤ k
  | 0, _ => by simp [cTo]
  | k + 1, h => by
    rw [cTo_succ op l k (by omega)]
    have := cTo_len op l k (by omega)
    have := cStep_len op (cTo op l k) (keyAt l k, numAt l k)
    omega
theorem cStep_new {op : Int} {W : Recs} {r : ByteArray × Int} (h : joinsB W r = false) : cStep op W r = W ++ [r] := by unfold cStep; rw [h]; rfl
theorem cStep_join {op : Int} {W : Recs} {r : ByteArray × Int} {m : Nat} (h : joinsB W r = true) (hm : W.length = m + 1) : cStep op W r = W.set m (keyAt W m, combN op (numAt W m) r.2) := by
  unfold cStep; rw [h, hm]; rfl

theorem laid_set {cur : Array Value} {W : Recs} {n i : Nat} (r : ByteArray × Int) (h : Laid cur W n) (hn : W.length = n) (hi : i < n) (hs : n * 2 ≤ cur.size) :
    Laid ((cur.setIfInBounds (i * 2) (.string r.1)).setIfInBounds (i * 2 + 1) (.int .i64 r.2)) (W.set i r) n := by
  intro j hj
  obtain ⟨e1, e2⟩ := h j hj
  have h1 : i * 2 < cur.size := by omega
  have h2 : i * 2 + 1 < cur.size := by omega
  by_cases hji : j = i
  · subst hji
    have hk : keyAt (W.set j r) j = r.1 ∧ numAt (W.set j r) j = r.2 := by
      unfold keyAt numAt
      rw [List.getD_eq_getElem?_getD, List.getElem?_set_self (by omega)]
      exact ⟨rfl, rfl⟩
    rw [hk.1, hk.2]
    constructor
    · rw [Array.getElem?_setIfInBounds_ne (by omega)]; simp [h1]
    · simp [h2]
  · have hk : keyAt (W.set i r) j = keyAt W j ∧ numAt (W.set i r) j = numAt W j := by
      unfold keyAt numAt
      rw [List.getD_eq_getElem?_getD, List.getElem?_set_ne (by omega), ← List.getD_eq_getElem?_getD]
      exact ⟨rfl, rfl⟩
    rw [hk.1, hk.2]
    constructor
    · rw [Array.getElem?_setIfInBounds_ne (by omega), Array.getElem?_setIfInBounds_ne (by omega)]; exact e1
    · rw [Array.getElem?_setIfInBounds_ne (by omega), Array.getElem?_setIfInBounds_ne (by omega)]; exact e2
theorem laid_setN {cur : Array Value} {W : Recs} {n i : Nat} (x : Int) (h : Laid cur W n) (hn : W.length = n) (hi : i < n) (hs : n * 2 ≤ cur.size) :
    Laid (cur.setIfInBounds (i * 2 + 1) (.int .i64 x)) (W.set i (keyAt W i, x)) n := by
  intro j hj
  have hl := laid_set (keyAt W i, x) h hn hi hs j hj
  have h1 : i * 2 < cur.size := by omega
  have e : (cur.setIfInBounds (i * 2) (.string (keyAt W i))) = cur := by
    apply Array.ext
    · simp
    · intro k hk1 hk2
      by_cases hki : k = i * 2
      · subst hki
        have := (h i hi).1
        rw [Array.getElem?_eq_getElem h1] at this
        simp at this
        simp [this]
      · rw [Array.getElem_setIfInBounds_ne]; omega
  simp only at hl
  rw [e] at hl
  exact hl
/-- The last record of a row of the call's own: where it lies; put anew. -/
theorem own_row {w : World} {base n cp : Nat} {q : Option Addr} {W : Recs} (h : w.ownsRow base 37 2 (.slice q n cp) n (cellsL W)) (hn : W.length = n) (h0 : 0 < n) :
    ∃ g cur, q = some ⟨g, 0, none⟩ ∧ base ≤ g ∧ Row w g 37 cur ∧ n ≤ cp ∧ cp ≤ maxLen ∧ cur.size = cp * 2 ∧ Laid cur W n := by
  rcases h.2 with ⟨h1, h2⟩ | ⟨g, cap, cur, hv, hb, hh, h1, h2, h3, h4⟩
  · omega
  · simp only [Value.slice.injEq] at hv
    obtain ⟨rfl, _, rfl⟩ := hv
    exact ⟨g, cur, rfl, hb, hh, h1, h2, h3, laid_of_take hn h4⟩
theorem own_put {w : World} {base g n cp i : Nat} {W : Recs} (h : w.ownsRow base 37 2 (.slice (some ⟨g, 0, none⟩) n cp) n (cellsL W)) (hn : W.length = n) (hi : i < n) (r : ByteArray × Int) :
    ((w.setCell ⟨g, i * 2, none⟩ (.string r.1)).setCell ⟨g, i * 2 + 1, none⟩ (.int .i64 r.2)).ownsRow base 37 2 (.slice (some ⟨g, 0, none⟩) n cp) n (cellsL (W.set i r)) := by
  obtain ⟨g', cur, hq, hb, hr, h1, h2, h3, hl⟩ := own_row h hn (by omega)
  simp only [Option.some.injEq, Addr.mk.injEq, and_true] at hq
  subst hq
  exact own_of_laid ((hr.set _ _).set _ _) hb (by simpa using hn) h1 h2 (by simpa using h3) (laid_set r hl hn hi (by omega))
theorem own_putN {w : World} {base g n cp i : Nat} {W : Recs} (h : w.ownsRow base 37 2 (.slice (some ⟨g, 0, none⟩) n cp) n (cellsL W)) (hn : W.length = n) (hi : i < n) (x : Int) :
    (w.setCell ⟨g, i * 2 + 1, none⟩ (.int .i64 x)).ownsRow base 37 2 (.slice (some ⟨g, 0, none⟩) n cp) n (cellsL (W.set i (keyAt W i, x))) := by
  obtain ⟨g', cur, hq, hb, hr, h1, h2, h3, hl⟩ := own_row h hn (by omega)
  simp only [Option.some.injEq, Addr.mk.injEq, and_true] at hq
  subst hq
  exact own_of_laid (hr.set _ _) hb (by simpa using hn) h1 h2 (by simpa using h3) (laid_setN x hl hn hi (by omega))
theorem own_cells {w : World} {base n cp i : Nat} {q : Option Addr} {W : Recs} (h : w.ownsRow base 37 2 (.slice q n cp) n (cellsL W)) (hn : W.length = n) (hi : i < n) :
    ∃ g, q = some ⟨g, 0, none⟩ ∧ base ≤ g ∧ w.cell? ⟨g, i * 2, none⟩ = some (.string (keyAt W i)) ∧ w.cell? ⟨g, i * 2 + 1, none⟩ = some (.int .i64 (numAt W i)) ∧ ∀ o, w.frozen? ⟨g, o, none⟩ = false := by
  obtain ⟨g, cur, hq, hb, hr, h1, h2, h3, hl⟩ := own_row h hn (by omega)
  obtain ⟨e1, e2⟩ := hl i hi
  refine ⟨g, hq, hb, ?_, ?_, hr.free⟩
  · unfold Row at hr; simp [World.cell?, hr, e1]
  · unfold Row at hr; simp [World.cell?, hr, e2]

structure CSt (op : Int) (l : Recs) (w wr : World) (q : Option Addr) (n cp k : Nat) : Prop where
  own : wr.ownsRow w.heap.size 37 2 (.slice q n cp) n (cellsL (cTo op l k))
  size : (cTo op l k).length = n
  below : Below w.heap.size w wr
end Go.Proofs.YtjofbeokkainlaaGreatDoor
namespace Go.Proofs.YtjofbeokkainlaaGreatDoor
open Go.ChangeShapes Go.WideShapes Go.ChangeAt Go.RowKit
set_option linter.unusedVariables false
set_option maxRecDepth 100000

set_option maxHeartbeats 8000000 in
theorem joined_any (op : Int) (p : Nat) (a : Option Addr) (len cap : Nat) (l : Recs) (w : World) (h : RecsAt w a len l) (h6 : len ≤ 600) (hop : opOkB op = true) (hp : w.cell? ⟨p, 0, none⟩ = some (fnOf op)) :
    Calls Tryz.prog 38 #[.slice a len cap, .func (Fn.func 39) #[] #[], .func (Fn.func 37) #[] #[.pointer (some ⟨p, 0, none⟩)]] w (MadeRs (cTo op l len) w) := by
  obtain ⟨i0, hi, hz0, hz1, hz2⟩ := info_parts infoRec
  have hpl : p < w.heap.size := World.block_lt_of_cell? _ _ hp
  have HP := Lib.hid hp
  have HR := Lib.hid h
  have HL := Lib.hid h.length
  clear h hp
  go_enter Tryz.func38, Tryz.ntmps38
  go_wp2
  go_loopw [7, 13] (fun v i wr => ∃ (k n : Nat) (q : Option Addr) (cp : Nat), k ≤ len ∧ i = .int .i64 k ∧ v = .slice q n cp ∧ n ≤ k ∧ Hid (CSt op l w wr q n cp k)) (fun _ i _ => len - (intOf i).toNat)
  case atStart => exact ⟨0, 0, none, 0, Nat.zero_le _, rfl, rfl, Nat.le_refl _, World.ownsRow_nil _ _ _ _, rfl, Below.refl _ _⟩
  case round =>
    obtain ⟨k, n, q, cp, hk, rfl, rfl, hnk, HS⟩ := hrel
    by_cases hlt : k < len
    · rcases HR.out.src with hz | ⟨b, off, rfl, hb, hc⟩
      · omega
      · have c0 := (HS.out.below.cell (p := ⟨b, off + k * 2, none⟩) hb).trans (hc k hlt).1
        have c1 := (HS.out.below.cell (p := ⟨b, off + k * 2 + 1, none⟩) hb).trans (hc k hlt).2
        have hki : (k : Int) < (len : Int) := by omega
        have HST := Lib.hid (cTo_succ op l k (by rw [HL.out]; exact hlt))
        obtain ⟨V, hV⟩ : ∃ V, cTo op l k = V := ⟨_, rfl⟩
        have HV := Lib.hid hV
        have HO := Lib.hid (show wr.ownsRow w.heap.size 37 2 (.slice q n cp) n (cellsL V) from hV ▸ HS.out.own)
        have HN := Lib.hid (show V.length = n from hV ▸ HS.out.size)
        have HB := Lib.hid HS.out.below
        obtain ⟨y, hy⟩ : ∃ y, keyAt l k = y := ⟨_, rfl⟩
        obtain ⟨x, hx⟩ : ∃ x, numAt l k = x := ⟨_, rfl⟩
        have HY := Lib.hid (show cTo op l (k + 1) = cStep op V (y, x) by rw [HST.out, hV, hy, hx])
        rw [hy] at c0
        rw [hx] at c1
        clear hc hb hV hy hx HST HS
        -- the box of the record that comes
        obtain ⟨wa, hwa⟩ : ∃ wa, wr.alloc (.cells #[.string y, .int .i64 x] 37) = wa := ⟨_, rfl⟩
        have hrow : Row wa wr.heap.size 37 #[.string y, .int .i64 x] := hwa ▸ Row.new _ _ _
        have hBa : Below wr.heap.size wr wa := hwa ▸ below_alloc (Below.refl _ _) _
        have b0 := hrow.cell (j := 0) (by simp)
        have b1 := hrow.cell (j := 1) (by simp)
        simp only [List.getElem_toArray, List.getElem_cons_zero, List.getElem_cons_succ] at b0 b1
        have HO := Lib.hid (own_below HO.out hBa)
        have HB := Lib.hid (below_via HB.out hBa)
        have HRW := Lib.hid hrow
        have HWA := Lib.hid hwa
        clear hwa hrow hBa
        by_cases hn0 : n = 0
        · have hd : decide ((0 : Int) ≤ (n : Int) - 1) = false := decide_eq_false (by omega)
          have hd2 : decide ((1 : Int) ≤ (n : Int)) = false := decide_eq_false (by omega)
          have HJ := Lib.hid (show joinsB V (y, x) = false by unfold joinsB; rw [HN.out, decide_eq_false (by omega)]; rfl)
          have hnn : ¬ (0 : Int) ≤ (n : Int) - 1 := by omega
          clear hn0
          go_wp2_with fail
          rw [HWA.out]
          go_quiet (fail)
          have b0 : (wa.drewN nq).cell? ⟨wr.heap.size, 0, none⟩ = some (.string y) := b0
          have b1 : (wa.drewN nq).cell? ⟨wr.heap.size, 1, none⟩ = some (.int .i64 x) := b1
          have HO := Lib.hid (own_below HO.out (below_drewN (Below.refl _ wa) nq))
          have HB := Lib.hid (below_drewN HB.out nq)
          generalize wa.drewN nq = wq at b0 b1 HO HB ⊢
          go_wp2_with (at_builtin; (refine wpList_append_own _ rfl _ _ 34 rfl w.heap.size 37 i0 _ 2 24 Tryz.underlying34 hi hz0 hz1 hz2 rfl (by decide) _ _ _ rfl (HO.out.alloc _) ⟨wq.heap.size, 0, none⟩ 1 1 [.string y, .int .i64 x] rfl rfl (two_new _ _ _ _) (two_cells _ _) (by unfold maxLen; omega) (by omega) (Nat.le_trans HB.out.size (below_alloc (Below.refl _ _) _).size) ?_); intro v' w3 hown1 hgrow hnil; have HO1 := Lib.hid hown1; have HG := Lib.hid hgrow; clear hown1 hgrow hnil)
          have hb3 : Below w.heap.size w w3 := (below_alloc HB.out _).grown HG.out (below_alloc HB.out _).size (fun j hj => (HO.out.lt j hj).1)
          have HB3 := Lib.hid hb3
          clear hb3
          obtain ⟨q1, cp1, rfl⟩ := own_form HO1.out
          go_roundw
          case rel =>
            have e1 : cTo op l (k + 1) = V ++ [(y, x)] := by rw [HY.out, cStep_new HJ.out]
            refine ⟨k + 1, n + 1, q1, cp1, by omega, by go_num, rfl, by omega, ?_, by rw [e1, List.length_append, HN.out]; rfl, HB3.out⟩
            rw [e1, cellsL_snoc]
            exact HO1.out
          case measure => simp [intOf]; omega
        · obtain ⟨m, rfl⟩ : ∃ m, n = m + 1 := ⟨n - 1, by omega⟩
          obtain ⟨g, rfl, hbg, d0, d1, hf⟩ := own_cells HO.out HN.out (i := m) (by omega)
          have hm1 : ((m + 1 : Nat) : Int) - 1 = (m : Int) := by omega
          have hm0 : (0 : Int) ≤ (m : Int) := by omega
          have hml : (m : Int) < ((m + 1 : Nat) : Int) := by omega
          have hml2 : (m : Int) < (m : Int) + 1 := by omega
          have hd : decide ((0 : Int) ≤ (m : Int)) = true := decide_eq_true (by omega)
          have HBB := Lib.hid ((Below.refl wa.heap.size wa).drew)
          cases hsk : sameKey (keyAt V m) y with
          | true =>
            have hs2 : ((keyAt V m).toList == y.toList) = true := hsk
            have HJ := Lib.hid (show joinsB V (y, x) = true by unfold joinsB; rw [HN.out, Nat.add_sub_cancel, hsk, decide_eq_true (by omega)]; rfl)
            clear hsk
            go_wp2_with fail
            rw [HWA.out]
            have d0w := d0
            have d1w := d1
            go_region_held3 (fun w' => Hid (Below wa.heap.size wa w') ∧ w'.cell? ⟨g, m * 2, none⟩ = some (.string (keyAt V m)) ∧ w'.cell? ⟨g, m * 2 + 1, none⟩ = some (.int .i64 (numAt V m)) ∧ w'.cell? ⟨wr.heap.size, 0, none⟩ = some (.string y) ∧ w'.cell? ⟨wr.heap.size, 1, none⟩ = some (.int .i64 x))
              (first | exact ⟨HBB, d0, d1, b0, b1⟩)
              (first | (go_at_call 39; refine (reckey_any _ _ _).mono ?_; rintro e w5 ⟨rfl, hB⟩; have d0 := (hB.cell (p := ⟨g, m * 2, none⟩) (World.block_lt_of_cell? _ _ d0)).trans d0; have d1 := (hB.cell (p := ⟨g, m * 2 + 1, none⟩) (World.block_lt_of_cell? _ _ d1)).trans d1; have b0 := (hB.cell (p := ⟨wr.heap.size, 0, none⟩) (World.block_lt_of_cell? _ _ b0)).trans b0; have b1 := (hB.cell (p := ⟨wr.heap.size, 1, none⟩) (World.block_lt_of_cell? _ _ b1)).trans b1; have HBB := Lib.hid (below_via HBB.out hB); clear hB))
            have HO := Lib.hid (own_below HO.out HBB.out)
            have HB := Lib.hid (below_via HB.out HBB.out)
            have hf0 := (HBB.out.frozen (p := ⟨g, m * 2, none⟩) (World.block_lt_of_cell? _ _ d0w)).trans (hf (m * 2))
            have hf1 := (HBB.out.frozen (p := ⟨g, m * 2 + 1, none⟩) (World.block_lt_of_cell? _ _ d1w)).trans (hf (m * 2 + 1))
            have hp5 := (HB.out.cell (p := ⟨p, 0, none⟩) hpl).trans HP.out
            have HP5 := Lib.hid hp5
            clear hp5 hf d0w d1w
            go_wp2_with fail
            go_region_with (first | (go_at_call 37; refine (join_any op p _ _ _ _ _ hop (by exact HP5.out)).mono ?_; rintro e w6 ⟨rfl, hB⟩; have g0 := (hB.cell (p := ⟨g, m * 2, none⟩) (World.block_lt_of_cell? _ _ d0)).trans d0; have g1 := (hB.cell (p := ⟨g, m * 2 + 1, none⟩) (World.block_lt_of_cell? _ _ d1)).trans d1; have z0 := (hB.frozen (p := ⟨g, m * 2, none⟩) (World.block_lt_of_cell? _ _ d0)).trans hf0; have z1 := (hB.frozen (p := ⟨g, m * 2 + 1, none⟩) (World.block_lt_of_cell? _ _ d1)).trans hf1; have HB6 := Lib.hid hB; clear hB))
            all_goals (go_wp2_with fail)
            all_goals (
              go_roundw
              case rel =>
                have e1 : cTo op l (k + 1) = V.set m (keyAt V m, combN op (numAt V m) x) := by rw [HY.out, cStep_join HJ.out HN.out]
                have ho := own_put (own_below HO.out (Below.trans (Below.refl _ _).drew HB6.out)) HN.out (i := m) (by omega) (keyAt V m, combN op (numAt V m) x)
                have hb := ((HB.out.trans (Below.trans (Below.refl _ _).drew (HB6.out.mono HB.out.size))).setCell (p := ⟨g, m * 2, none⟩) hbg (.string (keyAt V m))).setCell (p := ⟨g, m * 2 + 1, none⟩) hbg (.int .i64 (combN op (numAt V m) x))
                exact ⟨k + 1, m + 1, _, cp, by omega, by go_num, rfl, by omega, by rw [e1]; exact ho, by rw [e1, List.length_set]; exact HN.out, hb⟩
              case measure => simp [intOf]; omega)
          | false =>
            have hs2 : ((keyAt V m).toList == y.toList) = false := hsk
            have HJ := Lib.hid (show joinsB V (y, x) = false by unfold joinsB; rw [HN.out, Nat.add_sub_cancel, hsk, Bool.and_false])
            clear hsk
            go_wp2_with fail
            rw [HWA.out]
            go_region_held3 (fun w' => Hid (Below wa.heap.size wa w') ∧ w'.cell? ⟨g, m * 2, none⟩ = some (.string (keyAt V m)) ∧ w'.cell? ⟨g, m * 2 + 1, none⟩ = some (.int .i64 (numAt V m)) ∧ w'.cell? ⟨wr.heap.size, 0, none⟩ = some (.string y) ∧ w'.cell? ⟨wr.heap.size, 1, none⟩ = some (.int .i64 x))
              (first | exact ⟨HBB, d0, d1, b0, b1⟩)
              (first | (go_at_call 39; refine (reckey_any _ _ _).mono ?_; rintro e w5 ⟨rfl, hB⟩; have d0 := (hB.cell (p := ⟨g, m * 2, none⟩) (World.block_lt_of_cell? _ _ d0)).trans d0; have d1 := (hB.cell (p := ⟨g, m * 2 + 1, none⟩) (World.block_lt_of_cell? _ _ d1)).trans d1; have b0 := (hB.cell (p := ⟨wr.heap.size, 0, none⟩) (World.block_lt_of_cell? _ _ b0)).trans b0; have b1 := (hB.cell (p := ⟨wr.heap.size, 1, none⟩) (World.block_lt_of_cell? _ _ b1)).trans b1; have HBB := Lib.hid (below_via HBB.out hB); clear hB))
            have HO := Lib.hid (own_below HO.out HBB.out)
            have HB := Lib.hid (below_via HB.out HBB.out)
            clear HBB hf
            rename World => wq
            go_wp2_with (at_builtin; (refine wpList_append_own _ rfl _ _ 34 rfl w.heap.size 37 i0 _ 2 24 Tryz.underlying34 hi hz0 hz1 hz2 rfl (by decide) _ _ _ rfl (HO.out.alloc _) ⟨wq.heap.size, 0, none⟩ 1 1 [.string y, .int .i64 x] rfl rfl (two_new _ _ _ _) (two_cells _ _) (by unfold maxLen; omega) (by omega) (Nat.le_trans HB.out.size (below_alloc (Below.refl _ _) _).size) ?_); intro v' w3 hown1 hgrow hnil; have HO1 := Lib.hid hown1; have HG := Lib.hid hgrow; clear hown1 hgrow hnil)
            have hb3 : Below w.heap.size w w3 := (below_alloc HB.out _).grown HG.out (below_alloc HB.out _).size (fun j hj => (HO.out.lt j hj).1)
            have HB3 := Lib.hid hb3
            clear hb3
            obtain ⟨q1, cp1, rfl⟩ := own_form HO1.out
            go_roundw
            case rel =>
              have e1 : cTo op l (k + 1) = V ++ [(y, x)] := by rw [HY.out, cStep_new HJ.out]
              refine ⟨k + 1, m + 1 + 1, q1, cp1, by omega, by go_num, rfl, by omega, ?_, by rw [e1, List.length_append, HN.out]; rfl, HB3.out⟩
              rw [e1, cellsL_snoc]
              exact HO1.out
            case measure => simp [intOf]; omega
    · obtain rfl : k = len := by omega
      have hki : ¬ (k : Int) < (k : Int) := by omega
      go_wp2
      go_ret
      exact ⟨q, cp, by rw [HS.out.size]; rfl, rs_of_own (by rw [HS.out.size]; exact HS.out.own), HS.out.below, by rw [HS.out.size]; exact (own_cap HS.out.own).1, (own_cap HS.out.own).2⟩
end Go.Proofs.YtjofbeokkainlaaGreatDoor
