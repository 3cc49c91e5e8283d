/- Texts put together, as a claim holds at most sixty files. -/
import Derived.Test.YtldjahemgkkpbaaMg0
import Derived.Lib.Strings
import Derived.StillTailTactics
import Derived.WalkKit
import Derived.ProofKit
import Derived.OpenShut
import Derived.WalkLawsBesides
import Derived.Deep.QuietTactic
import Derived.BigQuiet
import Derived.Deep.RegionHeld3
import Derived.Lib.Hide
import Derived.Outline
namespace Go.Proofs.Ytldjahemgkkpbaa
open Go.ChangeShapes Go.WideShapes Go.ChangeAt Go.RowKit
set_option linter.unusedVariables false
set_option maxRecDepth 100000

theorem infoStr : (Try.prog.info? 9).map (fun i => (i.zero, i.size, i.bytes)) = some (some (.string ByteArray.empty), 1, 16) := by kernel_rfl

theorem one_new (w : World) (x : Value) (t : TypeId) : ∀ j u, [x][j]? = some u → (w.alloc (.cells #[x] t)).cell? ((⟨w.heap.size, 0, none⟩ : Addr).add j) = some u := by
  intro j u hj
  match j, hj with
  | 0, hj => simp at hj; subst hj; simp [Addr.add]
theorem own_form {w : World} {base : Nat} {e : TypeId} {size : Nat} {v : Value} {n : Nat} {xs : List Value} (h : w.ownsRow base e size v n xs) : ∃ q cp, v = .slice q n cp := by
  rcases h.2 with ⟨rfl, rfl⟩ | ⟨g, cap, cur, rfl, _⟩
  · exact ⟨_, _, rfl⟩
  · exact ⟨_, _, rfl⟩
theorem own_below {w w1 : World} {base : Nat} {e : TypeId} {size : Nat} {v : Value} {n : Nat} {xs : List Value} (h : w.ownsRow base e size v n xs) (hB : Below w.heap.size w w1) : w1.ownsRow base e size v n xs :=
  h.kept (row := none) ⟨hB.os, hB.tape, hB.output, hB.size, fun k hk _ => hB.block k hk⟩ (by by_cases hv : v.ownBlock = none; exact .inl hv; exact .inr hv)
theorem growT {a b c : World} {row : Option Nat} (h : a.grownBy b row) (k : b.grownBy c row) : a.grownBy c row :=
  ⟨k.os.trans h.os, k.tape.trans h.tape, k.output.trans h.output, Nat.le_trans h.size k.size, fun i hi hn => (k.block i (Nat.lt_of_lt_of_le hi h.size) hn).trans (h.block i hi hn)⟩
theorem growB {a b c : World} {row : Option Nat} (h : a.grownBy b row) (k : Below b.heap.size b c) : a.grownBy c row :=
  ⟨k.os.trans h.os, k.tape.trans h.tape, k.output.trans h.output, Nat.le_trans h.size k.size, fun i hi hn => (k.block i (Nat.lt_of_lt_of_le hi h.size)).trans (h.block i hi hn)⟩
theorem growA {a b : World} {row : Option Nat} (h : a.grownBy b row) (o : Obj) : a.grownBy (b.alloc o) row := growT h (World.grownBy_alloc _ _ _)
theorem growD {a b : World} {row : Option Nat} (h : a.grownBy b row) (n : Nat) : a.grownBy (b.drewN n) row := growT h ⟨rfl, rfl, rfl, Nat.le_refl _, fun _ _ _ => rfl⟩
theorem growS {a b : World} {r : Nat} (h : a.grownBy b (some r)) (j : Nat) (v : Value) : a.grownBy (b.setCell ⟨r, j, none⟩ v) (some r) :=
  growT h ⟨rfl, rfl, rfl, by simp [World.setCell], fun k hk hn => Below.heap_setCell _ _ _ _ (fun e => hn (by rw [e]))⟩
theorem growP {a b : World} {row : Option Nat} (h : a.grownBy b row) {B : Nat} (hB : a.heap.size ≤ B) (j : Nat) (v : Value) : a.grownBy (b.setCell ⟨B, j, none⟩ v) row :=
  ⟨h.os, h.tape, h.output, by have := h.size; simpa [World.setCell] using this, fun k hk hn => (Below.heap_setCell _ _ _ _ (show k ≠ B by omega)).trans (h.block k hk hn)⟩
/-- A row of the call's own grows: nothing that was there before the call has changed. -/
theorem growO {a b c : World} {row row' : Option Nat} (h : a.grownBy b row) (k : b.grownBy c row') (hr : ∀ i, row' = some i → a.heap.size ≤ i) : a.grownBy c row :=
  ⟨k.os.trans h.os, k.tape.trans h.tape, k.output.trans h.output, Nat.le_trans h.size k.size, fun i hi hn => (k.block i (Nat.lt_of_lt_of_le hi h.size) (fun e => by have := hr i e.symm; omega)).trans (h.block i hi hn)⟩
theorem growBelow {a b : World} {row : Option Nat} (h : a.grownBy b row) (hr : ∀ i, row = some i → a.heap.size ≤ i) : Below a.heap.size a b :=
  ⟨h.os, h.tape, h.output, h.size, fun i hi => h.block i hi (fun e => by have := hr i e.symm; omega)⟩
theorem belowGrow {a b : World} (h : Below a.heap.size a b) (row : Option Nat) : a.grownBy b row := ⟨h.os, h.tape, h.output, h.size, fun i hi _ => h.block i hi⟩
theorem Row.other {w : World} {B r : Nat} {E : TypeId} {cur : Array Value} (h : Row w B E cur) (hne : B ≠ r) (j : Nat) (x : Value) : Row (w.setCell ⟨r, j, none⟩ x) B E cur := (Below.heap_setCell _ _ _ _ hne).trans h
theorem Row.grown {w w1 : World} {B : Nat} {row : Option Nat} {E : TypeId} {cur : Array Value} (h : Row w B E cur) (hg : w.grownBy w1 row) (hne : row ≠ some B) : Row w1 B E cur := (hg.block B h.lt (Ne.symm hne)).trans h
theorem Row.drewN {w : World} {B : Nat} {E : TypeId} {cur : Array Value} (h : Row w B E cur) (n : Nat) : Row (w.drewN n) B E cur := h.keep (below_drewN (Below.refl _ _) _)
theorem Row.alloc {w : World} {B : Nat} {E : TypeId} {cur : Array Value} (h : Row w B E cur) (o : Obj) : Row (w.alloc o) B E cur := h.keep (below_alloc (Below.refl _ _) o)
theorem Row.new (w : World) (E : TypeId) (cur : Array Value) : Row (w.alloc (.cells cur E (0, 0))) w.heap.size E cur := heap_alloc_new _ _
end Go.Proofs.Ytldjahemgkkpbaa
namespace Go.Proofs.Ytldjahemgkkpbaa
open Go.ChangeShapes Go.WideShapes Go.ChangeAt Go.RowKit
set_option linter.unusedVariables false
set_option maxRecDepth 100000

theorem reckey_any (s : ByteArray) (n : Int) (w : World) :
    Calls Try.prog 24 #[.agg #[.string s, .int .i64 n]] w fun e w' => e = .returned (.string s) ∧ Below w.heap.size w w' := by
  go_enter Try.func24, Try.ntmps24
  go_wp2
  go_ret
  exact ⟨rfl, below_alloc (Below.refl _ _) _⟩

theorem fn_1 (a b : Int) (w : World) : Calls Try.prog 39 #[.int .i64 a, .int .i64 b] w fun e w' => e = .returned (.int .i64 (combN 1 a b)) ∧ w = w' := by
  go_enter Try.func39, Try.ntmps39
  go_wp2
  go_ret
  exact ⟨by first | rfl | (rw [← comb_sum 1 a b (.inl rfl)]), rfl⟩
theorem fn_2 (a b : Int) (w : World) : Calls Try.prog 40 #[.int .i64 a, .int .i64 b] w fun e w' => e = .returned (.int .i64 (combN 2 a b)) ∧ w = w' := by
  by_cases h : b < a
  · have e := comb_lo a b h
    rw [← e]
    clear e
    go_enter Try.func40, Try.ntmps40
    go_wp2
    go_ret
    exact ⟨rfl, rfl⟩
  · have e := comb_lo' a b h
    rw [← e]
    clear e
    go_enter Try.func40, Try.ntmps40
    go_wp2
    go_ret
    exact ⟨rfl, rfl⟩
theorem fn_3 (a b : Int) (w : World) : Calls Try.prog 41 #[.int .i64 a, .int .i64 b] w fun e w' => e = .returned (.int .i64 (combN 3 a b)) ∧ w = w' := by
  by_cases h : a < b
  · have e := comb_hi a b h
    rw [← e]
    clear e
    go_enter Try.func41, Try.ntmps41
    go_wp2
    go_ret
    exact ⟨rfl, rfl⟩
  · have e := comb_hi' a b h
    rw [← e]
    clear e
    go_enter Try.func41, Try.ntmps41
    go_wp2
    go_ret
    exact ⟨rfl, rfl⟩

/-- The function value of an op. -/
def fnNum (op : Int) : Nat := if op = 2 then 40 else if op = 3 then 41 else 39
def fnOf (op : Int) : Value := .func (Fn.func (fnNum op)) #[] #[]
theorem comb_14 (a b : Int) : combN 4 a b = combN 1 a b := by rw [← comb_sum 4 a b (.inr rfl), ← comb_sum 1 a b (.inl rfl)]
theorem fn_any (op a b : Int) (w : World) (h : opOkB op = true) : Calls Try.prog (fnNum op) #[.int .i64 a, .int .i64 b] w fun e w' => e = .returned (.int .i64 (combN op a b)) ∧ w = w' := by
  rcases op_ways h with rfl | rfl | rfl | rfl
  · exact fn_1 a b w
  · exact fn_2 a b w
  · exact fn_3 a b w
  · rw [comb_14]; exact fn_1 a b w
theorem combinerF_any (op : Int) (w : World) (h : opOkB op = true) : Calls Try.prog 21 #[.int .i64 op] w fun e w' => e = .returned (.tuple #[fnOf op, .bool true]) ∧ w = w' := by
  rcases op_ways h with rfl | rfl | rfl | rfl
  all_goals (
    clear h
    go_enter Try.func21, Try.ntmps21
    go_wp2
    go_ret2
    exact ⟨rfl, rfl⟩)

theorem combinerF_no (op : Int) (w : World) (h : opOkB op = false) : Calls Try.prog 21 #[.int .i64 op] w fun e w' => e = .returned (.tuple #[.nilFunc, .bool false]) ∧ w = w' := by
  obtain ⟨h1, h2, h3, h4⟩ := op_none h
  have g1 : (op == 1) = false := by simpa using h1
  have g2 : (op == 2) = false := by simpa using h2
  have g3 : (op == 3) = false := by simpa using h3
  have g4 : (op == 4) = false := by simpa using h4
  clear h h1 h2 h3 h4
  go_enter Try.func21, Try.ntmps21
  go_wp2
  go_ret2
  exact ⟨rfl, rfl⟩

set_option maxHeartbeats 2000000 in
theorem join_1 (p : Nat) (s u : ByteArray) (n m : Int) (w : World) (hp : w.cell? ⟨p, 0, none⟩ = some (.func (Fn.func 39) #[] #[])) :
    Calls Try.prog 22 #[.agg #[.string s, .int .i64 n], .agg #[.string u, .int .i64 m], .pointer (some ⟨p, 0, none⟩)] w fun e w' => e = .returned (.agg #[.string s, .int .i64 (combN 1 n m)]) ∧ Below w.heap.size w w' := by
  have hpl : p < w.heap.size := World.block_lt_of_cell? _ _ hp
  obtain ⟨w1, hw1⟩ : ∃ w1, w1 = ((w.alloc (.cells #[.string s, .int .i64 n] 30)).alloc (.cells #[.string u, .int .i64 m] 30)).alloc (.cells #[.string ByteArray.empty, .int .i64 0] 30) := ⟨_, rfl⟩
  have r0 : Row w1 w.heap.size 30 #[.string s, .int .i64 n] := hw1 ▸ ((Row.new w _ _).keep (below_alloc (Below.refl _ _) _)).keep (below_alloc (Below.refl _ _) _)
  have r1 : Row w1 (w.heap.size + 1) 30 #[.string u, .int .i64 m] := by
    have := (Row.new (w.alloc (.cells #[.string s, .int .i64 n] 30)) 30 #[.string u, .int .i64 m]).keep (below_alloc (Below.refl _ _) (.cells #[.string ByteArray.empty, .int .i64 0] 30))
    rw [← hw1] at this
    simpa using this
  have r2 : Row w1 (w.heap.size + 1 + 1) 30 #[.string ByteArray.empty, .int .i64 0] := by
    have := Row.new ((w.alloc (.cells #[.string s, .int .i64 n] 30)).alloc (.cells #[.string u, .int .i64 m] 30)) 30 #[.string ByteArray.empty, .int .i64 0]
    rw [← hw1] at this
    simpa using this
  have hB : Below w.heap.size w w1 := hw1 ▸ below_alloc (below_alloc (below_alloc (Below.refl _ _) _) _) _
  have c0 := r0.cell (j := 0) (by simp)
  have c1 := r0.cell (j := 1) (by simp)
  have d1 := r1.cell (j := 1) (by simp)
  have e0 := r2.cell (j := 0) (by simp)
  have e1 := r2.cell (j := 1) (by simp)
  have hp1 := (hB.cell (p := ⟨p, 0, none⟩) hpl).trans hp
  have z0 := r2.free 0
  have z1 := r2.free 1
  simp only [List.getElem_toArray, List.getElem_cons_zero, List.getElem_cons_succ] at c0 c1 d1 e0 e1
  have HW := Lib.hid hw1
  have HB := Lib.hid hB
  have HR := Lib.hid r2
  clear hw1 hB r0 r1 r2 hp hpl
  go_enter Try.func22, Try.ntmps22
  go_wp2_with fail
  (first | rw [← HW.out] | (rw [show ({ data := #[] } : ByteArray) = ByteArray.empty from rfl, ← HW.out]))
  refine wp_region_still_tail 9 (by kernel_rfl) (by kernel_rfl) ?_
  simp only [List.take_succ_cons, List.take_zero, List.drop_succ_cons, List.drop_zero]
  iterate 7 still_step
  still_call ((fn_1 _ _ _).mono fun _ _ ⟨he, hw⟩ => ⟨he, hw.symm⟩)
  still_step
  refine wpStill_nil ?_
  change wpList _ _ _ _ _ w1.drew
  go_wp2
  have hr := ((HR.out.set 0 (.string s)).set 1 (.int .i64 (combN 1 n m))).keep ((Below.refl _ _).drew)
  have hh : (((w1.setCell ⟨w.heap.size + 1 + 1, 0, none⟩ (.string s)).setCell ⟨w.heap.size + 1 + 1, 1, none⟩ (.int .i64 (combN 1 n m))).drew).heap[w.heap.size + 1 + 1]? = some (.cells #[.string s, .int .i64 (combN 1 n m)] 30 (0, 0)) := hr
  have hbel := ((HB.out.setCell (p := ⟨w.heap.size + 1 + 1, 0, none⟩) (by show w.heap.size ≤ w.heap.size + 1 + 1; omega) (.string s)).setCell (p := ⟨w.heap.size + 1 + 1, 1, none⟩) (by show w.heap.size ≤ w.heap.size + 1 + 1; omega) (.int .i64 (combN 1 n m))).drew
  exact bodyPost_ret (v := .agg #[.string s, .int .i64 (combN 1 n m)]) (by simp [results, Try.results22, go_sem, World.cell?, hh]) rfl ⟨rfl, hbel⟩

set_option maxHeartbeats 2000000 in
theorem join_2 (p : Nat) (s u : ByteArray) (n m : Int) (w : World) (hp : w.cell? ⟨p, 0, none⟩ = some (.func (Fn.func 40) #[] #[])) :
    Calls Try.prog 22 #[.agg #[.string s, .int .i64 n], .agg #[.string u, .int .i64 m], .pointer (some ⟨p, 0, none⟩)] w fun e w' => e = .returned (.agg #[.string s, .int .i64 (combN 2 n m)]) ∧ Below w.heap.size w w' := by
  have hpl : p < w.heap.size := World.block_lt_of_cell? _ _ hp
  obtain ⟨w1, hw1⟩ : ∃ w1, w1 = ((w.alloc (.cells #[.string s, .int .i64 n] 30)).alloc (.cells #[.string u, .int .i64 m] 30)).alloc (.cells #[.string ByteArray.empty, .int .i64 0] 30) := ⟨_, rfl⟩
  have r0 : Row w1 w.heap.size 30 #[.string s, .int .i64 n] := hw1 ▸ ((Row.new w _ _).keep (below_alloc (Below.refl _ _) _)).keep (below_alloc (Below.refl _ _) _)
  have r1 : Row w1 (w.heap.size + 1) 30 #[.string u, .int .i64 m] := by
    have := (Row.new (w.alloc (.cells #[.string s, .int .i64 n] 30)) 30 #[.string u, .int .i64 m]).keep (below_alloc (Below.refl _ _) (.cells #[.string ByteArray.empty, .int .i64 0] 30))
    rw [← hw1] at this
    simpa using this
  have r2 : Row w1 (w.heap.size + 1 + 1) 30 #[.string ByteArray.empty, .int .i64 0] := by
    have := Row.new ((w.alloc (.cells #[.string s, .int .i64 n] 30)).alloc (.cells #[.string u, .int .i64 m] 30)) 30 #[.string ByteArray.empty, .int .i64 0]
    rw [← hw1] at this
    simpa using this
  have hB : Below w.heap.size w w1 := hw1 ▸ below_alloc (below_alloc (below_alloc (Below.refl _ _) _) _) _
  have c0 := r0.cell (j := 0) (by simp)
  have c1 := r0.cell (j := 1) (by simp)
  have d1 := r1.cell (j := 1) (by simp)
  have e0 := r2.cell (j := 0) (by simp)
  have e1 := r2.cell (j := 1) (by simp)
  have hp1 := (hB.cell (p := ⟨p, 0, none⟩) hpl).trans hp
  have z0 := r2.free 0
  have z1 := r2.free 1
  simp only [List.getElem_toArray, List.getElem_cons_zero, List.getElem_cons_succ] at c0 c1 d1 e0 e1
  have HW := Lib.hid hw1
  have HB := Lib.hid hB
  have HR := Lib.hid r2
  clear hw1 hB r0 r1 r2 hp hpl
  go_enter Try.func22, Try.ntmps22
  go_wp2_with fail
  (first | rw [← HW.out] | (rw [show ({ data := #[] } : ByteArray) = ByteArray.empty from rfl, ← HW.out]))
  refine wp_region_still_tail 9 (by kernel_rfl) (by kernel_rfl) ?_
  simp only [List.take_succ_cons, List.take_zero, List.drop_succ_cons, List.drop_zero]
  iterate 7 still_step
  still_call ((fn_2 _ _ _).mono fun _ _ ⟨he, hw⟩ => ⟨he, hw.symm⟩)
  still_step
  refine wpStill_nil ?_
  change wpList _ _ _ _ _ w1.drew
  go_wp2
  have hr := ((HR.out.set 0 (.string s)).set 1 (.int .i64 (combN 2 n m))).keep ((Below.refl _ _).drew)
  have hh : (((w1.setCell ⟨w.heap.size + 1 + 1, 0, none⟩ (.string s)).setCell ⟨w.heap.size + 1 + 1, 1, none⟩ (.int .i64 (combN 2 n m))).drew).heap[w.heap.size + 1 + 1]? = some (.cells #[.string s, .int .i64 (combN 2 n m)] 30 (0, 0)) := hr
  have hbel := ((HB.out.setCell (p := ⟨w.heap.size + 1 + 1, 0, none⟩) (by show w.heap.size ≤ w.heap.size + 1 + 1; omega) (.string s)).setCell (p := ⟨w.heap.size + 1 + 1, 1, none⟩) (by show w.heap.size ≤ w.heap.size + 1 + 1; omega) (.int .i64 (combN 2 n m))).drew
  exact bodyPost_ret (v := .agg #[.string s, .int .i64 (combN 2 n m)]) (by simp [results, Try.results22, go_sem, World.cell?, hh]) rfl ⟨rfl, hbel⟩

set_option maxHeartbeats 2000000 in
theorem join_3 (p : Nat) (s u : ByteArray) (n m : Int) (w : World) (hp : w.cell? ⟨p, 0, none⟩ = some (.func (Fn.func 41) #[] #[])) :
    Calls Try.prog 22 #[.agg #[.string s, .int .i64 n], .agg #[.string u, .int .i64 m], .pointer (some ⟨p, 0, none⟩)] w fun e w' => e = .returned (.agg #[.string s, .int .i64 (combN 3 n m)]) ∧ Below w.heap.size w w' := by
  have hpl : p < w.heap.size := World.block_lt_of_cell? _ _ hp
  obtain ⟨w1, hw1⟩ : ∃ w1, w1 = ((w.alloc (.cells #[.string s, .int .i64 n] 30)).alloc (.cells #[.string u, .int .i64 m] 30)).alloc (.cells #[.string ByteArray.empty, .int .i64 0] 30) := ⟨_, rfl⟩
  have r0 : Row w1 w.heap.size 30 #[.string s, .int .i64 n] := hw1 ▸ ((Row.new w _ _).keep (below_alloc (Below.refl _ _) _)).keep (below_alloc (Below.refl _ _) _)
  have r1 : Row w1 (w.heap.size + 1) 30 #[.string u, .int .i64 m] := by
    have := (Row.new (w.alloc (.cells #[.string s, .int .i64 n] 30)) 30 #[.string u, .int .i64 m]).keep (below_alloc (Below.refl _ _) (.cells #[.string ByteArray.empty, .int .i64 0] 30))
    rw [← hw1] at this
    simpa using this
  have r2 : Row w1 (w.heap.size + 1 + 1) 30 #[.string ByteArray.empty, .int .i64 0] := by
    have := Row.new ((w.alloc (.cells #[.string s, .int .i64 n] 30)).alloc (.cells #[.string u, .int .i64 m] 30)) 30 #[.string ByteArray.empty, .int .i64 0]
    rw [← hw1] at this
    simpa using this
  have hB : Below w.heap.size w w1 := hw1 ▸ below_alloc (below_alloc (below_alloc (Below.refl _ _) _) _) _
  have c0 := r0.cell (j := 0) (by simp)
  have c1 := r0.cell (j := 1) (by simp)
  have d1 := r1.cell (j := 1) (by simp)
  have e0 := r2.cell (j := 0) (by simp)
  have e1 := r2.cell (j := 1) (by simp)
  have hp1 := (hB.cell (p := ⟨p, 0, none⟩) hpl).trans hp
  have z0 := r2.free 0
  have z1 := r2.free 1
  simp only [List.getElem_toArray, List.getElem_cons_zero, List.getElem_cons_succ] at c0 c1 d1 e0 e1
  have HW := Lib.hid hw1
  have HB := Lib.hid hB
  have HR := Lib.hid r2
  clear hw1 hB r0 r1 r2 hp hpl
  go_enter Try.func22, Try.ntmps22
  go_wp2_with fail
  (first | rw [← HW.out] | (rw [show ({ data := #[] } : ByteArray) = ByteArray.empty from rfl, ← HW.out]))
  refine wp_region_still_tail 9 (by kernel_rfl) (by kernel_rfl) ?_
  simp only [List.take_succ_cons, List.take_zero, List.drop_succ_cons, List.drop_zero]
  iterate 7 still_step
  still_call ((fn_3 _ _ _).mono fun _ _ ⟨he, hw⟩ => ⟨he, hw.symm⟩)
  still_step
  refine wpStill_nil ?_
  change wpList _ _ _ _ _ w1.drew
  go_wp2
  have hr := ((HR.out.set 0 (.string s)).set 1 (.int .i64 (combN 3 n m))).keep ((Below.refl _ _).drew)
  have hh : (((w1.setCell ⟨w.heap.size + 1 + 1, 0, none⟩ (.string s)).setCell ⟨w.heap.size + 1 + 1, 1, none⟩ (.int .i64 (combN 3 n m))).drew).heap[w.heap.size + 1 + 1]? = some (.cells #[.string s, .int .i64 (combN 3 n m)] 30 (0, 0)) := hr
  have hbel := ((HB.out.setCell (p := ⟨w.heap.size + 1 + 1, 0, none⟩) (by show w.heap.size ≤ w.heap.size + 1 + 1; omega) (.string s)).setCell (p := ⟨w.heap.size + 1 + 1, 1, none⟩) (by show w.heap.size ≤ w.heap.size + 1 + 1; omega) (.int .i64 (combN 3 n m))).drew
  exact bodyPost_ret (v := .agg #[.string s, .int .i64 (combN 3 n m)]) (by simp [results, Try.results22, go_sem, World.cell?, hh]) rfl ⟨rfl, hbel⟩

theorem join_any (op : Int) (p : Nat) (s u : ByteArray) (n m : Int) (w : World) (h : opOkB op = true) (hp : w.cell? ⟨p, 0, none⟩ = some (fnOf op)) :
    Calls Try.prog 22 #[.agg #[.string s, .int .i64 n], .agg #[.string u, .int .i64 m], .pointer (some ⟨p, 0, none⟩)] w fun e w' => e = .returned (.agg #[.string s, .int .i64 (combN op n m)]) ∧ Below w.heap.size w w' := by
  rcases op_ways h with rfl | rfl | rfl | rfl
  · exact join_1 p s u n m w hp
  · exact join_2 p s u n m w hp
  · exact join_3 p s u n m w hp
  · rw [comb_14]; exact join_1 p s u n m w hp
end Go.Proofs.Ytldjahemgkkpbaa
namespace Go.Proofs.Ytldjahemgkkpbaa
open Go.ChangeShapes Go.WideShapes Go.ChangeAt Go.RowKit
set_option linter.unusedVariables false
set_option maxRecDepth 100000

/-- A record as a value. -/
def recV (s : ByteArray) (n : Int) : Value := .agg #[.string s, .int .i64 n]
def okB (s : ByteArray) : Bool := decide (s.size ≤ 40)
def lessB (s : ByteArray) (n : Int) (u : ByteArray) (m : Int) : Bool := Op.bytesLess s.toList u.toList || (s.toList == u.toList && decide (n < m))

theorem okB_yes {s : ByteArray} (h : s.size ≤ 40) : okB s = true := by unfold okB; simpa using h
theorem okB_no {s : ByteArray} (h : ¬ s.size ≤ 40) : okB s = false := by unfold okB; simpa using h

theorem okB_int (s : ByteArray) : decide ((s.size : Int) ≤ 40) = okB s := by
  unfold okB
  by_cases h : s.size ≤ 40
  · rw [decide_eq_true h, decide_eq_true (by omega)]
  · rw [decide_eq_false h, decide_eq_false (by omega)]

theorem recok_any (s : ByteArray) (n : Int) (w : World) : Calls Try.prog 46 #[.agg #[.string s, .int .i64 n]] w (MadeBool (okB s) w) := by
  go_enter Try.func46, Try.ntmps46
  go_wp2
  go_ret
  exact ⟨ret_bool (okB_int s), below_alloc (Below.refl _ _) _⟩

theorem srecok_any (s : ByteArray) (n : Int) (w : World) : Calls Try.prog 42 #[.agg #[.string s, .int .i64 n]] w (MadeBool (okB s) w) := by
  go_enter Try.func42, Try.ntmps42
  go_wp2
  go_ret
  exact ⟨ret_bool (okB_int s), below_alloc (Below.refl _ _) _⟩

/-- The end of a function that returns a record and makes at most new blocks. -/
def MadeRec (s : ByteArray) (n : Int) (w : World) (e : Ending) (w' : World) : Prop := e = .returned (.agg #[.string s, .int .i64 n]) ∧ Below w.heap.size w w'

def sz1 (left : Int) (s : ByteArray) : Int := if left < s.size then -1 else left - s.size
/-- The end of a function that returns the number x and makes at most new blocks. -/
def MadeInt (x : Int) (w : World) (e : Ending) (w' : World) : Prop := e = .returned (.int .i64 x) ∧ Below w.heap.size w w'
theorem ret_int' {k : IntKind} {a b : Int} (h : a = b) : Ending.returned (.int k a) = .returned (.int k b) := by rw [h]

theorem bytesLess_irrefl (l : List UInt8) : Op.bytesLess l l = false := by
  induction l with
  | nil => rfl
  | cons a l ih => simp [Op.bytesLess, ih]
theorem less_ne {s u : ByteArray} {n m : Int} (h : (!s.toList == u.toList) = true) : Op.bytesLess s.toList u.toList = lessB s n u m := by
  unfold lessB
  rw [Bool.not_eq_true'] at h
  rw [h]; simp
theorem less_eq {s u : ByteArray} {n m : Int} (h : (!s.toList == u.toList) = false) : decide (n < m) = lessB s n u m := by
  unfold lessB
  rw [Bool.not_eq_false'] at h
  rw [h, eq_of_beq h, bytesLess_irrefl]; simp

theorem less_1 {s u : ByteArray} {n m : Int} (h : Op.bytesLess s.toList u.toList = true) : true = lessB s n u m := by
  unfold lessB; rw [h]; rfl
theorem less_2 {s u : ByteArray} {n m : Int} (h : ¬ Op.bytesLess s.toList u.toList = true) (h2 : s.toList = u.toList) : decide (n < m) = lessB s n u m := by
  unfold lessB; rw [Bool.not_eq_true] at h; rw [h, h2]; simp
theorem less_3 {s u : ByteArray} {n m : Int} (h : ¬ Op.bytesLess s.toList u.toList = true) (h2 : ¬ s.toList = u.toList) : false = lessB s n u m := by
  unfold lessB; rw [Bool.not_eq_true] at h; rw [h]; simp [h2]

/-- A block of two cells. -/
structure Box2 (w : World) (b : Nat) (x y : Value) : Prop where
  lt : b < w.heap.size
  c0 : w.cell? ⟨b, 0, none⟩ = some x
  c1 : w.cell? ⟨b, 1, none⟩ = some y
theorem Box2.keep {w w1 : World} {b : Nat} {x y : Value} (h : Box2 w b x y) (hB : Below w.heap.size w w1) : Box2 w1 b x y :=
  ⟨Nat.lt_of_lt_of_le h.lt hB.size, (hB.cell (p := ⟨b, 0, none⟩) h.lt).trans h.c0, (hB.cell (p := ⟨b, 1, none⟩) h.lt).trans h.c1⟩
theorem Box2.new (w : World) (x y : Value) (t : TypeId) : Box2 (w.alloc (.cells #[x, y] t)) w.heap.size x y :=
  ⟨by simp, cell_two_new w x y t 0 _ rfl, cell_two_new w x y t 1 _ rfl⟩
theorem Box2.new1 (w : World) (o : Obj) (x y : Value) (t : TypeId) : Box2 ((w.alloc o).alloc (.cells #[x, y] t)) (w.heap.size + 1) x y := by
  have h := Box2.new (w.alloc o) x y t
  have e : (w.alloc o).heap.size = w.heap.size + 1 := by simp
  rw [e] at h
  exact h
theorem Box2.alloc {w : World} {b : Nat} {x y : Value} (h : Box2 w b x y) (o : Obj) : Box2 (w.alloc o) b x y := h.keep ((Below.refl _ _).alloc (Nat.le_refl _) o)

set_option maxHeartbeats 1000000 in
theorem recless_any (s : ByteArray) (n : Int) (u : ByteArray) (m : Int) (w : World) : Calls Try.prog 36 #[.agg #[.string s, .int .i64 n], .agg #[.string u, .int .i64 m]] w (MadeBool (okB s && okB u && lessB s n u m) w) := by
  by_cases h1 : s.size ≤ 40
  · have k1 := okB_yes h1
    clear h1
    by_cases h2 : u.size ≤ 40
    · have k2 := okB_yes h2
      clear h2
      go_enter Try.func36, Try.ntmps36
      go_wp2_with (first | (go_at_call 46; (with_reducible refine (recok_any s n _).mono ?_); rintro e w1 ⟨rfl, hB⟩; have hc1 := bcell hB; have hz1 : w.heap.size + 1 < w1.heap.size := (by have := hB.size; simp at this; omega); have hz0 : w.heap.size < w1.heap.size := (by omega); have HB1 := Lib.hid (below_via (below_alloc (below_alloc (Below.refl _ _) _) _) hB); clear hB) | (go_at_call 46; (with_reducible refine (recok_any u m _).mono ?_); rintro e w2 ⟨rfl, hB⟩; have hc2 := bcell hB; have HB2 := Lib.hid (below_via HB1.out hB); clear hB))
      · go_ret
        exact ⟨ret_bool (by rw [k1, k2]; exact less_ne ‹_›), HB2.out⟩
      · go_ret
        exact ⟨ret_bool (by rw [k1, k2]; exact less_eq ‹_›), HB2.out⟩
    · have k2 := okB_no h2
      clear h2
      go_enter Try.func36, Try.ntmps36
      go_wp2_with (first | (go_at_call 46; (with_reducible refine (recok_any s n _).mono ?_); rintro e w1 ⟨rfl, hB⟩; have hc1 := bcell hB; have hz1 : w.heap.size + 1 < w1.heap.size := (by have := hB.size; simp at this; omega); have hz0 : w.heap.size < w1.heap.size := (by omega); have HB1 := Lib.hid (below_via (below_alloc (below_alloc (Below.refl _ _) _) _) hB); clear hB) | (go_at_call 46; (with_reducible refine (recok_any u m _).mono ?_); rintro e w2 ⟨rfl, hB⟩; have hc2 := bcell hB; have HB2 := Lib.hid (below_via HB1.out hB); clear hB))
      go_ret
      exact ⟨ret_bool (by rw [k1, k2]; rfl), HB2.out⟩
  · have k1 := okB_no h1
    clear h1
    go_enter Try.func36, Try.ntmps36
    go_wp2_with (go_at_call 46; refine (recok_any _ _ _).mono ?_; rintro e w1 ⟨rfl, hB⟩; have HB := Lib.hid hB; clear hB)
    go_ret
    exact ⟨ret_bool (by rw [k1]; rfl), below_via (below_alloc (below_alloc (Below.refl _ _) _) _) HB.out⟩

set_option maxHeartbeats 1000000 in
theorem l2less_any (s : ByteArray) (n : Int) (u : ByteArray) (m : Int) (w : World) : Calls Try.prog 44 #[.agg #[.string s, .int .i64 n], .agg #[.string u, .int .i64 m]] w (MadeBool (lessB s n u m) w) := by
  go_enter Try.func44, Try.ntmps44
  go_wp2
  · go_ret
    exact ⟨ret_bool (less_1 ‹_›), below_alloc (below_alloc (Below.refl _ _) _) _⟩
  · go_ret
    exact ⟨ret_bool (less_2 ‹_› ‹_›), below_alloc (below_alloc (Below.refl _ _) _) _⟩
  · go_ret
    exact ⟨ret_bool (less_3 ‹_› ‹_›), below_alloc (below_alloc (Below.refl _ _) _) _⟩
end Go.Proofs.Ytldjahemgkkpbaa
