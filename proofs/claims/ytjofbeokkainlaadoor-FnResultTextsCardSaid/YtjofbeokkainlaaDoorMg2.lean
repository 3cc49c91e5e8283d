/- Texts put together, as a claim holds at most sixty files. -/
import Derived.Test.YtjofbeokkainlaaDoorMg1
import Derived.Lib.Strings
import Derived.Lib.AppendStr
import Derived.Test.YtjofbeokkainlaaDoorRows
import Derived.WalkKit
import Derived.RegionTactic
import Derived.Deep.RegionHeld3
namespace Go.Proofs.YtjofbeokkainlaaDoor
open Go.ChangeShapes Go.WideShapes Go.ChangeAt Go.RowKit
set_option linter.unusedVariables false
set_option maxRecDepth 100000

def kbB (c : Int) : Bool := decide (97 ≤ c ∧ c ≤ 122 ∨ 48 ≤ c ∧ c ≤ 57 ∨ c = 45 ∨ c = 47)
def keyB (s : ByteArray) : Bool := decide (1 ≤ s.size ∧ s.size ≤ 40) && s.data.toList.all fun c => kbB c.toNat
def inB (n lo hi : Int) : Bool := decide (lo ≤ n ∧ n ≤ hi)
theorem inB_iff {n lo hi : Int} : inB n lo hi = true ↔ lo ≤ n ∧ n ≤ hi := by unfold inB; simp
def SameBool (b : Bool) (w : World) (e : Ending) (w' : World) : Prop := e = .returned (.bool b) ∧ w = w'

theorem l1in_any (n lo hi : Int) (w : World) : Calls Tryd.prog 30 #[.int .i64 n, .int .i64 lo, .int .i64 hi] w (SameBool (inB n lo hi) w) := by
  by_cases h1 : lo ≤ n
  · have H := Lib.hid (show inB n lo hi = decide (n ≤ hi) by unfold inB; simp [h1])
    go_enter Tryd.func30, Tryd.ntmps30
    go_wp2
    go_ret
    exact ⟨ret_bool H.out.symm, rfl⟩
  · have H := Lib.hid (show inB n lo hi = false by unfold inB; simp [h1])
    go_enter Tryd.func30, Tryd.ntmps30
    go_wp2
    go_ret
    exact ⟨ret_bool H.out.symm, rfl⟩
theorem get_list (s : ByteArray) (k : Nat) (h : k < s.size) : s.data.toList[k]'(by simpa using h) = s[k] := rfl
theorem key_all {s : ByteArray} (h1 : 1 ≤ s.size) (h2 : s.size ≤ 40) (h : ∀ k, (hk : k < s.size) → kbB s[k].toNat = true) : keyB s = true := by
  unfold keyB
  rw [decide_eq_true ⟨h1, h2⟩, Bool.true_and, List.all_eq_true]
  intro c hc
  obtain ⟨k, hk, rfl⟩ := List.mem_iff_getElem.1 hc
  exact h k (by simpa using hk)
theorem key_bad {s : ByteArray} {k : Nat} (hk : k < s.size) (h : kbB s[k].toNat = false) : keyB s = false := by
  unfold keyB
  rw [Bool.and_eq_false_iff]
  refine .inr ?_
  rw [List.all_eq_false]
  exact ⟨s[k], by rw [← get_list s k hk]; exact List.getElem_mem _, by rw [h]; simp⟩
theorem key_size {s : ByteArray} (h : ¬ (1 ≤ s.size ∧ s.size ≤ 40)) : keyB s = false := by
  unfold keyB
  rw [decide_eq_false h]; rfl
theorem key_len {s : ByteArray} (h : keyB s = true) : 1 ≤ s.size ∧ s.size ≤ 40 := by
  unfold keyB at h
  rw [Bool.and_eq_true, decide_eq_true_eq] at h
  exact h.1
theorem empty_of_size {s : ByteArray} (h : s.size = 0) : s.toList = [] := by
  have : s.data.toList = [] := List.length_eq_zero_iff.1 (by simpa using h)
  rw [Lib.toList_data]; exact this
theorem not_empty {s : ByteArray} (h : 1 ≤ s.size) : ¬ s.toList = [] := fun e => by
  rw [Lib.toList_data] at e
  have e' : s.data.toList.length = 0 := by rw [e]; rfl
  have e2 : s.size = s.data.toList.length := by simp
  omega

end Go.Proofs.YtjofbeokkainlaaDoor
namespace Go.Proofs.YtjofbeokkainlaaDoor
open Go.ChangeShapes Go.WideShapes Go.ChangeAt Go.RowKit
set_option linter.unusedVariables false
set_option maxRecDepth 100000

def pbB (c : Nat) : Bool := decide (33 ≤ c ∧ c ≤ 126)
def pushB (s : ByteArray) : Bool := decide (s.size ≤ 20) && s.data.toList.all fun c => pbB c.toNat
theorem push_all {s : ByteArray} (h : ∀ k, (hk : k < s.size) → pbB s[k].toNat = true) : pushB s = decide (s.size ≤ 20) := by
  unfold pushB
  rw [List.all_eq_true.2, Bool.and_true]
  intro c hc
  obtain ⟨k, hk, rfl⟩ := List.getElem_of_mem hc
  exact h k (by simpa using hk)
theorem push_bad {s : ByteArray} {k : Nat} (hk : k < s.size) (h : pbB s[k].toNat = false) : pushB s = false := by
  unfold pushB
  rw [Bool.and_eq_false_iff]
  right
  rw [List.all_eq_false]
  exact ⟨s[k], by rw [← get_list s k hk]; exact List.getElem_mem _, by rw [h]; simp⟩
theorem push_long {s : ByteArray} (h : ¬ s.size ≤ 20) : pushB s = false := by
  unfold pushB
  rw [decide_eq_false h]; rfl
theorem push_none : pushB ByteArray.empty = true := by decide

/-- Which instructions are valid. -/
def instrB (op n : Int) (s : ByteArray) : Bool :=
  if op = 1 then decide (0 ≤ n ∧ n ≤ 19) && decide (s.size = 0)
  else if op = 2 then decide (n = 0) && pushB s
  else if op = 3 then decide (s.size = 0)
  else decide (4 ≤ op ∧ op ≤ 14) && (decide (n = 0) && decide (s.size = 0))
end Go.Proofs.YtjofbeokkainlaaDoor
namespace Go.Proofs.YtjofbeokkainlaaDoor
open Go.ChangeShapes Go.WideShapes Go.ChangeAt Go.RowKit
set_option linter.unusedVariables false
set_option maxRecDepth 100000

theorem infoStr : (Tryd.prog.info? 9).map (fun i => (i.zero, i.size, i.bytes)) = some (some (.string ByteArray.empty), 1, 16) := by kernel_rfl

theorem one_new (w : World) (x : Value) (t : TypeId) : ∀ j u, [x][j]? = some u → (w.alloc (.cells #[x] t)).cell? ((⟨w.heap.size, 0, none⟩ : Addr).add j) = some u := by
  intro j u hj
  match j, hj with
  | 0, hj => simp at hj; subst hj; simp [Addr.add]
theorem own_form {w : World} {base : Nat} {e : TypeId} {size : Nat} {v : Value} {n : Nat} {xs : List Value} (h : w.ownsRow base e size v n xs) : ∃ q cp, v = .slice q n cp := by
  rcases h.2 with ⟨rfl, rfl⟩ | ⟨g, cap, cur, rfl, _⟩
  · exact ⟨_, _, rfl⟩
  · exact ⟨_, _, rfl⟩
theorem own_below {w w1 : World} {base : Nat} {e : TypeId} {size : Nat} {v : Value} {n : Nat} {xs : List Value} (h : w.ownsRow base e size v n xs) (hB : Below w.heap.size w w1) : w1.ownsRow base e size v n xs :=
  h.kept (row := none) ⟨hB.os, hB.tape, hB.output, hB.size, fun k hk _ => hB.block k hk⟩ (by by_cases hv : v.ownBlock = none; exact .inl hv; exact .inr hv)
theorem growT {a b c : World} {row : Option Nat} (h : a.grownBy b row) (k : b.grownBy c row) : a.grownBy c row :=
  ⟨k.os.trans h.os, k.tape.trans h.tape, k.output.trans h.output, Nat.le_trans h.size k.size, fun i hi hn => (k.block i (Nat.lt_of_lt_of_le hi h.size) hn).trans (h.block i hi hn)⟩
theorem growB {a b c : World} {row : Option Nat} (h : a.grownBy b row) (k : Below b.heap.size b c) : a.grownBy c row :=
  ⟨k.os.trans h.os, k.tape.trans h.tape, k.output.trans h.output, Nat.le_trans h.size k.size, fun i hi hn => (k.block i (Nat.lt_of_lt_of_le hi h.size)).trans (h.block i hi hn)⟩
theorem growA {a b : World} {row : Option Nat} (h : a.grownBy b row) (o : Obj) : a.grownBy (b.alloc o) row := growT h (World.grownBy_alloc _ _ _)
theorem growD {a b : World} {row : Option Nat} (h : a.grownBy b row) (n : Nat) : a.grownBy (b.drewN n) row := growT h ⟨rfl, rfl, rfl, Nat.le_refl _, fun _ _ _ => rfl⟩
theorem growS {a b : World} {r : Nat} (h : a.grownBy b (some r)) (j : Nat) (v : Value) : a.grownBy (b.setCell ⟨r, j, none⟩ v) (some r) :=
  growT h ⟨rfl, rfl, rfl, by simp [World.setCell], fun k hk hn => Below.heap_setCell _ _ _ _ (fun e => hn (by rw [e]))⟩
theorem growP {a b : World} {row : Option Nat} (h : a.grownBy b row) {B : Nat} (hB : a.heap.size ≤ B) (j : Nat) (v : Value) : a.grownBy (b.setCell ⟨B, j, none⟩ v) row :=
  ⟨h.os, h.tape, h.output, by have := h.size; simpa [World.setCell] using this, fun k hk hn => (Below.heap_setCell _ _ _ _ (show k ≠ B by omega)).trans (h.block k hk hn)⟩
/-- A row of the call's own grows: nothing that was there before the call has changed. -/
theorem growO {a b c : World} {row row' : Option Nat} (h : a.grownBy b row) (k : b.grownBy c row') (hr : ∀ i, row' = some i → a.heap.size ≤ i) : a.grownBy c row :=
  ⟨k.os.trans h.os, k.tape.trans h.tape, k.output.trans h.output, Nat.le_trans h.size k.size, fun i hi hn => (k.block i (Nat.lt_of_lt_of_le hi h.size) (fun e => by have := hr i e.symm; omega)).trans (h.block i hi hn)⟩
theorem growBelow {a b : World} {row : Option Nat} (h : a.grownBy b row) (hr : ∀ i, row = some i → a.heap.size ≤ i) : Below a.heap.size a b :=
  ⟨h.os, h.tape, h.output, h.size, fun i hi => h.block i hi (fun e => by have := hr i e.symm; omega)⟩
theorem belowGrow {a b : World} (h : Below a.heap.size a b) (row : Option Nat) : a.grownBy b row := ⟨h.os, h.tape, h.output, h.size, fun i hi _ => h.block i hi⟩
theorem Row.other {w : World} {B r : Nat} {E : TypeId} {cur : Array Value} (h : Row w B E cur) (hne : B ≠ r) (j : Nat) (x : Value) : Row (w.setCell ⟨r, j, none⟩ x) B E cur := (Below.heap_setCell _ _ _ _ hne).trans h
theorem Row.grown {w w1 : World} {B : Nat} {row : Option Nat} {E : TypeId} {cur : Array Value} (h : Row w B E cur) (hg : w.grownBy w1 row) (hne : row ≠ some B) : Row w1 B E cur := (hg.block B h.lt (Ne.symm hne)).trans h
theorem Row.drewN {w : World} {B : Nat} {E : TypeId} {cur : Array Value} (h : Row w B E cur) (n : Nat) : Row (w.drewN n) B E cur := h.keep (below_drewN (Below.refl _ _) _)
theorem Row.alloc {w : World} {B : Nat} {E : TypeId} {cur : Array Value} (h : Row w B E cur) (o : Obj) : Row (w.alloc o) B E cur := h.keep (below_alloc (Below.refl _ _) o)
theorem Row.new (w : World) (E : TypeId) (cur : Array Value) : Row (w.alloc (.cells cur E (0, 0))) w.heap.size E cur := heap_alloc_new _ _
end Go.Proofs.YtjofbeokkainlaaDoor
namespace Go.Proofs.YtjofbeokkainlaaDoor
open Go.ChangeShapes Go.WideShapes Go.ChangeAt Go.RowKit

theorem cat_runp {P : Program} {w : World} (a b : ByteArray) (n : Nat) (ha : a.size ≤ n) (hb : b.size ≤ n) (hn : n ≤ 4611686018427387903 := by decide) : (Op.stringOp .add a b).run P w = .ok (.string (a ++ b)) w :=
  run_string_add_sum w a b (by omega)
end Go.Proofs.YtjofbeokkainlaaDoor
namespace Go.Proofs.YtjofbeokkainlaaDoor
open Go.ChangeShapes Go.WideShapes Go.ChangeAt Go.RowKit
set_option linter.unusedVariables false
set_option maxRecDepth 100000

theorem ot_own_grown {w w1 : World} {base : Nat} {e : TypeId} {size n : Nat} {v : Value} {xs : List Value} {row : Option Nat} (h : w.ownsRow base e size v n xs) (hg : w.grownBy w1 row) (hne : ∀ g, v.ownBlock = some g → row ≠ some g) : w1.ownsRow base e size v n xs :=
  h.kept hg (by
    cases hv : v.ownBlock with
    | none => exact .inl rfl
    | some g => exact .inr (fun he => hne g hv he.symm))
theorem ot_own_put {w : World} {base X : Nat} {e : TypeId} {size n : Nat} {v : Value} {xs : List Value} (h : w.ownsRow base e size v n xs) (hne : ∀ g, v.ownBlock = some g → X ≠ g) (j : Nat) (x : Value) : (w.setCell ⟨X, j, none⟩ x).ownsRow base e size v n xs := by
  refine ⟨h.1, ?_⟩
  rcases h.2 with h2 | ⟨g, cap, cur, hv, hb, hh, r⟩
  · exact .inl h2
  · refine .inr ⟨g, cap, cur, hv, hb, ?_, r⟩
    have hX := hne g (by rw [hv]; rfl)
    exact (Below.heap_setCell w ⟨X, j, none⟩ x g (fun he => hX he.symm)).trans hh
theorem ot_own_ne_row {w : World} {base X : Nat} {e T : TypeId} {size n : Nat} {v : Value} {xs : List Value} {cur : Array Value} (h : w.ownsRow base e size v n xs) (r : Row w X T cur) (hT : T ≠ e) : ∀ g, v.ownBlock = some g → X ≠ g := by
  intro g hg he
  subst he
  rcases h.2 with ⟨h2, _⟩ | ⟨g', cap, cur', hv, _, hh, _⟩
  · rw [h2] at hg; cases hg
  · rw [hv] at hg
    simp only [Value.ownBlock, Option.some.injEq] at hg
    subst hg
    unfold Row at r
    rw [hh] at r
    simp only [Option.some.injEq, Obj.cells.injEq] at r
    exact hT r.2.1.symm
theorem ot_own_apartT {w : World} {b1 b2 : Nat} {e1 e2 : TypeId} {s1 s2 n1 n2 : Nat} {v1 v2 : Value} {x1 x2 : List Value} (h : w.ownsRow b1 e1 s1 v1 n1 x1) (k : w.ownsRow b2 e2 s2 v2 n2 x2) (hne : e1 ≠ e2) : ∀ g, v1.ownBlock = some g → v2.ownBlock ≠ some g := by
  intro g hg he
  rcases h.2 with ⟨h2, _⟩ | ⟨g', cap, cur, hv, _, hh, _⟩
  · rw [h2] at hg; cases hg
  · rw [hv] at hg
    simp only [Value.ownBlock, Option.some.injEq] at hg
    subst hg
    exact ot_own_ne_row k (show Row w g' e1 cur from hh) hne g' he rfl
theorem ot_row_grownT {w w1 : World} {base X : Nat} {e T : TypeId} {size n : Nat} {v : Value} {xs : List Value} {cur : Array Value} (r : Row w X T cur) (h : w.ownsRow base e size v n xs) (hT : T ≠ e) (hg : w.grownBy w1 v.ownBlock) : Row w1 X T cur :=
  r.grown hg (fun he => ot_own_ne_row h r hT X he rfl)
theorem ot_row_new (w : World) (cur : Array Value) (T : TypeId) : Row (w.alloc (.cells cur T)) w.heap.size T cur := by
  have := heap_alloc_new w (.cells cur T)
  simpa [Row] using this
theorem Row.otAl {w : World} {B : Nat} {E : TypeId} {cur : Array Value} (h : Row w B E cur) (o : Obj) : Row (w.alloc o) B E cur := h.keep (below_alloc (Below.refl _ _) _)
theorem Row.otPut {w : World} {B : Nat} {E : TypeId} {cur : Array Value} (h : Row w B E cur) {X : Nat} (hne : B ≠ X) (j : Nat) (v : Value) : Row (w.setCell ⟨X, j, none⟩ v) B E cur := (Below.heap_setCell w ⟨X, j, none⟩ v B hne).trans h
/-- The last element dropped: the row still holds what is ahead of it. -/
theorem ot_take {w : World} {base : Nat} {e : TypeId} {size : Nat} {q : Option Addr} {n c : Nat} {xs : List Value} (h : w.ownsRow base e size (.slice q n c) n xs) {k : Nat} (hk : k ≤ n) (hn : 0 < n) : w.ownsRow base e size (.slice q k c) k (xs.take (k * size)) := by
  have hl := h.1
  refine ⟨by rw [List.length_take, hl]; exact Nat.min_eq_left (Nat.mul_le_mul_right _ hk), ?_⟩
  rcases h.2 with ⟨_, h0⟩ | ⟨g, cap, cur, hv, hb, hh, h1, h2, h3, h4⟩
  · omega
  · simp only [Value.slice.injEq] at hv
    obtain ⟨rfl, _, rfl⟩ := hv
    refine .inr ⟨g, c, cur, rfl, hb, hh, by omega, h2, h3, ?_⟩
    rw [← h4, List.take_take, Nat.min_eq_left (Nat.mul_le_mul_right _ hk)]
end Go.Proofs.YtjofbeokkainlaaDoor
namespace Go.Proofs.YtjofbeokkainlaaDoor
open Go.ChangeShapes Go.WideShapes Go.ChangeAt Go.RowKit
set_option linter.unusedVariables false
set_option maxRecDepth 100000

def combN (op a b : Int) : Int := if op = 1 ∨ op = 4 then wrap64 (a + b) else if op = 2 then (if b < a then b else a) else if op = 3 then (if a < b then b else a) else 0

def Same (x : Int) (w : World) (e : Ending) (w' : World) : Prop := e = .returned (.int .i64 x) ∧ w = w'
theorem comb_sum (op a b : Int) (h : op = 1 ∨ op = 4) : wrap64 (a + b) = combN op a b := by unfold combN; rw [if_pos h]
theorem comb_lo (a b : Int) (h : b < a) : b = combN 2 a b := by unfold combN; rw [if_neg (by decide), if_pos rfl, if_pos h]
theorem comb_lo' (a b : Int) (h : ¬ b < a) : a = combN 2 a b := by unfold combN; rw [if_neg (by decide), if_pos rfl, if_neg h]
theorem comb_hi (a b : Int) (h : a < b) : b = combN 3 a b := by unfold combN; rw [if_neg (by decide), if_neg (by decide), if_pos rfl, if_pos h]
theorem comb_hi' (a b : Int) (h : ¬ a < b) : a = combN 3 a b := by unfold combN; rw [if_neg (by decide), if_neg (by decide), if_pos rfl, if_neg h]
theorem comb_no (op a b : Int) (h1 : op ≠ 1) (h2 : op ≠ 2) (h3 : op ≠ 3) (h4 : op ≠ 4) : 0 = combN op a b := by
  unfold combN; rw [if_neg (by omega), if_neg h2, if_neg h3]
theorem same_of {x y : Int} {w : World} (h : x = y) : Same y w (.returned (.int .i64 x)) w := ⟨by rw [h], rfl⟩

theorem scomb_1 (a b : Int) (w : World) : Calls Tryd.prog 52 #[.int .i64 1, .int .i64 a, .int .i64 b] w (Same (combN 1 a b) w) := by
  go_enter Tryd.func52, Tryd.ntmps52
  go_wp2
  go_ret
  exact same_of (comb_sum 1 a b (.inl rfl))
theorem scomb_4 (a b : Int) (w : World) : Calls Tryd.prog 52 #[.int .i64 4, .int .i64 a, .int .i64 b] w (Same (combN 4 a b) w) := by
  go_enter Tryd.func52, Tryd.ntmps52
  go_wp2
  go_ret
  exact same_of (comb_sum 4 a b (.inr rfl))
theorem scomb_2 (a b : Int) (w : World) : Calls Tryd.prog 52 #[.int .i64 2, .int .i64 a, .int .i64 b] w (Same (combN 2 a b) w) := by
  by_cases h : b < a
  · have H := Lib.hid (comb_lo a b h)
    go_enter Tryd.func52, Tryd.ntmps52
    go_wp2
    go_ret
    exact same_of H.out
  · have H := Lib.hid (comb_lo' a b h)
    go_enter Tryd.func52, Tryd.ntmps52
    go_wp2
    go_ret
    exact same_of H.out
theorem scomb_3 (a b : Int) (w : World) : Calls Tryd.prog 52 #[.int .i64 3, .int .i64 a, .int .i64 b] w (Same (combN 3 a b) w) := by
  by_cases h : a < b
  · have H := Lib.hid (comb_hi a b h)
    go_enter Tryd.func52, Tryd.ntmps52
    go_wp2
    go_ret
    exact same_of H.out
  · have H := Lib.hid (comb_hi' a b h)
    go_enter Tryd.func52, Tryd.ntmps52
    go_wp2
    go_ret
    exact same_of H.out
theorem scomb_0 (op a b : Int) (w : World) (h1 : op ≠ 1) (h2 : op ≠ 2) (h3 : op ≠ 3) (h4 : op ≠ 4) : Calls Tryd.prog 52 #[.int .i64 op, .int .i64 a, .int .i64 b] w (Same (combN op a b) w) := by
  have H := Lib.hid (comb_no op a b h1 h2 h3 h4)
  have g1 : (op == 1) = false := by simpa using h1
  have g2 : (op == 2) = false := by simpa using h2
  have g3 : (op == 3) = false := by simpa using h3
  have g4 : (op == 4) = false := by simpa using h4
  clear h1 h2 h3 h4
  go_enter Tryd.func52, Tryd.ntmps52
  go_wp2
  go_ret
  exact same_of H.out
theorem scomb_any (op a b : Int) (w : World) : Calls Tryd.prog 52 #[.int .i64 op, .int .i64 a, .int .i64 b] w (Same (combN op a b) w) := by
  by_cases h1 : op = 1
  · subst h1; exact scomb_1 a b w
  · by_cases h2 : op = 2
    · subst h2; exact scomb_2 a b w
    · by_cases h3 : op = 3
      · subst h3; exact scomb_3 a b w
      · by_cases h4 : op = 4
        · subst h4; exact scomb_4 a b w
        · exact scomb_0 op a b w h1 h2 h3 h4

end Go.Proofs.YtjofbeokkainlaaDoor
namespace Go.Proofs.YtjofbeokkainlaaDoor
open Go.ChangeShapes Go.WideShapes Go.ChangeAt Go.RowKit
set_option linter.unusedVariables false
set_option maxRecDepth 100000

def opOkB (op : Int) : Bool := decide (1 ≤ op) && decide (op ≤ 4)
/-- The end of combiner: a function, and whether the op is valid. -/
def MadeComb (b : Bool) (w : World) (e : Ending) (w' : World) : Prop := ∃ f : Value, e = .returned (.tuple #[f, .bool b]) ∧ w = w'
theorem op_ways {op : Int} (h : opOkB op = true) : op = 1 ∨ op = 2 ∨ op = 3 ∨ op = 4 := by
  unfold opOkB at h
  rw [Bool.and_eq_true, decide_eq_true_eq, decide_eq_true_eq] at h
  omega
theorem op_none {op : Int} (h : opOkB op = false) : op ≠ 1 ∧ op ≠ 2 ∧ op ≠ 3 ∧ op ≠ 4 := by
  refine ⟨?_, ?_, ?_, ?_⟩ <;> rintro rfl <;> simp [opOkB] at h
set_option maxHeartbeats 1000000 in
theorem l4op_any (op : Int) (w : World) : Calls Tryd.prog 29 #[.int .i64 op] w fun e w' => e = .returned (.bool (opOkB op)) ∧ w = w' := by
  by_cases h1 : 1 ≤ op
  · have e : opOkB op = decide (op ≤ 4) := by unfold opOkB; rw [decide_eq_true h1, Bool.true_and]
    rw [e]
    clear e
    go_enter Tryd.func29, Tryd.ntmps29
    go_wp2
    go_ret
    exact ⟨rfl, rfl⟩
  · have e : opOkB op = false := by unfold opOkB; rw [decide_eq_false h1, Bool.false_and]
    rw [e]
    clear e
    go_enter Tryd.func29, Tryd.ntmps29
    go_wp2
    go_ret
    exact ⟨rfl, rfl⟩
end Go.Proofs.YtjofbeokkainlaaDoor
namespace Go.Proofs.YtjofbeokkainlaaDoor

section
variable {P : Program} {ops : Array Oper} {Q : Exit → Act → World → Prop} {md : Region.Mode}

theorem hand_take {i d : Nat} {oi : Oper} {v : Value} {fuel : Nat} {listed : Array Bool} {a : Act} {w : World} (hi : ops[i]? = some oi) (hd : oi.dst = some d)
    (hs : Region.noSelect ops = true) (hf : Region.free md ops listed i = true) (hr : (Region.ready md ops listed).contains i = true)
    (hw : Region.wanted oi (yielded ops a.tmps) = true) (hy : ∀ w, (execOp a.eval oi).run P w = .ok (.value v) w)
    (h : wpAny P md ops (NoPanic Q) fuel (listed.setIfInBounds i true) { a with tmps := a.tmps.setIfInBounds d v } w) : wpAny P md ops (NoPanic Q) (fuel + 1) listed a w :=
  wpAny_take hi hs hf hr (fun _ _ _ h => h) (Or.inl ⟨hw, hy⟩) (by rw [hd]; exact h)

theorem hand_skip {i d : Nat} {oi : Oper} {fuel : Nat} {listed : Array Bool} {a : Act} {w : World} (hi : ops[i]? = some oi) (hd : oi.dst = some d)
    (hs : Region.noSelect ops = true) (hf : Region.free md ops listed i = true) (hr : (Region.ready md ops listed).contains i = true)
    (hw : Region.wanted oi (yielded ops a.tmps) = false)
    (h : wpAny P md ops (NoPanic Q) fuel (listed.setIfInBounds i true) { a with tmps := a.tmps.setIfInBounds d undef } w) : wpAny P md ops (NoPanic Q) (fuel + 1) listed a w :=
  wpAny_take hi hs hf hr (fun _ _ _ h => h) (Or.inr ⟨hw, rfl⟩) (by rw [hd]; exact h)
end
end Go.Proofs.YtjofbeokkainlaaDoor
namespace Go.Proofs.YtjofbeokkainlaaDoor
open Go.ChangeShapes Go.WideShapes Go.ChangeAt Go.RowKit
set_option linter.unusedVariables false

theorem row_new (w : World) (cur : Array Value) (T : TypeId) : Row (w.alloc (.cells cur T)) w.heap.size T cur := by
  have := heap_alloc_new w (.cells cur T)
  simpa [Row] using this
theorem row_new1 (w : World) (o : Obj) (cur : Array Value) (T : TypeId) : Row ((w.alloc o).alloc (.cells cur T)) (w.heap.size + 1) T cur := by
  have := row_new (w.alloc o) cur T
  simpa using this
theorem Row.al {w : World} {B : Nat} {E : TypeId} {cur : Array Value} (h : Row w B E cur) (o : Obj) : Row (w.alloc o) B E cur := h.keep (below_alloc (Below.refl _ _) _)
theorem Row.put {w : World} {B : Nat} {E : TypeId} {cur : Array Value} (h : Row w B E cur) {X : Nat} (hne : B ≠ X) (j : Nat) (v : Value) : Row (w.setCell ⟨X, j, none⟩ v) B E cur := (Below.heap_setCell w ⟨X, j, none⟩ v B hne).trans h
end Go.Proofs.YtjofbeokkainlaaDoor
