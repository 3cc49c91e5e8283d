/- Texts put together, as a claim holds at most sixty files. -/
import Derived.Test.YtdphganbnlmgcaaGreatDoorRows
import Derived.WalkKit
import Derived.ProofKit
import Derived.OpenShut
import Derived.WalkLawsBesides
import Derived.OwnWalk
import Derived.Deep.QuietTactic
import Derived.BigQuiet
import Derived.Deep.RegionHeld3
import Derived.Lib.Hide
import Derived.Outline
import Derived.Lib.Strings
namespace Go.Proofs.YtdphganbnlmgcaaGreatDoor
open Go.ChangeShapes Go.WideShapes Go.ChangeAt Go.RowKit
set_option linter.unusedVariables false
set_option maxRecDepth 100000

/-- The end of a function that returns a bool and makes at most new blocks. -/
def MadeBool (b : Bool) (w : World) (e : Ending) (w' : World) : Prop := e = .returned (.bool b) ∧ Below w.heap.size w w'

theorem ret_bool {a b : Bool} (h : a = b) : Ending.returned (.bool a) = .returned (.bool b) := by rw [h]
theorem below_alloc {w x : World} (h : Below w.heap.size w x) (o : Obj) : Below w.heap.size w (x.alloc o) := h.alloc h.size o
theorem below_via {w x y : World} (h : Below w.heap.size w x) (k : Below x.heap.size x y) : Below w.heap.size w y := h.trans (k.mono h.size)
theorem bcell {W w1 : World} (hb : Below W.heap.size W w1) : ∀ b o, b < W.heap.size → w1.cell? ⟨b, o, none⟩ = W.cell? ⟨b, o, none⟩ := fun b o h => hb.cell (p := ⟨b, o, none⟩) h

/-- Block B is a row of cells that may be written. -/
def Row (w : World) (B : Nat) (E : TypeId) (cur : Array Value) : Prop := w.heap[B]? = some (.cells cur E (0, 0))
theorem Row.lt {w : World} {B : Nat} {E : TypeId} {cur : Array Value} (h : Row w B E cur) : B < w.heap.size := lt_of_block h
theorem Row.keep {w w1 : World} {B : Nat} {E : TypeId} {cur : Array Value} (h : Row w B E cur) (hB : Below w.heap.size w w1) : Row w1 B E cur := (hB.block B h.lt).trans h
theorem Row.cell {w : World} {B : Nat} {E : TypeId} {cur : Array Value} (h : Row w B E cur) {j : Nat} (hj : j < cur.size) : w.cell? ⟨B, j, none⟩ = some cur[j] := by
  unfold Row at h; simp [World.cell?, h, hj]
theorem Row.free {w : World} {B : Nat} {E : TypeId} {cur : Array Value} (h : Row w B E cur) (j : Nat) : w.frozen? ⟨B, j, none⟩ = false := by
  unfold Row at h; simp [World.frozen?, h]
theorem Row.set {w : World} {B : Nat} {E : TypeId} {cur : Array Value} (h : Row w B E cur) (j : Nat) (x : Value) : Row (w.setCell ⟨B, j, none⟩ x) B E (cur.setIfInBounds j x) := by
  have hlt := h.lt
  unfold Row at h ⊢
  have h' : w.heap[B] = .cells cur E (0, 0) := by simpa [Array.getElem?_eq_getElem hlt] using h
  show (w.heap.modify B _)[B]? = _
  rw [Array.getElem?_eq_getElem (by simpa using hlt), Array.getElem_modify_self, h']
  rfl

end Go.Proofs.YtdphganbnlmgcaaGreatDoor
namespace Go.Proofs.YtdphganbnlmgcaaGreatDoor
open Go.ChangeShapes Go.WideShapes Go.ChangeAt Go.RowKit
set_option linter.unusedVariables false
set_option maxRecDepth 100000

/-- A record as a value. -/
def recV (s : ByteArray) (n : Int) : Value := .agg #[.string s, .int .i64 n]
def okB (s : ByteArray) : Bool := decide (s.size ≤ 40)
def lessB (s : ByteArray) (n : Int) (u : ByteArray) (m : Int) : Bool := Op.bytesLess s.toList u.toList || (s.toList == u.toList && decide (n < m))

theorem okB_yes {s : ByteArray} (h : s.size ≤ 40) : okB s = true := by unfold okB; simpa using h
theorem okB_no {s : ByteArray} (h : ¬ s.size ≤ 40) : okB s = false := by unfold okB; simpa using h

theorem okB_int (s : ByteArray) : decide ((s.size : Int) ≤ 40) = okB s := by
  unfold okB
  by_cases h : s.size ≤ 40
  · rw [decide_eq_true h, decide_eq_true (by omega)]
  · rw [decide_eq_false h, decide_eq_false (by omega)]

theorem recok_any (s : ByteArray) (n : Int) (w : World) : Calls Tryz.prog 88 #[.agg #[.string s, .int .i64 n]] w (MadeBool (okB s) w) := by
  go_enter Tryz.func88, Tryz.ntmps88
  go_wp2
  go_ret
  exact ⟨ret_bool (okB_int s), below_alloc (Below.refl _ _) _⟩

theorem srecok_any (s : ByteArray) (n : Int) (w : World) : Calls Tryz.prog 60 #[.agg #[.string s, .int .i64 n]] w (MadeBool (okB s) w) := by
  go_enter Tryz.func60, Tryz.ntmps60
  go_wp2
  go_ret
  exact ⟨ret_bool (okB_int s), below_alloc (Below.refl _ _) _⟩

/-- The end of a function that returns a record and makes at most new blocks. -/
def MadeRec (s : ByteArray) (n : Int) (w : World) (e : Ending) (w' : World) : Prop := e = .returned (.agg #[.string s, .int .i64 n]) ∧ Below w.heap.size w w'

def sz1 (left : Int) (s : ByteArray) : Int := if left < s.size then -1 else left - s.size
/-- The end of a function that returns the number x and makes at most new blocks. -/
def MadeInt (x : Int) (w : World) (e : Ending) (w' : World) : Prop := e = .returned (.int .i64 x) ∧ Below w.heap.size w w'
theorem ret_int' {k : IntKind} {a b : Int} (h : a = b) : Ending.returned (.int k a) = .returned (.int k b) := by rw [h]

theorem bytesLess_irrefl (l : List UInt8) : Op.bytesLess l l = false := by
  induction l with
  | nil => rfl
  | cons a l ih => simp [Op.bytesLess, ih]
theorem less_ne {s u : ByteArray} {n m : Int} (h : (!s.toList == u.toList) = true) : Op.bytesLess s.toList u.toList = lessB s n u m := by
  unfold lessB
  rw [Bool.not_eq_true'] at h
  rw [h]; simp
theorem less_eq {s u : ByteArray} {n m : Int} (h : (!s.toList == u.toList) = false) : decide (n < m) = lessB s n u m := by
  unfold lessB
  rw [Bool.not_eq_false'] at h
  rw [h, eq_of_beq h, bytesLess_irrefl]; simp

theorem less_1 {s u : ByteArray} {n m : Int} (h : Op.bytesLess s.toList u.toList = true) : true = lessB s n u m := by
  unfold lessB; rw [h]; rfl
theorem less_2 {s u : ByteArray} {n m : Int} (h : ¬ Op.bytesLess s.toList u.toList = true) (h2 : s.toList = u.toList) : decide (n < m) = lessB s n u m := by
  unfold lessB; rw [Bool.not_eq_true] at h; rw [h, h2]; simp
theorem less_3 {s u : ByteArray} {n m : Int} (h : ¬ Op.bytesLess s.toList u.toList = true) (h2 : ¬ s.toList = u.toList) : false = lessB s n u m := by
  unfold lessB; rw [Bool.not_eq_true] at h; rw [h]; simp [h2]

/-- A block of two cells. -/
structure Box2 (w : World) (b : Nat) (x y : Value) : Prop where
  lt : b < w.heap.size
  c0 : w.cell? ⟨b, 0, none⟩ = some x
  c1 : w.cell? ⟨b, 1, none⟩ = some y
theorem Box2.keep {w w1 : World} {b : Nat} {x y : Value} (h : Box2 w b x y) (hB : Below w.heap.size w w1) : Box2 w1 b x y :=
  ⟨Nat.lt_of_lt_of_le h.lt hB.size, (hB.cell (p := ⟨b, 0, none⟩) h.lt).trans h.c0, (hB.cell (p := ⟨b, 1, none⟩) h.lt).trans h.c1⟩
theorem Box2.new (w : World) (x y : Value) (t : TypeId) : Box2 (w.alloc (.cells #[x, y] t)) w.heap.size x y :=
  ⟨by simp, cell_two_new w x y t 0 _ rfl, cell_two_new w x y t 1 _ rfl⟩
theorem Box2.new1 (w : World) (o : Obj) (x y : Value) (t : TypeId) : Box2 ((w.alloc o).alloc (.cells #[x, y] t)) (w.heap.size + 1) x y := by
  have h := Box2.new (w.alloc o) x y t
  have e : (w.alloc o).heap.size = w.heap.size + 1 := by simp
  rw [e] at h
  exact h
theorem Box2.alloc {w : World} {b : Nat} {x y : Value} (h : Box2 w b x y) (o : Obj) : Box2 (w.alloc o) b x y := h.keep ((Below.refl _ _).alloc (Nat.le_refl _) o)

set_option maxHeartbeats 1000000 in
theorem recless_any (s : ByteArray) (n : Int) (u : ByteArray) (m : Int) (w : World) : Calls Tryz.prog 219 #[.agg #[.string s, .int .i64 n], .agg #[.string u, .int .i64 m]] w (MadeBool (okB s && okB u && lessB s n u m) w) := by
  by_cases h1 : s.size ≤ 40
  · have k1 := okB_yes h1
    clear h1
    by_cases h2 : u.size ≤ 40
    · have k2 := okB_yes h2
      clear h2
      go_enter Tryz.func219, Tryz.ntmps219
      go_wp2_with (first | (go_at_call 88; (with_reducible refine (recok_any s n _).mono ?_); rintro e w1 ⟨rfl, hB⟩; have hc1 := bcell hB; have hz1 : w.heap.size + 1 < w1.heap.size := (by have := hB.size; simp at this; omega); have hz0 : w.heap.size < w1.heap.size := (by omega); have HB1 := Lib.hid (below_via (below_alloc (below_alloc (Below.refl _ _) _) _) hB); clear hB) | (go_at_call 88; (with_reducible refine (recok_any u m _).mono ?_); rintro e w2 ⟨rfl, hB⟩; have hc2 := bcell hB; have HB2 := Lib.hid (below_via HB1.out hB); clear hB))
      · go_ret
        exact ⟨ret_bool (by rw [k1, k2]; exact less_ne ‹_›), HB2.out⟩
      · go_ret
        exact ⟨ret_bool (by rw [k1, k2]; exact less_eq ‹_›), HB2.out⟩
    · have k2 := okB_no h2
      clear h2
      go_enter Tryz.func219, Tryz.ntmps219
      go_wp2_with (first | (go_at_call 88; (with_reducible refine (recok_any s n _).mono ?_); rintro e w1 ⟨rfl, hB⟩; have hc1 := bcell hB; have hz1 : w.heap.size + 1 < w1.heap.size := (by have := hB.size; simp at this; omega); have hz0 : w.heap.size < w1.heap.size := (by omega); have HB1 := Lib.hid (below_via (below_alloc (below_alloc (Below.refl _ _) _) _) hB); clear hB) | (go_at_call 88; (with_reducible refine (recok_any u m _).mono ?_); rintro e w2 ⟨rfl, hB⟩; have hc2 := bcell hB; have HB2 := Lib.hid (below_via HB1.out hB); clear hB))
      go_ret
      exact ⟨ret_bool (by rw [k1, k2]; rfl), HB2.out⟩
  · have k1 := okB_no h1
    clear h1
    go_enter Tryz.func219, Tryz.ntmps219
    go_wp2_with (go_at_call 88; refine (recok_any _ _ _).mono ?_; rintro e w1 ⟨rfl, hB⟩; have HB := Lib.hid hB; clear hB)
    go_ret
    exact ⟨ret_bool (by rw [k1]; rfl), below_via (below_alloc (below_alloc (Below.refl _ _) _) _) HB.out⟩

set_option maxHeartbeats 1000000 in
theorem l2less_any (s : ByteArray) (n : Int) (u : ByteArray) (m : Int) (w : World) : Calls Tryz.prog 61 #[.agg #[.string s, .int .i64 n], .agg #[.string u, .int .i64 m]] w (MadeBool (lessB s n u m) w) := by
  go_enter Tryz.func61, Tryz.ntmps61
  go_wp2
  · go_ret
    exact ⟨ret_bool (less_1 ‹_›), below_alloc (below_alloc (Below.refl _ _) _) _⟩
  · go_ret
    exact ⟨ret_bool (less_2 ‹_› ‹_›), below_alloc (below_alloc (Below.refl _ _) _) _⟩
  · go_ret
    exact ⟨ret_bool (less_3 ‹_› ‹_›), below_alloc (below_alloc (Below.refl _ _) _) _⟩
end Go.Proofs.YtdphganbnlmgcaaGreatDoor
namespace Go.Proofs.YtdphganbnlmgcaaGreatDoor
open Go.ChangeShapes Go.WideShapes Go.ChangeAt Go.RowKit
set_option linter.unusedVariables false
set_option maxRecDepth 100000

def kbB (c : Int) : Bool := decide (97 ≤ c ∧ c ≤ 122 ∨ 48 ≤ c ∧ c ≤ 57 ∨ c = 45 ∨ c = 47)
def keyB (s : ByteArray) : Bool := decide (1 ≤ s.size ∧ s.size ≤ 40) && s.data.toList.all fun c => kbB c.toNat
def inB (n lo hi : Int) : Bool := decide (lo ≤ n ∧ n ≤ hi)
theorem inB_iff {n lo hi : Int} : inB n lo hi = true ↔ lo ≤ n ∧ n ≤ hi := by unfold inB; simp
def SameBool (b : Bool) (w : World) (e : Ending) (w' : World) : Prop := e = .returned (.bool b) ∧ w = w'

theorem l1in_any (n lo hi : Int) (w : World) : Calls Tryz.prog 16 #[.int .i64 n, .int .i64 lo, .int .i64 hi] w (SameBool (inB n lo hi) w) := by
  by_cases h1 : lo ≤ n
  · have H := Lib.hid (show inB n lo hi = decide (n ≤ hi) by unfold inB; simp [h1])
    go_enter Tryz.func16, Tryz.ntmps16
    go_wp2
    go_ret
    exact ⟨ret_bool H.out.symm, rfl⟩
  · have H := Lib.hid (show inB n lo hi = false by unfold inB; simp [h1])
    go_enter Tryz.func16, Tryz.ntmps16
    go_wp2
    go_ret
    exact ⟨ret_bool H.out.symm, rfl⟩
theorem get_list (s : ByteArray) (k : Nat) (h : k < s.size) : s.data.toList[k]'(by simpa using h) = s[k] := rfl
theorem key_all {s : ByteArray} (h1 : 1 ≤ s.size) (h2 : s.size ≤ 40) (h : ∀ k, (hk : k < s.size) → kbB s[k].toNat = true) : keyB s = true := by
  unfold keyB
  rw [decide_eq_true ⟨h1, h2⟩, Bool.true_and, List.all_eq_true]
  intro c hc
  obtain ⟨k, hk, rfl⟩ := List.mem_iff_getElem.1 hc
  exact h k (by simpa using hk)
theorem key_bad {s : ByteArray} {k : Nat} (hk : k < s.size) (h : kbB s[k].toNat = false) : keyB s = false := by
  unfold keyB
  rw [Bool.and_eq_false_iff]
  refine .inr ?_
  rw [List.all_eq_false]
  exact ⟨s[k], by rw [← get_list s k hk]; exact List.getElem_mem _, by rw [h]; simp⟩
theorem key_size {s : ByteArray} (h : ¬ (1 ≤ s.size ∧ s.size ≤ 40)) : keyB s = false := by
  unfold keyB
  rw [decide_eq_false h]; rfl
theorem key_len {s : ByteArray} (h : keyB s = true) : 1 ≤ s.size ∧ s.size ≤ 40 := by
  unfold keyB at h
  rw [Bool.and_eq_true, decide_eq_true_eq] at h
  exact h.1
theorem empty_of_size {s : ByteArray} (h : s.size = 0) : s.toList = [] := by
  have : s.data.toList = [] := List.length_eq_zero_iff.1 (by simpa using h)
  rw [Lib.toList_data]; exact this
theorem not_empty {s : ByteArray} (h : 1 ≤ s.size) : ¬ s.toList = [] := fun e => by
  rw [Lib.toList_data] at e
  have e' : s.data.toList.length = 0 := by rw [e]; rfl
  have e2 : s.size = s.data.toList.length := by simp
  omega

end Go.Proofs.YtdphganbnlmgcaaGreatDoor
