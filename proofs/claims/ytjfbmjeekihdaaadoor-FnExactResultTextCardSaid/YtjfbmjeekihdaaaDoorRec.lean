
/- Records by value: what the functions RecOk, RecLess of the program and of its model compute, and the laws' own copies of records: exact answers; only new blocks are made. Condition: none but that keys are texts that may be read. -/
import Derived.Test.YtjfbmjeekihdaaaDoorRow
import Derived.WalkKit
import Derived.ProofKit
import Derived.OpenShut
import Derived.WalkLawsBesides
import Derived.Deep.QuietTactic
import Derived.BigQuiet
import Derived.Deep.RegionHeld3
import Derived.Lib.Hide
import Derived.Outline
namespace Go.Proofs.YtjfbmjeekihdaaaDoor
open Go.ChangeShapes Go.WideShapes Go.ChangeAt Go.RowKit
set_option linter.unusedVariables false
set_option maxRecDepth 100000

/-- A record as a value. -/
def recV (s : ByteArray) (n : Int) : Value := .agg #[.string s, .int .i64 n]
def okB (s : ByteArray) : Bool := decide (s.size ≤ 40)
def lessB (s : ByteArray) (n : Int) (u : ByteArray) (m : Int) : Bool := Op.bytesLess s.toList u.toList || (s.toList == u.toList && decide (n < m))

theorem okB_yes {s : ByteArray} (h : s.size ≤ 40) : okB s = true := by unfold okB; simpa using h
theorem okB_no {s : ByteArray} (h : ¬ s.size ≤ 40) : okB s = false := by unfold okB; simpa using h

theorem okB_int (s : ByteArray) : decide ((s.size : Int) ≤ 40) = okB s := by
  unfold okB
  by_cases h : s.size ≤ 40
  · rw [decide_eq_true h, decide_eq_true (by omega)]
  · rw [decide_eq_false h, decide_eq_false (by omega)]

theorem srecok_any (s : ByteArray) (n : Int) (w : World) : Calls Tryd.prog 139 #[.agg #[.string s, .int .i64 n]] w (MadeBool (okB s) w) := by
  go_enter Tryd.func139, Tryd.ntmps139
  go_wp2
  go_ret
  exact ⟨ret_bool (okB_int s), below_alloc (Below.refl _ _) _⟩

/-- The end of a function that returns a record and makes at most new blocks. -/
def MadeRec (s : ByteArray) (n : Int) (w : World) (e : Ending) (w' : World) : Prop := e = .returned (.agg #[.string s, .int .i64 n]) ∧ Below w.heap.size w w'

theorem torec_any (s : ByteArray) (n : Int) (w : World) : Calls Tryd.prog 82 #[.agg #[.string s, .int .i64 n]] w (MadeRec s n w) := by
  go_enter Tryd.func82, Tryd.ntmps82
  go_wp2
  exact bodyPost_ret (v := .agg #[.string s, .int .i64 n]) (by simp [results, Tryd.results82, go_sem]) rfl ⟨rfl, below_alloc (below_alloc (below_alloc (Below.refl _ _) _) _) _⟩

def sz1 (left : Int) (s : ByteArray) : Int := if left < s.size then -1 else left - s.size
/-- The end of a function that returns the number x and makes at most new blocks. -/
def MadeInt (x : Int) (w : World) (e : Ending) (w' : World) : Prop := e = .returned (.int .i64 x) ∧ Below w.heap.size w w'
theorem ret_int' {k : IntKind} {a b : Int} (h : a = b) : Ending.returned (.int k a) = .returned (.int k b) := by rw [h]

theorem szrec_any (s : ByteArray) (n : Int) (left : Int) (w : World) (hs : s.size ≤ maxLen) (h0 : 0 ≤ left) (h1 : left ≤ 1048576) : Calls Tryd.prog 81 #[.agg #[.string s, .int .i64 n], .int .i64 left] w (MadeInt (sz1 left s) w) := by
  unfold maxLen at hs
  by_cases h : left < s.size
  · have H := Lib.hid (show sz1 left s = -1 from if_pos h)
    have h2 : left - s.size < 0 := by omega
    go_enter Tryd.func81, Tryd.ntmps81
    go_wp2
    go_ret
    exact ⟨ret_int' H.out.symm, below_alloc (Below.refl _ _) _⟩
  · have H := Lib.hid (show sz1 left s = left - s.size from if_neg h)
    have h2 : ¬ left - s.size < 0 := by omega
    go_enter Tryd.func81, Tryd.ntmps81
    go_wp2
    go_ret
    exact ⟨ret_int' H.out.symm, below_alloc (Below.refl _ _) _⟩

theorem bytesLess_irrefl (l : List UInt8) : Op.bytesLess l l = false := by
  induction l with
  | nil => rfl
  | cons a l ih => simp [Op.bytesLess, ih]
theorem less_ne {s u : ByteArray} {n m : Int} (h : (!s.toList == u.toList) = true) : Op.bytesLess s.toList u.toList = lessB s n u m := by
  unfold lessB
  rw [Bool.not_eq_true'] at h
  rw [h]; simp
theorem less_eq {s u : ByteArray} {n m : Int} (h : (!s.toList == u.toList) = false) : decide (n < m) = lessB s n u m := by
  unfold lessB
  rw [Bool.not_eq_false'] at h
  rw [h, eq_of_beq h, bytesLess_irrefl]; simp

theorem less_1 {s u : ByteArray} {n m : Int} (h : Op.bytesLess s.toList u.toList = true) : true = lessB s n u m := by
  unfold lessB; rw [h]; rfl
theorem less_2 {s u : ByteArray} {n m : Int} (h : ¬ Op.bytesLess s.toList u.toList = true) (h2 : s.toList = u.toList) : decide (n < m) = lessB s n u m := by
  unfold lessB; rw [Bool.not_eq_true] at h; rw [h, h2]; simp
theorem less_3 {s u : ByteArray} {n m : Int} (h : ¬ Op.bytesLess s.toList u.toList = true) (h2 : ¬ s.toList = u.toList) : false = lessB s n u m := by
  unfold lessB; rw [Bool.not_eq_true] at h; rw [h]; simp [h2]

/-- A block of two cells. -/
structure Box2 (w : World) (b : Nat) (x y : Value) : Prop where
  lt : b < w.heap.size
  c0 : w.cell? ⟨b, 0, none⟩ = some x
  c1 : w.cell? ⟨b, 1, none⟩ = some y
theorem Box2.keep {w w1 : World} {b : Nat} {x y : Value} (h : Box2 w b x y) (hB : Below w.heap.size w w1) : Box2 w1 b x y :=
  ⟨Nat.lt_of_lt_of_le h.lt hB.size, (hB.cell (p := ⟨b, 0, none⟩) h.lt).trans h.c0, (hB.cell (p := ⟨b, 1, none⟩) h.lt).trans h.c1⟩
theorem Box2.new (w : World) (x y : Value) (t : TypeId) : Box2 (w.alloc (.cells #[x, y] t)) w.heap.size x y :=
  ⟨by simp, cell_two_new w x y t 0 _ rfl, cell_two_new w x y t 1 _ rfl⟩
theorem Box2.new1 (w : World) (o : Obj) (x y : Value) (t : TypeId) : Box2 ((w.alloc o).alloc (.cells #[x, y] t)) (w.heap.size + 1) x y := by
  have h := Box2.new (w.alloc o) x y t
  have e : (w.alloc o).heap.size = w.heap.size + 1 := by simp
  rw [e] at h
  exact h
theorem Box2.alloc {w : World} {b : Nat} {x y : Value} (h : Box2 w b x y) (o : Obj) : Box2 (w.alloc o) b x y := h.keep ((Below.refl _ _).alloc (Nat.le_refl _) o)

set_option maxHeartbeats 1000000 in
theorem l2less_any (s : ByteArray) (n : Int) (u : ByteArray) (m : Int) (w : World) : Calls Tryd.prog 140 #[.agg #[.string s, .int .i64 n], .agg #[.string u, .int .i64 m]] w (MadeBool (lessB s n u m) w) := by
  go_enter Tryd.func140, Tryd.ntmps140
  go_wp2
  · go_ret
    exact ⟨ret_bool (less_1 ‹_›), below_alloc (below_alloc (Below.refl _ _) _) _⟩
  · go_ret
    exact ⟨ret_bool (less_2 ‹_› ‹_›), below_alloc (below_alloc (Below.refl _ _) _) _⟩
  · go_ret
    exact ⟨ret_bool (less_3 ‹_› ‹_›), below_alloc (below_alloc (Below.refl _ _) _) _⟩
end Go.Proofs.YtjfbmjeekihdaaaDoor
