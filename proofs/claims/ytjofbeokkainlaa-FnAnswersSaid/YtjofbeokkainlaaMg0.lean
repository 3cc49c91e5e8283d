/- Texts put together, as a claim holds at most sixty files. -/
import Derived.Test.YtjofbeokkainlaaRows
import Derived.WalkKit
import Derived.ProofKit
import Derived.OpenShut
import Derived.WalkLawsBesides
import Derived.OwnWalk
import Derived.Deep.QuietTactic
import Derived.BigQuiet
import Derived.Deep.RegionHeld3
import Derived.Lib.Hide
import Derived.Outline
import Derived.Laws.BytesArg
namespace Go.Proofs.Ytjofbeokkainlaa
open Go.ChangeShapes Go.WideShapes Go.ChangeAt Go.RowKit
set_option linter.unusedVariables false
set_option maxRecDepth 100000

/-- The end of a function that returns a bool and makes at most new blocks. -/
def MadeBool (b : Bool) (w : World) (e : Ending) (w' : World) : Prop := e = .returned (.bool b) ∧ Below w.heap.size w w'

theorem ret_bool {a b : Bool} (h : a = b) : Ending.returned (.bool a) = .returned (.bool b) := by rw [h]
theorem below_alloc {w x : World} (h : Below w.heap.size w x) (o : Obj) : Below w.heap.size w (x.alloc o) := h.alloc h.size o
theorem below_via {w x y : World} (h : Below w.heap.size w x) (k : Below x.heap.size x y) : Below w.heap.size w y := h.trans (k.mono h.size)
theorem bcell {W w1 : World} (hb : Below W.heap.size W w1) : ∀ b o, b < W.heap.size → w1.cell? ⟨b, o, none⟩ = W.cell? ⟨b, o, none⟩ := fun b o h => hb.cell (p := ⟨b, o, none⟩) h

/-- Block B is a row of cells that may be written. -/
def Row (w : World) (B : Nat) (E : TypeId) (cur : Array Value) : Prop := w.heap[B]? = some (.cells cur E (0, 0))
theorem Row.lt {w : World} {B : Nat} {E : TypeId} {cur : Array Value} (h : Row w B E cur) : B < w.heap.size := lt_of_block h
theorem Row.keep {w w1 : World} {B : Nat} {E : TypeId} {cur : Array Value} (h : Row w B E cur) (hB : Below w.heap.size w w1) : Row w1 B E cur := (hB.block B h.lt).trans h
theorem Row.cell {w : World} {B : Nat} {E : TypeId} {cur : Array Value} (h : Row w B E cur) {j : Nat} (hj : j < cur.size) : w.cell? ⟨B, j, none⟩ = some cur[j] := by
  unfold Row at h; simp [World.cell?, h, hj]
theorem Row.free {w : World} {B : Nat} {E : TypeId} {cur : Array Value} (h : Row w B E cur) (j : Nat) : w.frozen? ⟨B, j, none⟩ = false := by
  unfold Row at h; simp [World.frozen?, h]
theorem Row.set {w : World} {B : Nat} {E : TypeId} {cur : Array Value} (h : Row w B E cur) (j : Nat) (x : Value) : Row (w.setCell ⟨B, j, none⟩ x) B E (cur.setIfInBounds j x) := by
  have hlt := h.lt
  unfold Row at h ⊢
  have h' : w.heap[B] = .cells cur E (0, 0) := by simpa [Array.getElem?_eq_getElem hlt] using h
  show (w.heap.modify B _)[B]? = _
  rw [Array.getElem?_eq_getElem (by simpa using hlt), Array.getElem_modify_self, h']
  rfl

end Go.Proofs.Ytjofbeokkainlaa
namespace Go.Proofs.Ytjofbeokkainlaa
open Go.ChangeShapes Go.WideShapes Go.ChangeAt Go.RowKit
set_option linter.unusedVariables false
set_option maxRecDepth 100000

/-- A record as a value. -/
def recV (s : ByteArray) (n : Int) : Value := .agg #[.string s, .int .i64 n]
def okB (s : ByteArray) : Bool := decide (s.size ≤ 40)
def lessB (s : ByteArray) (n : Int) (u : ByteArray) (m : Int) : Bool := Op.bytesLess s.toList u.toList || (s.toList == u.toList && decide (n < m))

theorem okB_yes {s : ByteArray} (h : s.size ≤ 40) : okB s = true := by unfold okB; simpa using h
theorem okB_no {s : ByteArray} (h : ¬ s.size ≤ 40) : okB s = false := by unfold okB; simpa using h

theorem okB_int (s : ByteArray) : decide ((s.size : Int) ≤ 40) = okB s := by
  unfold okB
  by_cases h : s.size ≤ 40
  · rw [decide_eq_true h, decide_eq_true (by omega)]
  · rw [decide_eq_false h, decide_eq_false (by omega)]

theorem recok_any (s : ByteArray) (n : Int) (w : World) : Calls Try.prog 42 #[.agg #[.string s, .int .i64 n]] w (MadeBool (okB s) w) := by
  go_enter Try.func42, Try.ntmps42
  go_wp2
  go_ret
  exact ⟨ret_bool (okB_int s), below_alloc (Below.refl _ _) _⟩

theorem srecok_any (s : ByteArray) (n : Int) (w : World) : Calls Try.prog 56 #[.agg #[.string s, .int .i64 n]] w (MadeBool (okB s) w) := by
  go_enter Try.func56, Try.ntmps56
  go_wp2
  go_ret
  exact ⟨ret_bool (okB_int s), below_alloc (Below.refl _ _) _⟩

/-- The end of a function that returns a record and makes at most new blocks. -/
def MadeRec (s : ByteArray) (n : Int) (w : World) (e : Ending) (w' : World) : Prop := e = .returned (.agg #[.string s, .int .i64 n]) ∧ Below w.heap.size w w'

def sz1 (left : Int) (s : ByteArray) : Int := if left < s.size then -1 else left - s.size
/-- The end of a function that returns the number x and makes at most new blocks. -/
def MadeInt (x : Int) (w : World) (e : Ending) (w' : World) : Prop := e = .returned (.int .i64 x) ∧ Below w.heap.size w w'
theorem ret_int' {k : IntKind} {a b : Int} (h : a = b) : Ending.returned (.int k a) = .returned (.int k b) := by rw [h]

theorem bytesLess_irrefl (l : List UInt8) : Op.bytesLess l l = false := by
  induction l with
  | nil => rfl
  | cons a l ih => simp [Op.bytesLess, ih]
theorem less_ne {s u : ByteArray} {n m : Int} (h : (!s.toList == u.toList) = true) : Op.bytesLess s.toList u.toList = lessB s n u m := by
  unfold lessB
  rw [Bool.not_eq_true'] at h
  rw [h]; simp
theorem less_eq {s u : ByteArray} {n m : Int} (h : (!s.toList == u.toList) = false) : decide (n < m) = lessB s n u m := by
  unfold lessB
  rw [Bool.not_eq_false'] at h
  rw [h, eq_of_beq h, bytesLess_irrefl]; simp

theorem less_1 {s u : ByteArray} {n m : Int} (h : Op.bytesLess s.toList u.toList = true) : true = lessB s n u m := by
  unfold lessB; rw [h]; rfl
theorem less_2 {s u : ByteArray} {n m : Int} (h : ¬ Op.bytesLess s.toList u.toList = true) (h2 : s.toList = u.toList) : decide (n < m) = lessB s n u m := by
  unfold lessB; rw [Bool.not_eq_true] at h; rw [h, h2]; simp
theorem less_3 {s u : ByteArray} {n m : Int} (h : ¬ Op.bytesLess s.toList u.toList = true) (h2 : ¬ s.toList = u.toList) : false = lessB s n u m := by
  unfold lessB; rw [Bool.not_eq_true] at h; rw [h]; simp [h2]

/-- A block of two cells. -/
structure Box2 (w : World) (b : Nat) (x y : Value) : Prop where
  lt : b < w.heap.size
  c0 : w.cell? ⟨b, 0, none⟩ = some x
  c1 : w.cell? ⟨b, 1, none⟩ = some y
theorem Box2.keep {w w1 : World} {b : Nat} {x y : Value} (h : Box2 w b x y) (hB : Below w.heap.size w w1) : Box2 w1 b x y :=
  ⟨Nat.lt_of_lt_of_le h.lt hB.size, (hB.cell (p := ⟨b, 0, none⟩) h.lt).trans h.c0, (hB.cell (p := ⟨b, 1, none⟩) h.lt).trans h.c1⟩
theorem Box2.new (w : World) (x y : Value) (t : TypeId) : Box2 (w.alloc (.cells #[x, y] t)) w.heap.size x y :=
  ⟨by simp, cell_two_new w x y t 0 _ rfl, cell_two_new w x y t 1 _ rfl⟩
theorem Box2.new1 (w : World) (o : Obj) (x y : Value) (t : TypeId) : Box2 ((w.alloc o).alloc (.cells #[x, y] t)) (w.heap.size + 1) x y := by
  have h := Box2.new (w.alloc o) x y t
  have e : (w.alloc o).heap.size = w.heap.size + 1 := by simp
  rw [e] at h
  exact h
theorem Box2.alloc {w : World} {b : Nat} {x y : Value} (h : Box2 w b x y) (o : Obj) : Box2 (w.alloc o) b x y := h.keep ((Below.refl _ _).alloc (Nat.le_refl _) o)

set_option maxHeartbeats 1000000 in
theorem recless_any (s : ByteArray) (n : Int) (u : ByteArray) (m : Int) (w : World) : Calls Try.prog 83 #[.agg #[.string s, .int .i64 n], .agg #[.string u, .int .i64 m]] w (MadeBool (okB s && okB u && lessB s n u m) w) := by
  by_cases h1 : s.size ≤ 40
  · have k1 := okB_yes h1
    clear h1
    by_cases h2 : u.size ≤ 40
    · have k2 := okB_yes h2
      clear h2
      go_enter Try.func83, Try.ntmps83
      go_wp2_with (first | (go_at_call 42; (with_reducible refine (recok_any s n _).mono ?_); rintro e w1 ⟨rfl, hB⟩; have hc1 := bcell hB; have hz1 : w.heap.size + 1 < w1.heap.size := (by have := hB.size; simp at this; omega); have hz0 : w.heap.size < w1.heap.size := (by omega); have HB1 := Lib.hid (below_via (below_alloc (below_alloc (Below.refl _ _) _) _) hB); clear hB) | (go_at_call 42; (with_reducible refine (recok_any u m _).mono ?_); rintro e w2 ⟨rfl, hB⟩; have hc2 := bcell hB; have HB2 := Lib.hid (below_via HB1.out hB); clear hB))
      · go_ret
        exact ⟨ret_bool (by rw [k1, k2]; exact less_ne ‹_›), HB2.out⟩
      · go_ret
        exact ⟨ret_bool (by rw [k1, k2]; exact less_eq ‹_›), HB2.out⟩
    · have k2 := okB_no h2
      clear h2
      go_enter Try.func83, Try.ntmps83
      go_wp2_with (first | (go_at_call 42; (with_reducible refine (recok_any s n _).mono ?_); rintro e w1 ⟨rfl, hB⟩; have hc1 := bcell hB; have hz1 : w.heap.size + 1 < w1.heap.size := (by have := hB.size; simp at this; omega); have hz0 : w.heap.size < w1.heap.size := (by omega); have HB1 := Lib.hid (below_via (below_alloc (below_alloc (Below.refl _ _) _) _) hB); clear hB) | (go_at_call 42; (with_reducible refine (recok_any u m _).mono ?_); rintro e w2 ⟨rfl, hB⟩; have hc2 := bcell hB; have HB2 := Lib.hid (below_via HB1.out hB); clear hB))
      go_ret
      exact ⟨ret_bool (by rw [k1, k2]; rfl), HB2.out⟩
  · have k1 := okB_no h1
    clear h1
    go_enter Try.func83, Try.ntmps83
    go_wp2_with (go_at_call 42; refine (recok_any _ _ _).mono ?_; rintro e w1 ⟨rfl, hB⟩; have HB := Lib.hid hB; clear hB)
    go_ret
    exact ⟨ret_bool (by rw [k1]; rfl), below_via (below_alloc (below_alloc (Below.refl _ _) _) _) HB.out⟩

set_option maxHeartbeats 1000000 in
theorem l2less_any (s : ByteArray) (n : Int) (u : ByteArray) (m : Int) (w : World) : Calls Try.prog 57 #[.agg #[.string s, .int .i64 n], .agg #[.string u, .int .i64 m]] w (MadeBool (lessB s n u m) w) := by
  go_enter Try.func57, Try.ntmps57
  go_wp2
  · go_ret
    exact ⟨ret_bool (less_1 ‹_›), below_alloc (below_alloc (Below.refl _ _) _) _⟩
  · go_ret
    exact ⟨ret_bool (less_2 ‹_› ‹_›), below_alloc (below_alloc (Below.refl _ _) _) _⟩
  · go_ret
    exact ⟨ret_bool (less_3 ‹_› ‹_›), below_alloc (below_alloc (Below.refl _ _) _) _⟩
end Go.Proofs.Ytjofbeokkainlaa
namespace Go.Proofs.Ytjofbeokkainlaa
open Go.ChangeShapes Go.WideShapes Go.ChangeAt Go.RowKit
set_option linter.unusedVariables false
set_option maxRecDepth 100000

abbrev Instrs := List (Int × Int × ByteArray)
def ins0 (l : Instrs) (i : Nat) : Int := (l.getD i (0, 0, ByteArray.empty)).1
def ins1 (l : Instrs) (i : Nat) : Int := (l.getD i (0, 0, ByteArray.empty)).2.1
def ins2 (l : Instrs) (i : Nat) : ByteArray := (l.getD i (0, 0, ByteArray.empty)).2.2

/-- The slice (a, len, cap) holds the values l. -/
structure InstrsAt (w : World) (a : Option Addr) (len : Nat) (l : Instrs) : Prop where
  length : l.length = len
  max : len ≤ maxLen
  keys : ∀ i, i < len → (ins2 l i).size ≤ maxLen
  src : len = 0 ∨ ∃ b off, a = some ⟨b, off, none⟩ ∧ b < w.heap.size ∧ ∀ i, i < len → w.cell? ⟨b, off + i * 3, none⟩ = some (.int .i64 (ins0 l i)) ∧ w.cell? ⟨b, off + i * 3 + 1, none⟩ = some (.int .i64 (ins1 l i)) ∧ w.cell? ⟨b, off + i * 3 + 2, none⟩ = some (.string (ins2 l i))

theorem InstrsAt.keep {w w1 : World} {a : Option Addr} {len : Nat} {l : Instrs} (h : InstrsAt w a len l) (hB : Below w.heap.size w w1) : InstrsAt w1 a len l := by
  refine ⟨h.length, h.max, h.keys, ?_⟩
  rcases h.src with h0 | ⟨b, off, ha, hb, hc⟩
  · exact .inl h0
  · exact .inr ⟨b, off, ha, Nat.lt_of_lt_of_le hb hB.size, fun i hi => ⟨(hB.cell (p := ⟨b, off + i * 3, none⟩) hb).trans (hc i hi).1, (hB.cell (p := ⟨b, off + i * 3 + 1, none⟩) hb).trans (hc i hi).2.1, (hB.cell (p := ⟨b, off + i * 3 + 2, none⟩) hb).trans (hc i hi).2.2⟩⟩

theorem InstrsAt.put {w : World} {a : Option Addr} {len : Nat} {l : Instrs} (h : InstrsAt w a len l) {X : Nat} (hne : ∀ b off, a = some ⟨b, off, none⟩ → b ≠ X) (j : Nat) (v : Value) : InstrsAt (w.setCell ⟨X, j, none⟩ v) a len l := by
  refine ⟨h.length, h.max, h.keys, ?_⟩
  rcases h.src with h0 | ⟨b, off, ha, hb, hc⟩
  · exact .inl h0
  · have e : ∀ o, (w.setCell ⟨X, j, none⟩ v).cell? ⟨b, o, none⟩ = w.cell? ⟨b, o, none⟩ := fun o => by
      simp only [World.cell?, Below.heap_setCell w ⟨X, j, none⟩ v b (hne b off ha)]
    exact .inr ⟨b, off, ha, by simpa [World.setCell] using hb, fun i hi => by simpa only [e] using hc i hi⟩

def InstrSized1 (left : Int) (x2 : ByteArray) (w : World) (e : Ending) (w' : World) : Prop :=
  ∃ x : Int, -1 ≤ x ∧ x ≤ left ∧ e = .returned (.int .i64 x) ∧ Below w.heap.size w w' ∧ (0 ≤ x → x2.size ≤ 1048576)

def InstrSized (len : Nat) (l : Instrs) (w : World) (e : Ending) (w' : World) : Prop :=
  ∃ x : Int, -1 ≤ x ∧ x ≤ 1048576 ∧ e = .returned (.int .i64 x) ∧ Below w.heap.size w w' ∧ (0 ≤ x → len ≤ 1048576 ∧ ∀ i, i < len → (ins2 l i).size ≤ 1048576)

theorem infoInstr : (Try.prog.info? 73).map (fun i => (i.zero, i.size, i.bytes)) = some (some (.agg #[.int .i64 0, .int .i64 0, .string ByteArray.empty]), 3, 32) := by kernel_rfl

def InstrLaid (cur : Array Value) (l : Instrs) (k : Nat) : Prop := ∀ j, j < k → cur[j * 3]? = some (.int .i64 (ins0 l j)) ∧ cur[j * 3 + 1]? = some (.int .i64 (ins1 l j)) ∧ cur[j * 3 + 2]? = some (.string (ins2 l j))
theorem InstrLaid.step {cur : Array Value} {l : Instrs} {k len : Nat} (h : InstrLaid cur l k) (hs : cur.size = len * 3) (hk : k < len) :
    InstrLaid (((cur.setIfInBounds (k * 3) (.int .i64 (ins0 l k))).setIfInBounds (k * 3 + 1) (.int .i64 (ins1 l k))).setIfInBounds (k * 3 + 2) (.string (ins2 l k))) l (k + 1) := by
  intro j hj
  rcases Nat.lt_or_ge j k with hlt | hge
  · obtain ⟨e0, e1, e2⟩ := h j hlt
    refine ⟨?_, ?_, ?_⟩
    · rw [Array.getElem?_setIfInBounds_ne (by omega), Array.getElem?_setIfInBounds_ne (by omega), Array.getElem?_setIfInBounds_ne (by omega)]; exact e0
    · rw [Array.getElem?_setIfInBounds_ne (by omega), Array.getElem?_setIfInBounds_ne (by omega), Array.getElem?_setIfInBounds_ne (by omega)]; exact e1
    · rw [Array.getElem?_setIfInBounds_ne (by omega), Array.getElem?_setIfInBounds_ne (by omega), Array.getElem?_setIfInBounds_ne (by omega)]; exact e2
  · obtain rfl : j = k := by omega
    refine ⟨?_, ?_, ?_⟩
    · rw [Array.getElem?_setIfInBounds_ne (by omega), Array.getElem?_setIfInBounds_ne (by omega)]; rw [Array.getElem?_setIfInBounds_self_of_lt (by first | omega | (simp only [Array.size_setIfInBounds]; omega))]
    · rw [Array.getElem?_setIfInBounds_ne (by omega)]; rw [Array.getElem?_setIfInBounds_self_of_lt (by first | omega | (simp only [Array.size_setIfInBounds]; omega))]
    · rw [Array.getElem?_setIfInBounds_self_of_lt (by first | omega | (simp only [Array.size_setIfInBounds]; omega))]

theorem InstrsAt.ofRow {w : World} {B len : Nat} {E : TypeId} {cur : Array Value} {l : Instrs} (h : Row w B E cur) (hl : l.length = len) (hm : len ≤ maxLen) (hk : ∀ i, i < len → (ins2 l i).size ≤ maxLen) (hlaid : InstrLaid cur l len) : InstrsAt w (some ⟨B, 0, none⟩) len l := by
  refine ⟨hl, hm, hk, .inr ⟨B, 0, rfl, h.lt, fun i hi => ?_⟩⟩
  obtain ⟨e0, e1, e2⟩ := hlaid i hi
  unfold Row at h
  simp [World.cell?, h, e0, e1, e2]

def MadeInstr (x0 : Int) (x1 : Int) (x2 : ByteArray) (w : World) (e : Ending) (w' : World) : Prop := e = .returned (.agg #[.int .i64 x0, .int .i64 x1, .string x2]) ∧ Below w.heap.size w w'

/-- The end of the laws' copy: a new slice of the same values. -/
def MadeInstrs (len : Nat) (l : Instrs) (w : World) (e : Ending) (w' : World) : Prop :=
  e = .returned (.slice (some ⟨w.heap.size, 0, none⟩) len len) ∧ InstrsAt w' (some ⟨w.heap.size, 0, none⟩) len l ∧ Below w.heap.size w w' ∧ ∃ cur, Row w' w.heap.size 73 cur ∧ cur.size = len * 3

end Go.Proofs.Ytjofbeokkainlaa
namespace Go.Proofs.Ytjofbeokkainlaa
open Go.ChangeShapes Go.WideShapes Go.ChangeAt Go.RowKit
set_option linter.unusedVariables false
set_option maxRecDepth 100000

abbrev Strs := List ByteArray
def strAt (l : Strs) (i : Nat) : ByteArray := l.getD i ByteArray.empty

/-- The slice (a, len, cap) holds the texts l. -/
structure StrsAt (w : World) (a : Option Addr) (len : Nat) (l : Strs) : Prop where
  length : l.length = len
  max : len ≤ maxLen
  sizes : ∀ i, i < len → (strAt l i).size ≤ maxLen
  src : len = 0 ∨ ∃ b off, a = some ⟨b, off, none⟩ ∧ b < w.heap.size ∧ ∀ i, i < len → w.cell? ⟨b, off + i, none⟩ = some (.string (strAt l i))

theorem StrsAt.keep {w w1 : World} {a : Option Addr} {len : Nat} {l : Strs} (h : StrsAt w a len l) (hB : Below w.heap.size w w1) : StrsAt w1 a len l := by
  refine ⟨h.length, h.max, h.sizes, ?_⟩
  rcases h.src with h0 | ⟨b, off, ha, hb, hc⟩
  · exact .inl h0
  · exact .inr ⟨b, off, ha, Nat.lt_of_lt_of_le hb hB.size, fun i hi => (hB.cell (p := ⟨b, off + i, none⟩) hb).trans (hc i hi)⟩

def mtAux (k : Nat) (o : List UInt8) : List UInt8 := if h : k = 0 then o else mtAux (k / 10) (UInt8.ofNat (48 + k % 10) :: o)
termination_by k
decreasing_by omega
theorem mtAux_zero (o : List UInt8) : mtAux 0 o = o := by unfold mtAux; rfl
theorem mtAux_step (k : Nat) (o : List UInt8) (h : 0 < k) : mtAux k o = mtAux (k / 10) (UInt8.ofNat (48 + k % 10) :: o) := by
  rw [mtAux, dif_neg (by omega)]
/-- The text of mark number k. -/
def mtext (k : Nat) : ByteArray := ⟨#[109]⟩ ++ ⟨(mtAux k []).toArray⟩

theorem digit_cons (K : Nat) (O : ByteArray) : (strOfNums [(48 : Int) + (K : Int) % 10] ++ O).data.toList = UInt8.ofNat (48 + K % 10) :: O.data.toList := by
  have e : ((48 : Int) + (K : Int) % 10).toNat = 48 + K % 10 := by omega
  simp [strOfNums, e]
theorem mtext_of (O : ByteArray) (k0 : Nat) (h : mtAux 0 O.data.toList = mtAux k0 []) : (⟨#[109]⟩ : ByteArray) ++ O = mtext k0 := by
  unfold mtext
  rw [← h, mtAux_zero]

def MadeStr (s : ByteArray) (w : World) (e : Ending) (w' : World) : Prop := e = .returned (.string s) ∧ Below w.heap.size w w'

/-- Row B holds the marks from number k0 on in its first n cells. -/
def Marked (cur : Array Value) (k0 n : Nat) : Prop := ∀ j, j < n → cur[j]? = some (.string (mtext (k0 + j)))
/-- The end of marking: the next number; the row is marked; nothing else that was there has changed. -/
def MadeMarks (B : Nat) (E : TypeId) (k0 len n : Nat) (w : World) (e : Ending) (w' : World) : Prop :=
  e = .returned (.int .i64 ((k0 + len : Nat) : Int)) ∧ w.grownBy w' (some B) ∧ ∃ cur, Row w' B E cur ∧ cur.size = n ∧ Marked cur k0 len

theorem Marked.step {cur : Array Value} {k0 k : Nat} (h : Marked cur k0 k) (hk : k < cur.size) : Marked (cur.setIfInBounds k (.string (mtext (k0 + k)))) k0 (k + 1) := by
  intro j hj
  rcases Nat.lt_or_ge j k with hlt | hge
  · rw [Array.getElem?_setIfInBounds_ne (by omega)]; exact h j hlt
  · obtain rfl : j = k := by omega
    simp [hk]

end Go.Proofs.Ytjofbeokkainlaa
namespace Go.Proofs.Ytjofbeokkainlaa
open Go.ChangeShapes Go.WideShapes Go.ChangeAt Go.RowKit
set_option linter.unusedVariables false
set_option maxRecDepth 100000

abbrev Recs := List (ByteArray × Int)
def keyAt (l : Recs) (i : Nat) : ByteArray := (l.getD i (ByteArray.empty, 0)).1
def numAt (l : Recs) (i : Nat) : Int := (l.getD i (ByteArray.empty, 0)).2

/-- The slice (a, len, cap) holds the records l. -/
structure RecsAt (w : World) (a : Option Addr) (len : Nat) (l : Recs) : Prop where
  length : l.length = len
  max : len ≤ maxLen
  keys : ∀ i, i < len → (keyAt l i).size ≤ maxLen
  src : len = 0 ∨ ∃ b off, a = some ⟨b, off, none⟩ ∧ b < w.heap.size ∧ ∀ i, i < len → w.cell? ⟨b, off + i * 2, none⟩ = some (.string (keyAt l i)) ∧ w.cell? ⟨b, off + i * 2 + 1, none⟩ = some (.int .i64 (numAt l i))

theorem RecsAt.keep {w w1 : World} {a : Option Addr} {len : Nat} {l : Recs} (h : RecsAt w a len l) (hB : Below w.heap.size w w1) : RecsAt w1 a len l := by
  refine ⟨h.length, h.max, h.keys, ?_⟩
  rcases h.src with h0 | ⟨b, off, ha, hb, hc⟩
  · exact .inl h0
  · exact .inr ⟨b, off, ha, Nat.lt_of_lt_of_le hb hB.size, fun i hi => ⟨(hB.cell (p := ⟨b, off + i * 2, none⟩) hb).trans (hc i hi).1, (hB.cell (p := ⟨b, off + i * 2 + 1, none⟩) hb).trans (hc i hi).2⟩⟩

/-- The end of the laws' measure of records: below 0 (too much), or what is left; then the records and their keys are few and short. -/
def Sized (len : Nat) (l : Recs) (w : World) (e : Ending) (w' : World) : Prop :=
  ∃ x : Int, -1 ≤ x ∧ x ≤ 1048576 ∧ e = .returned (.int .i64 x) ∧ Below w.heap.size w w' ∧ (0 ≤ x → len ≤ 1048576 ∧ ∀ i, i < len → (keyAt l i).size ≤ 1048576)

theorem sz1_bd (x : Int) (s : ByteArray) (h0 : 0 ≤ x) (h1 : x ≤ 1048576) : -1 ≤ sz1 x s ∧ sz1 x s ≤ 1048576 ∧ (0 ≤ sz1 x s → s.size ≤ 1048576) := by
  unfold sz1; split <;> omega

theorem infoRec : (Try.prog.info? 44).map (fun i => (i.zero, i.size, i.bytes)) = some (some (.agg #[.string ByteArray.empty, .int .i64 0]), 2, 24) := by kernel_rfl

/-- The first k records of l lie at the head of the row. -/
def Laid (cur : Array Value) (l : Recs) (k : Nat) : Prop := ∀ j, j < k → cur[j * 2]? = some (.string (keyAt l j)) ∧ cur[j * 2 + 1]? = some (.int .i64 (numAt l j))
theorem Laid.step {cur : Array Value} {l : Recs} {k len : Nat} (h : Laid cur l k) (hs : cur.size = len * 2) (hk : k < len) :
    Laid ((cur.setIfInBounds (k * 2) (.string (keyAt l k))).setIfInBounds (k * 2 + 1) (.int .i64 (numAt l k))) l (k + 1) := by
  intro j hj
  have h1 : k * 2 < cur.size := by omega
  have h2 : k * 2 + 1 < cur.size := by omega
  rcases Nat.lt_or_ge j k with hlt | hge
  · obtain ⟨e1, e2⟩ := h j hlt
    constructor
    · rw [Array.getElem?_setIfInBounds_ne (by omega), Array.getElem?_setIfInBounds_ne (by omega)]; exact e1
    · rw [Array.getElem?_setIfInBounds_ne (by omega), Array.getElem?_setIfInBounds_ne (by omega)]; exact e2
  · obtain rfl : j = k := by omega
    constructor
    · rw [Array.getElem?_setIfInBounds_ne (by omega)]; simp [h1]
    · simp [h2]

theorem RecsAt.ofRow {w : World} {B len : Nat} {E : TypeId} {cur : Array Value} {l : Recs} (h : Row w B E cur) (hl : l.length = len) (hm : len ≤ maxLen) (hk : ∀ i, i < len → (keyAt l i).size ≤ maxLen) (hlaid : Laid cur l len) : RecsAt w (some ⟨B, 0, none⟩) len l := by
  refine ⟨hl, hm, hk, .inr ⟨B, 0, rfl, h.lt, fun i hi => ?_⟩⟩
  obtain ⟨e1, e2⟩ := hlaid i hi
  unfold Row at h
  simp [World.cell?, h, e1, e2]

/-- The end of the laws' copy of records: a new slice of the same records. -/
def MadeRecs (len : Nat) (l : Recs) (w : World) (e : Ending) (w' : World) : Prop :=
  e = .returned (.slice (some ⟨w.heap.size, 0, none⟩) len len) ∧ RecsAt w' (some ⟨w.heap.size, 0, none⟩) len l ∧ Below w.heap.size w w' ∧ ∃ cur, Row w' w.heap.size 44 cur ∧ cur.size = len * 2

end Go.Proofs.Ytjofbeokkainlaa

/- Words of a line as plain lists of bytes: cutting at a byte, splitting at blanks, the words that are not empty. No condition. -/
namespace Go.Proofs.Ytjofbeokkainlaa

def noC (c : UInt8) (l : List UInt8) : Prop := ∀ x, x ∈ l → x ≠ c
/-- Split at byte c. -/
def splitL (c : UInt8) : List UInt8 → List (List UInt8)
  | [] => [[]]
  | x :: t => if x = c then [] :: splitL c t else match splitL c t with
    | w :: ws => (x :: w) :: ws
    | [] => [[x]]

theorem splitL_ne (c : UInt8) : ∀ l, splitL c l ≠ []
  | [] => by simp [splitL]
  | x :: t => by
    unfold splitL
    split
    · simp
    · split <;> simp

theorem splitL_no (c : UInt8) : ∀ l, noC c l → splitL c l = [l]
  | [], _ => rfl
  | x :: t, h => by
    have hx : x ≠ c := h x (by simp)
    have ht := splitL_no c t (fun y hy => h y (by simp [hy]))
    unfold splitL
    rw [if_neg hx, ht]

theorem splitL_at (c : UInt8) : ∀ a b, noC c a → splitL c (a ++ c :: b) = a :: splitL c b
  | [], b, _ => by show splitL c (c :: b) = _; rw [splitL, if_pos rfl]
  | x :: a, b, h => by
    have hx : x ≠ c := h x (by simp)
    have ih := splitL_at c a b (fun y hy => h y (by simp [hy]))
    show splitL c (x :: (a ++ c :: b)) = _
    rw [splitL, if_neg hx, ih]

def wordsL (l : List UInt8) : List (List UInt8) := (splitL 32 l).filter fun w => !w.isEmpty

theorem wordsL_nil : wordsL [] = [] := rfl
theorem wordsL_no (a : List UInt8) (h : noC 32 a) : wordsL a = if a.isEmpty then [] else [a] := by
  unfold wordsL; rw [splitL_no 32 a h]
  cases a <;> simp
theorem wordsL_at (a b : List UInt8) (h : noC 32 a) : wordsL (a ++ 32 :: b) = (if a.isEmpty then [] else [a]) ++ wordsL b := by
  unfold wordsL; rw [splitL_at 32 a b h]
  cases a <;> simp

/-- The piece of l from i to j. -/
def piece (l : List UInt8) (i j : Nat) : List UInt8 := (l.drop i).take (j - i)
theorem piece_empty (l : List UInt8) (i : Nat) : piece l i i = [] := by simp [piece]
theorem piece_snoc (l : List UInt8) (i j : Nat) (hij : i ≤ j) (hj : j < l.length) : piece l i (j + 1) = piece l i j ++ [l[j]] := by
  unfold piece
  rw [show j + 1 - i = (j - i) + 1 by omega, List.take_succ_eq_append_getElem (by simp; omega)]
  simp [show i + (j - i) = j by omega]
theorem drop_piece (l : List UInt8) (i j : Nat) (hij : i ≤ j) (hj : j < l.length) : l.drop i = piece l i j ++ l[j] :: l.drop (j + 1) := by
  unfold piece
  have h1 : l.drop i = (l.drop i).take (j - i) ++ (l.drop i).drop (j - i) := (List.take_append_drop _ _).symm
  rw [List.drop_drop, show i + (j - i) = j by omega] at h1
  rw [List.drop_eq_getElem_cons hj] at h1
  exact h1
theorem piece_end (l : List UInt8) (i : Nat) : piece l i l.length = l.drop i := by
  unfold piece; rw [List.take_of_length_le (by simp)]
theorem piece_isEmpty (l : List UInt8) (i j : Nat) (hij : i ≤ j) (hj : j ≤ l.length) : (piece l i j).isEmpty = decide (i = j) := by
  by_cases h : i = j
  · subst h; simp [piece]
  · rw [decide_eq_false h]
    unfold piece
    rw [List.isEmpty_eq_false_iff_exists_mem]
    exact ⟨l[i]'(by omega), by rw [List.mem_take_iff_getElem]; exact ⟨0, by simp; omega, by simp⟩⟩
theorem noC_snoc {c x : UInt8} {l : List UInt8} (h : noC c l) (hx : x ≠ c) : noC c (l ++ [x]) := by
  intro y hy
  rcases List.mem_append.1 hy with h1 | h1
  · exact h y h1
  · rw [List.mem_singleton.1 h1]; exact hx
theorem noC_nil {c : UInt8} : noC c [] := fun _ h => by simp at h

/-- One word found (or none) at position j: the words from 'start' on are it and the words behind. -/
theorem words_step (l : List UInt8) (s j : Nat) (hs : s ≤ j) (hj : j < l.length) (hno : noC 32 (piece l s j)) (hc : l[j] = 32) :
    wordsL (l.drop s) = (if s = j then [] else [piece l s j]) ++ wordsL (l.drop (j + 1)) := by
  rw [drop_piece l s j hs hj, hc, wordsL_at _ _ hno, piece_isEmpty l s j hs (by omega)]
  by_cases h : s = j <;> simp [h]
theorem words_end (l : List UInt8) (s : Nat) (hs : s ≤ l.length) (hno : noC 32 (piece l s l.length)) :
    wordsL (l.drop s) = if s = l.length then [] else [piece l s l.length] := by
  rw [← piece_end l s, wordsL_no _ hno, piece_isEmpty l s _ hs (Nat.le_refl _)]
  by_cases h : s = l.length <;> simp [h]
end Go.Proofs.Ytjofbeokkainlaa
namespace Go.Proofs.Ytjofbeokkainlaa
open Go.ChangeShapes Go.WideShapes Go.ChangeAt Go.RowKit
set_option linter.unusedVariables false
set_option maxRecDepth 100000

def HeldNum (q : Nat) (w : World) (e : Ending) (w' : World) : Prop := e = .returned (.int .i64 (q : Int)) ∧ Below w.heap.size w w'

end Go.Proofs.Ytjofbeokkainlaa
namespace Go.Proofs.Ytjofbeokkainlaa
open Go.ChangeShapes Go.WideShapes Go.ChangeAt Go.RowKit
set_option linter.unusedVariables false
set_option maxRecDepth 100000

end Go.Proofs.Ytjofbeokkainlaa
namespace Go.Proofs.Ytjofbeokkainlaa

def linesP (P : List (List UInt8)) : Option (List (List UInt8)) :=
  if P.getLast? = some [] ∧ P.dropLast.length ≤ 10 ∧ P.dropLast.all (fun x => decide (x.length ≤ 200)) = true then some P.dropLast else none
def linesB (L : List UInt8) : Option (List (List UInt8)) := linesP (splitL 10 L)
def linesW (L : List UInt8) : List (List UInt8) := (linesB L).getD []
def linesK (L : List UInt8) : Bool := (linesB L).isSome

theorem linesP_done (W : List (List UInt8)) (h1 : W.length ≤ 10) (h2 : ∀ x ∈ W, x.length ≤ 200) : linesP (W ++ [[]]) = some W := by
  unfold linesP
  rw [if_pos]
  · simp
  · refine ⟨by simp, by simpa using h1, ?_⟩
    simpa [List.all_eq_true] using h2
theorem linesP_open (W : List (List UInt8)) (a : List UInt8) (h : a ≠ []) : linesP (W ++ [a]) = none := by
  unfold linesP
  rw [if_neg]
  rintro ⟨h1, _⟩
  simp at h1
  exact h h1
theorem dropLast_cons (W Q : List (List UInt8)) (a : List UInt8) (hQ : Q ≠ []) : (W ++ a :: Q).dropLast = W ++ a :: Q.dropLast := by
  rw [List.dropLast_append_of_ne_nil (by simp), List.dropLast_cons_of_ne_nil hQ]
theorem linesP_long (W Q : List (List UInt8)) (a : List UInt8) (hQ : Q ≠ []) (h : ¬ a.length ≤ 200) : linesP (W ++ a :: Q) = none := by
  unfold linesP
  rw [if_neg]
  rintro ⟨_, _, h3⟩
  rw [dropLast_cons W Q a hQ, List.all_eq_true] at h3
  exact h (of_decide_eq_true (h3 a (by simp)))
theorem linesP_many (W Q : List (List UInt8)) (a : List UInt8) (hQ : Q ≠ []) (h : W.length = 10) : linesP (W ++ a :: Q) = none := by
  unfold linesP
  rw [if_neg]
  rintro ⟨_, h2, _⟩
  rw [dropLast_cons W Q a hQ] at h2
  simp at h2
  omega
theorem linesP_bad (W : List (List UInt8)) (h : ¬ (W.length ≤ 10 ∧ ∀ x ∈ W, x.length ≤ 200)) : linesP (W ++ [[]]) = none := by
  unfold linesP
  rw [if_neg]
  rintro ⟨_, h2, h3⟩
  simp at h2
  rw [List.all_eq_true] at h3
  exact h ⟨h2, fun x hx => of_decide_eq_true (h3 x (by simpa using hx))⟩

theorem split_noC (c : UInt8) : ∀ l : List UInt8, ∀ x ∈ splitL c l, noC c x
  | [], x, hx => by simp [splitL] at hx; subst hx; exact noC_nil
  | y :: t, x, hx => by
    have ih := split_noC c t
    unfold splitL at hx
    split at hx
    · rcases List.mem_cons.1 hx with rfl | h
      · exact noC_nil
      · exact ih x h
    · rename_i hy
      split at hx
      · rename_i w ws heq
        rcases List.mem_cons.1 hx with rfl | h
        · intro z hz
          rcases List.mem_cons.1 hz with rfl | h2
          · exact hy
          · exact ih w (by rw [heq]; simp) z h2
        · exact ih x (by rw [heq]; simp [h])
      · simp at hx; subst hx
        intro z hz
        simp at hz
        subst hz
        exact hy

theorem split_short (c : UInt8) : ∀ l : List UInt8, ∀ x ∈ splitL c l, x.length ≤ l.length
  | [], x, hx => by simp [splitL] at hx; subst hx; simp
  | y :: t, x, hx => by
    have ih := split_short c t
    unfold splitL at hx
    split at hx
    · rcases List.mem_cons.1 hx with rfl | h
      · simp
      · have := ih x h; simp; omega
    · split at hx
      · rename_i w ws heq
        rcases List.mem_cons.1 hx with rfl | h
        · have := ih w (by rw [heq]; simp)
          simp; omega
        · have := ih x (by rw [heq]; simp [h])
          simp; omega
      · simp at hx; subst hx; simp
theorem linesB_some (L : List UInt8) (W : List (List UInt8)) (h : linesB L = some W) : W.length ≤ 10 ∧ (∀ x ∈ W, x.length ≤ 200 ∧ noC 10 x) ∧ splitL 10 L = W ++ [[]] := by
  unfold linesB linesP at h
  split at h
  · rename_i h1
    obtain ⟨h1, h2, h3⟩ := h1
    obtain rfl := Option.some.inj h
    rw [List.all_eq_true] at h3
    refine ⟨h2, fun x hx => ⟨of_decide_eq_true (h3 x hx), split_noC 10 L x (List.dropLast_subset _ hx)⟩, ?_⟩
    obtain ⟨ys, e⟩ := List.getLast?_eq_some_iff.1 h1
    rw [e]; simp
  · cases h

theorem linesW_few (L : List UInt8) : (linesW L).length ≤ 10 ∧ ∀ x ∈ linesW L, x.length ≤ 200 := by
  unfold linesW
  cases h : linesB L with
  | none => simp
  | some W => obtain ⟨h1, h2, _⟩ := linesB_some L W h; exact ⟨h1, fun x hx => (h2 x hx).1⟩
theorem lines_none {L : List UInt8} (h : linesB L = none) : linesW L = [] ∧ linesK L = false := by unfold linesW linesK; rw [h]; exact ⟨rfl, rfl⟩
theorem lines_some {L : List UInt8} {W : List (List UInt8)} (h : linesB L = some W) : linesW L = W ∧ linesK L = true := by unfold linesW linesK; rw [h]; exact ⟨rfl, rfl⟩

/-- The text of lines. -/
def joinN : List (List UInt8) → List UInt8
  | [] => []
  | a :: t => a ++ 10 :: joinN t
theorem joinN_snoc : ∀ (A : List (List UInt8)) (w : List UInt8), joinN (A ++ [w]) = joinN A ++ w ++ [10]
  | [], w => by simp [joinN]
  | a :: t, w => by simp [joinN, joinN_snoc t w]
theorem joinN_len : ∀ (A : List (List UInt8)) (m : Nat), (∀ x ∈ A, x.length ≤ m) → (joinN A).length ≤ A.length * (m + 1)
  | [], m, _ => by simp [joinN]
  | a :: t, m, h => by
    have := joinN_len t m (fun x hx => h x (by simp [hx]))
    have h1 := h a (by simp)
    simp only [joinN, List.length_append, List.length_cons, Nat.add_mul]
    omega
theorem split_joinN : ∀ A : List (List UInt8), (∀ x ∈ A, noC 10 x) → splitL 10 (joinN A) = A ++ [[]]
  | [], _ => rfl
  | a :: t, h => by
    rw [joinN, splitL_at 10 a _ (h a (by simp)), split_joinN t (fun x hx => h x (by simp [hx]))]
    rfl
theorem joinN_split : ∀ L : List UInt8, ∀ A, splitL 10 L = A ++ [[]] → joinN A = L
  | [], A, h => by
    have : A = [] := by
      have := congrArg List.length h
      simp [splitL] at this
      exact this
    subst this; rfl
  | y :: t, A, h => by
    unfold splitL at h
    split at h
    · rename_i hy
      match A, h with
      | [], h => have := congrArg List.length h; simp at this; exact absurd this (splitL_ne 10 t)
      | a :: A', h =>
        simp only [List.cons_append, List.cons.injEq] at h
        obtain ⟨rfl, h⟩ := h
        rw [joinN, joinN_split t A' h, hy]; rfl
    · split at h
      · rename_i w ws heq
        match A, h with
        | [], h => simp at h
        | a :: A', h =>
          simp only [List.cons_append, List.cons.injEq] at h
          obtain ⟨rfl, h⟩ := h
          have := joinN_split t (w :: A') (by rw [heq, h]; rfl)
          rw [joinN] at this ⊢
          rw [← this]; rfl
      · rename_i heq; exact absurd heq (splitL_ne 10 t)
/-- Lines that come back. -/
def rightL (W : List (List UInt8)) : Bool := decide (W.length ≤ 10) && W.all fun x => decide (x.length ≤ 200) && x.all fun c => c != 10
theorem rightL_iff (W : List (List UInt8)) : rightL W = true ↔ W.length ≤ 10 ∧ ∀ x ∈ W, x.length ≤ 200 ∧ noC 10 x := by
  unfold rightL noC
  simp [List.all_eq_true]
theorem linesB_of_split {L : List UInt8} {W : List (List UInt8)} (h : splitL 10 L = W ++ [[]]) : linesB L = if rightL W = true then some W else none := by
  have hno : ∀ x ∈ W, noC 10 x := fun x hx => split_noC 10 L x (by rw [h]; simp [hx])
  unfold linesB
  rw [h]
  by_cases hr : rightL W = true
  · rw [if_pos hr]
    obtain ⟨h1, h2⟩ := (rightL_iff W).1 hr
    exact linesP_done W h1 (fun x hx => (h2 x hx).1)
  · rw [if_neg hr]
    refine linesP_bad W fun ⟨h1, h2⟩ => hr ((rightL_iff W).2 ⟨h1, fun x hx => ⟨h2 x hx, hno x hx⟩⟩)
end Go.Proofs.Ytjofbeokkainlaa
