/- Texts put together, as a claim holds at most sixty files. -/
import Derived.Test.YtbjlojmadellgaaGreatDoorRows
import Derived.WalkKit
import Derived.ProofKit
import Derived.OpenShut
import Derived.WalkLawsBesides
import Derived.OwnWalk
import Derived.Deep.QuietTactic
import Derived.BigQuiet
import Derived.Deep.RegionHeld3
import Derived.Lib.Hide
import Derived.Outline
namespace Go.Proofs.YtbjlojmadellgaaGreatDoor
open Go.ChangeShapes Go.WideShapes Go.ChangeAt Go.RowKit
set_option linter.unusedVariables false
set_option maxRecDepth 100000

/-- The end of a function that returns a bool and makes at most new blocks. -/
def MadeBool (b : Bool) (w : World) (e : Ending) (w' : World) : Prop := e = .returned (.bool b) ∧ Below w.heap.size w w'

theorem ret_bool {a b : Bool} (h : a = b) : Ending.returned (.bool a) = .returned (.bool b) := by rw [h]
theorem below_alloc {w x : World} (h : Below w.heap.size w x) (o : Obj) : Below w.heap.size w (x.alloc o) := h.alloc h.size o
theorem below_via {w x y : World} (h : Below w.heap.size w x) (k : Below x.heap.size x y) : Below w.heap.size w y := h.trans (k.mono h.size)
theorem bcell {W w1 : World} (hb : Below W.heap.size W w1) : ∀ b o, b < W.heap.size → w1.cell? ⟨b, o, none⟩ = W.cell? ⟨b, o, none⟩ := fun b o h => hb.cell (p := ⟨b, o, none⟩) h

/-- Block B is a row of cells that may be written. -/
def Row (w : World) (B : Nat) (E : TypeId) (cur : Array Value) : Prop := w.heap[B]? = some (.cells cur E (0, 0))
theorem Row.lt {w : World} {B : Nat} {E : TypeId} {cur : Array Value} (h : Row w B E cur) : B < w.heap.size := lt_of_block h
theorem Row.keep {w w1 : World} {B : Nat} {E : TypeId} {cur : Array Value} (h : Row w B E cur) (hB : Below w.heap.size w w1) : Row w1 B E cur := (hB.block B h.lt).trans h
theorem Row.cell {w : World} {B : Nat} {E : TypeId} {cur : Array Value} (h : Row w B E cur) {j : Nat} (hj : j < cur.size) : w.cell? ⟨B, j, none⟩ = some cur[j] := by
  unfold Row at h; simp [World.cell?, h, hj]
theorem Row.free {w : World} {B : Nat} {E : TypeId} {cur : Array Value} (h : Row w B E cur) (j : Nat) : w.frozen? ⟨B, j, none⟩ = false := by
  unfold Row at h; simp [World.frozen?, h]
theorem Row.set {w : World} {B : Nat} {E : TypeId} {cur : Array Value} (h : Row w B E cur) (j : Nat) (x : Value) : Row (w.setCell ⟨B, j, none⟩ x) B E (cur.setIfInBounds j x) := by
  have hlt := h.lt
  unfold Row at h ⊢
  have h' : w.heap[B] = .cells cur E (0, 0) := by simpa [Array.getElem?_eq_getElem hlt] using h
  show (w.heap.modify B _)[B]? = _
  rw [Array.getElem?_eq_getElem (by simpa using hlt), Array.getElem_modify_self, h']
  rfl

end Go.Proofs.YtbjlojmadellgaaGreatDoor
namespace Go.Proofs.YtbjlojmadellgaaGreatDoor
open Go.ChangeShapes Go.WideShapes Go.ChangeAt Go.RowKit
set_option linter.unusedVariables false
set_option maxRecDepth 100000

/-- A record as a value. -/
def recV (s : ByteArray) (n : Int) : Value := .agg #[.string s, .int .i64 n]
def okB (s : ByteArray) : Bool := decide (s.size ≤ 40)
def lessB (s : ByteArray) (n : Int) (u : ByteArray) (m : Int) : Bool := Op.bytesLess s.toList u.toList || (s.toList == u.toList && decide (n < m))

theorem okB_yes {s : ByteArray} (h : s.size ≤ 40) : okB s = true := by unfold okB; simpa using h
theorem okB_no {s : ByteArray} (h : ¬ s.size ≤ 40) : okB s = false := by unfold okB; simpa using h

theorem okB_int (s : ByteArray) : decide ((s.size : Int) ≤ 40) = okB s := by
  unfold okB
  by_cases h : s.size ≤ 40
  · rw [decide_eq_true h, decide_eq_true (by omega)]
  · rw [decide_eq_false h, decide_eq_false (by omega)]

/-- The end of a function that returns a record and makes at most new blocks. -/
def MadeRec (s : ByteArray) (n : Int) (w : World) (e : Ending) (w' : World) : Prop := e = .returned (.agg #[.string s, .int .i64 n]) ∧ Below w.heap.size w w'

def sz1 (left : Int) (s : ByteArray) : Int := if left < s.size then -1 else left - s.size
/-- The end of a function that returns the number x and makes at most new blocks. -/
def MadeInt (x : Int) (w : World) (e : Ending) (w' : World) : Prop := e = .returned (.int .i64 x) ∧ Below w.heap.size w w'
theorem ret_int' {k : IntKind} {a b : Int} (h : a = b) : Ending.returned (.int k a) = .returned (.int k b) := by rw [h]

theorem bytesLess_irrefl (l : List UInt8) : Op.bytesLess l l = false := by
  induction l with
  | nil => rfl
  | cons a l ih => simp [Op.bytesLess, ih]
theorem less_ne {s u : ByteArray} {n m : Int} (h : (!s.toList == u.toList) = true) : Op.bytesLess s.toList u.toList = lessB s n u m := by
  unfold lessB
  rw [Bool.not_eq_true'] at h
  rw [h]; simp
theorem less_eq {s u : ByteArray} {n m : Int} (h : (!s.toList == u.toList) = false) : decide (n < m) = lessB s n u m := by
  unfold lessB
  rw [Bool.not_eq_false'] at h
  rw [h, eq_of_beq h, bytesLess_irrefl]; simp

theorem less_1 {s u : ByteArray} {n m : Int} (h : Op.bytesLess s.toList u.toList = true) : true = lessB s n u m := by
  unfold lessB; rw [h]; rfl
theorem less_2 {s u : ByteArray} {n m : Int} (h : ¬ Op.bytesLess s.toList u.toList = true) (h2 : s.toList = u.toList) : decide (n < m) = lessB s n u m := by
  unfold lessB; rw [Bool.not_eq_true] at h; rw [h, h2]; simp
theorem less_3 {s u : ByteArray} {n m : Int} (h : ¬ Op.bytesLess s.toList u.toList = true) (h2 : ¬ s.toList = u.toList) : false = lessB s n u m := by
  unfold lessB; rw [Bool.not_eq_true] at h; rw [h]; simp [h2]

/-- A block of two cells. -/
structure Box2 (w : World) (b : Nat) (x y : Value) : Prop where
  lt : b < w.heap.size
  c0 : w.cell? ⟨b, 0, none⟩ = some x
  c1 : w.cell? ⟨b, 1, none⟩ = some y
theorem Box2.keep {w w1 : World} {b : Nat} {x y : Value} (h : Box2 w b x y) (hB : Below w.heap.size w w1) : Box2 w1 b x y :=
  ⟨Nat.lt_of_lt_of_le h.lt hB.size, (hB.cell (p := ⟨b, 0, none⟩) h.lt).trans h.c0, (hB.cell (p := ⟨b, 1, none⟩) h.lt).trans h.c1⟩
theorem Box2.new (w : World) (x y : Value) (t : TypeId) : Box2 (w.alloc (.cells #[x, y] t)) w.heap.size x y :=
  ⟨by simp, cell_two_new w x y t 0 _ rfl, cell_two_new w x y t 1 _ rfl⟩
theorem Box2.new1 (w : World) (o : Obj) (x y : Value) (t : TypeId) : Box2 ((w.alloc o).alloc (.cells #[x, y] t)) (w.heap.size + 1) x y := by
  have h := Box2.new (w.alloc o) x y t
  have e : (w.alloc o).heap.size = w.heap.size + 1 := by simp
  rw [e] at h
  exact h
theorem Box2.alloc {w : World} {b : Nat} {x y : Value} (h : Box2 w b x y) (o : Obj) : Box2 (w.alloc o) b x y := h.keep ((Below.refl _ _).alloc (Nat.le_refl _) o)

end Go.Proofs.YtbjlojmadellgaaGreatDoor
namespace Go.Proofs.YtbjlojmadellgaaGreatDoor
open Go.ChangeShapes Go.WideShapes Go.ChangeAt Go.RowKit
set_option linter.unusedVariables false
set_option maxRecDepth 100000

abbrev Instrs := List (Int × Int × ByteArray)
def ins0 (l : Instrs) (i : Nat) : Int := (l.getD i (0, 0, ByteArray.empty)).1
def ins1 (l : Instrs) (i : Nat) : Int := (l.getD i (0, 0, ByteArray.empty)).2.1
def ins2 (l : Instrs) (i : Nat) : ByteArray := (l.getD i (0, 0, ByteArray.empty)).2.2

/-- The slice (a, len, cap) holds the values l. -/
structure InstrsAt (w : World) (a : Option Addr) (len : Nat) (l : Instrs) : Prop where
  length : l.length = len
  max : len ≤ maxLen
  keys : ∀ i, i < len → (ins2 l i).size ≤ maxLen
  src : len = 0 ∨ ∃ b off, a = some ⟨b, off, none⟩ ∧ b < w.heap.size ∧ ∀ i, i < len → w.cell? ⟨b, off + i * 3, none⟩ = some (.int .i64 (ins0 l i)) ∧ w.cell? ⟨b, off + i * 3 + 1, none⟩ = some (.int .i64 (ins1 l i)) ∧ w.cell? ⟨b, off + i * 3 + 2, none⟩ = some (.string (ins2 l i))

theorem InstrsAt.keep {w w1 : World} {a : Option Addr} {len : Nat} {l : Instrs} (h : InstrsAt w a len l) (hB : Below w.heap.size w w1) : InstrsAt w1 a len l := by
  refine ⟨h.length, h.max, h.keys, ?_⟩
  rcases h.src with h0 | ⟨b, off, ha, hb, hc⟩
  · exact .inl h0
  · exact .inr ⟨b, off, ha, Nat.lt_of_lt_of_le hb hB.size, fun i hi => ⟨(hB.cell (p := ⟨b, off + i * 3, none⟩) hb).trans (hc i hi).1, (hB.cell (p := ⟨b, off + i * 3 + 1, none⟩) hb).trans (hc i hi).2.1, (hB.cell (p := ⟨b, off + i * 3 + 2, none⟩) hb).trans (hc i hi).2.2⟩⟩

theorem InstrsAt.put {w : World} {a : Option Addr} {len : Nat} {l : Instrs} (h : InstrsAt w a len l) {X : Nat} (hne : ∀ b off, a = some ⟨b, off, none⟩ → b ≠ X) (j : Nat) (v : Value) : InstrsAt (w.setCell ⟨X, j, none⟩ v) a len l := by
  refine ⟨h.length, h.max, h.keys, ?_⟩
  rcases h.src with h0 | ⟨b, off, ha, hb, hc⟩
  · exact .inl h0
  · have e : ∀ o, (w.setCell ⟨X, j, none⟩ v).cell? ⟨b, o, none⟩ = w.cell? ⟨b, o, none⟩ := fun o => by
      simp only [World.cell?, Below.heap_setCell w ⟨X, j, none⟩ v b (hne b off ha)]
    exact .inr ⟨b, off, ha, by simpa [World.setCell] using hb, fun i hi => by simpa only [e] using hc i hi⟩

def InstrSized1 (left : Int) (x2 : ByteArray) (w : World) (e : Ending) (w' : World) : Prop :=
  ∃ x : Int, -1 ≤ x ∧ x ≤ left ∧ e = .returned (.int .i64 x) ∧ Below w.heap.size w w' ∧ (0 ≤ x → x2.size ≤ 1048576)

set_option maxHeartbeats 1000000 in
theorem szins_any (x0 : Int) (x1 : Int) (x2 : ByteArray) (left : Int) (w : World) (hs2 : x2.size ≤ maxLen) (h0 : 0 ≤ left) (h1 : left ≤ 1048576) : Calls Tryz.prog 44 #[.agg #[.int .i64 x0, .int .i64 x1, .string x2], .int .i64 left] w (InstrSized1 left x2 w) := by
  unfold maxLen at hs2
  by_cases g0 : left < x2.size
  · have q0 : left - x2.size < 0 := by omega
    go_enter Tryz.func44, Tryz.ntmps44
    go_wp2
    go_ret
    exact ⟨-1, by omega, by omega, rfl, below_alloc (Below.refl _ _) _, fun h => by omega⟩
  · have q0 : ¬ left - x2.size < 0 := by omega
    go_enter Tryz.func44, Tryz.ntmps44
    go_wp2
    go_ret
    exact ⟨_, by omega, by omega, rfl, below_alloc (Below.refl _ _) _, fun h => by omega⟩

def InstrSized (len : Nat) (l : Instrs) (w : World) (e : Ending) (w' : World) : Prop :=
  ∃ x : Int, -1 ≤ x ∧ x ≤ 1048576 ∧ e = .returned (.int .i64 x) ∧ Below w.heap.size w w' ∧ (0 ≤ x → len ≤ 1048576 ∧ ∀ i, i < len → (ins2 l i).size ≤ 1048576)

set_option maxHeartbeats 1000000 in
theorem szinss_any (a : Option Addr) (len cap : Nat) (l : Instrs) (left : Int) (w : World) (h : InstrsAt w a len l) (h0 : 0 ≤ left) (h1 : left ≤ 1048576) :
    Calls Tryz.prog 20 #[.slice a len cap, .int .i64 left] w (InstrSized len l w) := by
  have hm := h.max
  unfold maxLen at hm
  have HR := Lib.hid h
  clear h
  by_cases hl : left < len
  · have g : left - (len : Int) < 0 := by omega
    go_enter Tryz.func20, Tryz.ntmps20
    go_wp2
    go_ret
    exact ⟨-1, by omega, by omega, rfl, Below.refl _ _, fun h => by omega⟩
  · have g : ¬ left - (len : Int) < 0 := by omega
    go_enter Tryz.func20, Tryz.ntmps20
    go_wp2
    go_loopw [1, 5] (fun t i wr => ∃ k : Nat, k ≤ len ∧ i = .int .i64 k ∧ (∃ L : Int, 0 ≤ L ∧ L ≤ 1048576 ∧ t = .int .i64 L) ∧ Hid (Below w.heap.size w wr ∧ ∀ j, j < k → (ins2 l j).size ≤ 1048576)) (fun _ i _ => len - (intOf i).toNat)
    case atStart => exact ⟨0, Nat.zero_le _, rfl, ⟨_, by omega, by omega, rfl⟩, Below.refl _ _, fun j hj => by omega⟩
    case round =>
      obtain ⟨k, hk, rfl, ⟨L, hL0, hL1, rfl⟩, HW⟩ := hrel
      by_cases hlt : k < len
      · rcases (HR.out.keep HW.out.1).src with hz | ⟨b, off, rfl, hb, hc⟩
        · omega
        · obtain ⟨c0, c1, c2⟩ := hc k hlt
          have HK := Lib.hid (HR.out.keys k hlt)
          clear hc hb
          go_wp2_with fail
          refine (szins_any _ _ _ _ _ HK.out hL0 hL1).mono ?_
          rintro e w1 ⟨x, hx0, hx1, rfl, hB, hfx⟩
          have HB := Lib.hid (below_via HW.out.1 hB)
          have HZ := Lib.hid hfx
          clear hB hfx
          by_cases hneg : x < 0
          · go_wp2
            go_ret
            exact ⟨-1, by omega, by omega, rfl, HB.out, fun h => by omega⟩
          · go_wp2
            go_roundw
            case rel => exact ⟨k + 1, by omega, by go_num, ⟨x, by omega, by omega, rfl⟩, HB.out, fun j hj => by
              rcases Nat.lt_or_ge j k with h | h
              · exact HW.out.2 j h
              · obtain rfl : j = k := by omega
                exact HZ.out (by omega)⟩
            case measure => simp [intOf]; omega
      · go_wp2
        go_ret
        exact ⟨L, by omega, by omega, rfl, HW.out.1, fun _ => ⟨by omega, fun i hi => HW.out.2 i (by omega)⟩⟩

theorem infoInstr : (Tryz.prog.info? 100).map (fun i => (i.zero, i.size, i.bytes)) = some (some (.agg #[.int .i64 0, .int .i64 0, .string ByteArray.empty]), 3, 32) := by kernel_rfl

def InstrLaid (cur : Array Value) (l : Instrs) (k : Nat) : Prop := ∀ j, j < k → cur[j * 3]? = some (.int .i64 (ins0 l j)) ∧ cur[j * 3 + 1]? = some (.int .i64 (ins1 l j)) ∧ cur[j * 3 + 2]? = some (.string (ins2 l j))
theorem InstrLaid.step {cur : Array Value} {l : Instrs} {k len : Nat} (h : InstrLaid cur l k) (hs : cur.size = len * 3) (hk : k < len) :
    InstrLaid (((cur.setIfInBounds (k * 3) (.int .i64 (ins0 l k))).setIfInBounds (k * 3 + 1) (.int .i64 (ins1 l k))).setIfInBounds (k * 3 + 2) (.string (ins2 l k))) l (k + 1) := by
  intro j hj
  rcases Nat.lt_or_ge j k with hlt | hge
  · obtain ⟨e0, e1, e2⟩ := h j hlt
    refine ⟨?_, ?_, ?_⟩
    · rw [Array.getElem?_setIfInBounds_ne (by omega), Array.getElem?_setIfInBounds_ne (by omega), Array.getElem?_setIfInBounds_ne (by omega)]; exact e0
    · rw [Array.getElem?_setIfInBounds_ne (by omega), Array.getElem?_setIfInBounds_ne (by omega), Array.getElem?_setIfInBounds_ne (by omega)]; exact e1
    · rw [Array.getElem?_setIfInBounds_ne (by omega), Array.getElem?_setIfInBounds_ne (by omega), Array.getElem?_setIfInBounds_ne (by omega)]; exact e2
  · obtain rfl : j = k := by omega
    refine ⟨?_, ?_, ?_⟩
    · rw [Array.getElem?_setIfInBounds_ne (by omega), Array.getElem?_setIfInBounds_ne (by omega)]; rw [Array.getElem?_setIfInBounds_self_of_lt (by first | omega | (simp only [Array.size_setIfInBounds]; omega))]
    · rw [Array.getElem?_setIfInBounds_ne (by omega)]; rw [Array.getElem?_setIfInBounds_self_of_lt (by first | omega | (simp only [Array.size_setIfInBounds]; omega))]
    · rw [Array.getElem?_setIfInBounds_self_of_lt (by first | omega | (simp only [Array.size_setIfInBounds]; omega))]

theorem InstrsAt.ofRow {w : World} {B len : Nat} {E : TypeId} {cur : Array Value} {l : Instrs} (h : Row w B E cur) (hl : l.length = len) (hm : len ≤ maxLen) (hk : ∀ i, i < len → (ins2 l i).size ≤ maxLen) (hlaid : InstrLaid cur l len) : InstrsAt w (some ⟨B, 0, none⟩) len l := by
  refine ⟨hl, hm, hk, .inr ⟨B, 0, rfl, h.lt, fun i hi => ?_⟩⟩
  obtain ⟨e0, e1, e2⟩ := hlaid i hi
  unfold Row at h
  simp [World.cell?, h, e0, e1, e2]

def MadeInstr (x0 : Int) (x1 : Int) (x2 : ByteArray) (w : World) (e : Ending) (w' : World) : Prop := e = .returned (.agg #[.int .i64 x0, .int .i64 x1, .string x2]) ∧ Below w.heap.size w w'

theorem toins_any (x0 : Int) (x1 : Int) (x2 : ByteArray) (w : World) : Calls Tryz.prog 49 #[.agg #[.int .i64 x0, .int .i64 x1, .string x2]] w (MadeInstr x0 x1 x2 w) := by
  go_enter Tryz.func49, Tryz.ntmps49
  go_wp2
  exact bodyPost_ret (v := .agg #[.int .i64 x0, .int .i64 x1, .string x2]) (by simp [results, Tryz.results49, go_sem]) rfl ⟨rfl, below_alloc (below_alloc (below_alloc (Below.refl _ _) _) _) _⟩

/-- The end of the laws' copy: a new slice of the same values. -/
def MadeInstrs (len : Nat) (l : Instrs) (w : World) (e : Ending) (w' : World) : Prop :=
  e = .returned (.slice (some ⟨w.heap.size, 0, none⟩) len len) ∧ InstrsAt w' (some ⟨w.heap.size, 0, none⟩) len l ∧ Below w.heap.size w w' ∧ ∃ cur, Row w' w.heap.size 100 cur ∧ cur.size = len * 3

set_option maxHeartbeats 2000000 in
theorem toinss_any (a : Option Addr) (len cap : Nat) (l : Instrs) (w : World) (h : InstrsAt w a len l) (hfew : len ≤ 1048576) :
    Calls Tryz.prog 26 #[.slice a len cap] w (MadeInstrs len l w) := by
  obtain ⟨i0, hi, hz0, hz1, hz2⟩ := info_parts infoInstr
  have HR := Lib.hid h
  clear h
  go_enter Tryz.func26, Tryz.ntmps26
  go_wp2_with (at_make; refine wpList_make_full _ rfl _ _ 33 rfl w.heap.size 100 i0 _ 3 Tryz.underlying33 hi hz0 hz1 .i64 .i64 _ _ len rfl rfl rfl rfl (by rw [hz2]; omega) (by unfold maxLen; omega) (Nat.le_refl _) ?_; intro w1 hown hgrow)
  obtain ⟨cur0, hrow0, hsz0⟩ : ∃ cur, Row w1 w.heap.size 100 cur ∧ cur.size = len * 3 := by
    rcases hown.2 with ⟨h, _⟩ | ⟨g, cp, cur, hv, _, hh, _, _, hs, _⟩
    · simp at h
    · simp only [Value.slice.injEq, Option.some.injEq, Addr.mk.injEq, true_and, and_true] at hv
      obtain ⟨rfl, rfl⟩ := hv
      exact ⟨cur, hh, hs⟩
  have HB0 := Lib.hid ((Below.refl w.heap.size w).grown hgrow (Nat.le_refl _) (by simp))
  have HR0 := Lib.hid hrow0
  have HS0 := Lib.hid hsz0
  clear hown hgrow hrow0 hsz0
  go_loopw [4] (fun i wr => ∃ k : Nat, k ≤ len ∧ i = .int .i64 k ∧ Hid (Below w.heap.size w wr ∧ ∃ cur, Row wr w.heap.size 100 cur ∧ cur.size = len * 3 ∧ InstrLaid cur l k)) (fun i _ => len - (intOf i).toNat)
  case atStart => exact ⟨0, Nat.zero_le _, rfl, HB0.out, cur0, HR0.out, HS0.out, fun j hj => by omega⟩
  case round =>
    obtain ⟨k, hk, rfl, HW⟩ := hrel
    clear HB0 HR0 HS0
    by_cases hlt : k < len
    · rcases HR.out.src with hz | ⟨b, off, rfl, hb, hc⟩
      · omega
      · have c0 := (HW.out.1.cell (p := ⟨b, off + k * 3, none⟩) hb).trans (hc k hlt).1
        have c1 := (HW.out.1.cell (p := ⟨b, off + k * 3 + 1, none⟩) hb).trans (hc k hlt).2.1
        have c2 := (HW.out.1.cell (p := ⟨b, off + k * 3 + 2, none⟩) hb).trans (hc k hlt).2.2
        clear hc hb
        go_wp2_with fail
        refine (toins_any _ _ _ _).mono ?_
        rintro e w2 ⟨rfl, hB⟩
        obtain ⟨hb0, cur, hr, hs, hla⟩ := HW.out
        have hr2 := hr.keep hB
        have hA0 := hr2.cell (j := k * 3) (by omega)
        have hA1 := hr2.cell (j := k * 3 + 1) (by omega)
        have hA2 := hr2.cell (j := k * 3 + 2) (by omega)
        have hf0 := hr2.free (k * 3)
        have hf1 := hr2.free (k * 3 + 1)
        have hf2 := hr2.free (k * 3 + 2)
        have HB := Lib.hid (below_via hb0 hB)
        have HR2 := Lib.hid hr2
        have HS := Lib.hid hs
        have HL := Lib.hid hla
        generalize cur[k * 3] = x0 at hA0
        generalize cur[k * 3 + 1] = x1 at hA1
        generalize cur[k * 3 + 2] = x2 at hA2
        clear hB hr hr2 hs hla hb0 HW
        go_wp2
        go_roundw
        case rel => exact ⟨k + 1, by omega, by go_num, ((HB.out.setCell (Nat.le_refl _) _).setCell (Nat.le_refl _) _).setCell (Nat.le_refl _) _, _, ((HR2.out.set _ _).set _ _).set _ _, by simpa using HS.out, HL.out.step HS.out hlt⟩
        case measure => simp [intOf]; omega
    · go_wp2
      go_ret
      obtain ⟨hb0, cur, hr, hs, hla⟩ := HW.out
      obtain rfl : k = len := by omega
      exact ⟨rfl, InstrsAt.ofRow hr HR.out.length HR.out.max HR.out.keys hla, hb0, cur, hr, hs⟩
end Go.Proofs.YtbjlojmadellgaaGreatDoor

/- Words of a line as plain lists of bytes: cutting at a byte, splitting at blanks, the words that are not empty. No condition. -/
namespace Go.Proofs.YtbjlojmadellgaaGreatDoor

def noC (c : UInt8) (l : List UInt8) : Prop := ∀ x, x ∈ l → x ≠ c
/-- Split at byte c. -/
def splitL (c : UInt8) : List UInt8 → List (List UInt8)
  | [] => [[]]
  | x :: t => if x = c then [] :: splitL c t else match splitL c t with
    | w :: ws => (x :: w) :: ws
    | [] => [[x]]

theorem splitL_ne (c : UInt8) : ∀ l, splitL c l ≠ []
  | [] => by simp [splitL]
  | x :: t => by
    unfold splitL
    split
    · simp
    · split <;> simp

theorem splitL_no (c : UInt8) : ∀ l, noC c l → splitL c l = [l]
  | [], _ => rfl
  | x :: t, h => by
    have hx : x ≠ c := h x (by simp)
    have ht := splitL_no c t (fun y hy => h y (by simp [hy]))
    unfold splitL
    rw [if_neg hx, ht]

theorem splitL_at (c : UInt8) : ∀ a b, noC c a → splitL c (a ++ c :: b) = a :: splitL c b
  | [], b, _ => by show splitL c (c :: b) = _; rw [splitL, if_pos rfl]
  | x :: a, b, h => by
    have hx : x ≠ c := h x (by simp)
    have ih := splitL_at c a b (fun y hy => h y (by simp [hy]))
    show splitL c (x :: (a ++ c :: b)) = _
    rw [splitL, if_neg hx, ih]

def wordsL (l : List UInt8) : List (List UInt8) := (splitL 32 l).filter fun w => !w.isEmpty

theorem wordsL_nil : wordsL [] = [] := rfl
theorem wordsL_no (a : List UInt8) (h : noC 32 a) : wordsL a = if a.isEmpty then [] else [a] := by
  unfold wordsL; rw [splitL_no 32 a h]
  cases a <;> simp
theorem wordsL_at (a b : List UInt8) (h : noC 32 a) : wordsL (a ++ 32 :: b) = (if a.isEmpty then [] else [a]) ++ wordsL b := by
  unfold wordsL; rw [splitL_at 32 a b h]
  cases a <;> simp

/-- The piece of l from i to j. -/
def piece (l : List UInt8) (i j : Nat) : List UInt8 := (l.drop i).take (j - i)
theorem piece_empty (l : List UInt8) (i : Nat) : piece l i i = [] := by simp [piece]
theorem piece_snoc (l : List UInt8) (i j : Nat) (hij : i ≤ j) (hj : j < l.length) : piece l i (j + 1) = piece l i j ++ [l[j]] := by
  unfold piece
  rw [show j + 1 - i = (j - i) + 1 by omega, List.take_succ_eq_append_getElem (by simp; omega)]
  simp [show i + (j - i) = j by omega]
theorem drop_piece (l : List UInt8) (i j : Nat) (hij : i ≤ j) (hj : j < l.length) : l.drop i = piece l i j ++ l[j] :: l.drop (j + 1) := by
  unfold piece
  have h1 : l.drop i = (l.drop i).take (j - i) ++ (l.drop i).drop (j - i) := (List.take_append_drop _ _).symm
  rw [List.drop_drop, show i + (j - i) = j by omega] at h1
  rw [List.drop_eq_getElem_cons hj] at h1
  exact h1
theorem piece_end (l : List UInt8) (i : Nat) : piece l i l.length = l.drop i := by
  unfold piece; rw [List.take_of_length_le (by simp)]
theorem piece_isEmpty (l : List UInt8) (i j : Nat) (hij : i ≤ j) (hj : j ≤ l.length) : (piece l i j).isEmpty = decide (i = j) := by
  by_cases h : i = j
  · subst h; simp [piece]
  · rw [decide_eq_false h]
    unfold piece
    rw [List.isEmpty_eq_false_iff_exists_mem]
    exact ⟨l[i]'(by omega), by rw [List.mem_take_iff_getElem]; exact ⟨0, by simp; omega, by simp⟩⟩
theorem noC_snoc {c x : UInt8} {l : List UInt8} (h : noC c l) (hx : x ≠ c) : noC c (l ++ [x]) := by
  intro y hy
  rcases List.mem_append.1 hy with h1 | h1
  · exact h y h1
  · rw [List.mem_singleton.1 h1]; exact hx
theorem noC_nil {c : UInt8} : noC c [] := fun _ h => by simp at h

/-- One word found (or none) at position j: the words from 'start' on are it and the words behind. -/
theorem words_step (l : List UInt8) (s j : Nat) (hs : s ≤ j) (hj : j < l.length) (hno : noC 32 (piece l s j)) (hc : l[j] = 32) :
    wordsL (l.drop s) = (if s = j then [] else [piece l s j]) ++ wordsL (l.drop (j + 1)) := by
  rw [drop_piece l s j hs hj, hc, wordsL_at _ _ hno, piece_isEmpty l s j hs (by omega)]
  by_cases h : s = j <;> simp [h]
theorem words_end (l : List UInt8) (s : Nat) (hs : s ≤ l.length) (hno : noC 32 (piece l s l.length)) :
    wordsL (l.drop s) = if s = l.length then [] else [piece l s l.length] := by
  rw [← piece_end l s, wordsL_no _ hno, piece_isEmpty l s _ hs (Nat.le_refl _)]
  by_cases h : s = l.length <;> simp [h]
end Go.Proofs.YtbjlojmadellgaaGreatDoor
namespace Go.Proofs.YtbjlojmadellgaaGreatDoor
open Go.ChangeShapes Go.WideShapes Go.ChangeAt Go.RowKit
set_option linter.unusedVariables false

theorem row_new (w : World) (cur : Array Value) (T : TypeId) : Row (w.alloc (.cells cur T)) w.heap.size T cur := by
  have := heap_alloc_new w (.cells cur T)
  simpa [Row] using this
theorem row_new1 (w : World) (o : Obj) (cur : Array Value) (T : TypeId) : Row ((w.alloc o).alloc (.cells cur T)) (w.heap.size + 1) T cur := by
  have := row_new (w.alloc o) cur T
  simpa using this
theorem Row.al {w : World} {B : Nat} {E : TypeId} {cur : Array Value} (h : Row w B E cur) (o : Obj) : Row (w.alloc o) B E cur := h.keep (below_alloc (Below.refl _ _) _)
theorem Row.put {w : World} {B : Nat} {E : TypeId} {cur : Array Value} (h : Row w B E cur) {X : Nat} (hne : B ≠ X) (j : Nat) (v : Value) : Row (w.setCell ⟨X, j, none⟩ v) B E cur := (Below.heap_setCell w ⟨X, j, none⟩ v B hne).trans h
end Go.Proofs.YtbjlojmadellgaaGreatDoor
namespace Go.Proofs.YtbjlojmadellgaaGreatDoor
open Go.ChangeShapes Go.WideShapes Go.ChangeAt Go.RowKit
set_option linter.unusedVariables false
set_option maxRecDepth 100000

abbrev Objs := List (ByteArray × Int × ByteArray)
def obj0 (l : Objs) (i : Nat) : ByteArray := (l.getD i (ByteArray.empty, 0, ByteArray.empty)).1
def obj1 (l : Objs) (i : Nat) : Int := (l.getD i (ByteArray.empty, 0, ByteArray.empty)).2.1
def obj2 (l : Objs) (i : Nat) : ByteArray := (l.getD i (ByteArray.empty, 0, ByteArray.empty)).2.2

/-- The slice (a, len, cap) holds the values l. -/
structure ObjsAt (w : World) (a : Option Addr) (len : Nat) (l : Objs) : Prop where
  length : l.length = len
  max : len ≤ maxLen
  keys : ∀ i, i < len → (obj0 l i).size ≤ maxLen ∧ (obj2 l i).size ≤ maxLen
  src : len = 0 ∨ ∃ b off, a = some ⟨b, off, none⟩ ∧ b < w.heap.size ∧ ∀ i, i < len → w.cell? ⟨b, off + i * 3, none⟩ = some (.string (obj0 l i)) ∧ w.cell? ⟨b, off + i * 3 + 1, none⟩ = some (.int .i64 (obj1 l i)) ∧ w.cell? ⟨b, off + i * 3 + 2, none⟩ = some (.string (obj2 l i))

theorem ObjsAt.keep {w w1 : World} {a : Option Addr} {len : Nat} {l : Objs} (h : ObjsAt w a len l) (hB : Below w.heap.size w w1) : ObjsAt w1 a len l := by
  refine ⟨h.length, h.max, h.keys, ?_⟩
  rcases h.src with h0 | ⟨b, off, ha, hb, hc⟩
  · exact .inl h0
  · exact .inr ⟨b, off, ha, Nat.lt_of_lt_of_le hb hB.size, fun i hi => ⟨(hB.cell (p := ⟨b, off + i * 3, none⟩) hb).trans (hc i hi).1, (hB.cell (p := ⟨b, off + i * 3 + 1, none⟩) hb).trans (hc i hi).2.1, (hB.cell (p := ⟨b, off + i * 3 + 2, none⟩) hb).trans (hc i hi).2.2⟩⟩

theorem ObjsAt.put {w : World} {a : Option Addr} {len : Nat} {l : Objs} (h : ObjsAt w a len l) {X : Nat} (hne : ∀ b off, a = some ⟨b, off, none⟩ → b ≠ X) (j : Nat) (v : Value) : ObjsAt (w.setCell ⟨X, j, none⟩ v) a len l := by
  refine ⟨h.length, h.max, h.keys, ?_⟩
  rcases h.src with h0 | ⟨b, off, ha, hb, hc⟩
  · exact .inl h0
  · have e : ∀ o, (w.setCell ⟨X, j, none⟩ v).cell? ⟨b, o, none⟩ = w.cell? ⟨b, o, none⟩ := fun o => by
      simp only [World.cell?, Below.heap_setCell w ⟨X, j, none⟩ v b (hne b off ha)]
    exact .inr ⟨b, off, ha, by simpa [World.setCell] using hb, fun i hi => by simpa only [e] using hc i hi⟩

def ObjSized1 (left : Int) (x0 : ByteArray) (x2 : ByteArray) (w : World) (e : Ending) (w' : World) : Prop :=
  ∃ x : Int, -1 ≤ x ∧ x ≤ left ∧ e = .returned (.int .i64 x) ∧ Below w.heap.size w w' ∧ (0 ≤ x → x0.size ≤ 1048576 ∧ x2.size ≤ 1048576)

set_option maxHeartbeats 1000000 in
theorem szobj_any (x0 : ByteArray) (x1 : Int) (x2 : ByteArray) (left : Int) (w : World) (hs0 : x0.size ≤ maxLen) (hs2 : x2.size ≤ maxLen) (h0 : 0 ≤ left) (h1 : left ≤ 1048576) : Calls Tryz.prog 45 #[.agg #[.string x0, .int .i64 x1, .string x2], .int .i64 left] w (ObjSized1 left x0 x2 w) := by
  unfold maxLen at hs0 hs2
  by_cases g0 : left < x0.size
  · have q0 : left - x0.size < 0 := by omega
    go_enter Tryz.func45, Tryz.ntmps45
    go_wp2
    go_ret
    exact ⟨-1, by omega, by omega, rfl, below_alloc (Below.refl _ _) _, fun h => by omega⟩
  · have q0 : ¬ left - x0.size < 0 := by omega
    by_cases g1 : left - x0.size < x2.size
    · have q1 : left - x0.size - x2.size < 0 := by omega
      go_enter Tryz.func45, Tryz.ntmps45
      go_wp2
      go_ret
      exact ⟨-1, by omega, by omega, rfl, below_alloc (Below.refl _ _) _, fun h => by omega⟩
    · have q1 : ¬ left - x0.size - x2.size < 0 := by omega
      go_enter Tryz.func45, Tryz.ntmps45
      go_wp2
      go_ret
      exact ⟨_, by omega, by omega, rfl, below_alloc (Below.refl _ _) _, fun h => by omega⟩

def ObjSized (len : Nat) (l : Objs) (w : World) (e : Ending) (w' : World) : Prop :=
  ∃ x : Int, -1 ≤ x ∧ x ≤ 1048576 ∧ e = .returned (.int .i64 x) ∧ Below w.heap.size w w' ∧ (0 ≤ x → len ≤ 1048576 ∧ ∀ i, i < len → (obj0 l i).size ≤ 1048576 ∧ (obj2 l i).size ≤ 1048576)

set_option maxHeartbeats 1000000 in
theorem szobjs_any (a : Option Addr) (len cap : Nat) (l : Objs) (left : Int) (w : World) (h : ObjsAt w a len l) (h0 : 0 ≤ left) (h1 : left ≤ 1048576) :
    Calls Tryz.prog 22 #[.slice a len cap, .int .i64 left] w (ObjSized len l w) := by
  have hm := h.max
  unfold maxLen at hm
  have HR := Lib.hid h
  clear h
  by_cases hl : left < len
  · have g : left - (len : Int) < 0 := by omega
    go_enter Tryz.func22, Tryz.ntmps22
    go_wp2
    go_ret
    exact ⟨-1, by omega, by omega, rfl, Below.refl _ _, fun h => by omega⟩
  · have g : ¬ left - (len : Int) < 0 := by omega
    go_enter Tryz.func22, Tryz.ntmps22
    go_wp2
    go_loopw [1, 5] (fun t i wr => ∃ k : Nat, k ≤ len ∧ i = .int .i64 k ∧ (∃ L : Int, 0 ≤ L ∧ L ≤ 1048576 ∧ t = .int .i64 L) ∧ Hid (Below w.heap.size w wr ∧ ∀ j, j < k → (obj0 l j).size ≤ 1048576 ∧ (obj2 l j).size ≤ 1048576)) (fun _ i _ => len - (intOf i).toNat)
    case atStart => exact ⟨0, Nat.zero_le _, rfl, ⟨_, by omega, by omega, rfl⟩, Below.refl _ _, fun j hj => by omega⟩
    case round =>
      obtain ⟨k, hk, rfl, ⟨L, hL0, hL1, rfl⟩, HW⟩ := hrel
      by_cases hlt : k < len
      · rcases (HR.out.keep HW.out.1).src with hz | ⟨b, off, rfl, hb, hc⟩
        · omega
        · obtain ⟨c0, c1, c2⟩ := hc k hlt
          have HK := Lib.hid (HR.out.keys k hlt)
          clear hc hb
          go_wp2_with fail
          refine (szobj_any _ _ _ _ _ HK.out.1 HK.out.2 hL0 hL1).mono ?_
          rintro e w1 ⟨x, hx0, hx1, rfl, hB, hfx⟩
          have HB := Lib.hid (below_via HW.out.1 hB)
          have HZ := Lib.hid hfx
          clear hB hfx
          by_cases hneg : x < 0
          · go_wp2
            go_ret
            exact ⟨-1, by omega, by omega, rfl, HB.out, fun h => by omega⟩
          · go_wp2
            go_roundw
            case rel => exact ⟨k + 1, by omega, by go_num, ⟨x, by omega, by omega, rfl⟩, HB.out, fun j hj => by
              rcases Nat.lt_or_ge j k with h | h
              · exact HW.out.2 j h
              · obtain rfl : j = k := by omega
                exact HZ.out (by omega)⟩
            case measure => simp [intOf]; omega
      · go_wp2
        go_ret
        exact ⟨L, by omega, by omega, rfl, HW.out.1, fun _ => ⟨by omega, fun i hi => HW.out.2 i (by omega)⟩⟩

theorem infoObj : (Tryz.prog.info? 79).map (fun i => (i.zero, i.size, i.bytes)) = some (some (.agg #[.string ByteArray.empty, .int .i64 0, .string ByteArray.empty]), 3, 40) := by kernel_rfl

def ObjLaid (cur : Array Value) (l : Objs) (k : Nat) : Prop := ∀ j, j < k → cur[j * 3]? = some (.string (obj0 l j)) ∧ cur[j * 3 + 1]? = some (.int .i64 (obj1 l j)) ∧ cur[j * 3 + 2]? = some (.string (obj2 l j))
theorem ObjLaid.step {cur : Array Value} {l : Objs} {k len : Nat} (h : ObjLaid cur l k) (hs : cur.size = len * 3) (hk : k < len) :
    ObjLaid (((cur.setIfInBounds (k * 3) (.string (obj0 l k))).setIfInBounds (k * 3 + 1) (.int .i64 (obj1 l k))).setIfInBounds (k * 3 + 2) (.string (obj2 l k))) l (k + 1) := by
  intro j hj
  rcases Nat.lt_or_ge j k with hlt | hge
  · obtain ⟨e0, e1, e2⟩ := h j hlt
    refine ⟨?_, ?_, ?_⟩
    · rw [Array.getElem?_setIfInBounds_ne (by omega), Array.getElem?_setIfInBounds_ne (by omega), Array.getElem?_setIfInBounds_ne (by omega)]; exact e0
    · rw [Array.getElem?_setIfInBounds_ne (by omega), Array.getElem?_setIfInBounds_ne (by omega), Array.getElem?_setIfInBounds_ne (by omega)]; exact e1
    · rw [Array.getElem?_setIfInBounds_ne (by omega), Array.getElem?_setIfInBounds_ne (by omega), Array.getElem?_setIfInBounds_ne (by omega)]; exact e2
  · obtain rfl : j = k := by omega
    refine ⟨?_, ?_, ?_⟩
    · rw [Array.getElem?_setIfInBounds_ne (by omega), Array.getElem?_setIfInBounds_ne (by omega)]; rw [Array.getElem?_setIfInBounds_self_of_lt (by first | omega | (simp only [Array.size_setIfInBounds]; omega))]
    · rw [Array.getElem?_setIfInBounds_ne (by omega)]; rw [Array.getElem?_setIfInBounds_self_of_lt (by first | omega | (simp only [Array.size_setIfInBounds]; omega))]
    · rw [Array.getElem?_setIfInBounds_self_of_lt (by first | omega | (simp only [Array.size_setIfInBounds]; omega))]

theorem ObjsAt.ofRow {w : World} {B len : Nat} {E : TypeId} {cur : Array Value} {l : Objs} (h : Row w B E cur) (hl : l.length = len) (hm : len ≤ maxLen) (hk : ∀ i, i < len → (obj0 l i).size ≤ maxLen ∧ (obj2 l i).size ≤ maxLen) (hlaid : ObjLaid cur l len) : ObjsAt w (some ⟨B, 0, none⟩) len l := by
  refine ⟨hl, hm, hk, .inr ⟨B, 0, rfl, h.lt, fun i hi => ?_⟩⟩
  obtain ⟨e0, e1, e2⟩ := hlaid i hi
  unfold Row at h
  simp [World.cell?, h, e0, e1, e2]

def MadeObj (x0 : ByteArray) (x1 : Int) (x2 : ByteArray) (w : World) (e : Ending) (w' : World) : Prop := e = .returned (.agg #[.string x0, .int .i64 x1, .string x2]) ∧ Below w.heap.size w w'

theorem toobj_any (x0 : ByteArray) (x1 : Int) (x2 : ByteArray) (w : World) : Calls Tryz.prog 50 #[.agg #[.string x0, .int .i64 x1, .string x2]] w (MadeObj x0 x1 x2 w) := by
  go_enter Tryz.func50, Tryz.ntmps50
  go_wp2
  exact bodyPost_ret (v := .agg #[.string x0, .int .i64 x1, .string x2]) (by simp [results, Tryz.results50, go_sem]) rfl ⟨rfl, below_alloc (below_alloc (below_alloc (Below.refl _ _) _) _) _⟩

/-- The end of the laws' copy: a new slice of the same values. -/
def MadeObjs (len : Nat) (l : Objs) (w : World) (e : Ending) (w' : World) : Prop :=
  e = .returned (.slice (some ⟨w.heap.size, 0, none⟩) len len) ∧ ObjsAt w' (some ⟨w.heap.size, 0, none⟩) len l ∧ Below w.heap.size w w' ∧ ∃ cur, Row w' w.heap.size 79 cur ∧ cur.size = len * 3

set_option maxHeartbeats 2000000 in
theorem toobjs_any (a : Option Addr) (len cap : Nat) (l : Objs) (w : World) (h : ObjsAt w a len l) (hfew : len ≤ 1048576) :
    Calls Tryz.prog 28 #[.slice a len cap] w (MadeObjs len l w) := by
  obtain ⟨i0, hi, hz0, hz1, hz2⟩ := info_parts infoObj
  have HR := Lib.hid h
  clear h
  go_enter Tryz.func28, Tryz.ntmps28
  go_wp2_with (at_make; refine wpList_make_full _ rfl _ _ 37 rfl w.heap.size 79 i0 _ 3 Tryz.underlying37 hi hz0 hz1 .i64 .i64 _ _ len rfl rfl rfl rfl (by rw [hz2]; omega) (by unfold maxLen; omega) (Nat.le_refl _) ?_; intro w1 hown hgrow)
  obtain ⟨cur0, hrow0, hsz0⟩ : ∃ cur, Row w1 w.heap.size 79 cur ∧ cur.size = len * 3 := by
    rcases hown.2 with ⟨h, _⟩ | ⟨g, cp, cur, hv, _, hh, _, _, hs, _⟩
    · simp at h
    · simp only [Value.slice.injEq, Option.some.injEq, Addr.mk.injEq, true_and, and_true] at hv
      obtain ⟨rfl, rfl⟩ := hv
      exact ⟨cur, hh, hs⟩
  have HB0 := Lib.hid ((Below.refl w.heap.size w).grown hgrow (Nat.le_refl _) (by simp))
  have HR0 := Lib.hid hrow0
  have HS0 := Lib.hid hsz0
  clear hown hgrow hrow0 hsz0
  go_loopw [4] (fun i wr => ∃ k : Nat, k ≤ len ∧ i = .int .i64 k ∧ Hid (Below w.heap.size w wr ∧ ∃ cur, Row wr w.heap.size 79 cur ∧ cur.size = len * 3 ∧ ObjLaid cur l k)) (fun i _ => len - (intOf i).toNat)
  case atStart => exact ⟨0, Nat.zero_le _, rfl, HB0.out, cur0, HR0.out, HS0.out, fun j hj => by omega⟩
  case round =>
    obtain ⟨k, hk, rfl, HW⟩ := hrel
    clear HB0 HR0 HS0
    by_cases hlt : k < len
    · rcases HR.out.src with hz | ⟨b, off, rfl, hb, hc⟩
      · omega
      · have c0 := (HW.out.1.cell (p := ⟨b, off + k * 3, none⟩) hb).trans (hc k hlt).1
        have c1 := (HW.out.1.cell (p := ⟨b, off + k * 3 + 1, none⟩) hb).trans (hc k hlt).2.1
        have c2 := (HW.out.1.cell (p := ⟨b, off + k * 3 + 2, none⟩) hb).trans (hc k hlt).2.2
        clear hc hb
        go_wp2_with fail
        refine (toobj_any _ _ _ _).mono ?_
        rintro e w2 ⟨rfl, hB⟩
        obtain ⟨hb0, cur, hr, hs, hla⟩ := HW.out
        have hr2 := hr.keep hB
        have hA0 := hr2.cell (j := k * 3) (by omega)
        have hA1 := hr2.cell (j := k * 3 + 1) (by omega)
        have hA2 := hr2.cell (j := k * 3 + 2) (by omega)
        have hf0 := hr2.free (k * 3)
        have hf1 := hr2.free (k * 3 + 1)
        have hf2 := hr2.free (k * 3 + 2)
        have HB := Lib.hid (below_via hb0 hB)
        have HR2 := Lib.hid hr2
        have HS := Lib.hid hs
        have HL := Lib.hid hla
        generalize cur[k * 3] = x0 at hA0
        generalize cur[k * 3 + 1] = x1 at hA1
        generalize cur[k * 3 + 2] = x2 at hA2
        clear hB hr hr2 hs hla hb0 HW
        go_wp2
        go_roundw
        case rel => exact ⟨k + 1, by omega, by go_num, ((HB.out.setCell (Nat.le_refl _) _).setCell (Nat.le_refl _) _).setCell (Nat.le_refl _) _, _, ((HR2.out.set _ _).set _ _).set _ _, by simpa using HS.out, HL.out.step HS.out hlt⟩
        case measure => simp [intOf]; omega
    · go_wp2
      go_ret
      obtain ⟨hb0, cur, hr, hs, hla⟩ := HW.out
      obtain rfl : k = len := by omega
      exact ⟨rfl, ObjsAt.ofRow hr HR.out.length HR.out.max HR.out.keys hla, hb0, cur, hr, hs⟩
end Go.Proofs.YtbjlojmadellgaaGreatDoor
namespace Go.Proofs.YtbjlojmadellgaaGreatDoor
open Go.ChangeShapes Go.WideShapes Go.ChangeAt Go.RowKit
set_option linter.unusedVariables false
set_option maxRecDepth 100000

set_option maxHeartbeats 1000000 in
theorem eqobj_same (x0 : ByteArray) (x1 : Int) (x2 : ByteArray) (w : World) : Calls Tryz.prog 56 #[.agg #[.string x0, .int .i64 x1, .string x2], .agg #[.string x0, .int .i64 x1, .string x2]] w (MadeBool true w) := by
  go_enter Tryz.func56, Tryz.ntmps56
  go_wp2
  go_ret
  exact ⟨rfl, below_alloc (below_alloc (Below.refl _ _) _) _⟩

set_option maxHeartbeats 2000000 in
theorem eqobjs_same (a1 a2 : Option Addr) (len cap1 cap2 : Nat) (l : Objs) (w : World) (h1 : ObjsAt w a1 len l) (h2 : ObjsAt w a2 len l) :
    Calls Tryz.prog 33 #[.slice a1 len cap1, .slice a2 len cap2] w (MadeBool true w) := by
  have hm := h1.max
  unfold maxLen at hm
  have HR1 := Lib.hid h1
  have HR2 := Lib.hid h2
  clear h1 h2
  go_enter Tryz.func33, Tryz.ntmps33
  go_wp2
  go_loopw [5] (fun i wr => ∃ k : Nat, k ≤ len ∧ i = .int .i64 k ∧ Hid (Below w.heap.size w wr)) (fun i _ => len - (intOf i).toNat)
  case atStart => exact ⟨0, Nat.zero_le _, rfl, Below.refl _ _⟩
  case round =>
    obtain ⟨k, hk, rfl, HW⟩ := hrel
    by_cases hlt : k < len
    · rcases HR1.out.src with hz | ⟨b1, off1, rfl, hb1, hc1⟩
      · omega
      · rcases HR2.out.src with hz | ⟨b2, off2, rfl, hb2, hc2⟩
        · omega
        · have c0 := (HW.out.cell (p := ⟨b1, off1 + k * 3, none⟩) hb1).trans (hc1 k hlt).1
          have c1 := (HW.out.cell (p := ⟨b1, off1 + k * 3 + 1, none⟩) hb1).trans (hc1 k hlt).2.1
          have c2 := (HW.out.cell (p := ⟨b1, off1 + k * 3 + 2, none⟩) hb1).trans (hc1 k hlt).2.2
          have d0 := (HW.out.cell (p := ⟨b2, off2 + k * 3, none⟩) hb2).trans (hc2 k hlt).1
          have d1 := (HW.out.cell (p := ⟨b2, off2 + k * 3 + 1, none⟩) hb2).trans (hc2 k hlt).2.1
          have d2 := (HW.out.cell (p := ⟨b2, off2 + k * 3 + 2, none⟩) hb2).trans (hc2 k hlt).2.2
          have HB := Lib.hid HW.out.drew
          clear hc1 hc2 hb1 hb2
          go_wp2_with fail
          go_region_held3 (fun w' => Hid (Below w.heap.size w w') ∧ w'.cell? ⟨b1, off1 + k * 3, none⟩ = some (.string (obj0 l k)) ∧ w'.cell? ⟨b1, off1 + k * 3 + 1, none⟩ = some (.int .i64 (obj1 l k)) ∧ w'.cell? ⟨b1, off1 + k * 3 + 2, none⟩ = some (.string (obj2 l k)) ∧ w'.cell? ⟨b2, off2 + k * 3, none⟩ = some (.string (obj0 l k)) ∧ w'.cell? ⟨b2, off2 + k * 3 + 1, none⟩ = some (.int .i64 (obj1 l k)) ∧ w'.cell? ⟨b2, off2 + k * 3 + 2, none⟩ = some (.string (obj2 l k)))
            (first | exact ⟨HB, c0, c1, c2, d0, d1, d2⟩ | exact ⟨HB, e0, e1, e2, f0, f1, f2⟩)
            (first | (go_at_call 56; refine (eqobj_same _ _ _ _).mono ?_; rintro e w2 ⟨rfl, hB⟩; have e0 := (hB.cell (p := ⟨b1, off1 + k * 3, none⟩) (World.block_lt_of_cell? _ _ c0)).trans c0; have e1 := (hB.cell (p := ⟨b1, off1 + k * 3 + 1, none⟩) (World.block_lt_of_cell? _ _ c1)).trans c1; have e2 := (hB.cell (p := ⟨b1, off1 + k * 3 + 2, none⟩) (World.block_lt_of_cell? _ _ c2)).trans c2; have f0 := (hB.cell (p := ⟨b2, off2 + k * 3, none⟩) (World.block_lt_of_cell? _ _ d0)).trans d0; have f1 := (hB.cell (p := ⟨b2, off2 + k * 3 + 1, none⟩) (World.block_lt_of_cell? _ _ d1)).trans d1; have f2 := (hB.cell (p := ⟨b2, off2 + k * 3 + 2, none⟩) (World.block_lt_of_cell? _ _ d2)).trans d2; have HB := Lib.hid (below_via HB.out hB); clear hB))
          go_wp2
          go_roundw
          case rel => exact ⟨k + 1, by omega, by go_num, HB⟩
          case measure => simp [intOf]; omega
    · go_wp2
      go_ret
      exact ⟨rfl, HW.out⟩
end Go.Proofs.YtbjlojmadellgaaGreatDoor
namespace Go.Proofs.YtbjlojmadellgaaGreatDoor
open Go.ChangeShapes Go.WideShapes Go.ChangeAt Go.RowKit
set_option linter.unusedVariables false
set_option maxRecDepth 100000

abbrev Gones := List (ByteArray × Int)
def gone0 (l : Gones) (i : Nat) : ByteArray := (l.getD i (ByteArray.empty, 0)).1
def gone1 (l : Gones) (i : Nat) : Int := (l.getD i (ByteArray.empty, 0)).2

/-- The slice (a, len, cap) holds the values l. -/
structure GonesAt (w : World) (a : Option Addr) (len : Nat) (l : Gones) : Prop where
  length : l.length = len
  max : len ≤ maxLen
  keys : ∀ i, i < len → (gone0 l i).size ≤ maxLen
  src : len = 0 ∨ ∃ b off, a = some ⟨b, off, none⟩ ∧ b < w.heap.size ∧ ∀ i, i < len → w.cell? ⟨b, off + i * 2, none⟩ = some (.string (gone0 l i)) ∧ w.cell? ⟨b, off + i * 2 + 1, none⟩ = some (.int .i64 (gone1 l i))

theorem GonesAt.keep {w w1 : World} {a : Option Addr} {len : Nat} {l : Gones} (h : GonesAt w a len l) (hB : Below w.heap.size w w1) : GonesAt w1 a len l := by
  refine ⟨h.length, h.max, h.keys, ?_⟩
  rcases h.src with h0 | ⟨b, off, ha, hb, hc⟩
  · exact .inl h0
  · exact .inr ⟨b, off, ha, Nat.lt_of_lt_of_le hb hB.size, fun i hi => ⟨(hB.cell (p := ⟨b, off + i * 2, none⟩) hb).trans (hc i hi).1, (hB.cell (p := ⟨b, off + i * 2 + 1, none⟩) hb).trans (hc i hi).2⟩⟩

theorem GonesAt.put {w : World} {a : Option Addr} {len : Nat} {l : Gones} (h : GonesAt w a len l) {X : Nat} (hne : ∀ b off, a = some ⟨b, off, none⟩ → b ≠ X) (j : Nat) (v : Value) : GonesAt (w.setCell ⟨X, j, none⟩ v) a len l := by
  refine ⟨h.length, h.max, h.keys, ?_⟩
  rcases h.src with h0 | ⟨b, off, ha, hb, hc⟩
  · exact .inl h0
  · have e : ∀ o, (w.setCell ⟨X, j, none⟩ v).cell? ⟨b, o, none⟩ = w.cell? ⟨b, o, none⟩ := fun o => by
      simp only [World.cell?, Below.heap_setCell w ⟨X, j, none⟩ v b (hne b off ha)]
    exact .inr ⟨b, off, ha, by simpa [World.setCell] using hb, fun i hi => by simpa only [e] using hc i hi⟩

def GoneSized1 (left : Int) (x0 : ByteArray) (w : World) (e : Ending) (w' : World) : Prop :=
  ∃ x : Int, -1 ≤ x ∧ x ≤ left ∧ e = .returned (.int .i64 x) ∧ Below w.heap.size w w' ∧ (0 ≤ x → x0.size ≤ 1048576)

set_option maxHeartbeats 1000000 in
theorem szgone_any (x0 : ByteArray) (x1 : Int) (left : Int) (w : World) (hs0 : x0.size ≤ maxLen) (h0 : 0 ≤ left) (h1 : left ≤ 1048576) : Calls Tryz.prog 46 #[.agg #[.string x0, .int .i64 x1], .int .i64 left] w (GoneSized1 left x0 w) := by
  unfold maxLen at hs0
  by_cases g0 : left < x0.size
  · have q0 : left - x0.size < 0 := by omega
    go_enter Tryz.func46, Tryz.ntmps46
    go_wp2
    go_ret
    exact ⟨-1, by omega, by omega, rfl, below_alloc (Below.refl _ _) _, fun h => by omega⟩
  · have q0 : ¬ left - x0.size < 0 := by omega
    go_enter Tryz.func46, Tryz.ntmps46
    go_wp2
    go_ret
    exact ⟨_, by omega, by omega, rfl, below_alloc (Below.refl _ _) _, fun h => by omega⟩

def GoneSized (len : Nat) (l : Gones) (w : World) (e : Ending) (w' : World) : Prop :=
  ∃ x : Int, -1 ≤ x ∧ x ≤ 1048576 ∧ e = .returned (.int .i64 x) ∧ Below w.heap.size w w' ∧ (0 ≤ x → len ≤ 1048576 ∧ ∀ i, i < len → (gone0 l i).size ≤ 1048576)

set_option maxHeartbeats 1000000 in
theorem szgones_any (a : Option Addr) (len cap : Nat) (l : Gones) (left : Int) (w : World) (h : GonesAt w a len l) (h0 : 0 ≤ left) (h1 : left ≤ 1048576) :
    Calls Tryz.prog 23 #[.slice a len cap, .int .i64 left] w (GoneSized len l w) := by
  have hm := h.max
  unfold maxLen at hm
  have HR := Lib.hid h
  clear h
  by_cases hl : left < len
  · have g : left - (len : Int) < 0 := by omega
    go_enter Tryz.func23, Tryz.ntmps23
    go_wp2
    go_ret
    exact ⟨-1, by omega, by omega, rfl, Below.refl _ _, fun h => by omega⟩
  · have g : ¬ left - (len : Int) < 0 := by omega
    go_enter Tryz.func23, Tryz.ntmps23
    go_wp2
    go_loopw [1, 5] (fun t i wr => ∃ k : Nat, k ≤ len ∧ i = .int .i64 k ∧ (∃ L : Int, 0 ≤ L ∧ L ≤ 1048576 ∧ t = .int .i64 L) ∧ Hid (Below w.heap.size w wr ∧ ∀ j, j < k → (gone0 l j).size ≤ 1048576)) (fun _ i _ => len - (intOf i).toNat)
    case atStart => exact ⟨0, Nat.zero_le _, rfl, ⟨_, by omega, by omega, rfl⟩, Below.refl _ _, fun j hj => by omega⟩
    case round =>
      obtain ⟨k, hk, rfl, ⟨L, hL0, hL1, rfl⟩, HW⟩ := hrel
      by_cases hlt : k < len
      · rcases (HR.out.keep HW.out.1).src with hz | ⟨b, off, rfl, hb, hc⟩
        · omega
        · obtain ⟨c0, c1⟩ := hc k hlt
          have HK := Lib.hid (HR.out.keys k hlt)
          clear hc hb
          go_wp2_with fail
          refine (szgone_any _ _ _ _ HK.out hL0 hL1).mono ?_
          rintro e w1 ⟨x, hx0, hx1, rfl, hB, hfx⟩
          have HB := Lib.hid (below_via HW.out.1 hB)
          have HZ := Lib.hid hfx
          clear hB hfx
          by_cases hneg : x < 0
          · go_wp2
            go_ret
            exact ⟨-1, by omega, by omega, rfl, HB.out, fun h => by omega⟩
          · go_wp2
            go_roundw
            case rel => exact ⟨k + 1, by omega, by go_num, ⟨x, by omega, by omega, rfl⟩, HB.out, fun j hj => by
              rcases Nat.lt_or_ge j k with h | h
              · exact HW.out.2 j h
              · obtain rfl : j = k := by omega
                exact HZ.out (by omega)⟩
            case measure => simp [intOf]; omega
      · go_wp2
        go_ret
        exact ⟨L, by omega, by omega, rfl, HW.out.1, fun _ => ⟨by omega, fun i hi => HW.out.2 i (by omega)⟩⟩

theorem infoGone : (Tryz.prog.info? 103).map (fun i => (i.zero, i.size, i.bytes)) = some (some (.agg #[.string ByteArray.empty, .int .i64 0]), 2, 24) := by kernel_rfl

def GoneLaid (cur : Array Value) (l : Gones) (k : Nat) : Prop := ∀ j, j < k → cur[j * 2]? = some (.string (gone0 l j)) ∧ cur[j * 2 + 1]? = some (.int .i64 (gone1 l j))
theorem GoneLaid.step {cur : Array Value} {l : Gones} {k len : Nat} (h : GoneLaid cur l k) (hs : cur.size = len * 2) (hk : k < len) :
    GoneLaid ((cur.setIfInBounds (k * 2) (.string (gone0 l k))).setIfInBounds (k * 2 + 1) (.int .i64 (gone1 l k))) l (k + 1) := by
  intro j hj
  rcases Nat.lt_or_ge j k with hlt | hge
  · obtain ⟨e0, e1⟩ := h j hlt
    refine ⟨?_, ?_⟩
    · rw [Array.getElem?_setIfInBounds_ne (by omega), Array.getElem?_setIfInBounds_ne (by omega)]; exact e0
    · rw [Array.getElem?_setIfInBounds_ne (by omega), Array.getElem?_setIfInBounds_ne (by omega)]; exact e1
  · obtain rfl : j = k := by omega
    refine ⟨?_, ?_⟩
    · rw [Array.getElem?_setIfInBounds_ne (by omega)]; rw [Array.getElem?_setIfInBounds_self_of_lt (by first | omega | (simp only [Array.size_setIfInBounds]; omega))]
    · rw [Array.getElem?_setIfInBounds_self_of_lt (by first | omega | (simp only [Array.size_setIfInBounds]; omega))]

theorem GonesAt.ofRow {w : World} {B len : Nat} {E : TypeId} {cur : Array Value} {l : Gones} (h : Row w B E cur) (hl : l.length = len) (hm : len ≤ maxLen) (hk : ∀ i, i < len → (gone0 l i).size ≤ maxLen) (hlaid : GoneLaid cur l len) : GonesAt w (some ⟨B, 0, none⟩) len l := by
  refine ⟨hl, hm, hk, .inr ⟨B, 0, rfl, h.lt, fun i hi => ?_⟩⟩
  obtain ⟨e0, e1⟩ := hlaid i hi
  unfold Row at h
  simp [World.cell?, h, e0, e1]

def MadeGone (x0 : ByteArray) (x1 : Int) (w : World) (e : Ending) (w' : World) : Prop := e = .returned (.agg #[.string x0, .int .i64 x1]) ∧ Below w.heap.size w w'

theorem togone_any (x0 : ByteArray) (x1 : Int) (w : World) : Calls Tryz.prog 51 #[.agg #[.string x0, .int .i64 x1]] w (MadeGone x0 x1 w) := by
  go_enter Tryz.func51, Tryz.ntmps51
  go_wp2
  exact bodyPost_ret (v := .agg #[.string x0, .int .i64 x1]) (by simp [results, Tryz.results51, go_sem]) rfl ⟨rfl, below_alloc (below_alloc (below_alloc (Below.refl _ _) _) _) _⟩

/-- The end of the laws' copy: a new slice of the same values. -/
def MadeGones (len : Nat) (l : Gones) (w : World) (e : Ending) (w' : World) : Prop :=
  e = .returned (.slice (some ⟨w.heap.size, 0, none⟩) len len) ∧ GonesAt w' (some ⟨w.heap.size, 0, none⟩) len l ∧ Below w.heap.size w w' ∧ ∃ cur, Row w' w.heap.size 103 cur ∧ cur.size = len * 2

set_option maxHeartbeats 2000000 in
theorem togones_any (a : Option Addr) (len cap : Nat) (l : Gones) (w : World) (h : GonesAt w a len l) (hfew : len ≤ 1048576) :
    Calls Tryz.prog 29 #[.slice a len cap] w (MadeGones len l w) := by
  obtain ⟨i0, hi, hz0, hz1, hz2⟩ := info_parts infoGone
  have HR := Lib.hid h
  clear h
  go_enter Tryz.func29, Tryz.ntmps29
  go_wp2_with (at_make; refine wpList_make_full _ rfl _ _ 38 rfl w.heap.size 103 i0 _ 2 Tryz.underlying38 hi hz0 hz1 .i64 .i64 _ _ len rfl rfl rfl rfl (by rw [hz2]; omega) (by unfold maxLen; omega) (Nat.le_refl _) ?_; intro w1 hown hgrow)
  obtain ⟨cur0, hrow0, hsz0⟩ : ∃ cur, Row w1 w.heap.size 103 cur ∧ cur.size = len * 2 := by
    rcases hown.2 with ⟨h, _⟩ | ⟨g, cp, cur, hv, _, hh, _, _, hs, _⟩
    · simp at h
    · simp only [Value.slice.injEq, Option.some.injEq, Addr.mk.injEq, true_and, and_true] at hv
      obtain ⟨rfl, rfl⟩ := hv
      exact ⟨cur, hh, hs⟩
  have HB0 := Lib.hid ((Below.refl w.heap.size w).grown hgrow (Nat.le_refl _) (by simp))
  have HR0 := Lib.hid hrow0
  have HS0 := Lib.hid hsz0
  clear hown hgrow hrow0 hsz0
  go_loopw [4] (fun i wr => ∃ k : Nat, k ≤ len ∧ i = .int .i64 k ∧ Hid (Below w.heap.size w wr ∧ ∃ cur, Row wr w.heap.size 103 cur ∧ cur.size = len * 2 ∧ GoneLaid cur l k)) (fun i _ => len - (intOf i).toNat)
  case atStart => exact ⟨0, Nat.zero_le _, rfl, HB0.out, cur0, HR0.out, HS0.out, fun j hj => by omega⟩
  case round =>
    obtain ⟨k, hk, rfl, HW⟩ := hrel
    clear HB0 HR0 HS0
    by_cases hlt : k < len
    · rcases HR.out.src with hz | ⟨b, off, rfl, hb, hc⟩
      · omega
      · have c0 := (HW.out.1.cell (p := ⟨b, off + k * 2, none⟩) hb).trans (hc k hlt).1
        have c1 := (HW.out.1.cell (p := ⟨b, off + k * 2 + 1, none⟩) hb).trans (hc k hlt).2
        clear hc hb
        go_wp2_with fail
        refine (togone_any _ _ _).mono ?_
        rintro e w2 ⟨rfl, hB⟩
        obtain ⟨hb0, cur, hr, hs, hla⟩ := HW.out
        have hr2 := hr.keep hB
        have hA0 := hr2.cell (j := k * 2) (by omega)
        have hA1 := hr2.cell (j := k * 2 + 1) (by omega)
        have hf0 := hr2.free (k * 2)
        have hf1 := hr2.free (k * 2 + 1)
        have HB := Lib.hid (below_via hb0 hB)
        have HR2 := Lib.hid hr2
        have HS := Lib.hid hs
        have HL := Lib.hid hla
        generalize cur[k * 2] = x0 at hA0
        generalize cur[k * 2 + 1] = x1 at hA1
        clear hB hr hr2 hs hla hb0 HW
        go_wp2
        go_roundw
        case rel => exact ⟨k + 1, by omega, by go_num, (HB.out.setCell (Nat.le_refl _) _).setCell (Nat.le_refl _) _, _, (HR2.out.set _ _).set _ _, by simpa using HS.out, HL.out.step HS.out hlt⟩
        case measure => simp [intOf]; omega
    · go_wp2
      go_ret
      obtain ⟨hb0, cur, hr, hs, hla⟩ := HW.out
      obtain rfl : k = len := by omega
      exact ⟨rfl, GonesAt.ofRow hr HR.out.length HR.out.max HR.out.keys hla, hb0, cur, hr, hs⟩
end Go.Proofs.YtbjlojmadellgaaGreatDoor
namespace Go.Proofs.YtbjlojmadellgaaGreatDoor
open Go.ChangeShapes Go.WideShapes Go.ChangeAt Go.RowKit
set_option linter.unusedVariables false
set_option maxRecDepth 100000

set_option maxHeartbeats 1000000 in
theorem eqgone_same (x0 : ByteArray) (x1 : Int) (w : World) : Calls Tryz.prog 57 #[.agg #[.string x0, .int .i64 x1], .agg #[.string x0, .int .i64 x1]] w (MadeBool true w) := by
  go_enter Tryz.func57, Tryz.ntmps57
  go_wp2
  go_ret
  exact ⟨rfl, below_alloc (below_alloc (Below.refl _ _) _) _⟩

set_option maxHeartbeats 2000000 in
theorem eqgones_same (a1 a2 : Option Addr) (len cap1 cap2 : Nat) (l : Gones) (w : World) (h1 : GonesAt w a1 len l) (h2 : GonesAt w a2 len l) :
    Calls Tryz.prog 34 #[.slice a1 len cap1, .slice a2 len cap2] w (MadeBool true w) := by
  have hm := h1.max
  unfold maxLen at hm
  have HR1 := Lib.hid h1
  have HR2 := Lib.hid h2
  clear h1 h2
  go_enter Tryz.func34, Tryz.ntmps34
  go_wp2
  go_loopw [5] (fun i wr => ∃ k : Nat, k ≤ len ∧ i = .int .i64 k ∧ Hid (Below w.heap.size w wr)) (fun i _ => len - (intOf i).toNat)
  case atStart => exact ⟨0, Nat.zero_le _, rfl, Below.refl _ _⟩
  case round =>
    obtain ⟨k, hk, rfl, HW⟩ := hrel
    by_cases hlt : k < len
    · rcases HR1.out.src with hz | ⟨b1, off1, rfl, hb1, hc1⟩
      · omega
      · rcases HR2.out.src with hz | ⟨b2, off2, rfl, hb2, hc2⟩
        · omega
        · have c0 := (HW.out.cell (p := ⟨b1, off1 + k * 2, none⟩) hb1).trans (hc1 k hlt).1
          have c1 := (HW.out.cell (p := ⟨b1, off1 + k * 2 + 1, none⟩) hb1).trans (hc1 k hlt).2
          have d0 := (HW.out.cell (p := ⟨b2, off2 + k * 2, none⟩) hb2).trans (hc2 k hlt).1
          have d1 := (HW.out.cell (p := ⟨b2, off2 + k * 2 + 1, none⟩) hb2).trans (hc2 k hlt).2
          have HB := Lib.hid HW.out.drew
          clear hc1 hc2 hb1 hb2
          go_wp2_with fail
          go_region_held3 (fun w' => Hid (Below w.heap.size w w') ∧ w'.cell? ⟨b1, off1 + k * 2, none⟩ = some (.string (gone0 l k)) ∧ w'.cell? ⟨b1, off1 + k * 2 + 1, none⟩ = some (.int .i64 (gone1 l k)) ∧ w'.cell? ⟨b2, off2 + k * 2, none⟩ = some (.string (gone0 l k)) ∧ w'.cell? ⟨b2, off2 + k * 2 + 1, none⟩ = some (.int .i64 (gone1 l k)))
            (first | exact ⟨HB, c0, c1, d0, d1⟩ | exact ⟨HB, e0, e1, f0, f1⟩)
            (first | (go_at_call 57; refine (eqgone_same _ _ _).mono ?_; rintro e w2 ⟨rfl, hB⟩; have e0 := (hB.cell (p := ⟨b1, off1 + k * 2, none⟩) (World.block_lt_of_cell? _ _ c0)).trans c0; have e1 := (hB.cell (p := ⟨b1, off1 + k * 2 + 1, none⟩) (World.block_lt_of_cell? _ _ c1)).trans c1; have f0 := (hB.cell (p := ⟨b2, off2 + k * 2, none⟩) (World.block_lt_of_cell? _ _ d0)).trans d0; have f1 := (hB.cell (p := ⟨b2, off2 + k * 2 + 1, none⟩) (World.block_lt_of_cell? _ _ d1)).trans d1; have HB := Lib.hid (below_via HB.out hB); clear hB))
          go_wp2
          go_roundw
          case rel => exact ⟨k + 1, by omega, by go_num, HB⟩
          case measure => simp [intOf]; omega
    · go_wp2
      go_ret
      exact ⟨rfl, HW.out⟩
end Go.Proofs.YtbjlojmadellgaaGreatDoor
