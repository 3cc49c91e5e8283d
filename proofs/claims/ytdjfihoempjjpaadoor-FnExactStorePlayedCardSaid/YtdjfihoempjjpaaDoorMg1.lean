/- Texts put together, as a claim holds at most sixty files. -/
import Derived.Test.YtdjfihoempjjpaaDoorMg0
import Derived.WalkKit
import Derived.ProofKit
import Derived.OpenShut
import Derived.WalkLawsBesides
import Derived.Deep.QuietTactic
import Derived.BigQuiet
import Derived.Deep.RegionHeld3
import Derived.Lib.Hide
import Derived.Outline
import Derived.OwnWalk
namespace Go.Proofs.YtdjfihoempjjpaaDoor
open Go.ChangeShapes Go.WideShapes Go.ChangeAt Go.RowKit
set_option linter.unusedVariables false
set_option maxRecDepth 100000

/-- A record as a value. -/
def recV (s : ByteArray) (n : Int) : Value := .agg #[.string s, .int .i64 n]
def okB (s : ByteArray) : Bool := decide (s.size ≤ 40)
def lessB (s : ByteArray) (n : Int) (u : ByteArray) (m : Int) : Bool := Op.bytesLess s.toList u.toList || (s.toList == u.toList && decide (n < m))

theorem okB_yes {s : ByteArray} (h : s.size ≤ 40) : okB s = true := by unfold okB; simpa using h
theorem okB_no {s : ByteArray} (h : ¬ s.size ≤ 40) : okB s = false := by unfold okB; simpa using h

theorem okB_int (s : ByteArray) : decide ((s.size : Int) ≤ 40) = okB s := by
  unfold okB
  by_cases h : s.size ≤ 40
  · rw [decide_eq_true h, decide_eq_true (by omega)]
  · rw [decide_eq_false h, decide_eq_false (by omega)]

/-- The end of a function that returns a record and makes at most new blocks. -/
def MadeRec (s : ByteArray) (n : Int) (w : World) (e : Ending) (w' : World) : Prop := e = .returned (.agg #[.string s, .int .i64 n]) ∧ Below w.heap.size w w'

def sz1 (left : Int) (s : ByteArray) : Int := if left < s.size then -1 else left - s.size
/-- The end of a function that returns the number x and makes at most new blocks. -/
def MadeInt (x : Int) (w : World) (e : Ending) (w' : World) : Prop := e = .returned (.int .i64 x) ∧ Below w.heap.size w w'
theorem ret_int' {k : IntKind} {a b : Int} (h : a = b) : Ending.returned (.int k a) = .returned (.int k b) := by rw [h]

theorem bytesLess_irrefl (l : List UInt8) : Op.bytesLess l l = false := by
  induction l with
  | nil => rfl
  | cons a l ih => simp [Op.bytesLess, ih]
theorem less_ne {s u : ByteArray} {n m : Int} (h : (!s.toList == u.toList) = true) : Op.bytesLess s.toList u.toList = lessB s n u m := by
  unfold lessB
  rw [Bool.not_eq_true'] at h
  rw [h]; simp
theorem less_eq {s u : ByteArray} {n m : Int} (h : (!s.toList == u.toList) = false) : decide (n < m) = lessB s n u m := by
  unfold lessB
  rw [Bool.not_eq_false'] at h
  rw [h, eq_of_beq h, bytesLess_irrefl]; simp

theorem less_1 {s u : ByteArray} {n m : Int} (h : Op.bytesLess s.toList u.toList = true) : true = lessB s n u m := by
  unfold lessB; rw [h]; rfl
theorem less_2 {s u : ByteArray} {n m : Int} (h : ¬ Op.bytesLess s.toList u.toList = true) (h2 : s.toList = u.toList) : decide (n < m) = lessB s n u m := by
  unfold lessB; rw [Bool.not_eq_true] at h; rw [h, h2]; simp
theorem less_3 {s u : ByteArray} {n m : Int} (h : ¬ Op.bytesLess s.toList u.toList = true) (h2 : ¬ s.toList = u.toList) : false = lessB s n u m := by
  unfold lessB; rw [Bool.not_eq_true] at h; rw [h]; simp [h2]

/-- A block of two cells. -/
structure Box2 (w : World) (b : Nat) (x y : Value) : Prop where
  lt : b < w.heap.size
  c0 : w.cell? ⟨b, 0, none⟩ = some x
  c1 : w.cell? ⟨b, 1, none⟩ = some y
theorem Box2.keep {w w1 : World} {b : Nat} {x y : Value} (h : Box2 w b x y) (hB : Below w.heap.size w w1) : Box2 w1 b x y :=
  ⟨Nat.lt_of_lt_of_le h.lt hB.size, (hB.cell (p := ⟨b, 0, none⟩) h.lt).trans h.c0, (hB.cell (p := ⟨b, 1, none⟩) h.lt).trans h.c1⟩
theorem Box2.new (w : World) (x y : Value) (t : TypeId) : Box2 (w.alloc (.cells #[x, y] t)) w.heap.size x y :=
  ⟨by simp, cell_two_new w x y t 0 _ rfl, cell_two_new w x y t 1 _ rfl⟩
theorem Box2.new1 (w : World) (o : Obj) (x y : Value) (t : TypeId) : Box2 ((w.alloc o).alloc (.cells #[x, y] t)) (w.heap.size + 1) x y := by
  have h := Box2.new (w.alloc o) x y t
  have e : (w.alloc o).heap.size = w.heap.size + 1 := by simp
  rw [e] at h
  exact h
theorem Box2.alloc {w : World} {b : Nat} {x y : Value} (h : Box2 w b x y) (o : Obj) : Box2 (w.alloc o) b x y := h.keep ((Below.refl _ _).alloc (Nat.le_refl _) o)

end Go.Proofs.YtdjfihoempjjpaaDoor
namespace Go.Proofs.YtdjfihoempjjpaaDoor
open Go.ChangeShapes Go.WideShapes Go.ChangeAt Go.RowKit
set_option linter.unusedVariables false
set_option maxRecDepth 100000

abbrev Cmds := List (Int × ByteArray × Int × ByteArray)
def cmd0 (l : Cmds) (i : Nat) : Int := (l.getD i (0, ByteArray.empty, 0, ByteArray.empty)).1
def cmd1 (l : Cmds) (i : Nat) : ByteArray := (l.getD i (0, ByteArray.empty, 0, ByteArray.empty)).2.1
def cmd2 (l : Cmds) (i : Nat) : Int := (l.getD i (0, ByteArray.empty, 0, ByteArray.empty)).2.2.1
def cmd3 (l : Cmds) (i : Nat) : ByteArray := (l.getD i (0, ByteArray.empty, 0, ByteArray.empty)).2.2.2

/-- The slice (a, len, cap) holds the values l. -/
structure CmdsAt (w : World) (a : Option Addr) (len : Nat) (l : Cmds) : Prop where
  length : l.length = len
  max : len ≤ maxLen
  keys : ∀ i, i < len → (cmd1 l i).size ≤ maxLen ∧ (cmd3 l i).size ≤ maxLen
  src : len = 0 ∨ ∃ b off, a = some ⟨b, off, none⟩ ∧ b < w.heap.size ∧ ∀ i, i < len → w.cell? ⟨b, off + i * 4, none⟩ = some (.int .i64 (cmd0 l i)) ∧ w.cell? ⟨b, off + i * 4 + 1, none⟩ = some (.string (cmd1 l i)) ∧ w.cell? ⟨b, off + i * 4 + 2, none⟩ = some (.int .i64 (cmd2 l i)) ∧ w.cell? ⟨b, off + i * 4 + 3, none⟩ = some (.string (cmd3 l i))

theorem CmdsAt.keep {w w1 : World} {a : Option Addr} {len : Nat} {l : Cmds} (h : CmdsAt w a len l) (hB : Below w.heap.size w w1) : CmdsAt w1 a len l := by
  refine ⟨h.length, h.max, h.keys, ?_⟩
  rcases h.src with h0 | ⟨b, off, ha, hb, hc⟩
  · exact .inl h0
  · exact .inr ⟨b, off, ha, Nat.lt_of_lt_of_le hb hB.size, fun i hi => ⟨(hB.cell (p := ⟨b, off + i * 4, none⟩) hb).trans (hc i hi).1, (hB.cell (p := ⟨b, off + i * 4 + 1, none⟩) hb).trans (hc i hi).2.1, (hB.cell (p := ⟨b, off + i * 4 + 2, none⟩) hb).trans (hc i hi).2.2.1, (hB.cell (p := ⟨b, off + i * 4 + 3, none⟩) hb).trans (hc i hi).2.2.2⟩⟩

theorem CmdsAt.put {w : World} {a : Option Addr} {len : Nat} {l : Cmds} (h : CmdsAt w a len l) {X : Nat} (hne : ∀ b off, a = some ⟨b, off, none⟩ → b ≠ X) (j : Nat) (v : Value) : CmdsAt (w.setCell ⟨X, j, none⟩ v) a len l := by
  refine ⟨h.length, h.max, h.keys, ?_⟩
  rcases h.src with h0 | ⟨b, off, ha, hb, hc⟩
  · exact .inl h0
  · have e : ∀ o, (w.setCell ⟨X, j, none⟩ v).cell? ⟨b, o, none⟩ = w.cell? ⟨b, o, none⟩ := fun o => by
      simp only [World.cell?, Below.heap_setCell w ⟨X, j, none⟩ v b (hne b off ha)]
    exact .inr ⟨b, off, ha, by simpa [World.setCell] using hb, fun i hi => by simpa only [e] using hc i hi⟩

def CmdSized1 (left : Int) (x1 : ByteArray) (x3 : ByteArray) (w : World) (e : Ending) (w' : World) : Prop :=
  ∃ x : Int, -1 ≤ x ∧ x ≤ left ∧ e = .returned (.int .i64 x) ∧ Below w.heap.size w w' ∧ (0 ≤ x → x1.size ≤ 1048576 ∧ x3.size ≤ 1048576)

set_option maxHeartbeats 1000000 in
theorem szcmd_any (x0 : Int) (x1 : ByteArray) (x2 : Int) (x3 : ByteArray) (left : Int) (w : World) (hs1 : x1.size ≤ maxLen) (hs3 : x3.size ≤ maxLen) (h0 : 0 ≤ left) (h1 : left ≤ 1048576) : Calls Tryd.prog 58 #[.agg #[.int .i64 x0, .string x1, .int .i64 x2, .string x3], .int .i64 left] w (CmdSized1 left x1 x3 w) := by
  unfold maxLen at hs1 hs3
  by_cases g0 : left < x1.size
  · have q0 : left - x1.size < 0 := by omega
    go_enter Tryd.func58, Tryd.ntmps58
    go_wp2
    go_ret
    exact ⟨-1, by omega, by omega, rfl, below_alloc (Below.refl _ _) _, fun h => by omega⟩
  · have q0 : ¬ left - x1.size < 0 := by omega
    by_cases g1 : left - x1.size < x3.size
    · have q1 : left - x1.size - x3.size < 0 := by omega
      go_enter Tryd.func58, Tryd.ntmps58
      go_wp2
      go_ret
      exact ⟨-1, by omega, by omega, rfl, below_alloc (Below.refl _ _) _, fun h => by omega⟩
    · have q1 : ¬ left - x1.size - x3.size < 0 := by omega
      go_enter Tryd.func58, Tryd.ntmps58
      go_wp2
      go_ret
      exact ⟨_, by omega, by omega, rfl, below_alloc (Below.refl _ _) _, fun h => by omega⟩

def CmdSized (len : Nat) (l : Cmds) (w : World) (e : Ending) (w' : World) : Prop :=
  ∃ x : Int, -1 ≤ x ∧ x ≤ 1048576 ∧ e = .returned (.int .i64 x) ∧ Below w.heap.size w w' ∧ (0 ≤ x → len ≤ 1048576 ∧ ∀ i, i < len → (cmd1 l i).size ≤ 1048576 ∧ (cmd3 l i).size ≤ 1048576)

set_option maxHeartbeats 1000000 in
theorem szcmds_any (a : Option Addr) (len cap : Nat) (l : Cmds) (left : Int) (w : World) (h : CmdsAt w a len l) (h0 : 0 ≤ left) (h1 : left ≤ 1048576) :
    Calls Tryd.prog 22 #[.slice a len cap, .int .i64 left] w (CmdSized len l w) := by
  have hm := h.max
  unfold maxLen at hm
  have HR := Lib.hid h
  clear h
  by_cases hl : left < len
  · have g : left - (len : Int) < 0 := by omega
    go_enter Tryd.func22, Tryd.ntmps22
    go_wp2
    go_ret
    exact ⟨-1, by omega, by omega, rfl, Below.refl _ _, fun h => by omega⟩
  · have g : ¬ left - (len : Int) < 0 := by omega
    go_enter Tryd.func22, Tryd.ntmps22
    go_wp2
    go_loopw [1, 5] (fun t i wr => ∃ k : Nat, k ≤ len ∧ i = .int .i64 k ∧ (∃ L : Int, 0 ≤ L ∧ L ≤ 1048576 ∧ t = .int .i64 L) ∧ Hid (Below w.heap.size w wr ∧ ∀ j, j < k → (cmd1 l j).size ≤ 1048576 ∧ (cmd3 l j).size ≤ 1048576)) (fun _ i _ => len - (intOf i).toNat)
    case atStart => exact ⟨0, Nat.zero_le _, rfl, ⟨_, by omega, by omega, rfl⟩, Below.refl _ _, fun j hj => by omega⟩
    case round =>
      obtain ⟨k, hk, rfl, ⟨L, hL0, hL1, rfl⟩, HW⟩ := hrel
      by_cases hlt : k < len
      · rcases (HR.out.keep HW.out.1).src with hz | ⟨b, off, rfl, hb, hc⟩
        · omega
        · obtain ⟨c0, c1, c2, c3⟩ := hc k hlt
          have HK := Lib.hid (HR.out.keys k hlt)
          clear hc hb
          go_wp2_with fail
          refine (szcmd_any _ _ _ _ _ _ HK.out.1 HK.out.2 hL0 hL1).mono ?_
          rintro e w1 ⟨x, hx0, hx1, rfl, hB, hfx⟩
          have HB := Lib.hid (below_via HW.out.1 hB)
          have HZ := Lib.hid hfx
          clear hB hfx
          by_cases hneg : x < 0
          · go_wp2
            go_ret
            exact ⟨-1, by omega, by omega, rfl, HB.out, fun h => by omega⟩
          · go_wp2
            go_roundw
            case rel => exact ⟨k + 1, by omega, by go_num, ⟨x, by omega, by omega, rfl⟩, HB.out, fun j hj => by
              rcases Nat.lt_or_ge j k with h | h
              · exact HW.out.2 j h
              · obtain rfl : j = k := by omega
                exact HZ.out (by omega)⟩
            case measure => simp [intOf]; omega
      · go_wp2
        go_ret
        exact ⟨L, by omega, by omega, rfl, HW.out.1, fun _ => ⟨by omega, fun i hi => HW.out.2 i (by omega)⟩⟩

theorem infoCmd : (Tryd.prog.info? 68).map (fun i => (i.zero, i.size, i.bytes)) = some (some (.agg #[.int .i64 0, .string ByteArray.empty, .int .i64 0, .string ByteArray.empty]), 4, 48) := by kernel_rfl

def CmdLaid (cur : Array Value) (l : Cmds) (k : Nat) : Prop := ∀ j, j < k → cur[j * 4]? = some (.int .i64 (cmd0 l j)) ∧ cur[j * 4 + 1]? = some (.string (cmd1 l j)) ∧ cur[j * 4 + 2]? = some (.int .i64 (cmd2 l j)) ∧ cur[j * 4 + 3]? = some (.string (cmd3 l j))
theorem CmdLaid.step {cur : Array Value} {l : Cmds} {k len : Nat} (h : CmdLaid cur l k) (hs : cur.size = len * 4) (hk : k < len) :
    CmdLaid ((((cur.setIfInBounds (k * 4) (.int .i64 (cmd0 l k))).setIfInBounds (k * 4 + 1) (.string (cmd1 l k))).setIfInBounds (k * 4 + 2) (.int .i64 (cmd2 l k))).setIfInBounds (k * 4 + 3) (.string (cmd3 l k))) l (k + 1) := by
  intro j hj
  rcases Nat.lt_or_ge j k with hlt | hge
  · obtain ⟨e0, e1, e2, e3⟩ := h j hlt
    refine ⟨?_, ?_, ?_, ?_⟩
    · rw [Array.getElem?_setIfInBounds_ne (by omega), Array.getElem?_setIfInBounds_ne (by omega), Array.getElem?_setIfInBounds_ne (by omega), Array.getElem?_setIfInBounds_ne (by omega)]; exact e0
    · rw [Array.getElem?_setIfInBounds_ne (by omega), Array.getElem?_setIfInBounds_ne (by omega), Array.getElem?_setIfInBounds_ne (by omega), Array.getElem?_setIfInBounds_ne (by omega)]; exact e1
    · rw [Array.getElem?_setIfInBounds_ne (by omega), Array.getElem?_setIfInBounds_ne (by omega), Array.getElem?_setIfInBounds_ne (by omega), Array.getElem?_setIfInBounds_ne (by omega)]; exact e2
    · rw [Array.getElem?_setIfInBounds_ne (by omega), Array.getElem?_setIfInBounds_ne (by omega), Array.getElem?_setIfInBounds_ne (by omega), Array.getElem?_setIfInBounds_ne (by omega)]; exact e3
  · obtain rfl : j = k := by omega
    refine ⟨?_, ?_, ?_, ?_⟩
    · rw [Array.getElem?_setIfInBounds_ne (by omega), Array.getElem?_setIfInBounds_ne (by omega), Array.getElem?_setIfInBounds_ne (by omega)]; rw [Array.getElem?_setIfInBounds_self_of_lt (by first | omega | (simp only [Array.size_setIfInBounds]; omega))]
    · rw [Array.getElem?_setIfInBounds_ne (by omega), Array.getElem?_setIfInBounds_ne (by omega)]; rw [Array.getElem?_setIfInBounds_self_of_lt (by first | omega | (simp only [Array.size_setIfInBounds]; omega))]
    · rw [Array.getElem?_setIfInBounds_ne (by omega)]; rw [Array.getElem?_setIfInBounds_self_of_lt (by first | omega | (simp only [Array.size_setIfInBounds]; omega))]
    · rw [Array.getElem?_setIfInBounds_self_of_lt (by first | omega | (simp only [Array.size_setIfInBounds]; omega))]

theorem CmdsAt.ofRow {w : World} {B len : Nat} {E : TypeId} {cur : Array Value} {l : Cmds} (h : Row w B E cur) (hl : l.length = len) (hm : len ≤ maxLen) (hk : ∀ i, i < len → (cmd1 l i).size ≤ maxLen ∧ (cmd3 l i).size ≤ maxLen) (hlaid : CmdLaid cur l len) : CmdsAt w (some ⟨B, 0, none⟩) len l := by
  refine ⟨hl, hm, hk, .inr ⟨B, 0, rfl, h.lt, fun i hi => ?_⟩⟩
  obtain ⟨e0, e1, e2, e3⟩ := hlaid i hi
  unfold Row at h
  simp [World.cell?, h, e0, e1, e2, e3]

def MadeCmd (x0 : Int) (x1 : ByteArray) (x2 : Int) (x3 : ByteArray) (w : World) (e : Ending) (w' : World) : Prop := e = .returned (.agg #[.int .i64 x0, .string x1, .int .i64 x2, .string x3]) ∧ Below w.heap.size w w'

theorem tocmd_any (x0 : Int) (x1 : ByteArray) (x2 : Int) (x3 : ByteArray) (w : World) : Calls Tryd.prog 60 #[.agg #[.int .i64 x0, .string x1, .int .i64 x2, .string x3]] w (MadeCmd x0 x1 x2 x3 w) := by
  go_enter Tryd.func60, Tryd.ntmps60
  go_wp2
  exact bodyPost_ret (v := .agg #[.int .i64 x0, .string x1, .int .i64 x2, .string x3]) (by simp [results, Tryd.results60, go_sem]) rfl ⟨rfl, below_alloc (below_alloc (below_alloc (Below.refl _ _) _) _) _⟩

/-- The end of the laws' copy: a new slice of the same values. -/
def MadeCmds (len : Nat) (l : Cmds) (w : World) (e : Ending) (w' : World) : Prop :=
  e = .returned (.slice (some ⟨w.heap.size, 0, none⟩) len len) ∧ CmdsAt w' (some ⟨w.heap.size, 0, none⟩) len l ∧ Below w.heap.size w w' ∧ ∃ cur, Row w' w.heap.size 68 cur ∧ cur.size = len * 4

set_option maxHeartbeats 2000000 in
theorem tocmds_any (a : Option Addr) (len cap : Nat) (l : Cmds) (w : World) (h : CmdsAt w a len l) (hfew : len ≤ 1048576) :
    Calls Tryd.prog 24 #[.slice a len cap] w (MadeCmds len l w) := by
  obtain ⟨i0, hi, hz0, hz1, hz2⟩ := info_parts infoCmd
  have HR := Lib.hid h
  clear h
  go_enter Tryd.func24, Tryd.ntmps24
  go_wp2_with (at_make; refine wpList_make_full _ rfl _ _ 47 rfl w.heap.size 68 i0 _ 4 Tryd.underlying47 hi hz0 hz1 .i64 .i64 _ _ len rfl rfl rfl rfl (by rw [hz2]; omega) (by unfold maxLen; omega) (Nat.le_refl _) ?_; intro w1 hown hgrow)
  obtain ⟨cur0, hrow0, hsz0⟩ : ∃ cur, Row w1 w.heap.size 68 cur ∧ cur.size = len * 4 := by
    rcases hown.2 with ⟨h, _⟩ | ⟨g, cp, cur, hv, _, hh, _, _, hs, _⟩
    · simp at h
    · simp only [Value.slice.injEq, Option.some.injEq, Addr.mk.injEq, true_and, and_true] at hv
      obtain ⟨rfl, rfl⟩ := hv
      exact ⟨cur, hh, hs⟩
  have HB0 := Lib.hid ((Below.refl w.heap.size w).grown hgrow (Nat.le_refl _) (by simp))
  have HR0 := Lib.hid hrow0
  have HS0 := Lib.hid hsz0
  clear hown hgrow hrow0 hsz0
  go_loopw [4] (fun i wr => ∃ k : Nat, k ≤ len ∧ i = .int .i64 k ∧ Hid (Below w.heap.size w wr ∧ ∃ cur, Row wr w.heap.size 68 cur ∧ cur.size = len * 4 ∧ CmdLaid cur l k)) (fun i _ => len - (intOf i).toNat)
  case atStart => exact ⟨0, Nat.zero_le _, rfl, HB0.out, cur0, HR0.out, HS0.out, fun j hj => by omega⟩
  case round =>
    obtain ⟨k, hk, rfl, HW⟩ := hrel
    clear HB0 HR0 HS0
    by_cases hlt : k < len
    · rcases HR.out.src with hz | ⟨b, off, rfl, hb, hc⟩
      · omega
      · have c0 := (HW.out.1.cell (p := ⟨b, off + k * 4, none⟩) hb).trans (hc k hlt).1
        have c1 := (HW.out.1.cell (p := ⟨b, off + k * 4 + 1, none⟩) hb).trans (hc k hlt).2.1
        have c2 := (HW.out.1.cell (p := ⟨b, off + k * 4 + 2, none⟩) hb).trans (hc k hlt).2.2.1
        have c3 := (HW.out.1.cell (p := ⟨b, off + k * 4 + 3, none⟩) hb).trans (hc k hlt).2.2.2
        clear hc hb
        go_wp2_with fail
        refine (tocmd_any _ _ _ _ _).mono ?_
        rintro e w2 ⟨rfl, hB⟩
        obtain ⟨hb0, cur, hr, hs, hla⟩ := HW.out
        have hr2 := hr.keep hB
        have hA0 := hr2.cell (j := k * 4) (by omega)
        have hA1 := hr2.cell (j := k * 4 + 1) (by omega)
        have hA2 := hr2.cell (j := k * 4 + 2) (by omega)
        have hA3 := hr2.cell (j := k * 4 + 3) (by omega)
        have hf0 := hr2.free (k * 4)
        have hf1 := hr2.free (k * 4 + 1)
        have hf2 := hr2.free (k * 4 + 2)
        have hf3 := hr2.free (k * 4 + 3)
        have HB := Lib.hid (below_via hb0 hB)
        have HR2 := Lib.hid hr2
        have HS := Lib.hid hs
        have HL := Lib.hid hla
        generalize cur[k * 4] = x0 at hA0
        generalize cur[k * 4 + 1] = x1 at hA1
        generalize cur[k * 4 + 2] = x2 at hA2
        generalize cur[k * 4 + 3] = x3 at hA3
        clear hB hr hr2 hs hla hb0 HW
        go_wp2
        go_roundw
        case rel => exact ⟨k + 1, by omega, by go_num, (((HB.out.setCell (Nat.le_refl _) _).setCell (Nat.le_refl _) _).setCell (Nat.le_refl _) _).setCell (Nat.le_refl _) _, _, (((HR2.out.set _ _).set _ _).set _ _).set _ _, by simpa using HS.out, HL.out.step HS.out hlt⟩
        case measure => simp [intOf]; omega
    · go_wp2
      go_ret
      obtain ⟨hb0, cur, hr, hs, hla⟩ := HW.out
      obtain rfl : k = len := by omega
      exact ⟨rfl, CmdsAt.ofRow hr HR.out.length HR.out.max HR.out.keys hla, hb0, cur, hr, hs⟩
end Go.Proofs.YtdjfihoempjjpaaDoor
namespace Go.Proofs.YtdjfihoempjjpaaDoor
open Go.ChangeShapes Go.WideShapes Go.ChangeAt Go.RowKit
set_option linter.unusedVariables false
set_option maxRecDepth 100000

abbrev Objs := List (ByteArray × Int × ByteArray)
def obj0 (l : Objs) (i : Nat) : ByteArray := (l.getD i (ByteArray.empty, 0, ByteArray.empty)).1
def obj1 (l : Objs) (i : Nat) : Int := (l.getD i (ByteArray.empty, 0, ByteArray.empty)).2.1
def obj2 (l : Objs) (i : Nat) : ByteArray := (l.getD i (ByteArray.empty, 0, ByteArray.empty)).2.2

/-- The slice (a, len, cap) holds the values l. -/
structure ObjsAt (w : World) (a : Option Addr) (len : Nat) (l : Objs) : Prop where
  length : l.length = len
  max : len ≤ maxLen
  keys : ∀ i, i < len → (obj0 l i).size ≤ maxLen ∧ (obj2 l i).size ≤ maxLen
  src : len = 0 ∨ ∃ b off, a = some ⟨b, off, none⟩ ∧ b < w.heap.size ∧ ∀ i, i < len → w.cell? ⟨b, off + i * 3, none⟩ = some (.string (obj0 l i)) ∧ w.cell? ⟨b, off + i * 3 + 1, none⟩ = some (.int .i64 (obj1 l i)) ∧ w.cell? ⟨b, off + i * 3 + 2, none⟩ = some (.string (obj2 l i))

theorem ObjsAt.keep {w w1 : World} {a : Option Addr} {len : Nat} {l : Objs} (h : ObjsAt w a len l) (hB : Below w.heap.size w w1) : ObjsAt w1 a len l := by
  refine ⟨h.length, h.max, h.keys, ?_⟩
  rcases h.src with h0 | ⟨b, off, ha, hb, hc⟩
  · exact .inl h0
  · exact .inr ⟨b, off, ha, Nat.lt_of_lt_of_le hb hB.size, fun i hi => ⟨(hB.cell (p := ⟨b, off + i * 3, none⟩) hb).trans (hc i hi).1, (hB.cell (p := ⟨b, off + i * 3 + 1, none⟩) hb).trans (hc i hi).2.1, (hB.cell (p := ⟨b, off + i * 3 + 2, none⟩) hb).trans (hc i hi).2.2⟩⟩

theorem ObjsAt.put {w : World} {a : Option Addr} {len : Nat} {l : Objs} (h : ObjsAt w a len l) {X : Nat} (hne : ∀ b off, a = some ⟨b, off, none⟩ → b ≠ X) (j : Nat) (v : Value) : ObjsAt (w.setCell ⟨X, j, none⟩ v) a len l := by
  refine ⟨h.length, h.max, h.keys, ?_⟩
  rcases h.src with h0 | ⟨b, off, ha, hb, hc⟩
  · exact .inl h0
  · have e : ∀ o, (w.setCell ⟨X, j, none⟩ v).cell? ⟨b, o, none⟩ = w.cell? ⟨b, o, none⟩ := fun o => by
      simp only [World.cell?, Below.heap_setCell w ⟨X, j, none⟩ v b (hne b off ha)]
    exact .inr ⟨b, off, ha, by simpa [World.setCell] using hb, fun i hi => by simpa only [e] using hc i hi⟩

def ObjSized1 (left : Int) (x0 : ByteArray) (x2 : ByteArray) (w : World) (e : Ending) (w' : World) : Prop :=
  ∃ x : Int, -1 ≤ x ∧ x ≤ left ∧ e = .returned (.int .i64 x) ∧ Below w.heap.size w w' ∧ (0 ≤ x → x0.size ≤ 1048576 ∧ x2.size ≤ 1048576)

set_option maxHeartbeats 1000000 in
theorem szobj_any (x0 : ByteArray) (x1 : Int) (x2 : ByteArray) (left : Int) (w : World) (hs0 : x0.size ≤ maxLen) (hs2 : x2.size ≤ maxLen) (h0 : 0 ≤ left) (h1 : left ≤ 1048576) : Calls Tryd.prog 79 #[.agg #[.string x0, .int .i64 x1, .string x2], .int .i64 left] w (ObjSized1 left x0 x2 w) := by
  unfold maxLen at hs0 hs2
  by_cases g0 : left < x0.size
  · have q0 : left - x0.size < 0 := by omega
    go_enter Tryd.func79, Tryd.ntmps79
    go_wp2
    go_ret
    exact ⟨-1, by omega, by omega, rfl, below_alloc (Below.refl _ _) _, fun h => by omega⟩
  · have q0 : ¬ left - x0.size < 0 := by omega
    by_cases g1 : left - x0.size < x2.size
    · have q1 : left - x0.size - x2.size < 0 := by omega
      go_enter Tryd.func79, Tryd.ntmps79
      go_wp2
      go_ret
      exact ⟨-1, by omega, by omega, rfl, below_alloc (Below.refl _ _) _, fun h => by omega⟩
    · have q1 : ¬ left - x0.size - x2.size < 0 := by omega
      go_enter Tryd.func79, Tryd.ntmps79
      go_wp2
      go_ret
      exact ⟨_, by omega, by omega, rfl, below_alloc (Below.refl _ _) _, fun h => by omega⟩

def ObjSized (len : Nat) (l : Objs) (w : World) (e : Ending) (w' : World) : Prop :=
  ∃ x : Int, -1 ≤ x ∧ x ≤ 1048576 ∧ e = .returned (.int .i64 x) ∧ Below w.heap.size w w' ∧ (0 ≤ x → len ≤ 1048576 ∧ ∀ i, i < len → (obj0 l i).size ≤ 1048576 ∧ (obj2 l i).size ≤ 1048576)

set_option maxHeartbeats 1000000 in
theorem szobjs_any (a : Option Addr) (len cap : Nat) (l : Objs) (left : Int) (w : World) (h : ObjsAt w a len l) (h0 : 0 ≤ left) (h1 : left ≤ 1048576) :
    Calls Tryd.prog 41 #[.slice a len cap, .int .i64 left] w (ObjSized len l w) := by
  have hm := h.max
  unfold maxLen at hm
  have HR := Lib.hid h
  clear h
  by_cases hl : left < len
  · have g : left - (len : Int) < 0 := by omega
    go_enter Tryd.func41, Tryd.ntmps41
    go_wp2
    go_ret
    exact ⟨-1, by omega, by omega, rfl, Below.refl _ _, fun h => by omega⟩
  · have g : ¬ left - (len : Int) < 0 := by omega
    go_enter Tryd.func41, Tryd.ntmps41
    go_wp2
    go_loopw [1, 5] (fun t i wr => ∃ k : Nat, k ≤ len ∧ i = .int .i64 k ∧ (∃ L : Int, 0 ≤ L ∧ L ≤ 1048576 ∧ t = .int .i64 L) ∧ Hid (Below w.heap.size w wr ∧ ∀ j, j < k → (obj0 l j).size ≤ 1048576 ∧ (obj2 l j).size ≤ 1048576)) (fun _ i _ => len - (intOf i).toNat)
    case atStart => exact ⟨0, Nat.zero_le _, rfl, ⟨_, by omega, by omega, rfl⟩, Below.refl _ _, fun j hj => by omega⟩
    case round =>
      obtain ⟨k, hk, rfl, ⟨L, hL0, hL1, rfl⟩, HW⟩ := hrel
      by_cases hlt : k < len
      · rcases (HR.out.keep HW.out.1).src with hz | ⟨b, off, rfl, hb, hc⟩
        · omega
        · obtain ⟨c0, c1, c2⟩ := hc k hlt
          have HK := Lib.hid (HR.out.keys k hlt)
          clear hc hb
          go_wp2_with fail
          refine (szobj_any _ _ _ _ _ HK.out.1 HK.out.2 hL0 hL1).mono ?_
          rintro e w1 ⟨x, hx0, hx1, rfl, hB, hfx⟩
          have HB := Lib.hid (below_via HW.out.1 hB)
          have HZ := Lib.hid hfx
          clear hB hfx
          by_cases hneg : x < 0
          · go_wp2
            go_ret
            exact ⟨-1, by omega, by omega, rfl, HB.out, fun h => by omega⟩
          · go_wp2
            go_roundw
            case rel => exact ⟨k + 1, by omega, by go_num, ⟨x, by omega, by omega, rfl⟩, HB.out, fun j hj => by
              rcases Nat.lt_or_ge j k with h | h
              · exact HW.out.2 j h
              · obtain rfl : j = k := by omega
                exact HZ.out (by omega)⟩
            case measure => simp [intOf]; omega
      · go_wp2
        go_ret
        exact ⟨L, by omega, by omega, rfl, HW.out.1, fun _ => ⟨by omega, fun i hi => HW.out.2 i (by omega)⟩⟩

theorem infoObj : (Tryd.prog.info? 60).map (fun i => (i.zero, i.size, i.bytes)) = some (some (.agg #[.string ByteArray.empty, .int .i64 0, .string ByteArray.empty]), 3, 40) := by kernel_rfl

def ObjLaid (cur : Array Value) (l : Objs) (k : Nat) : Prop := ∀ j, j < k → cur[j * 3]? = some (.string (obj0 l j)) ∧ cur[j * 3 + 1]? = some (.int .i64 (obj1 l j)) ∧ cur[j * 3 + 2]? = some (.string (obj2 l j))
theorem ObjLaid.step {cur : Array Value} {l : Objs} {k len : Nat} (h : ObjLaid cur l k) (hs : cur.size = len * 3) (hk : k < len) :
    ObjLaid (((cur.setIfInBounds (k * 3) (.string (obj0 l k))).setIfInBounds (k * 3 + 1) (.int .i64 (obj1 l k))).setIfInBounds (k * 3 + 2) (.string (obj2 l k))) l (k + 1) := by
  intro j hj
  rcases Nat.lt_or_ge j k with hlt | hge
  · obtain ⟨e0, e1, e2⟩ := h j hlt
    refine ⟨?_, ?_, ?_⟩
    · rw [Array.getElem?_setIfInBounds_ne (by omega), Array.getElem?_setIfInBounds_ne (by omega), Array.getElem?_setIfInBounds_ne (by omega)]; exact e0
    · rw [Array.getElem?_setIfInBounds_ne (by omega), Array.getElem?_setIfInBounds_ne (by omega), Array.getElem?_setIfInBounds_ne (by omega)]; exact e1
    · rw [Array.getElem?_setIfInBounds_ne (by omega), Array.getElem?_setIfInBounds_ne (by omega), Array.getElem?_setIfInBounds_ne (by omega)]; exact e2
  · obtain rfl : j = k := by omega
    refine ⟨?_, ?_, ?_⟩
    · rw [Array.getElem?_setIfInBounds_ne (by omega), Array.getElem?_setIfInBounds_ne (by omega)]; rw [Array.getElem?_setIfInBounds_self_of_lt (by first | omega | (simp only [Array.size_setIfInBounds]; omega))]
    · rw [Array.getElem?_setIfInBounds_ne (by omega)]; rw [Array.getElem?_setIfInBounds_self_of_lt (by first | omega | (simp only [Array.size_setIfInBounds]; omega))]
    · rw [Array.getElem?_setIfInBounds_self_of_lt (by first | omega | (simp only [Array.size_setIfInBounds]; omega))]

theorem ObjsAt.ofRow {w : World} {B len : Nat} {E : TypeId} {cur : Array Value} {l : Objs} (h : Row w B E cur) (hl : l.length = len) (hm : len ≤ maxLen) (hk : ∀ i, i < len → (obj0 l i).size ≤ maxLen ∧ (obj2 l i).size ≤ maxLen) (hlaid : ObjLaid cur l len) : ObjsAt w (some ⟨B, 0, none⟩) len l := by
  refine ⟨hl, hm, hk, .inr ⟨B, 0, rfl, h.lt, fun i hi => ?_⟩⟩
  obtain ⟨e0, e1, e2⟩ := hlaid i hi
  unfold Row at h
  simp [World.cell?, h, e0, e1, e2]

def MadeObj (x0 : ByteArray) (x1 : Int) (x2 : ByteArray) (w : World) (e : Ending) (w' : World) : Prop := e = .returned (.agg #[.string x0, .int .i64 x1, .string x2]) ∧ Below w.heap.size w w'

theorem toobj_any (x0 : ByteArray) (x1 : Int) (x2 : ByteArray) (w : World) : Calls Tryd.prog 83 #[.agg #[.string x0, .int .i64 x1, .string x2]] w (MadeObj x0 x1 x2 w) := by
  go_enter Tryd.func83, Tryd.ntmps83
  go_wp2
  exact bodyPost_ret (v := .agg #[.string x0, .int .i64 x1, .string x2]) (by simp [results, Tryd.results83, go_sem]) rfl ⟨rfl, below_alloc (below_alloc (below_alloc (Below.refl _ _) _) _) _⟩

/-- The end of the laws' copy: a new slice of the same values. -/
def MadeObjs (len : Nat) (l : Objs) (w : World) (e : Ending) (w' : World) : Prop :=
  e = .returned (.slice (some ⟨w.heap.size, 0, none⟩) len len) ∧ ObjsAt w' (some ⟨w.heap.size, 0, none⟩) len l ∧ Below w.heap.size w w' ∧ ∃ cur, Row w' w.heap.size 60 cur ∧ cur.size = len * 3

set_option maxHeartbeats 2000000 in
theorem toobjs_any (a : Option Addr) (len cap : Nat) (l : Objs) (w : World) (h : ObjsAt w a len l) (hfew : len ≤ 1048576) :
    Calls Tryd.prog 45 #[.slice a len cap] w (MadeObjs len l w) := by
  obtain ⟨i0, hi, hz0, hz1, hz2⟩ := info_parts infoObj
  have HR := Lib.hid h
  clear h
  go_enter Tryd.func45, Tryd.ntmps45
  go_wp2_with (at_make; refine wpList_make_full _ rfl _ _ 27 rfl w.heap.size 60 i0 _ 3 Tryd.underlying27 hi hz0 hz1 .i64 .i64 _ _ len rfl rfl rfl rfl (by rw [hz2]; omega) (by unfold maxLen; omega) (Nat.le_refl _) ?_; intro w1 hown hgrow)
  obtain ⟨cur0, hrow0, hsz0⟩ : ∃ cur, Row w1 w.heap.size 60 cur ∧ cur.size = len * 3 := by
    rcases hown.2 with ⟨h, _⟩ | ⟨g, cp, cur, hv, _, hh, _, _, hs, _⟩
    · simp at h
    · simp only [Value.slice.injEq, Option.some.injEq, Addr.mk.injEq, true_and, and_true] at hv
      obtain ⟨rfl, rfl⟩ := hv
      exact ⟨cur, hh, hs⟩
  have HB0 := Lib.hid ((Below.refl w.heap.size w).grown hgrow (Nat.le_refl _) (by simp))
  have HR0 := Lib.hid hrow0
  have HS0 := Lib.hid hsz0
  clear hown hgrow hrow0 hsz0
  go_loopw [4] (fun i wr => ∃ k : Nat, k ≤ len ∧ i = .int .i64 k ∧ Hid (Below w.heap.size w wr ∧ ∃ cur, Row wr w.heap.size 60 cur ∧ cur.size = len * 3 ∧ ObjLaid cur l k)) (fun i _ => len - (intOf i).toNat)
  case atStart => exact ⟨0, Nat.zero_le _, rfl, HB0.out, cur0, HR0.out, HS0.out, fun j hj => by omega⟩
  case round =>
    obtain ⟨k, hk, rfl, HW⟩ := hrel
    clear HB0 HR0 HS0
    by_cases hlt : k < len
    · rcases HR.out.src with hz | ⟨b, off, rfl, hb, hc⟩
      · omega
      · have c0 := (HW.out.1.cell (p := ⟨b, off + k * 3, none⟩) hb).trans (hc k hlt).1
        have c1 := (HW.out.1.cell (p := ⟨b, off + k * 3 + 1, none⟩) hb).trans (hc k hlt).2.1
        have c2 := (HW.out.1.cell (p := ⟨b, off + k * 3 + 2, none⟩) hb).trans (hc k hlt).2.2
        clear hc hb
        go_wp2_with fail
        refine (toobj_any _ _ _ _).mono ?_
        rintro e w2 ⟨rfl, hB⟩
        obtain ⟨hb0, cur, hr, hs, hla⟩ := HW.out
        have hr2 := hr.keep hB
        have hA0 := hr2.cell (j := k * 3) (by omega)
        have hA1 := hr2.cell (j := k * 3 + 1) (by omega)
        have hA2 := hr2.cell (j := k * 3 + 2) (by omega)
        have hf0 := hr2.free (k * 3)
        have hf1 := hr2.free (k * 3 + 1)
        have hf2 := hr2.free (k * 3 + 2)
        have HB := Lib.hid (below_via hb0 hB)
        have HR2 := Lib.hid hr2
        have HS := Lib.hid hs
        have HL := Lib.hid hla
        generalize cur[k * 3] = x0 at hA0
        generalize cur[k * 3 + 1] = x1 at hA1
        generalize cur[k * 3 + 2] = x2 at hA2
        clear hB hr hr2 hs hla hb0 HW
        go_wp2
        go_roundw
        case rel => exact ⟨k + 1, by omega, by go_num, ((HB.out.setCell (Nat.le_refl _) _).setCell (Nat.le_refl _) _).setCell (Nat.le_refl _) _, _, ((HR2.out.set _ _).set _ _).set _ _, by simpa using HS.out, HL.out.step HS.out hlt⟩
        case measure => simp [intOf]; omega
    · go_wp2
      go_ret
      obtain ⟨hb0, cur, hr, hs, hla⟩ := HW.out
      obtain rfl : k = len := by omega
      exact ⟨rfl, ObjsAt.ofRow hr HR.out.length HR.out.max HR.out.keys hla, hb0, cur, hr, hs⟩
end Go.Proofs.YtdjfihoempjjpaaDoor
