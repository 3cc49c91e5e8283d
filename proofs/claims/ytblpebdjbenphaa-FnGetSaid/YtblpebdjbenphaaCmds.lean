
/- Slices of Cmd values that may be read: the laws' copies and measures of them. Only new blocks are made. -/
import Derived.Test.YtblpebdjbenphaaMg1
import Derived.OwnWalk
import Derived.WalkKit
import Derived.ProofKit
import Derived.OpenShut
import Derived.WalkLawsBesides
import Derived.Deep.QuietTactic
import Derived.BigQuiet
import Derived.Deep.RegionHeld3
import Derived.Lib.Hide
import Derived.Outline
import Derived.Test.YtblpebdjbenphaaMg3
namespace Go.Proofs.Ytblpebdjbenphaa
open Go.ChangeShapes Go.WideShapes Go.ChangeAt Go.RowKit
set_option linter.unusedVariables false
set_option maxRecDepth 100000

abbrev Cmds := List (Int × ByteArray × Int × ByteArray)
def cmd0 (l : Cmds) (i : Nat) : Int := (l.getD i (0, ByteArray.empty, 0, ByteArray.empty)).1
def cmd1 (l : Cmds) (i : Nat) : ByteArray := (l.getD i (0, ByteArray.empty, 0, ByteArray.empty)).2.1
def cmd2 (l : Cmds) (i : Nat) : Int := (l.getD i (0, ByteArray.empty, 0, ByteArray.empty)).2.2.1
def cmd3 (l : Cmds) (i : Nat) : ByteArray := (l.getD i (0, ByteArray.empty, 0, ByteArray.empty)).2.2.2

/-- The slice (a, len, cap) holds the values l. -/
structure CmdsAt (w : World) (a : Option Addr) (len : Nat) (l : Cmds) : Prop where
  length : l.length = len
  max : len ≤ maxLen
  keys : ∀ i, i < len → (cmd1 l i).size ≤ maxLen ∧ (cmd3 l i).size ≤ maxLen
  src : len = 0 ∨ ∃ b off, a = some ⟨b, off, none⟩ ∧ b < w.heap.size ∧ ∀ i, i < len → w.cell? ⟨b, off + i * 4, none⟩ = some (.int .i64 (cmd0 l i)) ∧ w.cell? ⟨b, off + i * 4 + 1, none⟩ = some (.string (cmd1 l i)) ∧ w.cell? ⟨b, off + i * 4 + 2, none⟩ = some (.int .i64 (cmd2 l i)) ∧ w.cell? ⟨b, off + i * 4 + 3, none⟩ = some (.string (cmd3 l i))

theorem CmdsAt.keep {w w1 : World} {a : Option Addr} {len : Nat} {l : Cmds} (h : CmdsAt w a len l) (hB : Below w.heap.size w w1) : CmdsAt w1 a len l := by
  refine ⟨h.length, h.max, h.keys, ?_⟩
  rcases h.src with h0 | ⟨b, off, ha, hb, hc⟩
  · exact .inl h0
  · exact .inr ⟨b, off, ha, Nat.lt_of_lt_of_le hb hB.size, fun i hi => ⟨(hB.cell (p := ⟨b, off + i * 4, none⟩) hb).trans (hc i hi).1, (hB.cell (p := ⟨b, off + i * 4 + 1, none⟩) hb).trans (hc i hi).2.1, (hB.cell (p := ⟨b, off + i * 4 + 2, none⟩) hb).trans (hc i hi).2.2.1, (hB.cell (p := ⟨b, off + i * 4 + 3, none⟩) hb).trans (hc i hi).2.2.2⟩⟩

theorem CmdsAt.put {w : World} {a : Option Addr} {len : Nat} {l : Cmds} (h : CmdsAt w a len l) {X : Nat} (hne : ∀ b off, a = some ⟨b, off, none⟩ → b ≠ X) (j : Nat) (v : Value) : CmdsAt (w.setCell ⟨X, j, none⟩ v) a len l := by
  refine ⟨h.length, h.max, h.keys, ?_⟩
  rcases h.src with h0 | ⟨b, off, ha, hb, hc⟩
  · exact .inl h0
  · have e : ∀ o, (w.setCell ⟨X, j, none⟩ v).cell? ⟨b, o, none⟩ = w.cell? ⟨b, o, none⟩ := fun o => by
      simp only [World.cell?, Below.heap_setCell w ⟨X, j, none⟩ v b (hne b off ha)]
    exact .inr ⟨b, off, ha, by simpa [World.setCell] using hb, fun i hi => by simpa only [e] using hc i hi⟩

def CmdSized1 (left : Int) (x1 : ByteArray) (x3 : ByteArray) (w : World) (e : Ending) (w' : World) : Prop :=
  ∃ x : Int, -1 ≤ x ∧ x ≤ left ∧ e = .returned (.int .i64 x) ∧ Below w.heap.size w w' ∧ (0 ≤ x → x1.size ≤ 1048576 ∧ x3.size ≤ 1048576)

def CmdSized (len : Nat) (l : Cmds) (w : World) (e : Ending) (w' : World) : Prop :=
  ∃ x : Int, -1 ≤ x ∧ x ≤ 1048576 ∧ e = .returned (.int .i64 x) ∧ Below w.heap.size w w' ∧ (0 ≤ x → len ≤ 1048576 ∧ ∀ i, i < len → (cmd1 l i).size ≤ 1048576 ∧ (cmd3 l i).size ≤ 1048576)

theorem infoCmd : (Try.prog.info? 57).map (fun i => (i.zero, i.size, i.bytes)) = some (some (.agg #[.int .i64 0, .string ByteArray.empty, .int .i64 0, .string ByteArray.empty]), 4, 48) := by kernel_rfl

def CmdLaid (cur : Array Value) (l : Cmds) (k : Nat) : Prop := ∀ j, j < k → cur[j * 4]? = some (.int .i64 (cmd0 l j)) ∧ cur[j * 4 + 1]? = some (.string (cmd1 l j)) ∧ cur[j * 4 + 2]? = some (.int .i64 (cmd2 l j)) ∧ cur[j * 4 + 3]? = some (.string (cmd3 l j))
theorem CmdLaid.step {cur : Array Value} {l : Cmds} {k len : Nat} (h : CmdLaid cur l k) (hs : cur.size = len * 4) (hk : k < len) :
    CmdLaid ((((cur.setIfInBounds (k * 4) (.int .i64 (cmd0 l k))).setIfInBounds (k * 4 + 1) (.string (cmd1 l k))).setIfInBounds (k * 4 + 2) (.int .i64 (cmd2 l k))).setIfInBounds (k * 4 + 3) (.string (cmd3 l k))) l (k + 1) := by
  intro j hj
  rcases Nat.lt_or_ge j k with hlt | hge
  · obtain ⟨e0, e1, e2, e3⟩ := h j hlt
    refine ⟨?_, ?_, ?_, ?_⟩
    · rw [Array.getElem?_setIfInBounds_ne (by omega), Array.getElem?_setIfInBounds_ne (by omega), Array.getElem?_setIfInBounds_ne (by omega), Array.getElem?_setIfInBounds_ne (by omega)]; exact e0
    · rw [Array.getElem?_setIfInBounds_ne (by omega), Array.getElem?_setIfInBounds_ne (by omega), Array.getElem?_setIfInBounds_ne (by omega), Array.getElem?_setIfInBounds_ne (by omega)]; exact e1
    · rw [Array.getElem?_setIfInBounds_ne (by omega), Array.getElem?_setIfInBounds_ne (by omega), Array.getElem?_setIfInBounds_ne (by omega), Array.getElem?_setIfInBounds_ne (by omega)]; exact e2
    · rw [Array.getElem?_setIfInBounds_ne (by omega), Array.getElem?_setIfInBounds_ne (by omega), Array.getElem?_setIfInBounds_ne (by omega), Array.getElem?_setIfInBounds_ne (by omega)]; exact e3
  · obtain rfl : j = k := by omega
    refine ⟨?_, ?_, ?_, ?_⟩
    · rw [Array.getElem?_setIfInBounds_ne (by omega), Array.getElem?_setIfInBounds_ne (by omega), Array.getElem?_setIfInBounds_ne (by omega)]; rw [Array.getElem?_setIfInBounds_self_of_lt (by first | omega | (simp only [Array.size_setIfInBounds]; omega))]
    · rw [Array.getElem?_setIfInBounds_ne (by omega), Array.getElem?_setIfInBounds_ne (by omega)]; rw [Array.getElem?_setIfInBounds_self_of_lt (by first | omega | (simp only [Array.size_setIfInBounds]; omega))]
    · rw [Array.getElem?_setIfInBounds_ne (by omega)]; rw [Array.getElem?_setIfInBounds_self_of_lt (by first | omega | (simp only [Array.size_setIfInBounds]; omega))]
    · rw [Array.getElem?_setIfInBounds_self_of_lt (by first | omega | (simp only [Array.size_setIfInBounds]; omega))]

theorem CmdsAt.ofRow {w : World} {B len : Nat} {E : TypeId} {cur : Array Value} {l : Cmds} (h : Row w B E cur) (hl : l.length = len) (hm : len ≤ maxLen) (hk : ∀ i, i < len → (cmd1 l i).size ≤ maxLen ∧ (cmd3 l i).size ≤ maxLen) (hlaid : CmdLaid cur l len) : CmdsAt w (some ⟨B, 0, none⟩) len l := by
  refine ⟨hl, hm, hk, .inr ⟨B, 0, rfl, h.lt, fun i hi => ?_⟩⟩
  obtain ⟨e0, e1, e2, e3⟩ := hlaid i hi
  unfold Row at h
  simp [World.cell?, h, e0, e1, e2, e3]

def MadeCmd (x0 : Int) (x1 : ByteArray) (x2 : Int) (x3 : ByteArray) (w : World) (e : Ending) (w' : World) : Prop := e = .returned (.agg #[.int .i64 x0, .string x1, .int .i64 x2, .string x3]) ∧ Below w.heap.size w w'

/-- The end of the laws' copy: a new slice of the same values. -/
def MadeCmds (len : Nat) (l : Cmds) (w : World) (e : Ending) (w' : World) : Prop :=
  e = .returned (.slice (some ⟨w.heap.size, 0, none⟩) len len) ∧ CmdsAt w' (some ⟨w.heap.size, 0, none⟩) len l ∧ Below w.heap.size w w' ∧ ∃ cur, Row w' w.heap.size 57 cur ∧ cur.size = len * 4

end Go.Proofs.Ytblpebdjbenphaa
