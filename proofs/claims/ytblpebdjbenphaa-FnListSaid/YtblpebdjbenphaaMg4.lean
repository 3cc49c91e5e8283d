/- Texts put together, as a claim holds at most sixty files. -/
import Derived.Test.YtblpebdjbenphaaMg1
import Derived.OwnWalk
import Derived.WalkKit
import Derived.ProofKit
import Derived.OpenShut
import Derived.WalkLawsBesides
import Derived.Deep.QuietTactic
import Derived.BigQuiet
import Derived.Deep.RegionHeld3
import Derived.Lib.Hide
import Derived.Outline
import Derived.Test.YtblpebdjbenphaaMg3
namespace Go.Proofs.Ytblpebdjbenphaa
open Go.ChangeShapes Go.WideShapes Go.ChangeAt Go.RowKit
set_option linter.unusedVariables false
set_option maxRecDepth 100000

abbrev Gones := List (ByteArray × Int)
def gone0 (l : Gones) (i : Nat) : ByteArray := (l.getD i (ByteArray.empty, 0)).1
def gone1 (l : Gones) (i : Nat) : Int := (l.getD i (ByteArray.empty, 0)).2

/-- The slice (a, len, cap) holds the values l. -/
structure GonesAt (w : World) (a : Option Addr) (len : Nat) (l : Gones) : Prop where
  length : l.length = len
  max : len ≤ maxLen
  keys : ∀ i, i < len → (gone0 l i).size ≤ maxLen
  src : len = 0 ∨ ∃ b off, a = some ⟨b, off, none⟩ ∧ b < w.heap.size ∧ ∀ i, i < len → w.cell? ⟨b, off + i * 2, none⟩ = some (.string (gone0 l i)) ∧ w.cell? ⟨b, off + i * 2 + 1, none⟩ = some (.int .i64 (gone1 l i))

theorem GonesAt.keep {w w1 : World} {a : Option Addr} {len : Nat} {l : Gones} (h : GonesAt w a len l) (hB : Below w.heap.size w w1) : GonesAt w1 a len l := by
  refine ⟨h.length, h.max, h.keys, ?_⟩
  rcases h.src with h0 | ⟨b, off, ha, hb, hc⟩
  · exact .inl h0
  · exact .inr ⟨b, off, ha, Nat.lt_of_lt_of_le hb hB.size, fun i hi => ⟨(hB.cell (p := ⟨b, off + i * 2, none⟩) hb).trans (hc i hi).1, (hB.cell (p := ⟨b, off + i * 2 + 1, none⟩) hb).trans (hc i hi).2⟩⟩

theorem GonesAt.put {w : World} {a : Option Addr} {len : Nat} {l : Gones} (h : GonesAt w a len l) {X : Nat} (hne : ∀ b off, a = some ⟨b, off, none⟩ → b ≠ X) (j : Nat) (v : Value) : GonesAt (w.setCell ⟨X, j, none⟩ v) a len l := by
  refine ⟨h.length, h.max, h.keys, ?_⟩
  rcases h.src with h0 | ⟨b, off, ha, hb, hc⟩
  · exact .inl h0
  · have e : ∀ o, (w.setCell ⟨X, j, none⟩ v).cell? ⟨b, o, none⟩ = w.cell? ⟨b, o, none⟩ := fun o => by
      simp only [World.cell?, Below.heap_setCell w ⟨X, j, none⟩ v b (hne b off ha)]
    exact .inr ⟨b, off, ha, by simpa [World.setCell] using hb, fun i hi => by simpa only [e] using hc i hi⟩

def GoneSized1 (left : Int) (x0 : ByteArray) (w : World) (e : Ending) (w' : World) : Prop :=
  ∃ x : Int, -1 ≤ x ∧ x ≤ left ∧ e = .returned (.int .i64 x) ∧ Below w.heap.size w w' ∧ (0 ≤ x → x0.size ≤ 1048576)

def GoneSized (len : Nat) (l : Gones) (w : World) (e : Ending) (w' : World) : Prop :=
  ∃ x : Int, -1 ≤ x ∧ x ≤ 1048576 ∧ e = .returned (.int .i64 x) ∧ Below w.heap.size w w' ∧ (0 ≤ x → len ≤ 1048576 ∧ ∀ i, i < len → (gone0 l i).size ≤ 1048576)

theorem infoGone : (Try.prog.info? 45).map (fun i => (i.zero, i.size, i.bytes)) = some (some (.agg #[.string ByteArray.empty, .int .i64 0]), 2, 24) := by kernel_rfl

def GoneLaid (cur : Array Value) (l : Gones) (k : Nat) : Prop := ∀ j, j < k → cur[j * 2]? = some (.string (gone0 l j)) ∧ cur[j * 2 + 1]? = some (.int .i64 (gone1 l j))
theorem GoneLaid.step {cur : Array Value} {l : Gones} {k len : Nat} (h : GoneLaid cur l k) (hs : cur.size = len * 2) (hk : k < len) :
    GoneLaid ((cur.setIfInBounds (k * 2) (.string (gone0 l k))).setIfInBounds (k * 2 + 1) (.int .i64 (gone1 l k))) l (k + 1) := by
  intro j hj
  rcases Nat.lt_or_ge j k with hlt | hge
  · obtain ⟨e0, e1⟩ := h j hlt
    refine ⟨?_, ?_⟩
    · rw [Array.getElem?_setIfInBounds_ne (by omega), Array.getElem?_setIfInBounds_ne (by omega)]; exact e0
    · rw [Array.getElem?_setIfInBounds_ne (by omega), Array.getElem?_setIfInBounds_ne (by omega)]; exact e1
  · obtain rfl : j = k := by omega
    refine ⟨?_, ?_⟩
    · rw [Array.getElem?_setIfInBounds_ne (by omega)]; rw [Array.getElem?_setIfInBounds_self_of_lt (by first | omega | (simp only [Array.size_setIfInBounds]; omega))]
    · rw [Array.getElem?_setIfInBounds_self_of_lt (by first | omega | (simp only [Array.size_setIfInBounds]; omega))]

theorem GonesAt.ofRow {w : World} {B len : Nat} {E : TypeId} {cur : Array Value} {l : Gones} (h : Row w B E cur) (hl : l.length = len) (hm : len ≤ maxLen) (hk : ∀ i, i < len → (gone0 l i).size ≤ maxLen) (hlaid : GoneLaid cur l len) : GonesAt w (some ⟨B, 0, none⟩) len l := by
  refine ⟨hl, hm, hk, .inr ⟨B, 0, rfl, h.lt, fun i hi => ?_⟩⟩
  obtain ⟨e0, e1⟩ := hlaid i hi
  unfold Row at h
  simp [World.cell?, h, e0, e1]

def MadeGone (x0 : ByteArray) (x1 : Int) (w : World) (e : Ending) (w' : World) : Prop := e = .returned (.agg #[.string x0, .int .i64 x1]) ∧ Below w.heap.size w w'

/-- The end of the laws' copy: a new slice of the same values. -/
def MadeGones (len : Nat) (l : Gones) (w : World) (e : Ending) (w' : World) : Prop :=
  e = .returned (.slice (some ⟨w.heap.size, 0, none⟩) len len) ∧ GonesAt w' (some ⟨w.heap.size, 0, none⟩) len l ∧ Below w.heap.size w w' ∧ ∃ cur, Row w' w.heap.size 45 cur ∧ cur.size = len * 2

end Go.Proofs.Ytblpebdjbenphaa
namespace Go.Proofs.Ytblpebdjbenphaa
open Go.ChangeShapes Go.WideShapes Go.ChangeAt Go.RowKit
set_option linter.unusedVariables false
set_option maxRecDepth 100000

end Go.Proofs.Ytblpebdjbenphaa
namespace Go.Proofs.Ytblpebdjbenphaa
open Go.ChangeShapes Go.WideShapes Go.ChangeAt Go.RowKit
set_option linter.unusedVariables false
set_option maxRecDepth 100000

theorem Row.put {w : World} {B : Nat} {E : TypeId} {cur : Array Value} (h : Row w B E cur) {X : Nat} (hne : B ≠ X) (j : Nat) (v : Value) : Row (w.setCell ⟨X, j, none⟩ v) B E cur := (Below.heap_setCell w ⟨X, j, none⟩ v B hne).trans h

def stoV (a : Option Addr) (la ca : Nat) (g : Option Addr) (lg cg : Nat) : Value := .agg #[.slice a la ca, .slice g lg cg]
/-- A store that may be read: its objects and its versions of deleted ones. -/
structure StoAt (w : World) (a : Option Addr) (la : Nat) (l : Objs) (g : Option Addr) (lg : Nat) (m : Gones) : Prop where
  o : ObjsAt w a la l
  d : GonesAt w g lg m
theorem StoAt.keep {w w1 : World} {a g : Option Addr} {la lg : Nat} {l : Objs} {m : Gones} (h : StoAt w a la l g lg m) (hB : Below w.heap.size w w1) : StoAt w1 a la l g lg m := ⟨h.o.keep hB, h.d.keep hB⟩

def StoSized (la : Nat) (l : Objs) (lg : Nat) (m : Gones) (w : World) (e : Ending) (w' : World) : Prop :=
  ∃ x : Int, -1 ≤ x ∧ x ≤ 1048576 ∧ e = .returned (.int .i64 x) ∧ Below w.heap.size w w' ∧ (0 ≤ x → (la ≤ 1048576 ∧ ∀ i, i < la → (obj0 l i).size ≤ 1048576 ∧ (obj2 l i).size ≤ 1048576) ∧ (lg ≤ 1048576 ∧ ∀ i, i < lg → (gone0 m i).size ≤ 1048576))

/-- The end of the laws' copy of a store. -/
def MadeSto (la : Nat) (l : Objs) (lg : Nat) (m : Gones) (w : World) (e : Ending) (w' : World) : Prop :=
  ∃ B C : Nat, e = .returned (.agg #[.slice (some ⟨B, 0, none⟩) la la, .slice (some ⟨C, 0, none⟩) lg lg]) ∧ StoAt w' (some ⟨B, 0, none⟩) la l (some ⟨C, 0, none⟩) lg m ∧ Below w.heap.size w w' ∧
    w.heap.size ≤ B ∧ B < C ∧ (∃ cur, Row w' B 31 cur ∧ cur.size = la * 3) ∧ ∃ cur, Row w' C 45 cur ∧ cur.size = lg * 2

end Go.Proofs.Ytblpebdjbenphaa
