
/- Stores that may be read: the laws' measures, copies and comparisons of them. Only new blocks are made. -/
import Derived.Test.YtblpebdjbenphaaObjEq
import Derived.Test.YtblpebdjbenphaaGoneEq
namespace Go.Proofs.Ytblpebdjbenphaa
open Go.ChangeShapes Go.WideShapes Go.ChangeAt Go.RowKit
set_option linter.unusedVariables false
set_option maxRecDepth 100000

theorem Row.put {w : World} {B : Nat} {E : TypeId} {cur : Array Value} (h : Row w B E cur) {X : Nat} (hne : B ≠ X) (j : Nat) (v : Value) : Row (w.setCell ⟨X, j, none⟩ v) B E cur := (Below.heap_setCell w ⟨X, j, none⟩ v B hne).trans h

def stoV (a : Option Addr) (la ca : Nat) (g : Option Addr) (lg cg : Nat) : Value := .agg #[.slice a la ca, .slice g lg cg]
/-- A store that may be read: its objects and its versions of deleted ones. -/
structure StoAt (w : World) (a : Option Addr) (la : Nat) (l : Objs) (g : Option Addr) (lg : Nat) (m : Gones) : Prop where
  o : ObjsAt w a la l
  d : GonesAt w g lg m
theorem StoAt.keep {w w1 : World} {a g : Option Addr} {la lg : Nat} {l : Objs} {m : Gones} (h : StoAt w a la l g lg m) (hB : Below w.heap.size w w1) : StoAt w1 a la l g lg m := ⟨h.o.keep hB, h.d.keep hB⟩

def StoSized (la : Nat) (l : Objs) (lg : Nat) (m : Gones) (w : World) (e : Ending) (w' : World) : Prop :=
  ∃ x : Int, -1 ≤ x ∧ x ≤ 1048576 ∧ e = .returned (.int .i64 x) ∧ Below w.heap.size w w' ∧ (0 ≤ x → (la ≤ 1048576 ∧ ∀ i, i < la → (obj0 l i).size ≤ 1048576 ∧ (obj2 l i).size ≤ 1048576) ∧ (lg ≤ 1048576 ∧ ∀ i, i < lg → (gone0 m i).size ≤ 1048576))

/-- The end of the laws' copy of a store. -/
def MadeSto (la : Nat) (l : Objs) (lg : Nat) (m : Gones) (w : World) (e : Ending) (w' : World) : Prop :=
  ∃ B C : Nat, e = .returned (.agg #[.slice (some ⟨B, 0, none⟩) la la, .slice (some ⟨C, 0, none⟩) lg lg]) ∧ StoAt w' (some ⟨B, 0, none⟩) la l (some ⟨C, 0, none⟩) lg m ∧ Below w.heap.size w w' ∧
    w.heap.size ≤ B ∧ B < C ∧ (∃ cur, Row w' B 31 cur ∧ cur.size = la * 3) ∧ ∃ cur, Row w' C 45 cur ∧ cur.size = lg * 2

end Go.Proofs.Ytblpebdjbenphaa
