
/- What the library's sort asks of the program's records in order: its three methods, and a row that they read and write. The steps of the plain sort, one equation each. -/
import Derived.Test.YtldjahemgkkpbaaRuns5
import Derived.Sort.Statements
import Derived.Deep.LoopGhost
namespace Go.Proofs.Ytldjahemgkkpbaa
open Go.ChangeShapes Go.WideShapes Go.ChangeAt Go.RowKit Go.Lib
set_option linter.unusedVariables false
set_option maxRecDepth 100000

abbrev RA := Array (ByteArray × Int)
def ltR (a b : ByteArray × Int) : Bool := lessB a.1 a.2 b.1 b.2

/-- Blocks from B on that were there are as they were. -/
def KeepB (B : Nat) (w w' : World) : Prop :=
  w.heap.size ≤ w'.heap.size ∧ ∀ b o, B ≤ b → b < w.heap.size → w'.cell? ⟨b, o, none⟩ = w.cell? ⟨b, o, none⟩ ∧ w'.frozen? ⟨b, o, none⟩ = w.frozen? ⟨b, o, none⟩
theorem KeepB.refl (B : Nat) (w : World) : KeepB B w w := ⟨Nat.le_refl _, fun _ _ _ _ => ⟨rfl, rfl⟩⟩
theorem KeepB.trans {B : Nat} {w w1 w2 : World} (h : KeepB B w w1) (k : KeepB B w1 w2) : KeepB B w w2 :=
  ⟨Nat.le_trans h.1 k.1, fun b o hb hl => ⟨((k.2 b o hb (Nat.lt_of_lt_of_le hl h.1)).1).trans (h.2 b o hb hl).1, ((k.2 b o hb (Nat.lt_of_lt_of_le hl h.1)).2).trans (h.2 b o hb hl).2⟩⟩

/-- A row of n records below block B, read by Less and turned by Swap of the receiver (ra, rl, rc). -/
structure SortRow (R : RA → World → Prop) (ra : Option Addr) (rl rc n B : Nat) : Prop where
  size : ∀ {V w}, R V w → V.size = n
  room : ∀ {V w}, R V w → B ≤ w.heap.size
  drewN : ∀ {V w} (q : Nat), R V w → R V (w.drewN q)
  alloc : ∀ {V w} (o : Obj), R V w → R V (w.alloc o)
  set : ∀ {V w} (b o : Nat) (v : Value), R V w → B ≤ b → R V (w.setCell ⟨b, o, none⟩ v)
  less : ∀ {V w} (i j : Nat), R V w → i < n → j < n → Calls Try.prog 92 #[.slice ra rl rc, .int .i64 i, .int .i64 j] w fun e w' => e = .returned (.bool (ltR V[i]! V[j]!)) ∧ R V w' ∧ KeepB B w w'
  swap : ∀ {V w} (i j : Nat), R V w → i < n → j < n → Calls Try.prog 93 #[.slice ra rl rc, .int .i64 i, .int .i64 j] w fun e w' => e = .returned (.tuple #[]) ∧ R (Go.Sort.swp V i j) w' ∧ KeepB B w w'

theorem method_swap (a : Option Addr) (len cap : Nat) (w : World) : (method 213 51 (.slice a len cap) "Swap").run Try.prog w = .ok (93, .slice a len cap) w := by kernel_rfl

/-- The end of a step of the sort: what it returns, and what stands in the row. -/
def EndR (R : RA → World → Prop) (v : Value) (V : RA) (e : Ending) (w' : World) : Prop := e = .returned v ∧ R V w'

/-- Less and Swap at places that are known as integers. -/
theorem SortRow.lessZ {R : RA → World → Prop} {ra : Option Addr} {rl rc n B : Nat} (S : SortRow R ra rl rc n B) {V : RA} {w : World} (i j : Nat) (x y : Int) (z : Bool) (h : R V w) (hi : i < n) (hj : j < n) (hx : (i : Int) = x) (hy : (j : Int) = y) (hz : ltR V[i]! V[j]! = z) :
    Calls Try.prog 92 #[.slice ra rl rc, .int .i64 x, .int .i64 y] w fun e w' => e = .returned (.bool z) ∧ R V w' := by
  subst hx hy hz
  exact (S.less i j h hi hj).mono fun _ _ ⟨he, hR, _⟩ => ⟨he, hR⟩
theorem SortRow.swapZ {R : RA → World → Prop} {ra : Option Addr} {rl rc n B : Nat} (S : SortRow R ra rl rc n B) {V : RA} {w : World} (i j : Nat) (x y : Int) (h : R V w) (hi : i < n) (hj : j < n) (hx : (i : Int) = x) (hy : (j : Int) = y) :
    Calls Try.prog 93 #[.slice ra rl rc, .int .i64 x, .int .i64 y] w fun e w' => e = .returned (.tuple #[]) ∧ R (Go.Sort.swp V i j) w' := by
  subst hx hy
  exact (S.swap i j h hi hj).mono fun _ _ ⟨he, hR, _⟩ => ⟨he, hR⟩
end Go.Proofs.Ytldjahemgkkpbaa
