
/- The laws' marks in slices of Gone values. Only the marked row and new blocks change. -/
import Derived.Test.YtblpebdjbenphaaMg4
import Derived.Test.YtblpebdjbenphaaMarkI
namespace Go.Proofs.Ytblpebdjbenphaa
open Go.ChangeShapes Go.WideShapes Go.ChangeAt Go.RowKit
set_option linter.unusedVariables false
set_option maxRecDepth 100000

/-- Row B holds the marks from number k0 on in its first n values. -/
def MarkedGone (cur : Array Value) (k0 n : Nat) : Prop := ∀ j, j < n → cur[j * 2]? = some (.string (mtext (k0 + 2 * j + 0))) ∧ cur[j * 2 + 1]? = some (.int .i64 ((k0 + 2 * j + 1 : Nat) : Int))
theorem MarkedGone.step {cur : Array Value} {k0 k : Nat} (h : MarkedGone cur k0 k) (hk : k * 2 + 1 < cur.size) : MarkedGone ((cur.setIfInBounds (k * 2) (.string (mtext (k0 + 2 * k + 0)))).setIfInBounds (k * 2 + 1) (.int .i64 ((k0 + 2 * k + 1 : Nat) : Int))) k0 (k + 1) := by
  intro j hj
  rcases Nat.lt_or_ge j k with hlt | hge
  · obtain ⟨e0, e1⟩ := h j hlt
    refine ⟨?_, ?_⟩
    · rw [Array.getElem?_setIfInBounds_ne (by omega), Array.getElem?_setIfInBounds_ne (by omega)]; exact e0
    · rw [Array.getElem?_setIfInBounds_ne (by omega), Array.getElem?_setIfInBounds_ne (by omega)]; exact e1
  · obtain rfl : j = k := by omega
    refine ⟨?_, ?_⟩
    · rw [Array.getElem?_setIfInBounds_ne (by omega)]; rw [Array.getElem?_setIfInBounds_self_of_lt (by first | omega | (simp only [Array.size_setIfInBounds]; omega))]
    · rw [Array.getElem?_setIfInBounds_self_of_lt (by first | omega | (simp only [Array.size_setIfInBounds]; omega))]
def MadeMarksGone (B : Nat) (E : TypeId) (k0 len n : Nat) (w : World) (e : Ending) (w' : World) : Prop :=
  e = .returned (.int .i64 ((k0 + 2 * len : Nat) : Int)) ∧ w.grownBy w' (some B) ∧ ∃ cur, Row w' B E cur ∧ cur.size = n ∧ MarkedGone cur k0 len

end Go.Proofs.Ytblpebdjbenphaa
