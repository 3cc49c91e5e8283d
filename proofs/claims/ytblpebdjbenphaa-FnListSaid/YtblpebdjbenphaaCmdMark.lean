
/- The laws' marks in slices of Cmd values. Only the marked row and new blocks change. -/
import Derived.Test.YtblpebdjbenphaaMg6
import Derived.Test.YtblpebdjbenphaaMarkI
namespace Go.Proofs.Ytblpebdjbenphaa
open Go.ChangeShapes Go.WideShapes Go.ChangeAt Go.RowKit
set_option linter.unusedVariables false
set_option maxRecDepth 100000

/-- Row B holds the marks from number k0 on in its first n values. -/
def MarkedCmd (cur : Array Value) (k0 n : Nat) : Prop := ∀ j, j < n → cur[j * 4]? = some (.int .i64 ((k0 + 4 * j + 0 : Nat) : Int)) ∧ cur[j * 4 + 1]? = some (.string (mtext (k0 + 4 * j + 1))) ∧ cur[j * 4 + 2]? = some (.int .i64 ((k0 + 4 * j + 2 : Nat) : Int)) ∧ cur[j * 4 + 3]? = some (.string (mtext (k0 + 4 * j + 3)))
theorem MarkedCmd.step {cur : Array Value} {k0 k : Nat} (h : MarkedCmd cur k0 k) (hk : k * 4 + 3 < cur.size) : MarkedCmd ((((cur.setIfInBounds (k * 4) (.int .i64 ((k0 + 4 * k + 0 : Nat) : Int))).setIfInBounds (k * 4 + 1) (.string (mtext (k0 + 4 * k + 1)))).setIfInBounds (k * 4 + 2) (.int .i64 ((k0 + 4 * k + 2 : Nat) : Int))).setIfInBounds (k * 4 + 3) (.string (mtext (k0 + 4 * k + 3)))) k0 (k + 1) := by
  intro j hj
  rcases Nat.lt_or_ge j k with hlt | hge
  · obtain ⟨e0, e1, e2, e3⟩ := h j hlt
    refine ⟨?_, ?_, ?_, ?_⟩
    · rw [Array.getElem?_setIfInBounds_ne (by omega), Array.getElem?_setIfInBounds_ne (by omega), Array.getElem?_setIfInBounds_ne (by omega), Array.getElem?_setIfInBounds_ne (by omega)]; exact e0
    · rw [Array.getElem?_setIfInBounds_ne (by omega), Array.getElem?_setIfInBounds_ne (by omega), Array.getElem?_setIfInBounds_ne (by omega), Array.getElem?_setIfInBounds_ne (by omega)]; exact e1
    · rw [Array.getElem?_setIfInBounds_ne (by omega), Array.getElem?_setIfInBounds_ne (by omega), Array.getElem?_setIfInBounds_ne (by omega), Array.getElem?_setIfInBounds_ne (by omega)]; exact e2
    · rw [Array.getElem?_setIfInBounds_ne (by omega), Array.getElem?_setIfInBounds_ne (by omega), Array.getElem?_setIfInBounds_ne (by omega), Array.getElem?_setIfInBounds_ne (by omega)]; exact e3
  · obtain rfl : j = k := by omega
    refine ⟨?_, ?_, ?_, ?_⟩
    · rw [Array.getElem?_setIfInBounds_ne (by omega), Array.getElem?_setIfInBounds_ne (by omega), Array.getElem?_setIfInBounds_ne (by omega)]; rw [Array.getElem?_setIfInBounds_self_of_lt (by first | omega | (simp only [Array.size_setIfInBounds]; omega))]
    · rw [Array.getElem?_setIfInBounds_ne (by omega), Array.getElem?_setIfInBounds_ne (by omega)]; rw [Array.getElem?_setIfInBounds_self_of_lt (by first | omega | (simp only [Array.size_setIfInBounds]; omega))]
    · rw [Array.getElem?_setIfInBounds_ne (by omega)]; rw [Array.getElem?_setIfInBounds_self_of_lt (by first | omega | (simp only [Array.size_setIfInBounds]; omega))]
    · rw [Array.getElem?_setIfInBounds_self_of_lt (by first | omega | (simp only [Array.size_setIfInBounds]; omega))]
def MadeMarksCmd (B : Nat) (E : TypeId) (k0 len n : Nat) (w : World) (e : Ending) (w' : World) : Prop :=
  e = .returned (.int .i64 ((k0 + 4 * len : Nat) : Int)) ∧ w.grownBy w' (some B) ∧ ∃ cur, Row w' B E cur ∧ cur.size = n ∧ MarkedCmd cur k0 len

end Go.Proofs.Ytblpebdjbenphaa
