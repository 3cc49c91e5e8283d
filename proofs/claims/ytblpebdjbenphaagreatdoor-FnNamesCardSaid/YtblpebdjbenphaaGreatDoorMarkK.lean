
/- The laws' marks in a store of the call's own rows (nil slices too), and whether they are still there. -/
import Derived.Test.YtblpebdjbenphaaGreatDoorStoK
import Derived.Test.YtblpebdjbenphaaGreatDoorMarkSto
namespace Go.Proofs.YtblpebdjbenphaaGreatDoor
open Go.ChangeShapes Go.WideShapes Go.ChangeAt Go.RowKit
set_option linter.unusedVariables false
set_option maxRecDepth 100000

/-- Only the rows of q1 and q2 and new blocks may have turned. -/
structure ButK (q1 q2 : Option Addr) (w w' : World) : Prop where
  os : w'.os = w.os
  tape : w'.tape = w.tape
  output : w'.output = w.output
  size : w.heap.size ≤ w'.heap.size
  block : ∀ i, i < w.heap.size → (∀ g, q1 = some ⟨g, 0, none⟩ → i ≠ g) → (∀ g, q2 = some ⟨g, 0, none⟩ → i ≠ g) → w'.heap[i]? = w.heap[i]?
theorem ButK.of {q1 q2 : Option Addr} {w w1 : World} (h : Below w.heap.size w w1) : ButK q1 q2 w w1 := ⟨h.os, h.tape, h.output, h.size, fun i hi _ _ => h.block i hi⟩
theorem ButK.trans {q1 q2 : Option Addr} {w w1 w2 : World} (h : ButK q1 q2 w w1) (k : ButK q1 q2 w1 w2) : ButK q1 q2 w w2 :=
  ⟨k.os.trans h.os, k.tape.trans h.tape, k.output.trans h.output, Nat.le_trans h.size k.size, fun i hi a b => (k.block i (Nat.lt_of_lt_of_le hi h.size) a b).trans (h.block i hi a b)⟩
theorem ButK.row {q1 q2 : Option Addr} {w w1 : World} {X : Nat} {T : TypeId} {cur : Array Value} (h : ButK q1 q2 w w1) (r : Row w X T cur) (h1 : ∀ g, q1 = some ⟨g, 0, none⟩ → X ≠ g) (h2 : ∀ g, q2 = some ⟨g, 0, none⟩ → X ≠ g) : Row w1 X T cur := (h.block X r.lt h1 h2).trans r
theorem ButK.below {q1 q2 : Option Addr} {w0 w w1 : World} {base : Nat} (h : ButK q1 q2 w w1) (k : Below base w0 w) (hb : base ≤ w.heap.size) (h1 : ∀ g, q1 = some ⟨g, 0, none⟩ → base ≤ g) (h2 : ∀ g, q2 = some ⟨g, 0, none⟩ → base ≤ g) : Below base w0 w1 :=
  k.trans ⟨h.os, h.tape, h.output, h.size, fun i hi => h.block i (by omega) (fun g hg => by have := h1 g hg; omega) (fun g hg => by have := h2 g hg; omega)⟩
def MKo (w : World) (q : Option Addr) (n k0 : Nat) : Prop := n = 0 ∨ ∃ g cur, q = some ⟨g, 0, none⟩ ∧ Row w g 34 cur ∧ MarkedObj cur k0 n
def MKg (w : World) (q : Option Addr) (n k0 : Nat) : Prop := n = 0 ∨ ∃ g cur, q = some ⟨g, 0, none⟩ ∧ Row w g 57 cur ∧ MarkedGone cur k0 n
theorem MKo.keep {w w1 : World} {q : Option Addr} {n k0 : Nat} (h : MKo w q n k0) (hB : Below w.heap.size w w1) : MKo w1 q n k0 := by
  rcases h with h | ⟨g, cur, h1, h2, h3⟩
  · exact .inl h
  · exact .inr ⟨g, cur, h1, h2.keep hB, h3⟩
theorem MKg.keep {w w1 : World} {q : Option Addr} {n k0 : Nat} (h : MKg w q n k0) (hB : Below w.heap.size w w1) : MKg w1 q n k0 := by
  rcases h with h | ⟨g, cur, h1, h2, h3⟩
  · exact .inl h
  · exact .inr ⟨g, cur, h1, h2.keep hB, h3⟩
theorem MKo.grown {w w1 : World} {q : Option Addr} {n k0 : Nat} {row : Option Nat} (h : MKo w q n k0) (hg : w.grownBy w1 row) (hne : ∀ g, q = some ⟨g, 0, none⟩ → row ≠ some g) : MKo w1 q n k0 := by
  rcases h with h | ⟨g, cur, h1, h2, h3⟩
  · exact .inl h
  · exact .inr ⟨g, cur, h1, h2.grown hg (hne g h1), h3⟩
def MadeMK (q1 q2 : Option Addr) (n1 n2 : Nat) (w : World) (e : Ending) (w' : World) : Prop := e = .returned (.int .i64 ((1 + 3 * n1 + 2 * n2 : Nat) : Int)) ∧ ButK q1 q2 w w' ∧ MKo w' q1 n1 1 ∧ MKg w' q2 n2 (1 + 3 * n1)
def HeldMK (n1 n2 : Nat) (w : World) (e : Ending) (w' : World) : Prop := e = .returned (.int .i64 ((1 + 3 * n1 + 2 * n2 : Nat) : Int)) ∧ Below w.heap.size w w'

theorem ret_i64 {a b : Int} (h : a = b) : Ending.returned (.int .i64 a) = .returned (.int .i64 b) := by rw [h]
theorem own_if {q : Option Addr} {n : Nat} {i : Nat} (h : (if n = 0 then none else (Value.slice q 0 0).ownBlock) = some i) : ∃ a, q = some a ∧ a.block = i := by
  split at h
  · cases h
  · cases q with
    | none => cases h
    | some a => simp only [Value.ownBlock, Option.some.injEq] at h; exact ⟨a, rfl, h⟩
theorem AtB.own {base : Nat} {w : World} {q : Option Addr} {c : Nat} (h : AtB base w q c) {n i : Nat} (hi : (if n = 0 then none else (Value.slice q 0 0).ownBlock) = some i) : q = some ⟨i, 0, none⟩ ∧ base ≤ i ∧ i < w.heap.size := by
  obtain ⟨a, ha, hb⟩ := own_if hi
  rcases h with ⟨h, _⟩ | ⟨g, h1, h2, h3⟩
  · rw [h] at ha; cases ha
  · rw [h1] at ha
    simp only [Option.some.injEq] at ha
    subst ha
    simp only at hb
    subst hb
    exact ⟨h1, h2, h3⟩

end Go.Proofs.YtblpebdjbenphaaGreatDoor
