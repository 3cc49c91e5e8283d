
/- Marks in records; keys as slices of texts that stay while other rows are marked. Only the marked row and new blocks change. -/
import Derived.Test.YtjofbeokkainlaaDoorMg33
import Derived.Test.YtjofbeokkainlaaDoorMg3
namespace Go.Proofs.YtjofbeokkainlaaDoor
open Go.ChangeShapes Go.WideShapes Go.ChangeAt Go.RowKit
set_option linter.unusedVariables false
set_option maxRecDepth 100000

def MarkedRecs (B : Nat) (E : TypeId) (q : Nat) (w : World) (e : Ending) (w' : World) : Prop :=
  e = .returned (.int .i64 (q : Int)) ∧ w.grownBy w' (some B)

theorem grown_below {w a b : World} {row : Option Nat} (hg : w.grownBy a row) (hB : Below a.heap.size a b) : w.grownBy b row :=
  ⟨hB.os.trans hg.os, hB.tape.trans hg.tape, hB.output.trans hg.output, Nat.le_trans hg.size hB.size, fun i hi hne => (hB.block i (Nat.lt_of_lt_of_le hi hg.size)).trans (hg.block i hi hne)⟩
theorem grown_set {w a : World} {B : Nat} (hg : w.grownBy a (some B)) (j : Nat) (x : Value) : w.grownBy (a.setCell ⟨B, j, none⟩ x) (some B) :=
  ⟨hg.os, hg.tape, hg.output, by have := hg.size; simpa [World.setCell] using this, fun i hi hne => (Below.heap_setCell _ _ _ _ (fun e => hne (by rw [e]))).trans (hg.block i hi hne)⟩

theorem keysTo_mem (l : Recs) : ∀ k, ∀ x ∈ keysTo l k, ∃ i, i < k ∧ x = keyAt l i
  | 0, x, hx => by simp [keysTo] at hx
  | k + 1, x, hx => by
    unfold keysTo at hx
    rcases List.mem_append.1 hx with h | h
    · obtain ⟨i, hi, he⟩ := keysTo_mem l k x h
      exact ⟨i, by omega, he⟩
    · split at h
      · exact ⟨k, by omega, by simpa using h⟩
      · simp at h
theorem keysB_short {w : World} {a : Option Addr} {len : Nat} {l : Recs} (h : RecsAt w a len l) : (∀ x ∈ keysB l, x.size ≤ maxLen) ∧ (keysB l).length ≤ len := by
  unfold keysB
  split
  · refine ⟨fun x hx => ?_, by rw [← h.length]; exact keysTo_len l _⟩
    obtain ⟨i, hi, rfl⟩ := keysTo_mem l _ x hx
    exact h.keys i (by rw [← h.length]; exact hi)
  · exact ⟨fun x hx => by simp at hx, Nat.zero_le _⟩
end Go.Proofs.YtjofbeokkainlaaDoor
