
/- What a program makes of a line, as plain data. No code. -/
import Derived.Test.YthnlllbanfemaaaGreatDoorMg11
import Derived.Test.YthnlllbanfemaaaGreatDoorWords5
namespace Go.Proofs.YthnlllbanfemaaaGreatDoor
open Go.ChangeShapes Go.WideShapes Go.ChangeAt Go.RowKit
set_option linter.unusedVariables false
set_option maxRecDepth 100000

/-- Records and code of the first k words, each alone. -/
def eachTo (l : Instrs) (ws : Strs) : Nat → Recs × Int
  | 0 => ([], 0)
  | k + 1 => if (eachTo l ws k).2 ≠ 0 then eachTo l ws k else if (evalR l [strAt ws k]).2 ≠ 0 then ([], (evalR l [strAt ws k]).2) else ((eachTo l ws k).1 ++ (evalR l [strAt ws k]).1, 0)
def wordsB (s : ByteArray) : Strs := strsOf ((wordsL s.data.toList).take 20)
def lineR (l : Instrs) (each : Bool) (s : ByteArray) : Recs × Int :=
  if progB l = true ∧ s.size ≤ 200 then (if each = true then eachTo l (wordsB s) (wordsB s).length else evalR l (wordsB s)) else ([], 1)
theorem eachTo_bad {l : Instrs} {ws : Strs} {k n : Nat} (h : (eachTo l ws k).2 ≠ 0) (hk : k ≤ n) : eachTo l ws n = eachTo l ws k := by
  induction n with
  | zero => obtain rfl : k = 0 := by omega
            rfl
  | succ n ih =>
    rcases Nat.lt_or_ge n k with h1 | h1
    · obtain rfl : k = n + 1 := by omega
      rfl
    · have := ih h1
      rw [eachTo, this, if_pos h]
theorem eachTo_stop {l : Instrs} {ws : Strs} {k : Nat} {O : Recs} (h : eachTo l ws k = (O, 0)) {V : Recs} {c : Int} (hr : evalR l [strAt ws k] = (V, c)) (hc : c ≠ 0) : eachTo l ws (k + 1) = ([], c) := by
  rw [eachTo, if_neg (by rw [h]; exact fun h => h rfl), hr, if_pos hc]
theorem eachTo_go {l : Instrs} {ws : Strs} {k : Nat} {O : Recs} (h : eachTo l ws k = (O, 0)) {V : Recs} {c : Int} (hr : evalR l [strAt ws k] = (V, c)) (hc : c = 0) : eachTo l ws (k + 1) = (O ++ V, 0) := by
  rw [eachTo, if_neg (by rw [h]; exact fun h => h rfl), hr, if_neg (by simpa using hc), h]
theorem eachTo_facts {l : Instrs} (ws : Strs) (hn : ∀ i, i < l.length → In64 (ins1 l i)) : ∀ k, (eachTo l ws k).1.length ≤ 30 * k ∧ (∀ r ∈ (eachTo l ws k).1, r.1.size ≤ 40 ∧ In64 r.2) ∧ (0 ≤ (eachTo l ws k).2 ∧ (eachTo l ws k).2 ≤ 2) ∧ ((eachTo l ws k).2 ≠ 0 → (eachTo l ws k).1 = [])
  | 0 => ⟨by simp [eachTo], fun r hr => absurd hr (by simp [eachTo]), ⟨by simp [eachTo], by simp [eachTo]⟩, fun _ => rfl⟩
  | k + 1 => by
    have ih := eachTo_facts ws hn k
    have he := evalR_facts (ws := [strAt ws k]) hn
    rw [eachTo]
    split
    · exact ⟨by have := ih.1; omega, ih.2⟩
    · split
      · exact ⟨by simp, fun r hr => absurd hr (by simp), he.2.2.1, fun _ => rfl⟩
      · refine ⟨by rw [List.length_append]; have := ih.1; have := he.1; omega, fun r hr => ?_, ⟨by simp, by simp⟩, fun h => absurd rfl h⟩
        rcases List.mem_append.1 hr with hr | hr
        · exact ih.2.1 r hr
        · exact he.2.1 r hr
theorem wordsB_few (s : ByteArray) : (wordsB s).length ≤ 20 := by
  unfold wordsB strsOf
  rw [List.length_map]; exact List.length_take_le _ _
theorem lineR_facts {l : Instrs} {each : Bool} {s : ByteArray} (hn : ∀ i, i < l.length → In64 (ins1 l i)) : (lineR l each s).1.length ≤ 600 ∧ (∀ r ∈ (lineR l each s).1, r.1.size ≤ 40 ∧ In64 r.2) ∧ (0 ≤ (lineR l each s).2 ∧ (lineR l each s).2 ≤ 2) ∧ ((lineR l each s).2 ≠ 0 → (lineR l each s).1 = []) := by
  unfold lineR
  split
  · split
    · have h := eachTo_facts (l := l) (wordsB s) hn (wordsB s).length
      have := wordsB_few s
      exact ⟨by have := h.1; omega, h.2⟩
    · have h := evalR_facts (l := l) (ws := wordsB s) hn
      exact ⟨by have := h.1; omega, h.2⟩
  · exact ⟨by simp, fun r hr => absurd hr (by simp), ⟨by simp, by simp⟩, fun _ => rfl⟩
end Go.Proofs.YthnlllbanfemaaaGreatDoor
