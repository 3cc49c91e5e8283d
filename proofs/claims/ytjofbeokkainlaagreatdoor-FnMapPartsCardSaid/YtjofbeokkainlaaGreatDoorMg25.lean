/- Texts put together, as a claim holds at most sixty files. -/
import Derived.Test.YtjofbeokkainlaaGreatDoorMg23
import Derived.Test.YtjofbeokkainlaaGreatDoorMg24
import Derived.Test.YtjofbeokkainlaaGreatDoorMg2
namespace Go.Proofs.YtjofbeokkainlaaGreatDoor
open Go.ChangeShapes Go.WideShapes Go.ChangeAt Go.RowKit
set_option linter.unusedVariables false
set_option maxRecDepth 100000

/-- Records and code of the first k words, each alone. -/
def eachTo (l : Instrs) (ws : Strs) : Nat → Recs × Int
  | 0 => ([], 0)
  | k + 1 => if (eachTo l ws k).2 ≠ 0 then eachTo l ws k else if (evalR l [strAt ws k]).2 ≠ 0 then ([], (evalR l [strAt ws k]).2) else ((eachTo l ws k).1 ++ (evalR l [strAt ws k]).1, 0)
def wordsB (s : ByteArray) : Strs := strsOf ((wordsL s.data.toList).take 20)
def lineR (l : Instrs) (each : Bool) (s : ByteArray) : Recs × Int :=
  if progB l = true ∧ s.size ≤ 200 then (if each = true then eachTo l (wordsB s) (wordsB s).length else evalR l (wordsB s)) else ([], 1)
theorem eachTo_bad {l : Instrs} {ws : Strs} {k n : Nat} (h : (eachTo l ws k).2 ≠ 0) (hk : k ≤ n) : eachTo l ws n = eachTo l ws k := by
  induction n with
  | zero => obtain rfl : k = 0 := by omega
            rfl
  | succ n ih =>
    rcases Nat.lt_or_ge n k with h1 | h1
    · obtain rfl : k = n + 1 := by omega
      rfl
    · have := ih h1
      rw [eachTo, this, if_pos h]
theorem eachTo_stop {l : Instrs} {ws : Strs} {k : Nat} {O : Recs} (h : eachTo l ws k = (O, 0)) {V : Recs} {c : Int} (hr : evalR l [strAt ws k] = (V, c)) (hc : c ≠ 0) : eachTo l ws (k + 1) = ([], c) := by
  rw [eachTo, if_neg (by rw [h]; exact fun h => h rfl), hr, if_pos hc]
theorem eachTo_go {l : Instrs} {ws : Strs} {k : Nat} {O : Recs} (h : eachTo l ws k = (O, 0)) {V : Recs} {c : Int} (hr : evalR l [strAt ws k] = (V, c)) (hc : c = 0) : eachTo l ws (k + 1) = (O ++ V, 0) := by
  rw [eachTo, if_neg (by rw [h]; exact fun h => h rfl), hr, if_neg (by simpa using hc), h]
theorem eachTo_facts {l : Instrs} (ws : Strs) (hn : ∀ i, i < l.length → In64 (ins1 l i)) : ∀ k, (eachTo l ws k).1.length ≤ 30 * k ∧ (∀ r ∈ (eachTo l ws k).1, r.1.size ≤ 40 ∧ In64 r.2) ∧ (0 ≤ (eachTo l ws k).2 ∧ (eachTo l ws k).2 ≤ 2) ∧ ((eachTo l ws k).2 ≠ 0 → (eachTo l ws k).1 = [])
  | 0 => ⟨by simp [eachTo], fun r hr => absurd hr (by simp [eachTo]), ⟨by simp [eachTo], by simp [eachTo]⟩, fun _ => rfl⟩
  | k + 1 => by
    have ih := eachTo_facts ws hn k
    have he := evalR_facts (ws := [strAt ws k]) hn
    rw [eachTo]
    split
    · exact ⟨by have := ih.1; omega, ih.2⟩
    · split
      · exact ⟨by simp, fun r hr => absurd hr (by simp), he.2.2.1, fun _ => rfl⟩
      · refine ⟨by rw [List.length_append]; have := ih.1; have := he.1; omega, fun r hr => ?_, ⟨by simp, by simp⟩, fun h => absurd rfl h⟩
        rcases List.mem_append.1 hr with hr | hr
        · exact ih.2.1 r hr
        · exact he.2.1 r hr
theorem wordsB_few (s : ByteArray) : (wordsB s).length ≤ 20 := by
  unfold wordsB strsOf
  rw [List.length_map]; exact List.length_take_le _ _
theorem lineR_facts {l : Instrs} {each : Bool} {s : ByteArray} (hn : ∀ i, i < l.length → In64 (ins1 l i)) : (lineR l each s).1.length ≤ 600 ∧ (∀ r ∈ (lineR l each s).1, r.1.size ≤ 40 ∧ In64 r.2) ∧ (0 ≤ (lineR l each s).2 ∧ (lineR l each s).2 ≤ 2) ∧ ((lineR l each s).2 ≠ 0 → (lineR l each s).1 = []) := by
  unfold lineR
  split
  · split
    · have h := eachTo_facts (l := l) (wordsB s) hn (wordsB s).length
      have := wordsB_few s
      exact ⟨by have := h.1; omega, h.2⟩
    · have h := evalR_facts (l := l) (ws := wordsB s) hn
      exact ⟨by have := h.1; omega, h.2⟩
  · exact ⟨by simp, fun r hr => absurd hr (by simp), ⟨by simp, by simp⟩, fun _ => rfl⟩
end Go.Proofs.YtjofbeokkainlaaGreatDoor
namespace Go.Proofs.YtjofbeokkainlaaGreatDoor
open Go.ChangeShapes Go.WideShapes Go.ChangeAt Go.RowKit
set_option linter.unusedVariables false
set_option maxRecDepth 100000

/-- Records and code of the first k lines. -/
def emitTo (l : Instrs) (each : Bool) (L : Strs) : Nat → Recs × Int
  | 0 => ([], 0)
  | k + 1 => if (emitTo l each L k).2 ≠ 0 then emitTo l each L k else if (lineR l each (strAt L k)).2 ≠ 0 then ([], (lineR l each (strAt L k)).2) else ((emitTo l each L k).1 ++ (lineR l each (strAt L k)).1, 0)
theorem emitTo_bad {l : Instrs} {each : Bool} {L : Strs} {k n : Nat} (h : (emitTo l each L k).2 ≠ 0) (hk : k ≤ n) : emitTo l each L n = emitTo l each L k := by
  induction n with
  | zero => obtain rfl : k = 0 := by omega
            rfl
  | succ n ih =>
    rcases Nat.lt_or_ge n k with h1 | h1
    · obtain rfl : k = n + 1 := by omega
      rfl
    · have := ih h1
      rw [emitTo, this, if_pos h]
theorem emitTo_stop {l : Instrs} {each : Bool} {L : Strs} {k : Nat} {O : Recs} (h : emitTo l each L k = (O, 0)) {V : Recs} {c : Int} (hr : lineR l each (strAt L k) = (V, c)) (hc : c ≠ 0) : emitTo l each L (k + 1) = ([], c) := by
  rw [emitTo, if_neg (by rw [h]; exact fun h => h rfl), hr, if_pos hc]
theorem emitTo_go {l : Instrs} {each : Bool} {L : Strs} {k : Nat} {O : Recs} (h : emitTo l each L k = (O, 0)) {V : Recs} {c : Int} (hr : lineR l each (strAt L k) = (V, c)) (hc : c = 0) : emitTo l each L (k + 1) = (O ++ V, 0) := by
  rw [emitTo, if_neg (by rw [h]; exact fun h => h rfl), hr, if_neg (by simpa using hc), h]
theorem emitTo_facts {l : Instrs} {each : Bool} (L : Strs) (hn : ∀ i, i < l.length → In64 (ins1 l i)) : ∀ k, (emitTo l each L k).1.length ≤ 600 * k ∧ (∀ r ∈ (emitTo l each L k).1, r.1.size ≤ 40 ∧ In64 r.2) ∧ (0 ≤ (emitTo l each L k).2 ∧ (emitTo l each L k).2 ≤ 2) ∧ ((emitTo l each L k).2 ≠ 0 → (emitTo l each L k).1 = [])
  | 0 => ⟨by simp [emitTo], fun r hr => absurd hr (by simp [emitTo]), ⟨by simp [emitTo], by simp [emitTo]⟩, fun _ => rfl⟩
  | k + 1 => by
    have ih := emitTo_facts (each := each) L hn k
    have he := lineR_facts (each := each) (s := strAt L k) hn
    rw [emitTo]
    split
    · exact ⟨by have := ih.1; omega, ih.2⟩
    · split
      · exact ⟨by simp, fun r hr => absurd hr (by simp), he.2.2.1, fun _ => rfl⟩
      · refine ⟨by rw [List.length_append]; have := ih.1; have := he.1; omega, fun r hr => ?_, ⟨by simp, by simp⟩, fun h => absurd rfl h⟩
        rcases List.mem_append.1 hr with hr | hr
        · exact ih.2.1 r hr
        · exact he.2.1 r hr
/-- Records and code of a split with these lines. -/
def emitR (l : Instrs) (each : Bool) (L : Strs) : Recs × Int :=
  if (emitTo l each L L.length).2 = 0 ∧ 600 < (emitTo l each L L.length).1.length then ([], 3) else emitTo l each L L.length
theorem emitR_bad {l : Instrs} {each : Bool} {L : Strs} {c : Int} {n : Nat} (hn : L.length = n) (h : emitTo l each L n = ([], c)) (hc : c ≠ 0) : emitR l each L = ([], c) := by
  unfold emitR
  rw [hn, h, if_neg (fun h2 => hc h2.1)]
theorem emitR_many {l : Instrs} {each : Bool} {L : Strs} {O : Recs} {n : Nat} (hn : L.length = n) (h : emitTo l each L n = (O, 0)) (ho : 600 < O.length) : emitR l each L = ([], 3) := by
  unfold emitR
  rw [hn, h, if_pos ⟨rfl, ho⟩]
theorem emitR_all {l : Instrs} {each : Bool} {L : Strs} {O : Recs} {n : Nat} (hn : L.length = n) (h : emitTo l each L n = (O, 0)) (ho : ¬ 600 < O.length) : emitR l each L = (O, 0) := by
  unfold emitR
  rw [hn, h, if_neg (fun h2 => ho h2.2)]
theorem emitR_facts {l : Instrs} {each : Bool} (L : Strs) (hn : ∀ i, i < l.length → In64 (ins1 l i)) : (emitR l each L).1.length ≤ 600 ∧ (∀ r ∈ (emitR l each L).1, r.1.size ≤ 40 ∧ In64 r.2) ∧ (0 ≤ (emitR l each L).2 ∧ (emitR l each L).2 ≤ 3) ∧ ((emitR l each L).2 ≠ 0 → (emitR l each L).1 = []) := by
  have h := emitTo_facts (each := each) L hn L.length
  unfold emitR
  split
  · exact ⟨by simp, fun r hr => absurd hr (by simp), ⟨by simp, by simp⟩, fun _ => rfl⟩
  · rename_i hno
    refine ⟨?_, h.2.1, ⟨h.2.2.1.1, by have := h.2.2.1.2; omega⟩, h.2.2.2⟩
    by_cases hc : (emitTo l each L L.length).2 = 0
    · have : ¬ 600 < (emitTo l each L L.length).1.length := fun h => hno ⟨hc, h⟩
      omega
    · rw [h.2.2.2 hc]; simp
/-- The records of part p of n. -/
def partL (V : Recs) (n p : Int) : Recs := V.filter fun r => decide (partN r.1 n = p)
theorem partL_in {V : Recs} {n p : Int} {k : Nat} (hk : k < V.length) (h : partN (keyAt V k) n = p) : partL (V.take (k + 1)) n p = partL (V.take k) n p ++ [(keyAt V k, numAt V k)] := by
  have e : V[k] = (keyAt V k, numAt V k) := by unfold keyAt numAt; simp [List.getD_eq_getElem?_getD, hk]
  unfold partL
  rw [List.take_succ_eq_append_getElem hk, List.filter_append, e]
  simp [h]
theorem partL_out {V : Recs} {n p : Int} {k : Nat} (hk : k < V.length) (h : ¬ partN (keyAt V k) n = p) : partL (V.take (k + 1)) n p = partL (V.take k) n p := by
  have e : V[k] = (keyAt V k, numAt V k) := by unfold keyAt numAt; simp [List.getD_eq_getElem?_getD, hk]
  unfold partL
  rw [List.take_succ_eq_append_getElem hk, List.filter_append, e]
  simp [h]
theorem partL_few (V : Recs) (n p : Int) : (partL V n p).length ≤ V.length := List.length_filter_le _ _
theorem partL_mem {V : Recs} {n p : Int} {r : ByteArray × Int} (h : r ∈ partL V n p) : r ∈ V := (List.mem_filter.1 h).1
end Go.Proofs.YtjofbeokkainlaaGreatDoor
