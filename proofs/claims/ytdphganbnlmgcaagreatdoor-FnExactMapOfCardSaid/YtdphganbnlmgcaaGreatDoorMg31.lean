/- Texts put together, as a claim holds at most sixty files. -/
import Derived.Test.YtdphganbnlmgcaaGreatDoorMg6
import Derived.Deep.Slices
import Derived.Test.YtdphganbnlmgcaaGreatDoorMg25
import Derived.Test.YtdphganbnlmgcaaGreatDoorMg26
import Derived.Laws.AppendOwnNone
namespace Go.Proofs.YtdphganbnlmgcaaGreatDoor
open Go.ChangeShapes Go.WideShapes Go.ChangeAt Go.RowKit Go.Deep
set_option linter.unusedVariables false
set_option maxRecDepth 100000

theorem add_plain (b off i : Nat) : (⟨b, off, none⟩ : Addr).add i = ⟨b, off + i, none⟩ := by
  unfold Addr.add; split <;> simp_all

end Go.Proofs.YtdphganbnlmgcaaGreatDoor
namespace Go.Proofs.YtdphganbnlmgcaaGreatDoor
open Go.ChangeShapes Go.WideShapes Go.ChangeAt Go.RowKit
set_option linter.unusedVariables false
set_option maxRecDepth 100000

/-- The end of a function that returns records in a row of its own, and a truth value. -/
def MadeRsM (W : Recs) (b : Bool) (w : World) (e : Ending) (w' : World) : Prop :=
  ∃ q cp, e = .returned (.tuple #[.slice q W.length cp, .bool b]) ∧ Rs w.heap.size w' q W ∧ Below w.heap.size w w'

/-- The slice (a, len) holds slices of records. -/
structure RunSs (w : World) (a : Option Addr) (len : Nat) (LS : List Recs) : Prop where
  length : LS.length = len
  src : len = 0 ∨ ∃ b off, a = some ⟨b, off, none⟩ ∧ b < w.heap.size ∧ ∀ i, i < len → ∃ q n c, w.cell? ⟨b, off + i, none⟩ = some (.slice q n c) ∧ RecsAt w q n (LS.getD i []) ∧ (q = none → n = 0 ∧ c = 0)

def mallK (LS : List Recs) : Bool := LS.all runOkB && decide (LS.flatten.length ≤ 600)
def mallW (LS : List Recs) : Recs := if mallK LS then sortL LS.flatten else []
def allTo (LS : List Recs) (k : Nat) : Recs := (LS.take k).flatten
theorem allTo_step (LS : List Recs) (k : Nat) (h : k < LS.length) : allTo LS (k + 1) = allTo LS k ++ LS.getD k [] := by
  have e : LS.getD k [] = LS[k] := by rw [List.getD_eq_getElem?_getD, List.getElem?_eq_getElem h]; rfl
  unfold allTo
  rw [e, List.take_add_one, List.getElem?_eq_getElem h, List.flatten_append, Option.toList_some, List.flatten_singleton]
theorem allTo_le (LS : List Recs) (k : Nat) : (allTo LS k).length ≤ LS.flatten.length := by
  unfold allTo
  conv => rhs; rw [← List.take_append_drop k LS, List.flatten_append, List.length_append]
  omega
theorem mall_no {LS : List Recs} {k : Nat} (hk : k < LS.length) (h : runOkB (LS.getD k []) = false) : mallK LS = false ∧ mallW LS = [] := by
  have : mallK LS = false := by
    unfold mallK
    rw [Bool.and_eq_false_iff]
    left
    rw [List.all_eq_false]
    refine ⟨LS[k], List.getElem_mem hk, ?_⟩
    rw [List.getD_eq_getElem?_getD, List.getElem?_eq_getElem hk] at h
    simpa using h
  exact ⟨this, by unfold mallW; rw [this]; rfl⟩
theorem mall_many {LS : List Recs} {k : Nat} (h : 600 < (allTo LS k).length) : mallK LS = false ∧ mallW LS = [] := by
  have h1 := allTo_le LS k
  have : mallK LS = false := by
    unfold mallK
    rw [decide_eq_false (by omega), Bool.and_false]
  exact ⟨this, by unfold mallW; rw [this]; rfl⟩
theorem mall_yes {LS : List Recs} (h : ∀ j, j < LS.length → runOkB (LS.getD j []) = true) (h6 : LS.flatten.length ≤ 600) : mallK LS = true ∧ mallW LS = sortL LS.flatten := by
  have : mallK LS = true := by
    unfold mallK
    rw [decide_eq_true h6, Bool.and_true, List.all_eq_true]
    intro x hx
    obtain ⟨j, hj, rfl⟩ := List.getElem_of_mem hx
    have := h j hj
    rwa [List.getD_eq_getElem?_getD, List.getElem?_eq_getElem hj] at this
  exact ⟨this, by unfold mallW; rw [this]; rfl⟩
theorem runOk_mem {l : Recs} (h : runOkB l = true) : ∀ r ∈ l, r.1.size ≤ 40 := by
  intro r hr
  obtain ⟨j, hj, rfl⟩ := List.getElem_of_mem hr
  have := (runOk_keys h).2 j hj
  rw [at_get l j hj]
  exact this
theorem recsOk_mem {l : Recs} (h : ∀ r ∈ l, r.1.size ≤ 40) (h6 : l.length ≤ 600) : recsOkB l = true := by
  unfold recsOkB
  rw [decide_eq_true h6, Bool.true_and, List.all_eq_true]
  intro i hi
  have hil := List.mem_range.1 hi
  have := h l[i] (List.getElem_mem hil)
  rw [at_get l i hil] at this
  exact okB_yes this
theorem sortedB_yes {l : Recs} (h : ∀ r ∈ l, r.1.size ≤ 40) (h6 : l.length ≤ 600) : sortedB l = sortL l := by
  unfold sortedB
  rw [recsOk_mem h h6]; rfl
theorem allTo_mem {LS : List Recs} {k : Nat} (h : ∀ j, j < k → runOkB (LS.getD j []) = true) : ∀ r ∈ allTo LS k, r.1.size ≤ 40 := by
  intro r hr
  unfold allTo at hr
  obtain ⟨l, hl, hr⟩ := List.mem_flatten.1 hr
  obtain ⟨j, hj, rfl⟩ := List.getElem_of_mem hl
  rw [List.length_take] at hj
  have := h j (by omega)
  rw [List.getD_eq_getElem?_getD, List.getElem?_eq_getElem (by omega)] at this
  rw [List.getElem_take] at hr
  exact runOk_mem this r hr

theorem mall_two (l k : Recs) : mallK [l, k] = (runOkB l && runOkB k && decide (l.length + k.length ≤ 600)) := by
  unfold mallK
  simp [List.all_cons, List.flatten_cons]
def mergeK (l k : Recs) : Bool := runOkB l && runOkB k && decide (l.length + k.length ≤ 600)
def mergeW (l k : Recs) : Recs := if mergeK l k then mergeL l k else []
theorem mall_two_w (l k : Recs) : mallW [l, k] = mergeW l k := by
  unfold mallW mergeW
  rw [mall_two]
  show (if mergeK l k = true then _ else _) = _
  cases h : mergeK l k with
  | false => rfl
  | true =>
    rw [if_pos rfl, if_pos rfl]
    unfold mergeK at h
    rw [Bool.and_eq_true, Bool.and_eq_true] at h
    show sortL (l ++ (k ++ [])) = _
    rw [List.append_nil]
    exact mergeL_sort ((runOk_iff l).1 h.1.1).2 ((runOk_iff k).1 h.1.2).2

end Go.Proofs.YtdphganbnlmgcaaGreatDoor
namespace Go.Proofs.YtdphganbnlmgcaaGreatDoor
open Go.ChangeShapes Go.WideShapes Go.ChangeAt Go.RowKit
set_option linter.unusedVariables false
set_option maxRecDepth 100000

end Go.Proofs.YtdphganbnlmgcaaGreatDoor
