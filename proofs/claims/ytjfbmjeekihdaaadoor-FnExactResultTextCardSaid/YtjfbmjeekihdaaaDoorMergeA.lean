
/- What MergeRuns and MergeAll compute in the program: the records of all runs, in order, if all are runs and they are few. Only new blocks are made. -/
import Derived.Test.YtjfbmjeekihdaaaDoorMergeN
namespace Go.Proofs.YtjfbmjeekihdaaaDoor
open Go.ChangeShapes Go.WideShapes Go.ChangeAt Go.RowKit
set_option linter.unusedVariables false
set_option maxRecDepth 100000

/-- The end of a function that returns records in a row of its own, whose room is known, and a truth value. -/
def MadeRsC (W : Recs) (b : Bool) (w : World) (e : Ending) (w' : World) : Prop :=
  ∃ q cp, e = .returned (.tuple #[.slice q W.length cp, .bool b]) ∧ Rs w.heap.size w' q W ∧ Below w.heap.size w w' ∧ W.length ≤ cp ∧ cp ≤ maxLen ∧ (q = none → cp = 0)

/-- Slices of records whose room is known. -/
def RunSc (w : World) (a : Option Addr) (len : Nat) (LS : List Recs) : Prop :=
  LS.length = len ∧ (len = 0 ∨ ∃ b off, a = some ⟨b, off, none⟩ ∧ b < w.heap.size ∧ ∀ i, i < len → ∃ q n c, w.cell? ⟨b, off + i, none⟩ = some (.slice q n c) ∧ RecsAt w q n (LS.getD i []) ∧ (q = none → n = 0 ∧ c = 0) ∧ n ≤ c ∧ c ≤ maxLen ∧ n ≤ 1048576)
theorem RunSc.keep {w w1 : World} {a : Option Addr} {len : Nat} {LS : List Recs} (h : RunSc w a len LS) (hB : Below w.heap.size w w1) : RunSc w1 a len LS := by
  refine ⟨h.1, ?_⟩
  rcases h.2 with h0 | ⟨b, off, ha, hb, hc⟩
  · exact .inl h0
  · refine .inr ⟨b, off, ha, Nat.lt_of_lt_of_le hb hB.size, fun i hi => ?_⟩
    obtain ⟨q, n, c, h1, h2, h3⟩ := hc i hi
    exact ⟨q, n, c, (hB.cell (p := ⟨b, off + i, none⟩) hb).trans h1, h2.keep hB, h3⟩
theorem RunSc.runs {w : World} {a : Option Addr} {len : Nat} {LS : List Recs} (h : RunSc w a len LS) : RunSs w a len LS := by
  refine ⟨h.1, ?_⟩
  rcases h.2 with h0 | ⟨b, off, ha, hb, hc⟩
  · exact .inl h0
  · refine .inr ⟨b, off, ha, hb, fun i hi => ?_⟩
    obtain ⟨q, n, c, h1, h2, h3, _⟩ := hc i hi
    exact ⟨q, n, c, h1, h2, h3⟩

/-- So far: the records of the first k runs, in order. -/
structure AllSt (LS : List Recs) (k : Nat) (w wr : World) (q : Option Addr) (n cp : Nat) : Prop where
  rs : Rs w.heap.size wr q (sortL (allTo LS k))
  below : Below w.heap.size w wr
  size : (sortL (allTo LS k)).length = n
  cap : n ≤ cp ∧ cp ≤ maxLen ∧ (q = none → cp = 0)
  ok : ∀ j, j < k → runOkB (LS.getD j []) = true
  few : (allTo LS k).length ≤ 600
theorem sortL_len (l : Recs) : (sortL l).length = l.length := (sortL_perm l).length_eq
theorem runOk_sort {l : Recs} (h : ∀ r ∈ l, r.1.size ≤ 40) (h6 : l.length ≤ 600) : runOkB (sortL l) = true :=
  (runOk_iff _).2 ⟨recsOk_mem (fun r hr => h r ((sortL_perm l).mem_iff.1 hr)) (by rw [sortL_len]; exact h6), sortL_order l⟩
theorem AllSt.recs {LS : List Recs} {k : Nat} {w wr : World} {q : Option Addr} {n cp : Nat} (h : AllSt LS k w wr q n cp) : RecsAt wr q n (sortL (allTo LS k)) := by
  have hf := h.few
  have hs := h.size
  rw [sortL_len] at hs
  refine recs_of_rs h.rs h.size (by unfold maxLen; omega) fun i hi => ?_
  have hm := allTo_mem h.ok _ ((sortL_perm _).mem_iff.1 (List.getElem_mem (by rw [h.size]; exact hi)))
  rw [at_get _ i (by rw [h.size]; exact hi)] at hm
  have h41 : (keyAt (sortL (allTo LS k)) i).size ≤ 40 := hm
  unfold maxLen; omega
theorem rs_none {base n : Nat} {w : World} {q : Option Addr} {W : Recs} (h : Rs base w q W) (hn : W.length = n) (hq : q = none) : n = 0 := by
  rcases h with h0 | ⟨g, cur, e, _⟩
  · omega
  · rw [hq] at e; cases e
theorem mergeL_sort_step {LS : List Recs} {k : Nat} (hk : k < LS.length) (h : runOkB (LS.getD k []) = true) : mergeL (sortL (allTo LS k)) (LS.getD k []) = sortL (allTo LS (k + 1)) := by
  rw [← mergeL_sort (sortL_order _) ((runOk_iff _).1 h).2, allTo_step LS k hk]
  exact sortL_of (sortL_order _) ((sortL_perm _).trans (List.Perm.append_right _ (sortL_perm _).symm))

end Go.Proofs.YtjfbmjeekihdaaaDoor
