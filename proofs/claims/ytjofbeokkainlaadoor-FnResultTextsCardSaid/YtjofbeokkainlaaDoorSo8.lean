
/- What Sorted computes in the program: the records in order, in a row of its own. Only new blocks are made. -/
import Derived.Test.YtjofbeokkainlaaDoorSo6
import Derived.Test.YtjofbeokkainlaaDoorSo7
import Derived.Test.YtjofbeokkainlaaDoorMg18
namespace Go.Proofs.YtjofbeokkainlaaDoor
open Go.ChangeShapes Go.WideShapes Go.ChangeAt Go.RowKit
open Go.Sort (swp PermIn SortedIn SWO)
set_option linter.unusedVariables false
set_option maxRecDepth 100000

theorem run_copy_none2 {P : Program} (w : World) (dT sT ty elem : TypeId) (d a : Option Addr) (dLen dCap sLen sCap : Nat) (hu : P.underlying dT = some (.slice elem)) (hs : (P.info? elem).map (·.size) = some 2) (hn : Nat.min sLen dLen = 0) :
    (Builtin.copy_ #[dT, sT] ty #[.slice d dLen dCap, .slice a sLen sCap]).run P w = .ok (goInt 0) w := by
  cases hq : P.info? elem with
  | none => simp [hq] at hs
  | some i =>
    have hl : ∀ (x : Addr), (loadCells x 0).run P w = .ok #[] w := fun x => by simpa using run_loadCells_list (P := P) w x [] (by simp)
    cases d <;> cases a <;> simp [Builtin.copy_, run_underlying hu, Builtin.lenOf, Builtin.firstCells, sizeOf, typeInfo, hq, hn, storeCells, hl]
theorem sizeRec : (Tryd.prog.info? 30).map (·.size) = some 2 := by kernel_rfl

theorem laid_cells (l : Recs) : Laid (cellsL l).toArray l l.length := by
  intro j hj
  obtain ⟨h1, h2⟩ := cellsL_get l j hj
  exact ⟨by simpa using h1, by simpa using h2⟩
theorem sortedB_not {l : Recs} (h : recsOkB l = false) : sortedB l = [] := by unfold sortedB; rw [h]; rfl
theorem sortedB_is {l : Recs} (h : recsOkB l = true) : sortedB l = sortL l := by unfold sortedB; rw [h]; rfl
/-- Records laid down in a new row are ready to be sorted. -/
theorem rowR_new {base g n : Nat} {W w : World} {l : Recs} (hl : l.length = n) (hok : recsOkB l = true) (hr : Row w g 30 (cellsL l).toArray) (hB : Below base W w) : RowR base g n W l.toArray w := by
  obtain ⟨h6, h40⟩ := recsOk_parts hok
  refine ⟨by simpa using hl, ⟨_, hr, by simp [cellsL_len, hl], ?_⟩, hB, fun i hi => ?_⟩
  · have := laid_cells l
    rw [hl] at this
    simpa using this
  · have := h40 i (by omega)
    unfold okAt okB at this
    simpa using of_decide_eq_true this
theorem made_of_sort {g n cp : Nat} {W w' : World} {l : Recs} {V' : RA} (hl : l.length = n) (hn : n ≤ 600) (hbg : W.heap.size ≤ g) (hcp : n ≤ cp ∧ cp ≤ maxLen) (h : RowR W.heap.size g n W V' w') (hp : PermIn 0 n l.toArray V') (hs : SortedIn ltR 0 n V') :
    MadeRs (sortL l) W (.returned (.slice (some ⟨g, 0, none⟩) n cp)) w' := by
  have e := sorted_row (by simpa using hl) hp hs
  simp only at e
  have hlen : (sortL l).length = n := by rw [(sortL_perm l).length_eq]; exact hl
  obtain ⟨h1, ⟨cur, hr, hc, hla⟩, hB, _⟩ := h
  rw [e] at hla
  exact ⟨some ⟨g, 0, none⟩, cp, by rw [hlen], .inr ⟨g, cur, rfl, hbg, hr, by rw [hlen]; omega, by rw [hlen]; exact hla⟩, hB, by rw [hlen]; exact hcp.1, hcp.2, fun h => by cases h⟩

theorem sortedB_few (l : Recs) : (sortedB l).length ≤ 600 ∧ ∀ i, i < (sortedB l).length → (keyAt (sortedB l) i).size ≤ 40 := by
  cases h : recsOkB l with
  | false => rw [sortedB_not h]; exact ⟨Nat.zero_le _, fun i hi => by simp at hi⟩
  | true =>
    rw [sortedB_is h]
    obtain ⟨h1, h2⟩ := recsOk_parts h
    refine ⟨by rw [(sortL_perm l).length_eq]; exact h1, fun i hi => ?_⟩
    have hm := (sortL_perm l).mem_iff.1 (List.getElem_mem hi)
    obtain ⟨k, hk, e⟩ := List.getElem_of_mem hm
    have := h2 k hk
    unfold okAt okB at this
    have h40 := of_decide_eq_true this
    rw [at_get _ i hi, at_get _ k hk] at e
    have e1 : keyAt l k = keyAt (sortL l) i := congrArg Prod.fst e
    rw [← e1]; exact h40
end Go.Proofs.YtjofbeokkainlaaDoor
