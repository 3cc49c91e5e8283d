
/- Answers out of a result's runs, as plain data: the run of the key's part has the answer. No code. -/
import Derived.Test.YtjofbeokkainlaaDoorMg35
import Derived.Test.YtjofbeokkainlaaDoorCombM
import Derived.Test.YtjofbeokkainlaaDoorMg27
import Derived.Test.YtjofbeokkainlaaDoorKeysM2
import Derived.Test.YtjofbeokkainlaaDoorMg17
namespace Go.Proofs.YtjofbeokkainlaaDoor
open Go.ChangeShapes Go.WideShapes Go.ChangeAt Go.RowKit
set_option linter.unusedVariables false
set_option maxRecDepth 100000

theorem combW_run (op : Int) (V : Recs) : runOkB (combW op V) = true := by
  cases h1 : opOkB op with
  | false => rw [comb_bad h1]; rfl
  | true =>
    cases h2 : recsOkB V with
    | false => rw [comb_not h2]; rfl
    | true =>
      obtain ⟨hup, _⟩ := combW_holds h1 h2
      have hfew := combW_few op V
      refine (runOk_iff _).2 ⟨recsOk_mem (fun r hr => ?_) hfew.1, List.Pairwise.imp (fun h => (leR_iff' _ _).2 (.inl h)) hup⟩
      obtain ⟨i, hi, e⟩ := List.mem_iff_getElem.1 hr
      have := hfew.2 i hi
      rw [at_get _ i hi] at e
      rw [← e]
      exact this
theorem combW_mem {op : Int} {V : Recs} {r : ByteArray × Int} (h : r ∈ combW op V) : ∃ s ∈ V, s.1 = r.1 := by
  unfold combW at h
  split at h
  · obtain ⟨j, hj, e⟩ := cTo_keys op _ _ (Nat.le_refl _) r h
    cases hok : recsOkB V with
    | false => rw [sortedB_not hok] at hj; simp at hj
    | true =>
      rw [sortedB_is hok] at hj e
      exact ⟨(sortL V)[j], (sortL_perm V).mem_iff.1 (List.getElem_mem hj), by rw [e, at_get _ j hj]⟩
  · simp at h
theorem liftW_mem {op : Int} {V : Recs} {r : ByteArray × Int} (h : r ∈ liftW op V) : ∃ s ∈ V, s.1 = r.1 := by
  unfold liftW at h
  split at h
  · unfold liftL at h
    obtain ⟨s, hs, rfl⟩ := List.mem_map.1 h
    exact ⟨s, hs, rfl⟩
  · simp at h
theorem ofR_part {op n1 : Int} {V : Recs} {p : Nat} {r : ByteArray × Int} (h : r ∈ ofR op n1 V p) : partN r.1 n1 = (p : Int) := by
  unfold ofR at h
  obtain ⟨s, hs, e1⟩ := combW_mem h
  obtain ⟨u, hu, e2⟩ := liftW_mem hs
  have h3 := (List.mem_filter.1 hu).2
  rw [decide_eq_true_eq] at h3
  rw [← e1, ← e2]
  exact h3
theorem mapJ_part {l : Instrs} {each : Bool} {op n1 : Int} {m : Strs} {sl : Nat} {t : Int} {p : Nat} {r : ByteArray × Int} (h : r ∈ (mapJ l each op n1 m sl t).1.getD p []) : partN r.1 n1 = (p : Int) := by
  unfold mapJ at h
  split at h
  · unfold mapR at h
    split at h
    · simp only at h
      by_cases hp : p < n1.toNat
      · rw [runsR_at hp] at h
        exact ofR_part h
      · rw [List.getD_eq_getElem?_getD, List.getElem?_eq_none (by rw [runsR_len]; omega)] at h
        simp at h
    · simp at h
  · simp at h
theorem mallW_mem {LS : List Recs} {r : ByteArray × Int} (h : r ∈ mallW LS) : ∃ L ∈ LS, r ∈ L := by
  unfold mallW at h
  split at h
  · exact List.mem_flatten.1 ((sortL_perm _).mem_iff.1 h)
  · simp at h
theorem redJ_part {l : Instrs} {each : Bool} {op n1 : Int} {m : Strs} {sl p : Nat} {r : ByteArray × Int} (h : r ∈ (redJ l each op n1 m sl (p : Nat)).1) : partN r.1 n1 = (p : Int) := by
  unfold redJ at h
  split at h
  · split at h
    · simp at h
    · split at h
      · simp only at h
        obtain ⟨s, hs, e1⟩ := combW_mem h
        obtain ⟨L, hL, hs2⟩ := mallW_mem hs
        unfold redL at hL
        obtain ⟨t, _, rfl⟩ := List.mem_map.1 hL
        rw [Int.toNat_natCast] at hs2
        rw [← e1]
        exact mapJ_part hs2
      · simp at h
  · simp at h
theorem redJ_run (l : Instrs) (each : Bool) (op n1 : Int) (m : Strs) (sl : Nat) (p : Int) : runOkB (redJ l each op n1 m sl p).1 = true := by
  unfold redJ
  split
  · split
    · rfl
    · split
      · exact combW_run _ _
      · rfl
  · rfl
/-- Runs, each of the keys of its own part. -/
structure PartsR (LS : List Recs) : Prop where
  run : ∀ i, i < LS.length → runOkB (LS.getD i []) = true
  part : ∀ i, i < LS.length → ∀ r ∈ LS.getD i [], partN r.1 (LS.length : Int) = (i : Int)
theorem partsR_nil : PartsR [] := ⟨fun i hi => absurd hi (by simp), fun i hi => absurd hi (by simp)⟩
theorem resR_parts (l : Instrs) (each : Bool) (op n1 : Int) (m : Strs) (sl : Nat) : PartsR (resR l each op n1 m sl).2.2.2 := by
  unfold resR
  split
  · rename_i hj
    have hp := jobB_parts hj
    split
    · exact partsR_nil
    · split
      · exact partsR_nil
      · refine ⟨fun i hi => ?_, fun i hi r hr => ?_⟩
        · rw [resL_len] at hi
          rw [resL_at _ _ _ _ _ _ hi]
          exact redJ_run _ _ _ _ _ _ _
        · rw [resL_len] at hi ⊢
          rw [resL_at _ _ _ _ _ _ hi] at hr
          have := redJ_part hr
          rw [show ((n1.toNat : Nat) : Int) = n1 by omega]
          exact this
  · exact partsR_nil

theorem findAux_no {key : ByteArray} {L : Recs} (h : ∀ r ∈ L, r.1 ≠ key) : findAux key L = (0, false) :=
  findAux_none key L fun j hj => by
    rw [← Bool.not_eq_true, sameKey_iff]
    exact fun e => h L[j] (List.getElem_mem hj) (by rw [at_get L j hj]; exact e)
theorem findAux_app (key : ByteArray) : ∀ A B : Recs, findAux key (A ++ B) = if (findAux key A).2 then findAux key A else findAux key B
  | [], B => rfl
  | r :: A, B => by
    have ih := findAux_app key A B
    have e1 : findAux key (r :: A ++ B) = if sameKey r.1 key then (r.2, true) else findAux key (A ++ B) := rfl
    have e2 : findAux key (r :: A) = if sameKey r.1 key then (r.2, true) else findAux key A := rfl
    rw [e1, e2]
    cases sameKey r.1 key with
    | true => rfl
    | false => exact ih
theorem findAux_pair {key : ByteArray} {A : Recs} (h : (findAux key A).2 = false) : findAux key A = (0, false) := by
  by_cases hex : ∃ i, i < A.length ∧ keyAt A i = key
  · obtain ⟨i, hi, e⟩ := hex
    rw [findAux_true hi e] at h
    cases h
  · exact findAux_none key A fun j hj => by
      rw [← Bool.not_eq_true, sameKey_iff]
      exact fun e => hex ⟨j, hj, e⟩
/-- The first of all runs' records with this key. -/
def ansL (LS : List Recs) (key : ByteArray) : Int × Bool := findAux key LS.flatten
theorem ans_take {LS : List Recs} {key : ByteArray} {k : Nat} (hk : k < LS.length) (h : ∀ i, i < k → findAux key (LS.getD i []) = (0, false)) : findAux key (LS.take k).flatten = (0, false) := by
  refine findAux_no fun r hr e => ?_
  obtain ⟨L, hL, hr2⟩ := List.mem_flatten.1 hr
  obtain ⟨i, hi, rfl⟩ := List.mem_iff_getElem.1 hL
  have hi2 : i < k := by rw [List.length_take] at hi; omega
  have h1 := h i hi2
  rw [List.getD_eq_getElem?_getD, List.getElem?_eq_getElem (by omega)] at h1
  rw [List.getElem_take] at hr2
  obtain ⟨j, hj, e2⟩ := List.mem_iff_getElem.1 hr2
  have := findAux_true (key := key) hj (by rw [at_get _ j hj] at e2; rw [← e, ← e2])
  simp only [Option.getD_some] at h1
  rw [h1] at this
  cases this
theorem ans_hit {LS : List Recs} {key : ByteArray} {k : Nat} (hk : k < LS.length) (h : ∀ i, i < k → findAux key (LS.getD i []) = (0, false)) {n : Int} (hn : findAux key (LS.getD k []) = (n, true)) : ansL LS key = (n, true) := by
  have e : LS = LS.take k ++ LS.getD k [] :: LS.drop (k + 1) := by
    rw [List.getD_eq_getElem?_getD, List.getElem?_eq_getElem hk]
    simp only [Option.getD_some]
    rw [List.getElem_cons_drop, List.take_append_drop]
  unfold ansL
  have e2 : LS.flatten = (LS.take k).flatten ++ (LS.getD k [] ++ (LS.drop (k + 1)).flatten) := by
    conv => lhs; rw [e]
    rw [List.flatten_append, List.flatten_cons]
  rw [e2, findAux_app, ans_take hk h, if_neg (by simp), findAux_app, hn, if_pos rfl]
theorem ans_none {LS : List Recs} {key : ByteArray} (h : ∀ i, i < LS.length → findAux key (LS.getD i []) = (0, false)) : ansL LS key = (0, false) := by
  refine findAux_no fun r hr e => ?_
  obtain ⟨L, hL, hr2⟩ := List.mem_flatten.1 hr
  obtain ⟨i, hi, rfl⟩ := List.mem_iff_getElem.1 hL
  have h1 := h i hi
  rw [List.getD_eq_getElem?_getD, List.getElem?_eq_getElem hi] at h1
  obtain ⟨j, hj, e2⟩ := List.mem_iff_getElem.1 hr2
  have := findAux_true (key := key) hj (by rw [at_get _ j hj] at e2; rw [← e, ← e2])
  simp only [Option.getD_some] at h1
  rw [h1] at this
  cases this
theorem findB_run {L : Recs} {key : ByteArray} (h : runOkB L = true) : findB L key = findAux key L := by unfold findB; rw [if_pos h]
/-- The run of the key's part has the answer. -/
theorem ans_part {LS : List Recs} {key : ByteArray} (h : PartsR LS) {k : Nat} (hk : k < LS.length) (hp : partN key (LS.length : Int) = (k : Int)) : ansL LS key = findB (LS.getD k []) key := by
  have hno : ∀ i, i < LS.length → i ≠ k → findAux key (LS.getD i []) = (0, false) := fun i hi hne => findAux_no fun r hr e => by
    have := h.part i hi r hr
    rw [e, hp] at this
    omega
  rw [findB_run (h.run k hk)]
  cases hb : (findAux key (LS.getD k [])).2 with
  | true =>
    obtain ⟨n, hn⟩ : ∃ n, findAux key (LS.getD k []) = (n, true) := ⟨_, by rw [← hb]⟩
    rw [hn]
    exact ans_hit hk (fun i hi => hno i (by omega) (by omega)) hn
  | false =>
    rw [findAux_pair hb]
    exact ans_none fun i hi => by
      by_cases e : i = k
      · subst e; exact findAux_pair hb
      · exact hno i hi e
end Go.Proofs.YtjofbeokkainlaaDoor
