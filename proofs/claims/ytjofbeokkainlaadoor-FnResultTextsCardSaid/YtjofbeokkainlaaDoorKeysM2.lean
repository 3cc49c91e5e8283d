
/- The keys of a run: strictly increasing, and just those that are found. Plain mathematics. -/
import Derived.Test.YtjofbeokkainlaaDoorMg17
import Derived.Test.YtjofbeokkainlaaDoorKeys3
namespace Go.Proofs.YtjofbeokkainlaaDoor
open Go.ChangeShapes Go.WideShapes Go.ChangeAt Go.RowKit
set_option linter.unusedVariables false
set_option maxRecDepth 100000

theorem sameKey_iff (s u : ByteArray) : sameKey s u = true ↔ s = u := by
  unfold sameKey
  rw [beq_iff_eq]
  exact ⟨toList_inj, fun h => by rw [h]⟩
theorem findAux_true {key : ByteArray} : ∀ {l : Recs} {i : Nat}, i < l.length → keyAt l i = key → (findAux key l).2 = true := by
  intro l i hi hk
  cases h : (findAux key l).2 with
  | true => rfl
  | false =>
    by_cases hall : ∀ j, j < l.length → sameKey (keyAt l j) key = false
    · have := hall i hi
      rw [← Bool.not_eq_true, sameKey_iff] at this
      exact absurd hk this
    · have hex : ∃ j, j < l.length ∧ sameKey (keyAt l j) key = true := by
        refine Classical.byContradiction fun hn => hall fun j hj => ?_
        rw [← Bool.not_eq_true]
        exact fun hs => hn ⟨j, hj, hs⟩
      obtain ⟨j, hj, hs⟩ := hex
      have hmin : ∀ n, ∀ j, j ≤ n → j < l.length → sameKey (keyAt l j) key = true → ∃ k, k < l.length ∧ (∀ m, m < k → sameKey (keyAt l m) key = false) ∧ sameKey (keyAt l k) key = true := by
        intro n
        induction n with
        | zero => intro j h1 h2 h3; obtain rfl : j = 0 := by omega
                  exact ⟨0, h2, fun m hm => by omega, h3⟩
        | succ n ih =>
          intro j h1 h2 h3
          by_cases hm : ∃ m, m < j ∧ sameKey (keyAt l m) key = true
          · obtain ⟨m, hm1, hm2⟩ := hm
            exact ih m (by omega) (by omega) hm2
          · exact ⟨j, h2, fun m hm1 => by rw [← Bool.not_eq_true]; exact fun h => hm ⟨m, hm1, h⟩, h3⟩
      obtain ⟨k, hk1, hk2, hk3⟩ := hmin j j (Nat.le_refl _) hj hs
      rw [findAux_hit key l k hk1 hk2 hk3] at h
      cases h
theorem findAux_mem {key : ByteArray} {l : Recs} (h : (findAux key l).2 = true) : ∃ i, i < l.length ∧ keyAt l i = key := by
  refine Classical.byContradiction fun hn => ?_
  rw [findAux_none key l (fun j hj => by rw [← Bool.not_eq_true, sameKey_iff]; exact fun e => hn ⟨j, hj, e⟩)] at h
  cases h

theorem keysTo_all (l : Recs) : ∀ k i, i < k → keyAt l i ∈ keysTo l k
  | 0, i, h => by omega
  | k + 1, i, h => by
    cases hn : newKey l k with
    | true =>
      rw [keysTo_yes hn]
      rcases Nat.lt_or_ge i k with hl | hl
      · exact List.mem_append_left _ (keysTo_all l k i hl)
      · obtain rfl : i = k := by omega
        simp
    | false =>
      rw [keysTo_no hn]
      rcases Nat.lt_or_ge i k with hl | hl
      · exact keysTo_all l k i hl
      · obtain rfl : i = k := by omega
        unfold newKey at hn
        rw [Bool.or_eq_false_iff, decide_eq_false_iff_not, Bool.not_eq_false'] at hn
        have := toList_inj (eq_of_beq hn.2)
        rw [this]
        exact keysTo_all l i (i - 1) (by omega)
theorem order_keys {l : Recs} (h : InOrder l) {i j : Nat} (hij : i < j) (hj : j < l.length) : ¬ (keyAt l j).toList < (keyAt l i).toList := by
  have := List.pairwise_iff_getElem.1 h i j (by omega) hj hij
  rw [leR_iff, at_get l i (by omega), at_get l j hj] at this
  exact fun hlt => this (.inl hlt)
theorem keysTo_rise {l : Recs} (h : InOrder l) : ∀ k, k ≤ l.length → List.Pairwise (fun a b : ByteArray => a.toList < b.toList) (keysTo l k)
  | 0, _ => List.Pairwise.nil
  | k + 1, hk => by
    have ih := keysTo_rise h k (by omega)
    cases hn : newKey l k with
    | false => rw [keysTo_no hn]; exact ih
    | true =>
      rw [keysTo_yes hn, List.pairwise_append]
      refine ⟨ih, List.pairwise_singleton _ _, fun x hx y hy => ?_⟩
      simp at hy
      subst hy
      obtain ⟨i, hi, rfl⟩ := keysTo_mem l k x hx
      have hne : keyAt l (k - 1) ≠ keyAt l k := by
        intro e
        unfold newKey at hn
        rw [Bool.or_eq_true, decide_eq_true_eq, Bool.not_eq_true'] at hn
        rcases hn with h0 | h0
        · omega
        · rw [e] at h0; simp at h0
      have h1 : ¬ (keyAt l k).toList < (keyAt l (k - 1)).toList := order_keys h (by omega) (by omega)
      have h2 : (keyAt l (k - 1)).toList < (keyAt l k).toList := by
        refine Classical.byContradiction fun hlt => hne (toList_inj (List.le_antisymm h1 hlt))
      rcases Nat.lt_or_ge i (k - 1) with hl | hl
      · have h3 := order_keys h hl (by omega)
        refine Classical.byContradiction fun hc => ?_
        rcases Classical.em ((keyAt l i).toList < (keyAt l (k - 1)).toList) with h4 | h4
        · exact hc (List.lt_trans h4 h2)
        · have := List.le_antisymm h3 h4
          rw [this] at hc
          exact hc h2
      · obtain rfl : i = k - 1 := by omega
        exact h2
/-- What the law asks of keys. -/
structure KeysGood (l : Recs) (key : ByteArray) (K : Strs) : Prop where
  found : ∀ i, i < K.length → (findB l (strAt K i)).2 = true
  rise : ∀ i j, i < j → j < K.length → (strAt K i).toList < (strAt K j).toList
  just : (K.any fun x => x.toList == key.toList) = (findB l key).2
theorem str_get (K : Strs) (i : Nat) (h : i < K.length) : strAt K i = K[i] := by
  unfold strAt
  rw [List.getD_eq_getElem?_getD, List.getElem?_eq_getElem h]; rfl
theorem keys_good (l : Recs) (key : ByteArray) : KeysGood l key (keysB l) := by
  cases hr : runOkB l with
  | false =>
    have e : keysB l = [] := by unfold keysB; rw [hr]; rfl
    have e2 : findB l key = (0, false) := by unfold findB; rw [hr]; rfl
    rw [e]
    exact ⟨fun i hi => by simp at hi, fun i j _ hj => by simp at hj, by rw [e2]; rfl⟩
  | true =>
    have e : keysB l = keysTo l l.length := by unfold keysB; rw [hr]; rfl
    have ho := ((runOk_iff l).1 hr).2
    rw [e]
    refine ⟨fun i hi => ?_, fun i j hij hj => ?_, ?_⟩
    · unfold findB
      rw [hr, if_pos rfl]
      obtain ⟨m, hm, he⟩ := keysTo_mem l l.length _ (List.getElem_mem hi)
      refine findAux_true hm ?_
      rw [← he, str_get _ i hi]
    · rw [str_get _ i (by omega), str_get _ j hj]
      exact List.pairwise_iff_getElem.1 (keysTo_rise ho l.length (Nat.le_refl _)) i j (by omega) hj hij
    · unfold findB
      rw [hr, if_pos rfl]
      cases hf : (findAux key l).2 with
      | true =>
        obtain ⟨i, hi, rfl⟩ := findAux_mem hf
        rw [List.any_eq_true]
        exact ⟨_, keysTo_all l l.length i hi, by simp⟩
      | false =>
        rw [← Bool.not_eq_true, List.any_eq_true]
        rintro ⟨x, hx, he⟩
        obtain ⟨i, hi, rfl⟩ := keysTo_mem l l.length x hx
        rw [findAux_true hi (toList_inj (eq_of_beq he))] at hf
        cases hf
theorem any_take (K : Strs) (key : ByteArray) (k : Nat) (h : k < K.length) : ((K.take (k + 1)).any fun x => x.toList == key.toList) = (((K.take k).any fun x => x.toList == key.toList) || ((strAt K k).toList == key.toList)) := by
  rw [List.take_succ_eq_append_getElem h, List.any_append, str_get K k h]
  simp
end Go.Proofs.YtjofbeokkainlaaDoor
