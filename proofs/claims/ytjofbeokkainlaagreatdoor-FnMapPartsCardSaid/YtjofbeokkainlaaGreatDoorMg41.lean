/- Texts put together, as a claim holds at most sixty files. -/
import Derived.Test.YtjofbeokkainlaaGreatDoorMg38
import Derived.Test.YtjofbeokkainlaaGreatDoorMg11
import Derived.Test.YtjofbeokkainlaaGreatDoorMg18
namespace Go.Proofs.YtjofbeokkainlaaGreatDoor
open Go.ChangeShapes Go.WideShapes Go.ChangeAt Go.RowKit
set_option linter.unusedVariables false
set_option maxRecDepth 100000

def MarkedRecs (B : Nat) (E : TypeId) (q : Nat) (w : World) (e : Ending) (w' : World) : Prop :=
  e = .returned (.int .i64 (q : Int)) ∧ w.grownBy w' (some B)

theorem grown_below {w a b : World} {row : Option Nat} (hg : w.grownBy a row) (hB : Below a.heap.size a b) : w.grownBy b row :=
  ⟨hB.os.trans hg.os, hB.tape.trans hg.tape, hB.output.trans hg.output, Nat.le_trans hg.size hB.size, fun i hi hne => (hB.block i (Nat.lt_of_lt_of_le hi hg.size)).trans (hg.block i hi hne)⟩
theorem grown_set {w a : World} {B : Nat} (hg : w.grownBy a (some B)) (j : Nat) (x : Value) : w.grownBy (a.setCell ⟨B, j, none⟩ x) (some B) :=
  ⟨hg.os, hg.tape, hg.output, by have := hg.size; simpa [World.setCell] using this, fun i hi hne => (Below.heap_setCell _ _ _ _ (fun e => hne (by rw [e]))).trans (hg.block i hi hne)⟩

theorem keysTo_mem (l : Recs) : ∀ k, ∀ x ∈ keysTo l k, ∃ i, i < k ∧ x = keyAt l i
  | 0, x, hx => by simp [keysTo] at hx
  | k + 1, x, hx => by
    unfold keysTo at hx
    rcases List.mem_append.1 hx with h | h
    · obtain ⟨i, hi, he⟩ := keysTo_mem l k x h
      exact ⟨i, by omega, he⟩
    · split at h
      · exact ⟨k, by omega, by simpa using h⟩
      · simp at h
theorem keysB_short {w : World} {a : Option Addr} {len : Nat} {l : Recs} (h : RecsAt w a len l) : (∀ x ∈ keysB l, x.size ≤ maxLen) ∧ (keysB l).length ≤ len := by
  unfold keysB
  split
  · refine ⟨fun x hx => ?_, by rw [← h.length]; exact keysTo_len l _⟩
    obtain ⟨i, hi, rfl⟩ := keysTo_mem l _ x hx
    exact h.keys i (by rw [← h.length]; exact hi)
  · exact ⟨fun x hx => by simp at hx, Nat.zero_le _⟩
end Go.Proofs.YtjofbeokkainlaaGreatDoor
namespace Go.Proofs.YtjofbeokkainlaaGreatDoor
open Go.ChangeShapes Go.WideShapes Go.ChangeAt Go.RowKit
set_option linter.unusedVariables false
set_option maxRecDepth 100000

theorem sameKey_iff (s u : ByteArray) : sameKey s u = true ↔ s = u := by
  unfold sameKey
  rw [beq_iff_eq]
  exact ⟨toList_inj, fun h => by rw [h]⟩
theorem findAux_true {key : ByteArray} : ∀ {l : Recs} {i : Nat}, i < l.length → keyAt l i = key → (findAux key l).2 = true := by
  intro l i hi hk
  cases h : (findAux key l).2 with
  | true => rfl
  | false =>
    by_cases hall : ∀ j, j < l.length → sameKey (keyAt l j) key = false
    · have := hall i hi
      rw [← Bool.not_eq_true, sameKey_iff] at this
      exact absurd hk this
    · have hex : ∃ j, j < l.length ∧ sameKey (keyAt l j) key = true := by
        refine Classical.byContradiction fun hn => hall fun j hj => ?_
        rw [← Bool.not_eq_true]
        exact fun hs => hn ⟨j, hj, hs⟩
      obtain ⟨j, hj, hs⟩ := hex
      have hmin : ∀ n, ∀ j, j ≤ n → j < l.length → sameKey (keyAt l j) key = true → ∃ k, k < l.length ∧ (∀ m, m < k → sameKey (keyAt l m) key = false) ∧ sameKey (keyAt l k) key = true := by
        intro n
        induction n with
        | zero => intro j h1 h2 h3; obtain rfl : j = 0 := by omega
                  exact ⟨0, h2, fun m hm => by omega, h3⟩
        | succ n ih =>
          intro j h1 h2 h3
          by_cases hm : ∃ m, m < j ∧ sameKey (keyAt l m) key = true
          · obtain ⟨m, hm1, hm2⟩ := hm
            exact ih m (by omega) (by omega) hm2
          · exact ⟨j, h2, fun m hm1 => by rw [← Bool.not_eq_true]; exact fun h => hm ⟨m, hm1, h⟩, h3⟩
      obtain ⟨k, hk1, hk2, hk3⟩ := hmin j j (Nat.le_refl _) hj hs
      rw [findAux_hit key l k hk1 hk2 hk3] at h
      cases h
theorem findAux_mem {key : ByteArray} {l : Recs} (h : (findAux key l).2 = true) : ∃ i, i < l.length ∧ keyAt l i = key := by
  refine Classical.byContradiction fun hn => ?_
  rw [findAux_none key l (fun j hj => by rw [← Bool.not_eq_true, sameKey_iff]; exact fun e => hn ⟨j, hj, e⟩)] at h
  cases h

theorem keysTo_all (l : Recs) : ∀ k i, i < k → keyAt l i ∈ keysTo l k
  | 0, i, h => by omega
  | k + 1, i, h => by
    cases hn : newKey l k with
    | true =>
      rw [keysTo_yes hn]
      rcases Nat.lt_or_ge i k with hl | hl
      · exact List.mem_append_left _ (keysTo_all l k i hl)
      · obtain rfl : i = k := by omega
        simp
    | false =>
      rw [keysTo_no hn]
      rcases Nat.lt_or_ge i k with hl | hl
      · exact keysTo_all l k i hl
      · obtain rfl : i = k := by omega
        unfold newKey at hn
        rw [Bool.or_eq_false_iff, decide_eq_false_iff_not, Bool.not_eq_false'] at hn
        have := toList_inj (eq_of_beq hn.2)
        rw [this]
        exact keysTo_all l i (i - 1) (by omega)
theorem order_keys {l : Recs} (h : InOrder l) {i j : Nat} (hij : i < j) (hj : j < l.length) : ¬ (keyAt l j).toList < (keyAt l i).toList := by
  have := List.pairwise_iff_getElem.1 h i j (by omega) hj hij
  rw [leR_iff, at_get l i (by omega), at_get l j hj] at this
  exact fun hlt => this (.inl hlt)
theorem keysTo_rise {l : Recs} (h : InOrder l) : ∀ k, k ≤ l.length → List.Pairwise (fun a b : ByteArray => a.toList < b.toList) (keysTo l k)
  | 0, _ => List.Pairwise.nil
  | k + 1, hk => by
    have ih := keysTo_rise h k (by omega)
    cases hn : newKey l k with
    | false => rw [keysTo_no hn]; exact ih
    | true =>
      rw [keysTo_yes hn, List.pairwise_append]
      refine ⟨ih, List.pairwise_singleton _ _, fun x hx y hy => ?_⟩
      simp at hy
      subst hy
      obtain ⟨i, hi, rfl⟩ := keysTo_mem l k x hx
      have hne : keyAt l (k - 1) ≠ keyAt l k := by
        intro e
        unfold newKey at hn
        rw [Bool.or_eq_true, decide_eq_true_eq, Bool.not_eq_true'] at hn
        rcases hn with h0 | h0
        · omega
        · rw [e] at h0; simp at h0
      have h1 : ¬ (keyAt l k).toList < (keyAt l (k - 1)).toList := order_keys h (by omega) (by omega)
      have h2 : (keyAt l (k - 1)).toList < (keyAt l k).toList := by
        refine Classical.byContradiction fun hlt => hne (toList_inj (List.le_antisymm h1 hlt))
      rcases Nat.lt_or_ge i (k - 1) with hl | hl
      · have h3 := order_keys h hl (by omega)
        refine Classical.byContradiction fun hc => ?_
        rcases Classical.em ((keyAt l i).toList < (keyAt l (k - 1)).toList) with h4 | h4
        · exact hc (List.lt_trans h4 h2)
        · have := List.le_antisymm h3 h4
          rw [this] at hc
          exact hc h2
      · obtain rfl : i = k - 1 := by omega
        exact h2
/-- What the law asks of keys. -/
structure KeysGood (l : Recs) (key : ByteArray) (K : Strs) : Prop where
  found : ∀ i, i < K.length → (findB l (strAt K i)).2 = true
  rise : ∀ i j, i < j → j < K.length → (strAt K i).toList < (strAt K j).toList
  just : (K.any fun x => x.toList == key.toList) = (findB l key).2
theorem str_get (K : Strs) (i : Nat) (h : i < K.length) : strAt K i = K[i] := by
  unfold strAt
  rw [List.getD_eq_getElem?_getD, List.getElem?_eq_getElem h]; rfl
theorem keys_good (l : Recs) (key : ByteArray) : KeysGood l key (keysB l) := by
  cases hr : runOkB l with
  | false =>
    have e : keysB l = [] := by unfold keysB; rw [hr]; rfl
    have e2 : findB l key = (0, false) := by unfold findB; rw [hr]; rfl
    rw [e]
    exact ⟨fun i hi => by simp at hi, fun i j _ hj => by simp at hj, by rw [e2]; rfl⟩
  | true =>
    have e : keysB l = keysTo l l.length := by unfold keysB; rw [hr]; rfl
    have ho := ((runOk_iff l).1 hr).2
    rw [e]
    refine ⟨fun i hi => ?_, fun i j hij hj => ?_, ?_⟩
    · unfold findB
      rw [hr, if_pos rfl]
      obtain ⟨m, hm, he⟩ := keysTo_mem l l.length _ (List.getElem_mem hi)
      refine findAux_true hm ?_
      rw [← he, str_get _ i hi]
    · rw [str_get _ i (by omega), str_get _ j hj]
      exact List.pairwise_iff_getElem.1 (keysTo_rise ho l.length (Nat.le_refl _)) i j (by omega) hj hij
    · unfold findB
      rw [hr, if_pos rfl]
      cases hf : (findAux key l).2 with
      | true =>
        obtain ⟨i, hi, rfl⟩ := findAux_mem hf
        rw [List.any_eq_true]
        exact ⟨_, keysTo_all l l.length i hi, by simp⟩
      | false =>
        rw [← Bool.not_eq_true, List.any_eq_true]
        rintro ⟨x, hx, he⟩
        obtain ⟨i, hi, rfl⟩ := keysTo_mem l l.length x hx
        rw [findAux_true hi (toList_inj (eq_of_beq he))] at hf
        cases hf
theorem any_take (K : Strs) (key : ByteArray) (k : Nat) (h : k < K.length) : ((K.take (k + 1)).any fun x => x.toList == key.toList) = (((K.take k).any fun x => x.toList == key.toList) || ((strAt K k).toList == key.toList)) := by
  rw [List.take_succ_eq_append_getElem h, List.any_append, str_get K k h]
  simp
end Go.Proofs.YtjofbeokkainlaaGreatDoor
