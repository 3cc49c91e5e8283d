
/- The keys of merged runs, counted, as plain mathematics. -/
import Derived.Test.YtkpkifghjkmhoaaKeysM2
import Derived.Test.YtkpkifghjkmhoaaMergeS
namespace Go.Proofs.Ytkpkifghjkmhoaa
open Go.ChangeShapes Go.WideShapes Go.ChangeAt Go.RowKit
set_option linter.unusedVariables false
set_option maxRecDepth 100000

def Rise (K : Strs) : Prop := List.Pairwise (fun a b : ByteArray => a.toList < b.toList) K
theorem rise_eq : ∀ (A B : Strs), Rise A → Rise B → (∀ x, x ∈ A ↔ x ∈ B) → A = B
  | [], [], _, _, _ => rfl
  | [], b :: B, _, _, h => by have := (h b).2 (by simp); simp at this
  | a :: A, [], _, _, h => by have := (h a).1 (by simp); simp at this
  | a :: A, b :: B, hA, hB, h => by
    obtain ⟨a1, a2⟩ := List.pairwise_cons.1 hA
    obtain ⟨b1, b2⟩ := List.pairwise_cons.1 hB
    have hab : a = b := by
      have h1 := (h a).1 (by simp)
      have h2 := (h b).2 (by simp)
      rcases List.mem_cons.1 h1 with h1 | h1
      · exact h1
      · rcases List.mem_cons.1 h2 with h2 | h2
        · exact h2.symm
        · exact absurd (List.lt_trans (a1 b h2) (b1 a h1)) (List.lt_irrefl _)
    subst hab
    rw [rise_eq A B a2 b2 (fun x => by
      constructor
      · intro hx
        have := (h x).1 (by simp [hx])
        rcases List.mem_cons.1 this with h1 | h1
        · exact absurd (h1 ▸ a1 x hx) (List.lt_irrefl _)
        · exact h1
      · intro hx
        have := (h x).2 (by simp [hx])
        rcases List.mem_cons.1 this with h1 | h1
        · exact absurd (h1 ▸ b1 x hx) (List.lt_irrefl _)
        · exact h1)]
def fnd (l : Recs) (u : ByteArray) : Bool := (findB l u).2
theorem keys_rise (l : Recs) : Rise (keysB l) := by
  unfold keysB
  cases hr : runOkB l with
  | false => exact List.Pairwise.nil
  | true => exact keysTo_rise ((runOk_iff l).1 hr).2 l.length (Nat.le_refl _)
theorem mem_keys (l : Recs) (u : ByteArray) : u ∈ keysB l ↔ fnd l u = true := by
  have h := (keys_good l u).just
  unfold fnd
  rw [← h, List.any_eq_true]
  constructor
  · intro hu; exact ⟨u, hu, by simp⟩
  · rintro ⟨x, hx, he⟩
    rw [toList_inj (eq_of_beq he)] at hx
    exact hx
theorem keys_filter {l m : Recs} (h : ∀ u, fnd l u = true → fnd m u = true) : ((keysB m).filter (fnd l)).length = (keysB l).length := by
  have : (keysB m).filter (fnd l) = keysB l := rise_eq _ _ (List.Pairwise.filter _ (keys_rise m)) (keys_rise l) fun x => by
    rw [List.mem_filter, mem_keys, mem_keys]
    exact ⟨fun hx => hx.2, fun hx => ⟨h x hx, hx⟩⟩
  rw [this]
theorem filter_two (p q : ByteArray → Bool) : ∀ K : Strs, (∀ x ∈ K, (p x || q x) = true) → (K.filter p).length + (K.filter q).length = K.length + (K.filter fun x => p x && q x).length
  | [], _ => rfl
  | x :: K, h => by
    have ih := filter_two p q K (fun y hy => h y (by simp [hy]))
    have hx := h x (by simp)
    cases hp : p x <;> cases hq : q x
    · rw [hp, hq] at hx; cases hx
    · simp [hp, hq]; omega
    · simp [hp, hq]; omega
    · simp [hp, hq]; omega
theorem fnd_mem {l : Recs} (h : runOkB l = true) (u : ByteArray) : fnd l u = true ↔ ∃ r ∈ l, r.1 = u := by
  unfold fnd findB
  rw [h, if_pos rfl]
  constructor
  · intro hf
    obtain ⟨i, hi, e⟩ := findAux_mem hf
    exact ⟨l[i], List.getElem_mem hi, by rw [at_get l i hi]; exact e⟩
  · rintro ⟨r, hr, e⟩
    obtain ⟨i, hi, rfl⟩ := List.getElem_of_mem hr
    rw [at_get l i hi] at e
    exact findAux_true hi e
theorem fnd_merge {l k : Recs} (h : mergeK l k = true) (u : ByteArray) : fnd (mergeW l k) u = (fnd l u || fnd k u) := by
  have hw : mergeW l k = mergeL l k := by unfold mergeW; rw [h]; rfl
  unfold mergeK at h
  rw [Bool.and_eq_true, Bool.and_eq_true, decide_eq_true_eq] at h
  have hp : (mergeL l k).Perm (l ++ k) := List.merge_perm_append leR
  have hm : runOkB (mergeL l k) = true := by
    rw [← mergeL_sort ((runOk_iff l).1 h.1.1).2 ((runOk_iff k).1 h.1.2).2]
    refine (runOk_iff _).2 ⟨recsOk_mem (fun r hr => ?_) (by rw [(sortL_perm _).length_eq, List.length_append]; exact h.2), sortL_order _⟩
    rcases List.mem_append.1 ((sortL_perm _).mem_iff.1 hr) with h1 | h1
    · exact runOk_mem h.1.1 r h1
    · exact runOk_mem h.1.2 r h1
  rw [hw, Bool.eq_iff_iff, Bool.or_eq_true, fnd_mem hm, fnd_mem h.1.1, fnd_mem h.1.2]
  constructor
  · rintro ⟨r, hr, e⟩
    rcases List.mem_append.1 (hp.mem_iff.1 hr) with h1 | h1
    · exact .inl ⟨r, h1, e⟩
    · exact .inr ⟨r, h1, e⟩
  · rintro (⟨r, hr, e⟩ | ⟨r, hr, e⟩)
    · exact ⟨r, hp.mem_iff.2 (List.mem_append.2 (.inl hr)), e⟩
    · exact ⟨r, hp.mem_iff.2 (List.mem_append.2 (.inr hr)), e⟩
def bothN (l k : Recs) (K : Strs) (i : Nat) : Nat := ((K.take i).filter fun u => fnd l u && fnd k u).length
theorem both_step (l k : Recs) (K : Strs) (i : Nat) (h : i < K.length) : bothN l k K (i + 1) = bothN l k K i + if fnd l (strAt K i) && fnd k (strAt K i) then 1 else 0 := by
  unfold bothN
  rw [List.take_succ_eq_append_getElem h, List.filter_append, List.length_append, str_get K i h]
  cases hb : (fnd l K[i] && fnd k K[i]) <;> simp [hb]
theorem both_le (l k : Recs) (K : Strs) (i : Nat) : bothN l k K i ≤ i := by
  unfold bothN
  exact Nat.le_trans (List.length_filter_le _ _) (by simp; omega)
theorem keys_count {l k : Recs} {K : Strs} {n : Nat} (h : mergeK l k = true) (hK : keysB (mergeW l k) = K) (hn : K.length = n) : (keysB l).length + (keysB k).length = n + bothN l k K n := by
  subst hK hn
  have e1 := keys_filter (l := l) (m := mergeW l k) (fun u hu => by rw [fnd_merge h, hu, Bool.true_or])
  have e2 := keys_filter (l := k) (m := mergeW l k) (fun u hu => by rw [fnd_merge h, hu, Bool.or_true])
  rw [← e1, ← e2, filter_two (fnd l) (fnd k) _ (fun x hx => by rw [← fnd_merge h]; exact (mem_keys _ _).1 hx)]
  unfold bothN
  rw [List.take_length]
theorem merge_found {l k : Recs} {K : Strs} (h : mergeK l k = true) (hK : keysB (mergeW l k) = K) {i : Nat} (hi : i < K.length) : (fnd l (strAt K i) || fnd k (strAt K i)) = true := by
  rw [← fnd_merge h, str_get K i hi]
  exact (mem_keys _ _).1 (hK ▸ List.getElem_mem hi)
end Go.Proofs.Ytkpkifghjkmhoaa
