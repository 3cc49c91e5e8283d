
/- The order of records, and lists of records in that order, as plain mathematics. -/
import Derived.Test.YthnlllbanfemaaaGreatDoorRuns4
namespace Go.Proofs.YthnlllbanfemaaaGreatDoor
open Go.ChangeShapes Go.WideShapes Go.ChangeAt Go.RowKit
set_option linter.unusedVariables false
set_option maxRecDepth 100000

theorem bless_iff (x y : List UInt8) : Op.bytesLess x y = true ↔ x < y := by
  induction x generalizing y with
  | nil => cases y <;> simp [Op.bytesLess]
  | cons a x ih =>
    cases y with
    | nil => simp [Op.bytesLess]
    | cons b y =>
      rw [List.cons_lt_cons_iff, ← ih y]
      rw [show Op.bytesLess (a :: x) (b :: y) = (decide (a < b) || a == b && Op.bytesLess x y) from rfl]
      by_cases h1 : a < b
      · simp [h1]
      · by_cases h2 : a = b
        · subst h2; simp
        · simp [h1, h2]

/-- a may stand ahead of b. -/
def leR (a b : ByteArray × Int) : Bool := !lessB b.1 b.2 a.1 a.2
theorem less_iff (s u : ByteArray) (n m : Int) : lessB s n u m = true ↔ s.toList < u.toList ∨ (s.toList = u.toList ∧ n < m) := by
  unfold lessB
  rw [Bool.or_eq_true, bless_iff, Bool.and_eq_true, beq_iff_eq, decide_eq_true_eq]
theorem leR_iff (a b : ByteArray × Int) : leR a b = true ↔ ¬ (b.1.toList < a.1.toList ∨ (b.1.toList = a.1.toList ∧ b.2 < a.2)) := by
  unfold leR
  rw [Bool.not_eq_true', ← Bool.not_eq_true, less_iff]
theorem leR_iff' (a b : ByteArray × Int) : leR a b = true ↔ a.1.toList < b.1.toList ∨ (a.1.toList = b.1.toList ∧ a.2 ≤ b.2) := by
  rw [leR_iff]
  constructor
  · intro h
    by_cases h1 : a.1.toList < b.1.toList
    · exact .inl h1
    · have h2 : a.1.toList = b.1.toList := List.le_antisymm (fun h3 => h (.inl h3)) h1
      exact .inr ⟨h2, by
        rcases Int.lt_or_le b.2 a.2 with h3 | h3
        · exact absurd (.inr ⟨h2.symm, h3⟩) h
        · exact h3⟩
  · rintro (h1 | ⟨h1, h2⟩) (h3 | ⟨h3, h4⟩)
    · exact List.lt_irrefl _ (List.lt_trans h1 h3)
    · rw [h3] at h1; exact List.lt_irrefl _ h1
    · rw [h1] at h3; exact List.lt_irrefl _ h3
    · omega
theorem leR_trans (a b c : ByteArray × Int) (h : leR a b = true) (k : leR b c = true) : leR a c = true := by
  rw [leR_iff'] at h k ⊢
  rcases h with h | ⟨h, h2⟩ <;> rcases k with k | ⟨k, k2⟩
  · exact .inl (List.lt_trans h k)
  · exact .inl (k ▸ h)
  · exact .inl (h ▸ k)
  · exact .inr ⟨h.trans k, by omega⟩
theorem leR_total (a b : ByteArray × Int) : (leR a b || leR b a) = true := by
  rw [Bool.or_eq_true]
  by_cases h : leR a b = true
  · exact .inl h
  · right
    rw [leR_iff'] at h ⊢
    by_cases h1 : b.1.toList < a.1.toList
    · exact .inl h1
    · have h2 : b.1.toList = a.1.toList := List.le_antisymm (fun h3 => h (.inl h3)) h1
      exact .inr ⟨h2, by
        rcases Int.lt_or_le a.2 b.2 with h3 | h3
        · exact absurd (.inr ⟨h2.symm, by omega⟩) h
        · exact h3⟩
theorem toList_inj {s u : ByteArray} (h : s.toList = u.toList) : s = u := by
  rw [ByteArray.toList_eq, ByteArray.toList_eq] at h
  obtain ⟨⟨a⟩⟩ := s
  obtain ⟨⟨b⟩⟩ := u
  simp at h
  rw [h]
theorem leR_antisymm (a b : ByteArray × Int) (h : leR a b = true) (k : leR b a = true) : a = b := by
  rw [leR_iff'] at h k
  rcases h with h | ⟨h, h2⟩ <;> rcases k with k | ⟨k, k2⟩
  · exact absurd (List.lt_trans h k) (List.lt_irrefl _)
  · rw [k] at h; exact absurd h (List.lt_irrefl _)
  · rw [h] at k; exact absurd k (List.lt_irrefl _)
  · obtain ⟨a1, a2⟩ := a
    obtain ⟨b1, b2⟩ := b
    simp only at h h2 k2
    rw [toList_inj h, show a2 = b2 by omega]

/-- In order. -/
def InOrder (l : Recs) : Prop := List.Pairwise (fun a b => leR a b = true) l
def sortL (l : Recs) : Recs := l.mergeSort leR
theorem sortL_perm (l : Recs) : (sortL l).Perm l := List.mergeSort_perm l leR
theorem sortL_order (l : Recs) : InOrder (sortL l) := List.pairwise_mergeSort leR_trans leR_total l
/-- Two lists in order with the same records are the same. -/
theorem order_unique {l k : Recs} (hl : InOrder l) (hk : InOrder k) (h : l.Perm k) : l = k :=
  List.Perm.eq_of_pairwise (fun a b _ _ => leR_antisymm a b) hl hk h
theorem sortL_of {l k : Recs} (hk : InOrder k) (h : k.Perm l) : sortL l = k := order_unique (sortL_order l) hk ((sortL_perm l).trans h.symm)
theorem insert_order {V : Recs} {x : ByteArray × Int} {j : Nat} (h : InOrder V) (h1 : ∀ y ∈ V.drop j, leR x y = true) (h2 : ∀ y ∈ V.take j, leR y x = true) : InOrder (V.take j ++ x :: V.drop j) := by
  unfold InOrder at h ⊢
  rw [← List.take_append_drop j V, List.pairwise_append] at h
  obtain ⟨a, b, c⟩ := h
  rw [List.pairwise_append, List.pairwise_cons]
  refine ⟨a, ⟨h1, b⟩, fun p hp q hq => ?_⟩
  rcases List.mem_cons.1 hq with rfl | hq
  · exact h2 p hp
  · exact c p hp q hq
theorem insert_perm (V : Recs) (x : ByteArray × Int) (j : Nat) : (V.take j ++ x :: V.drop j).Perm (V ++ [x]) := by
  refine List.perm_middle.trans ?_
  rw [List.take_append_drop]
  exact (List.perm_append_comm (l₁ := [x]) (l₂ := V))
/-- All that stand ahead of place j may stand ahead of x, if the last of them may. -/
theorem ahead_all {V : Recs} {x : ByteArray × Int} {j : Nat} (h : InOrder V) (hj : j < V.length) (hx : leR V[j] x = true) : ∀ y ∈ V.take (j + 1), leR y x = true := by
  intro y hy
  obtain ⟨i, hi, rfl⟩ := List.getElem_of_mem hy
  simp at hi
  simp only [List.getElem_take]
  rcases Nat.lt_or_ge i j with hl | hl
  · exact leR_trans _ _ _ (List.pairwise_iff_getElem.1 h i j (by omega) hj hl) hx
  · obtain rfl : i = j := by omega
    exact hx
theorem at_get (l : Recs) (i : Nat) (h : i < l.length) : l[i] = (keyAt l i, numAt l i) := by
  unfold keyAt numAt
  rw [List.getD_eq_getElem?_getD, List.getElem?_eq_getElem h]; rfl
/-- A list is a run just if it is short, its records are valid, and it is in order. -/
theorem runOk_iff (l : Recs) : runOkB l = true ↔ recsOkB l = true ∧ InOrder l := by
  constructor
  · intro h
    have hok : recsOkB l = true := by
      cases hr : recsOkB l with
      | true => rfl
      | false => rw [recsOk_not hr] at h; cases h
    refine ⟨hok, ?_⟩
    unfold runOkB at h
    rw [Bool.and_eq_true, List.all_eq_true] at h
    have hstep : ∀ i, i + 1 < l.length → ∀ (h1 : i < l.length) (h2 : i + 1 < l.length), leR l[i] l[i + 1] = true := by
      intro i hi h1 h2
      have := h.2 (i + 1) (List.mem_range.2 hi)
      rw [Bool.and_eq_true, Bool.not_eq_true'] at this
      have hb := this.2
      unfold badAt lessAt at hb
      rw [decide_eq_true (by omega), Bool.true_and] at hb
      unfold leR
      rw [at_get l i h1, at_get l (i + 1) h2]
      simp only [Nat.add_sub_cancel] at hb
      rw [hb]; rfl
    unfold InOrder
    rw [List.pairwise_iff_getElem]
    intro i j hi hj hij
    induction j with
    | zero => omega
    | succ j ih =>
      rcases Nat.lt_or_ge i j with hl | hl
      · exact leR_trans _ _ _ (ih (by omega) hl) (hstep j hj (by omega) hj)
      · obtain rfl : i = j := by omega
        exact hstep i hj hi hj
  · rintro ⟨h1, h2⟩
    obtain ⟨h3, h4⟩ := recsOk_parts h1
    refine runOk_good h3 fun i hi => ⟨h4 i hi, ?_⟩
    unfold badAt
    by_cases h0 : 0 < i
    · have := List.pairwise_iff_getElem.1 h2 (i - 1) i (by omega) hi (by omega)
      unfold leR at this
      rw [at_get l i hi, at_get l (i - 1) (by omega), Bool.not_eq_true'] at this
      unfold lessAt
      simp only at this
      rw [this, Bool.and_false]
    · rw [decide_eq_false h0, Bool.false_and]

/-- What Sorted returns. -/
def sortedB (l : Recs) : Recs := if recsOkB l then sortL l else []
theorem runOk_keys {l : Recs} (h : runOkB l = true) : l.length ≤ 600 ∧ ∀ i, i < l.length → (keyAt l i).size ≤ 40 := by
  have hok : recsOkB l = true := by
    cases hr : recsOkB l with
    | true => rfl
    | false => rw [recsOk_not hr] at h; cases h
  obtain ⟨h1, h2⟩ := recsOk_parts hok
  exact ⟨h1, fun i hi => by have := h2 i hi; unfold okAt okB at this; exact of_decide_eq_true this⟩
end Go.Proofs.YthnlllbanfemaaaGreatDoor
