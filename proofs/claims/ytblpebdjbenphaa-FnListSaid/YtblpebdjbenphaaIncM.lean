
/- Lists of texts in strictly increasing order, and two of them merged; where a text stands in a list. Plain mathematics. -/
import Derived.Test.YtblpebdjbenphaaMg4
import Derived.Test.YtblpebdjbenphaaKeyOk
namespace Go.Proofs.Ytblpebdjbenphaa
open Go.ChangeShapes Go.WideShapes Go.ChangeAt Go.RowKit
set_option linter.unusedVariables false
set_option maxRecDepth 100000

theorem bltIff (x y : List UInt8) : Op.bytesLess x y = true ↔ x < y := by
  induction x generalizing y with
  | nil => cases y <;> simp [Op.bytesLess]
  | cons a x ih =>
    cases y with
    | nil => simp [Op.bytesLess]
    | cons b y =>
      rw [List.cons_lt_cons_iff, ← ih y]
      rw [show Op.bytesLess (a :: x) (b :: y) = (decide (a < b) || a == b && Op.bytesLess x y) from rfl]
      by_cases h1 : a < b
      · simp [h1]
      · by_cases h2 : a = b
        · subst h2; simp
        · simp [h1, h2]

abbrev Txts := List ByteArray
def ltT (s u : ByteArray) : Bool := Op.bytesLess s.toList u.toList
theorem ltT_iff {s u : ByteArray} : ltT s u = true ↔ s.toList < u.toList := bltIff _ _
def leT (a b : ByteArray) : Bool := !ltT b a
theorem leT_iff {a b : ByteArray} : leT a b = true ↔ ¬ b.toList < a.toList := by unfold leT; rw [Bool.not_eq_true', ← Bool.not_eq_true, ltT_iff]
def mergeT (l k : Txts) : Txts := List.merge l k leT
theorem mergeT_b {W A B : Txts} {x y : ByteArray} (h : ltT y x = true) : W ++ mergeT (x :: A) (y :: B) = (W ++ [y]) ++ mergeT (x :: A) B := by
  have h' : leT x y = false := by unfold leT; rw [h]; rfl
  unfold mergeT
  rw [List.cons_merge_cons, h', if_neg (by simp), List.append_assoc]; rfl
theorem mergeT_a {W A B : Txts} {x y : ByteArray} (h : ltT y x = false) : W ++ mergeT (x :: A) (y :: B) = (W ++ [x]) ++ mergeT A (y :: B) := by
  have h' : leT x y = true := by unfold leT; rw [h]; rfl
  unfold mergeT
  rw [List.cons_merge_cons, h', if_pos rfl, List.append_assoc]; rfl
theorem mergeT_nil {A B : Txts} (h : A = [] ∨ B = []) : mergeT A B = A ++ B := by
  unfold mergeT
  rcases h with rfl | rfl
  · rw [List.nil_merge]; rfl
  · rw [List.merge_right, List.append_nil]
theorem mergeT_len (l k : Txts) : (mergeT l k).length = l.length + k.length := by
  have := (List.merge_perm_append leT (xs := l) (ys := k)).length_eq
  rw [List.length_append] at this
  exact this
theorem mergeT_mem (l k : Txts) (x : ByteArray) : x ∈ mergeT l k ↔ x ∈ l ∨ x ∈ k := by
  show x ∈ List.merge l k leT ↔ _
  rw [(List.merge_perm_append leT (xs := l) (ys := k)).mem_iff, List.mem_append]

/-- Strictly increasing. -/
def IncT (l : Txts) : Prop := l.Pairwise (fun a b => a.toList < b.toList)
theorem inc_cons {x : ByteArray} {l : Txts} : IncT (x :: l) ↔ (∀ y ∈ l, x.toList < y.toList) ∧ IncT l := List.pairwise_cons
theorem inc_merge : ∀ (n : Nat) (l k : Txts), l.length + k.length ≤ n → (IncT (mergeT l k) ↔ IncT l ∧ IncT k ∧ ∀ a ∈ l, ∀ b ∈ k, a.toList ≠ b.toList) := by
  intro n
  induction n with
  | zero =>
    intro l k h
    obtain rfl : l = [] := List.length_eq_zero_iff.1 (by omega)
    obtain rfl : k = [] := List.length_eq_zero_iff.1 (by omega)
    rw [mergeT_nil (.inl rfl)]
    simp [IncT]
  | succ n ih =>
    intro l k h
    cases l with
    | nil =>
      rw [mergeT_nil (.inl rfl)]
      simp [IncT]
    | cons x A =>
      cases k with
      | nil =>
        rw [mergeT_nil (.inr rfl), List.append_nil]
        simp [IncT]
      | cons y B =>
        simp only [List.length_cons] at h
        cases hxy : ltT y x with
        | true =>
          have e := mergeT_b (W := []) (A := A) (B := B) hxy
          simp only [List.nil_append, List.singleton_append] at e
          rw [e, inc_cons, ih _ _ (by simp only [List.length_cons]; omega), inc_cons, inc_cons]
          have hyx := ltT_iff.1 hxy
          constructor
          · rintro ⟨h1, ⟨h2, h3⟩, h4, h5⟩
            refine ⟨⟨h2, h3⟩, ⟨fun b hb => h1 b ((mergeT_mem _ _ _).2 (.inr hb)), h4⟩, ?_⟩
            intro a ha b hb
            rcases List.mem_cons.1 hb with rfl | hb
            · have := h1 a ((mergeT_mem _ _ _).2 (.inl ha))
              intro he
              rw [he] at this
              exact List.lt_irrefl _ this
            · exact h5 a ha b hb
          · rintro ⟨⟨h2, h3⟩, ⟨h4, h5⟩, h6⟩
            refine ⟨?_, ⟨h2, h3⟩, h5, fun a ha b hb => h6 a ha b (List.mem_cons_of_mem _ hb)⟩
            intro b hb
            rcases (mergeT_mem _ _ _).1 hb with hb | hb
            · rcases List.mem_cons.1 hb with rfl | hb
              · exact hyx
              · exact List.lt_trans hyx (h2 b hb)
            · exact h4 b hb
        | false =>
          have e := mergeT_a (W := []) (A := A) (B := B) hxy
          simp only [List.nil_append, List.singleton_append] at e
          rw [e, inc_cons, ih _ _ (by simp only [List.length_cons]; omega), inc_cons, inc_cons]
          have hyx : ¬ y.toList < x.toList := by rw [← ltT_iff, hxy]; simp
          constructor
          · rintro ⟨h1, h2, ⟨h3, h4⟩, h5⟩
            refine ⟨⟨fun a ha => h1 a ((mergeT_mem _ _ _).2 (.inl ha)), h2⟩, ⟨h3, h4⟩, ?_⟩
            intro a ha b hb
            rcases List.mem_cons.1 ha with rfl | ha
            · have := h1 b ((mergeT_mem _ _ _).2 (.inr hb))
              intro he
              rw [he] at this
              exact List.lt_irrefl _ this
            · exact h5 a ha b hb
          · rintro ⟨⟨h1, h2⟩, ⟨h3, h4⟩, h5⟩
            have hlt : x.toList < y.toList := by
              by_cases hl : x.toList < y.toList
              · exact hl
              · exact absurd (List.le_antisymm hyx hl) (h5 x (List.mem_cons_self ..) y (List.mem_cons_self ..))
            refine ⟨?_, h2, ⟨h3, h4⟩, fun a ha b hb => h5 a (List.mem_cons_of_mem _ ha) b hb⟩
            intro b hb
            rcases (mergeT_mem _ _ _).1 hb with hb | hb
            · exact h1 b hb
            · rcases List.mem_cons.1 hb with rfl | hb
              · exact hlt
              · exact List.lt_trans hlt (h3 b hb)

def txt (l : Txts) (i : Nat) : ByteArray := l.getD i ByteArray.empty
theorem txt_get (l : Txts) (i : Nat) (h : i < l.length) : l[i] = txt l i := by unfold txt; rw [List.getD_eq_getElem?_getD, List.getElem?_eq_getElem h]; rfl
/-- Neighbours in order: all in order. -/
theorem inc_adj : ∀ {l : Txts}, (∀ i, i + 1 < l.length → (txt l i).toList < (txt l (i + 1)).toList) → IncT l
  | [], _ => List.Pairwise.nil
  | [x], _ => List.pairwise_singleton _ _
  | x :: y :: t, h => by
    have ih : IncT (y :: t) := inc_adj (fun i hi => by
      have := h (i + 1) (by simpa using hi)
      simpa [txt] using this)
    have h0 : x.toList < y.toList := by
      have := h 0 (by simp)
      simpa [txt] using this
    refine inc_cons.2 ⟨fun z hz => ?_, ih⟩
    rcases List.mem_cons.1 hz with rfl | hz
    · exact h0
    · exact List.lt_trans h0 ((inc_cons.1 ih).1 z hz)
theorem inc_at {l : Txts} (h : IncT l) {i j : Nat} (hij : i < j) (hj : j < l.length) : (txt l i).toList < (txt l j).toList := by
  have := List.pairwise_iff_getElem.1 h i j (by omega) hj hij
  rw [txt_get _ _ (by omega), txt_get _ _ hj] at this
  exact this
theorem inc_not {l : Txts} {i : Nat} (hi : i + 1 < l.length) (h : ltT (txt l i) (txt l (i + 1)) = false) : ¬ IncT l := fun hl => by
  have := inc_at hl (Nat.lt_succ_self i) hi
  rw [← ltT_iff, h] at this
  cases this

/-- Where a text stands in a list that is in order, or would stand. -/
def posT (l : Txts) (key : ByteArray) : Nat := (l.takeWhile (ltT · key)).length
def isT (l : Txts) (key : ByteArray) : Bool := decide (posT l key < l.length) && (txt l (posT l key)).toList == key.toList
theorem posT_le (l : Txts) (key : ByteArray) : posT l key ≤ l.length := (List.takeWhile_prefix _).length_le
theorem posT_eq : ∀ {l : Txts} {key : ByteArray} {k : Nat}, k ≤ l.length → (∀ j, j < k → ltT (txt l j) key = true) → (k < l.length → ltT (txt l k) key = false) → posT l key = k
  | [], key, k, hk, _, _ => by
    have : k = 0 := by simpa using hk
    subst this; rfl
  | x :: t, key, 0, hk, _, h2 => by
    have : ltT x key = false := h2 (by simp)
    unfold posT
    rw [List.takeWhile_cons, this]; rfl
  | x :: t, key, k + 1, hk, h1, h2 => by
    have h0 : ltT x key = true := h1 0 (by omega)
    have ih := posT_eq (l := t) (key := key) (k := k) (by simpa using hk) (fun j hj => h1 (j + 1) (by omega)) (fun hl => h2 (by simpa using hl))
    unfold posT at ih ⊢
    rw [List.takeWhile_cons, h0]
    simp [ih]
theorem posT_before : ∀ {l : Txts} {key : ByteArray} {j : Nat}, j < posT l key → ltT (txt l j) key = true
  | [], key, j, h => by simp [posT] at h
  | x :: t, key, j, h => by
    unfold posT at h
    rw [List.takeWhile_cons] at h
    cases hx : ltT x key with
    | false => rw [hx] at h; simp at h
    | true =>
      rw [hx] at h
      simp at h
      cases j with
      | zero => exact hx
      | succ j => exact posT_before (l := t) (by unfold posT; omega)
theorem posT_at : ∀ {l : Txts} {key : ByteArray}, posT l key < l.length → ltT (txt l (posT l key)) key = false
  | [], key, h => by simp at h
  | x :: t, key, h => by
    cases hx : ltT x key with
    | false =>
      have : posT (x :: t) key = 0 := by unfold posT; rw [List.takeWhile_cons, hx]; rfl
      rw [this]; exact hx
    | true =>
      have e : posT (x :: t) key = posT t key + 1 := by unfold posT; rw [List.takeWhile_cons, hx]; rfl
      rw [e] at h ⊢
      exact posT_at (l := t) (by simpa using h)
theorem isT_iff {l : Txts} {key : ByteArray} (h : IncT l) : isT l key = true ↔ ∃ s ∈ l, s.toList = key.toList := by
  unfold isT
  rw [Bool.and_eq_true, decide_eq_true_eq, beq_iff_eq]
  constructor
  · rintro ⟨h1, h2⟩
    refine ⟨txt l (posT l key), ?_, h2⟩
    rw [← txt_get l _ h1]
    exact List.getElem_mem _
  · rintro ⟨s, hs, he⟩
    obtain ⟨i, hi, rfl⟩ := List.getElem_of_mem hs
    rw [txt_get _ _ hi] at he
    have hp : posT l key = i := posT_eq (by omega) (fun j hj => by rw [ltT_iff, ← he]; exact inc_at h hj hi) (fun _ => by
      rw [← Bool.not_eq_true, ltT_iff, he]; exact List.lt_irrefl _)
    rw [hp]
    exact ⟨hi, he⟩

def okeys (l : Objs) : Txts := l.map (·.1)
def gkeys (m : Gones) : Txts := m.map (·.1)
theorem okeys_len (l : Objs) : (okeys l).length = l.length := by unfold okeys; simp
theorem gkeys_len (m : Gones) : (gkeys m).length = m.length := by unfold gkeys; simp
theorem okeys_at (l : Objs) (i : Nat) : txt (okeys l) i = obj0 l i := by
  unfold txt okeys obj0
  rw [List.getD_eq_getElem?_getD, List.getD_eq_getElem?_getD, List.getElem?_map]
  cases l[i]? <;> rfl
theorem gkeys_at (m : Gones) (i : Nat) : txt (gkeys m) i = gone0 m i := by
  unfold txt gkeys gone0
  rw [List.getD_eq_getElem?_getD, List.getD_eq_getElem?_getD, List.getElem?_map]
  cases m[i]? <;> rfl

def objOk (l : Objs) (i : Nat) : Prop := keyB (obj0 l i) = true ∧ inB (obj1 l i) 1 1000000 = true ∧ (obj2 l i).size ≤ 30000
def gonOk (m : Gones) (i : Nat) : Prop := keyB (gone0 m i) = true ∧ inB (gone1 m i) 1 1000000 = true
/-- A valid store. -/
structure StoP (l : Objs) (m : Gones) : Prop where
  few : l.length + m.length ≤ 1100
  objs : ∀ i, i < l.length → objOk l i
  gons : ∀ i, i < m.length → gonOk m i
  oinc : IncT (okeys l)
  ginc : IncT (gkeys m)
  apart : ∀ a ∈ okeys l, ∀ b ∈ gkeys m, a.toList ≠ b.toList
/-- A bool that says whether p. -/
def SaysB (p : Prop) (w : World) (e : Ending) (w' : World) : Prop := ∃ b : Bool, e = .returned (.bool b) ∧ (b = true ↔ p) ∧ Below w.heap.size w w'
end Go.Proofs.Ytblpebdjbenphaa
