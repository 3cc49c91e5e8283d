
/- A store as one list of elements in the order of their keys, and what commands make of it. Plain mathematics. -/
import Derived.Test.YtblpebdjbenphaaFindK
namespace Go.Proofs.Ytblpebdjbenphaa
open Go.ChangeShapes Go.WideShapes Go.ChangeAt Go.RowKit
set_option linter.unusedVariables false
set_option maxRecDepth 100000

/-- Version, data, and whether it is what remains of a deleted object; with the key ahead of it. -/
abbrev ElV := Int × ByteArray × Bool
abbrev Els := List (ByteArray × ElV)
def ekeys (E : Els) : Txts := E.map (·.1)
def objsOf : Els → Objs
  | [] => []
  | x :: t => if x.2.2.2 = true then objsOf t else (x.1, x.2.1, x.2.2.1) :: objsOf t
def gonsOf : Els → Gones
  | [] => []
  | x :: t => if x.2.2.2 = true then (x.1, x.2.1) :: gonsOf t else gonsOf t
def lookE (key : ByteArray) : Els → Option ElV
  | [] => none
  | x :: t => if sameT x.1 key = true then some x.2 else lookE key t
def putE (key : ByteArray) (e : ElV) : Els → Els
  | [] => [(key, e)]
  | x :: t => if sameT x.1 key = true then (key, e) :: t else if ltT key x.1 = true then (key, e) :: x :: t else x :: putE key e t

theorem sameT_iff {s u : ByteArray} : sameT s u = true ↔ s.toList = u.toList := by unfold sameT; simp
theorem bytesInj {s u : ByteArray} (h : s.toList = u.toList) : s = u := by
  have e : ∀ x : ByteArray, x.toList = x.data.toList := fun x => Lib.toList_data x
  rw [e, e] at h
  cases s; cases u
  simp only [ByteArray.mk.injEq]
  exact Array.ext' h
theorem sameT_eq {s u : ByteArray} (h : sameT s u = true) : s = u := bytesInj (sameT_iff.1 h)
theorem sameT_refl (s : ByteArray) : sameT s s = true := sameT_iff.2 rfl
theorem ekeys_cons (x : ByteArray × ElV) (t : Els) : ekeys (x :: t) = x.1 :: ekeys t := rfl
theorem inc_tail {x : ByteArray × ElV} {t : Els} (h : IncT (ekeys (x :: t))) : IncT (ekeys t) := (inc_cons.1 h).2
theorem inc_head {x : ByteArray × ElV} {t : Els} (h : IncT (ekeys (x :: t))) : ∀ y ∈ ekeys t, x.1.toList < y.toList := (inc_cons.1 h).1
theorem lt_irr (x : List UInt8) : ¬ x < x := List.lt_irrefl _

theorem objsOf_yes {x : ByteArray × ElV} {t : Els} (h : x.2.2.2 = true) : objsOf (x :: t) = objsOf t := by simp [objsOf, h]
theorem objsOf_no {x : ByteArray × ElV} {t : Els} (h : x.2.2.2 = false) : objsOf (x :: t) = (x.1, x.2.1, x.2.2.1) :: objsOf t := by simp [objsOf, h]
theorem gonsOf_yes {x : ByteArray × ElV} {t : Els} (h : x.2.2.2 = true) : gonsOf (x :: t) = (x.1, x.2.1) :: gonsOf t := by simp [gonsOf, h]
theorem gonsOf_no {x : ByteArray × ElV} {t : Els} (h : x.2.2.2 = false) : gonsOf (x :: t) = gonsOf t := by simp [gonsOf, h]
theorem okeys_mem : ∀ {E : Els} {y : ByteArray}, y ∈ okeys (objsOf E) → y ∈ ekeys E
  | [], y, h => by simp [objsOf, okeys] at h
  | x :: t, y, h => by
    cases hx : x.2.2.2 with
    | true => rw [objsOf_yes hx] at h; exact List.mem_cons_of_mem _ (okeys_mem h)
    | false =>
      rw [objsOf_no hx] at h
      rcases List.mem_cons.1 h with rfl | h
      · exact List.mem_cons_self ..
      · exact List.mem_cons_of_mem _ (okeys_mem h)
theorem gkeys_mem : ∀ {E : Els} {y : ByteArray}, y ∈ gkeys (gonsOf E) → y ∈ ekeys E
  | [], y, h => by simp [gonsOf, gkeys] at h
  | x :: t, y, h => by
    cases hx : x.2.2.2 with
    | false => rw [gonsOf_no hx] at h; exact List.mem_cons_of_mem _ (gkeys_mem h)
    | true =>
      rw [gonsOf_yes hx] at h
      rcases List.mem_cons.1 h with rfl | h
      · exact List.mem_cons_self ..
      · exact List.mem_cons_of_mem _ (gkeys_mem h)
theorem objs_gons_len : ∀ E : Els, (objsOf E).length + (gonsOf E).length = E.length
  | [] => rfl
  | x :: t => by
    have ih := objs_gons_len t
    cases hx : x.2.2.2 with
    | true => rw [objsOf_yes hx, gonsOf_yes hx]; simp; omega
    | false => rw [objsOf_no hx, gonsOf_no hx]; simp; omega

theorem pos0 {l : Txts} {key : ByteArray} (h : ∀ y ∈ l, key.toList < y.toList) : posT l key = 0 := by
  cases l with
  | nil => rfl
  | cons y t =>
    have : ltT y key = false := by
      rw [← Bool.not_eq_true, ltT_iff]
      exact fun hl => lt_irr _ (List.lt_trans hl (h y (List.mem_cons_self ..)))
    unfold posT; rw [List.takeWhile_cons, this]; rfl
theorem pos_succ {y : ByteArray} {t : Txts} {key : ByteArray} (h : y.toList < key.toList) : posT (y :: t) key = posT t key + 1 := by
  unfold posT; rw [List.takeWhile_cons, ltT_iff.2 h]; rfl
theorem pos_self {y : ByteArray} {t : Txts} {key : ByteArray} (h : y.toList = key.toList) : posT (y :: t) key = 0 := by
  have : ltT y key = false := by rw [← Bool.not_eq_true, ltT_iff, h]; exact lt_irr _
  unfold posT; rw [List.takeWhile_cons, this]; rfl
theorem tri {x key : ByteArray} (h1 : ¬ x.toList = key.toList) (h2 : ltT key x = false) : x.toList < key.toList := by
  by_cases h : x.toList < key.toList
  · exact h
  · refine absurd (List.le_antisymm ?_ h) h1
    rw [← Bool.not_eq_true, ltT_iff] at h2
    exact h2

theorem putE_mem {key : ByteArray} {e : ElV} : ∀ {E : Els} {y : ByteArray}, y ∈ ekeys (putE key e E) → y = key ∨ y ∈ ekeys E
  | [], y, h => by simp [putE, ekeys] at h; exact .inl h
  | x :: t, y, h => by
    unfold putE at h
    by_cases h1 : sameT x.1 key = true
    · rw [if_pos h1] at h
      rcases List.mem_cons.1 h with rfl | h
      · exact .inl rfl
      · exact .inr (List.mem_cons_of_mem _ h)
    · rw [if_neg h1] at h
      by_cases h2 : ltT key x.1 = true
      · rw [if_pos h2] at h
        rcases List.mem_cons.1 h with rfl | h
        · exact .inl rfl
        · exact .inr h
      · rw [if_neg h2] at h
        rcases List.mem_cons.1 h with rfl | h
        · exact .inr (List.mem_cons_self ..)
        · rcases putE_mem (E := t) h with h | h
          · exact .inl h
          · exact .inr (List.mem_cons_of_mem _ h)
theorem inc_put {key : ByteArray} {e : ElV} : ∀ {E : Els}, IncT (ekeys E) → IncT (ekeys (putE key e E))
  | [], _ => by unfold putE ekeys IncT; simp
  | x :: t, h => by
    unfold putE
    by_cases h1 : sameT x.1 key = true
    · rw [if_pos h1]
      refine inc_cons.2 ⟨fun y hy => ?_, inc_tail h⟩
      show key.toList < _
      rw [← sameT_iff.1 h1]; exact inc_head h y hy
    · rw [if_neg h1]
      by_cases h2 : ltT key x.1 = true
      · rw [if_pos h2]
        refine inc_cons.2 ⟨fun y hy => ?_, h⟩
        show key.toList < _
        rcases List.mem_cons.1 hy with rfl | hy
        · exact ltT_iff.1 h2
        · exact List.lt_trans (ltT_iff.1 h2) (inc_head h y hy)
      · rw [if_neg h2]
        refine inc_cons.2 ⟨fun y hy => ?_, inc_put (inc_tail h)⟩
        rcases putE_mem hy with rfl | hy
        · exact tri (fun he => h1 (sameT_iff.2 he)) (by simpa using h2)
        · exact inc_head h y hy
theorem lookE_put {key k2 : ByteArray} {e : ElV} : ∀ E : Els, lookE k2 (putE key e E) = if sameT key k2 = true then some e else lookE k2 E
  | [] => by simp [putE, lookE]
  | x :: t => by
    unfold putE
    by_cases h1 : sameT x.1 key = true
    · rw [if_pos h1]
      have hx : x.1 = key := sameT_eq h1
      unfold lookE
      by_cases h2 : sameT key k2 = true
      · rw [if_pos h2, if_pos h2]
      · rw [if_neg h2, if_neg h2, hx, if_neg h2]
    · rw [if_neg h1]
      by_cases h2 : ltT key x.1 = true
      · rw [if_pos h2]
        by_cases h3 : sameT key k2 = true
        · rw [if_pos h3]; unfold lookE; rw [if_pos h3]
        · rw [if_neg h3]; conv => lhs; unfold lookE
          rw [if_neg h3]
      · rw [if_neg h2]
        unfold lookE
        rw [lookE_put t]
        by_cases h3 : sameT key k2 = true
        · rw [if_pos h3, if_pos h3]
          rw [if_neg (fun h4 => h1 (sameT_iff.2 ((sameT_iff.1 h4).trans (sameT_iff.1 h3).symm)))]
        · rw [if_neg h3, if_neg h3]
theorem lookE_mem {key : ByteArray} {e : ElV} : ∀ {E : Els}, lookE key E = some e → (key, e) ∈ E
  | [], h => by simp [lookE] at h
  | x :: t, h => by
    unfold lookE at h
    by_cases h1 : sameT x.1 key = true
    · rw [if_pos h1] at h
      simp only [Option.some.injEq] at h
      have : x = (key, e) := by rw [← sameT_eq h1, ← h]
      rw [this]; exact List.mem_cons_self ..
    · rw [if_neg h1] at h; exact List.mem_cons_of_mem _ (lookE_mem h)
theorem lookE_none {key : ByteArray} : ∀ {E : Els}, lookE key E = none ↔ ∀ y ∈ ekeys E, y ≠ key
  | [] => by simp [lookE, ekeys]
  | x :: t => by
    unfold lookE
    rw [ekeys_cons]
    by_cases h1 : sameT x.1 key = true
    · rw [if_pos h1]
      simp only [reduceCtorEq, false_iff]
      exact fun h => h x.1 (List.mem_cons_self ..) (sameT_eq h1)
    · rw [if_neg h1, lookE_none (E := t)]
      simp only [List.mem_cons, forall_eq_or_imp]
      exact ⟨fun h => ⟨fun he => h1 (by rw [he]; exact sameT_refl _), h⟩, fun h => h.2⟩
/-- Keys apart: an element is found by its key. -/
theorem lookE_of {E : Els} (h : E.Pairwise (fun a b => a.1 ≠ b.1)) {x : ByteArray × ElV} (hx : x ∈ E) : lookE x.1 E = some x.2 := by
  induction E with
  | nil => cases hx
  | cons y t ih =>
    rw [List.pairwise_cons] at h
    unfold lookE
    rcases List.mem_cons.1 hx with rfl | hx
    · rw [if_pos (sameT_refl _)]
    · rw [if_neg (fun he => h.1 x hx (sameT_eq he))]
      exact ih h.2 hx
theorem apart_inc {E : Els} (h : IncT (ekeys E)) : E.Pairwise (fun a b => a.1 ≠ b.1) := by
  unfold IncT ekeys at h
  rw [List.pairwise_map] at h
  exact h.imp (fun hl he => by rw [he] at hl; exact lt_irr _ hl)
theorem lookE_perm {E F : Els} (h : E.Perm F) (hE : E.Pairwise (fun a b => a.1 ≠ b.1)) (key : ByteArray) : lookE key E = lookE key F := by
  have hF : F.Pairwise (fun a b => a.1 ≠ b.1) := (h.pairwise_iff (fun hab he => hab he.symm)).1 hE
  cases hl : lookE key E with
  | none =>
    symm
    rw [lookE_none] at hl ⊢
    intro y hy
    exact hl y ((h.map (·.1)).mem_iff.2 hy)
  | some e =>
    have := lookE_of hF (h.mem_iff.1 (lookE_mem hl))
    exact this.symm

/-! ### objects and what remains of deleted ones -/
theorem objs_inc : ∀ {E : Els}, IncT (ekeys E) → IncT (okeys (objsOf E))
  | [], _ => by unfold objsOf okeys IncT; simp
  | x :: t, h => by
    cases hx : x.2.2.2 with
    | true => rw [objsOf_yes hx]; exact objs_inc (inc_tail h)
    | false =>
      rw [objsOf_no hx]
      exact inc_cons.2 ⟨fun y hy => inc_head h y (okeys_mem hy), objs_inc (inc_tail h)⟩
theorem gons_inc : ∀ {E : Els}, IncT (ekeys E) → IncT (gkeys (gonsOf E))
  | [], _ => by unfold gonsOf gkeys IncT; simp
  | x :: t, h => by
    cases hx : x.2.2.2 with
    | false => rw [gonsOf_no hx]; exact gons_inc (inc_tail h)
    | true =>
      rw [gonsOf_yes hx]
      exact inc_cons.2 ⟨fun y hy => inc_head h y (gkeys_mem hy), gons_inc (inc_tail h)⟩
theorem isT_cons_lt {y : ByteArray} {t : Txts} {key : ByteArray} (h : y.toList < key.toList) : isT (y :: t) key = isT t key := by
  unfold isT
  rw [pos_succ h]
  simp [txt]
theorem isT_cons_eq {y : ByteArray} {t : Txts} {key : ByteArray} (h : y.toList = key.toList) : isT (y :: t) key = true := by
  unfold isT
  rw [pos_self h]
  simp [txt, h]
theorem isT_all_gt {l : Txts} {key : ByteArray} (h : ∀ y ∈ l, key.toList < y.toList) : isT l key = false := by
  unfold isT
  rw [pos0 h]
  cases l with
  | nil => simp
  | cons y t =>
    have := h y (List.mem_cons_self ..)
    simp only [txt, List.getD_cons_zero, Bool.and_eq_false_imp, beq_eq_false_iff_ne, ne_eq]
    intro _ he
    rw [he] at this
    exact lt_irr _ this
def obIs : Option ElV → Bool | some e => !e.2.2 | none => false
def goIs : Option ElV → Bool | some e => e.2.2 | none => false
theorem lookE_lt {x : ByteArray × ElV} {t : Els} {key : ByteArray} (h : IncT (ekeys (x :: t))) (hl : key.toList < x.1.toList) : lookE key (x :: t) = none := by
  rw [lookE_none]
  intro y hy he
  rw [he] at hy
  rcases List.mem_cons.1 hy with h1 | h1
  · rw [h1] at hl; exact lt_irr _ hl
  · exact lt_irr _ (List.lt_trans hl (inc_head h _ h1))
theorem lookE_gt {x : ByteArray × ElV} {t : Els} {key : ByteArray} (hl : x.1.toList < key.toList) : lookE key (x :: t) = lookE key t := by
  have : ¬ sameT x.1 key = true := fun h => by rw [sameT_iff.1 h] at hl; exact lt_irr _ hl
  conv => lhs; unfold lookE
  rw [if_neg this]
theorem lookE_at {x : ByteArray × ElV} {t : Els} {key : ByteArray} (hl : x.1.toList = key.toList) : lookE key (x :: t) = some x.2 := by
  unfold lookE
  rw [if_pos (sameT_iff.2 hl)]
theorem three (x key : ByteArray) : key.toList < x.toList ∨ x.toList = key.toList ∨ x.toList < key.toList := by
  by_cases h1 : key.toList < x.toList
  · exact .inl h1
  · by_cases h2 : x.toList = key.toList
    · exact .inr (.inl h2)
    · exact .inr (.inr (tri h2 (by rw [← Bool.not_eq_true, ltT_iff]; exact h1)))
theorem isO_look : ∀ {E : Els}, IncT (ekeys E) → ∀ key, isT (okeys (objsOf E)) key = obIs (lookE key E)
  | [], _, key => rfl
  | x :: t, h, key => by
    have ih := isO_look (inc_tail h) key
    rcases three x.1 key with hl | hl | hl
    · rw [lookE_lt h hl, isT_all_gt]
      · rfl
      · intro y hy
        rcases List.mem_cons.1 (okeys_mem hy) with rfl | hy
        · exact hl
        · exact List.lt_trans hl (inc_head h y hy)
    · rw [lookE_at hl]
      cases hx : x.2.2.2 with
      | true =>
        rw [objsOf_yes hx, isT_all_gt]
        · simp [obIs, hx]
        · intro y hy
          rw [← hl]; exact inc_head h y (okeys_mem hy)
      | false =>
        rw [objsOf_no hx]
        simp only [obIs, hx]
        exact isT_cons_eq hl
    · rw [lookE_gt hl, ← ih]
      cases hx : x.2.2.2 with
      | true => rw [objsOf_yes hx]
      | false => rw [objsOf_no hx]; exact isT_cons_lt hl
theorem isG_look : ∀ {E : Els}, IncT (ekeys E) → ∀ key, isT (gkeys (gonsOf E)) key = goIs (lookE key E)
  | [], _, key => rfl
  | x :: t, h, key => by
    have ih := isG_look (inc_tail h) key
    rcases three x.1 key with hl | hl | hl
    · rw [lookE_lt h hl, isT_all_gt]
      · rfl
      · intro y hy
        rcases List.mem_cons.1 (gkeys_mem hy) with rfl | hy
        · exact hl
        · exact List.lt_trans hl (inc_head h y hy)
    · rw [lookE_at hl]
      cases hx : x.2.2.2 with
      | false =>
        rw [gonsOf_no hx, isT_all_gt]
        · simp [goIs, hx]
        · intro y hy
          rw [← hl]; exact inc_head h y (gkeys_mem hy)
      | true =>
        rw [gonsOf_yes hx]
        simp only [goIs, hx]
        exact isT_cons_eq hl
    · rw [lookE_gt hl, ← ih]
      cases hx : x.2.2.2 with
      | false => rw [gonsOf_no hx]
      | true => rw [gonsOf_yes hx]; exact isT_cons_lt hl

theorem putE_lt {x : ByteArray × ElV} {t : Els} {key : ByteArray} {e : ElV} (hl : key.toList < x.1.toList) : putE key e (x :: t) = (key, e) :: x :: t := by
  unfold putE
  rw [if_neg (fun h => by rw [sameT_iff.1 h] at hl; exact lt_irr _ hl), if_pos (ltT_iff.2 hl)]
theorem putE_at {x : ByteArray × ElV} {t : Els} {key : ByteArray} {e : ElV} (hl : x.1.toList = key.toList) : putE key e (x :: t) = (key, e) :: t := by
  unfold putE; rw [if_pos (sameT_iff.2 hl)]
theorem putE_gt {x : ByteArray × ElV} {t : Els} {key : ByteArray} {e : ElV} (hl : x.1.toList < key.toList) : putE key e (x :: t) = x :: putE key e t := by
  conv => lhs; unfold putE
  rw [if_neg (fun h => by rw [sameT_iff.1 h] at hl; exact lt_irr _ hl), if_neg (fun h => lt_irr _ (List.lt_trans hl (ltT_iff.1 h)))]

def poO (key : ByteArray) (E : Els) : Nat := posT (okeys (objsOf E)) key
def poG (key : ByteArray) (E : Els) : Nat := posT (gkeys (gonsOf E)) key
theorem poO_lt {x : ByteArray × ElV} {t : Els} {key : ByteArray} (h : IncT (ekeys (x :: t))) (hl : key.toList < x.1.toList) : poO key (x :: t) = 0 := pos0 (fun y hy => by
  rcases List.mem_cons.1 (okeys_mem hy) with rfl | hy
  · exact hl
  · exact List.lt_trans hl (inc_head h y hy))
theorem poG_lt {x : ByteArray × ElV} {t : Els} {key : ByteArray} (h : IncT (ekeys (x :: t))) (hl : key.toList < x.1.toList) : poG key (x :: t) = 0 := pos0 (fun y hy => by
  rcases List.mem_cons.1 (gkeys_mem hy) with rfl | hy
  · exact hl
  · exact List.lt_trans hl (inc_head h y hy))
theorem poO_at {x : ByteArray × ElV} {t : Els} {key : ByteArray} (h : IncT (ekeys (x :: t))) (hl : x.1.toList = key.toList) : poO key (x :: t) = 0 ∧ poO key t = 0 := by
  have h0 : poO key t = 0 := pos0 (fun y hy => by rw [← hl]; exact inc_head h y (okeys_mem hy))
  refine ⟨?_, h0⟩
  unfold poO at h0 ⊢
  cases hx : x.2.2.2 with
  | true => rw [objsOf_yes hx]; exact h0
  | false => rw [objsOf_no hx]; exact pos_self hl
theorem poG_at {x : ByteArray × ElV} {t : Els} {key : ByteArray} (h : IncT (ekeys (x :: t))) (hl : x.1.toList = key.toList) : poG key (x :: t) = 0 ∧ poG key t = 0 := by
  have h0 : poG key t = 0 := pos0 (fun y hy => by rw [← hl]; exact inc_head h y (gkeys_mem hy))
  refine ⟨?_, h0⟩
  unfold poG at h0 ⊢
  cases hx : x.2.2.2 with
  | false => rw [gonsOf_no hx]; exact h0
  | true => rw [gonsOf_yes hx]; exact pos_self hl

/-- A new object: beside what there was. -/
theorem objs_ins {key : ByteArray} {v : Int} {d : ByteArray} : ∀ {E : Els}, IncT (ekeys E) → obIs (lookE key E) = false → objsOf (putE key (v, d, false) E) = (objsOf E).take (poO key E) ++ (key, v, d) :: (objsOf E).drop (poO key E)
  | [], _, _ => by simp [putE, objsOf]
  | x :: t, h, ho => by
    rcases three x.1 key with hl | hl | hl
    · rw [putE_lt hl, poO_lt h hl, objsOf_no rfl]; simp
    · rw [putE_at hl, (poO_at h hl).1, objsOf_no rfl]
      rw [lookE_at hl] at ho
      have hx : x.2.2.2 = true := by simpa [obIs] using ho
      rw [objsOf_yes hx]; simp
    · rw [putE_gt hl]
      rw [lookE_gt hl] at ho
      have ih := objs_ins (v := v) (d := d) (inc_tail h) ho
      cases hx : x.2.2.2 with
      | true =>
        rw [objsOf_yes hx, ih]
        unfold poO
        rw [objsOf_yes hx]
      | false =>
        rw [objsOf_no hx, ih]
        unfold poO
        rw [objsOf_no hx]
        rw [show okeys ((x.1, x.2.1, x.2.2.1) :: objsOf t) = x.1 :: okeys (objsOf t) from rfl, pos_succ hl]
        simp
/-- An object in the place of another. -/
theorem objs_set {key : ByteArray} {v : Int} {d : ByteArray} : ∀ {E : Els}, IncT (ekeys E) → obIs (lookE key E) = true → objsOf (putE key (v, d, false) E) = (objsOf E).set (poO key E) (key, v, d)
  | [], _, ho => by simp [lookE, obIs] at ho
  | x :: t, h, ho => by
    rcases three x.1 key with hl | hl | hl
    · rw [lookE_lt h hl] at ho; simp [obIs] at ho
    · rw [putE_at hl, (poO_at h hl).1, objsOf_no rfl]
      rw [lookE_at hl] at ho
      have hx : x.2.2.2 = false := by simpa [obIs] using ho
      rw [objsOf_no hx]; simp
    · rw [putE_gt hl]
      rw [lookE_gt hl] at ho
      have ih := objs_set (v := v) (d := d) (inc_tail h) ho
      cases hx : x.2.2.2 with
      | true =>
        rw [objsOf_yes hx, ih]
        unfold poO
        rw [objsOf_yes hx]
      | false =>
        rw [objsOf_no hx, ih]
        unfold poO
        rw [objsOf_no hx]
        rw [show okeys ((x.1, x.2.1, x.2.2.1) :: objsOf t) = x.1 :: okeys (objsOf t) from rfl, pos_succ hl]
        simp
/-- An object deleted. -/
theorem objs_del {key : ByteArray} {v : Int} {d : ByteArray} : ∀ {E : Els}, IncT (ekeys E) → obIs (lookE key E) = true → objsOf (putE key (v, d, true) E) = (objsOf E).take (poO key E) ++ (objsOf E).drop (poO key E + 1)
  | [], _, ho => by simp [lookE, obIs] at ho
  | x :: t, h, ho => by
    rcases three x.1 key with hl | hl | hl
    · rw [lookE_lt h hl] at ho; simp [obIs] at ho
    · rw [putE_at hl, (poO_at h hl).1, objsOf_yes rfl]
      rw [lookE_at hl] at ho
      have hx : x.2.2.2 = false := by simpa [obIs] using ho
      rw [objsOf_no hx]; simp
    · rw [putE_gt hl]
      rw [lookE_gt hl] at ho
      have ih := objs_del (v := v) (d := d) (inc_tail h) ho
      cases hx : x.2.2.2 with
      | true =>
        rw [objsOf_yes hx, ih]
        unfold poO
        rw [objsOf_yes hx]
      | false =>
        rw [objsOf_no hx, ih]
        unfold poO
        rw [objsOf_no hx]
        rw [show okeys ((x.1, x.2.1, x.2.2.1) :: objsOf t) = x.1 :: okeys (objsOf t) from rfl, pos_succ hl]
        simp
/-- What remains of a deleted object comes to the others. -/
theorem gons_ins {key : ByteArray} {v : Int} {d : ByteArray} : ∀ {E : Els}, IncT (ekeys E) → goIs (lookE key E) = false → gonsOf (putE key (v, d, true) E) = (gonsOf E).take (poG key E) ++ (key, v) :: (gonsOf E).drop (poG key E)
  | [], _, _ => by simp [putE, gonsOf]
  | x :: t, h, ho => by
    rcases three x.1 key with hl | hl | hl
    · rw [putE_lt hl, poG_lt h hl, gonsOf_yes rfl]; simp
    · rw [putE_at hl, (poG_at h hl).1, gonsOf_yes rfl]
      rw [lookE_at hl] at ho
      have hx : x.2.2.2 = false := by simpa [goIs] using ho
      rw [gonsOf_no hx]; simp
    · rw [putE_gt hl]
      rw [lookE_gt hl] at ho
      have ih := gons_ins (v := v) (d := d) (inc_tail h) ho
      cases hx : x.2.2.2 with
      | false =>
        rw [gonsOf_no hx, ih]
        unfold poG
        rw [gonsOf_no hx]
      | true =>
        rw [gonsOf_yes hx, ih]
        unfold poG
        rw [gonsOf_yes hx]
        rw [show gkeys ((x.1, x.2.1) :: gonsOf t) = x.1 :: gkeys (gonsOf t) from rfl, pos_succ hl]
        simp
/-- What remained of a deleted object goes. -/
theorem gons_del {key : ByteArray} {v : Int} {d : ByteArray} : ∀ {E : Els}, IncT (ekeys E) → goIs (lookE key E) = true → gonsOf (putE key (v, d, false) E) = (gonsOf E).take (poG key E) ++ (gonsOf E).drop (poG key E + 1)
  | [], _, ho => by simp [lookE, goIs] at ho
  | x :: t, h, ho => by
    rcases three x.1 key with hl | hl | hl
    · rw [lookE_lt h hl] at ho; simp [goIs] at ho
    · rw [putE_at hl, (poG_at h hl).1, gonsOf_no rfl]
      rw [lookE_at hl] at ho
      have hx : x.2.2.2 = true := by simpa [goIs] using ho
      rw [gonsOf_yes hx]; simp
    · rw [putE_gt hl]
      rw [lookE_gt hl] at ho
      have ih := gons_del (v := v) (d := d) (inc_tail h) ho
      cases hx : x.2.2.2 with
      | false =>
        rw [gonsOf_no hx, ih]
        unfold poG
        rw [gonsOf_no hx]
      | true =>
        rw [gonsOf_yes hx, ih]
        unfold poG
        rw [gonsOf_yes hx]
        rw [show gkeys ((x.1, x.2.1) :: gonsOf t) = x.1 :: gkeys (gonsOf t) from rfl, pos_succ hl]
        simp
theorem gons_same {key : ByteArray} {v : Int} {d : ByteArray} : ∀ {E : Els}, IncT (ekeys E) → goIs (lookE key E) = false → gonsOf (putE key (v, d, false) E) = gonsOf E
  | [], _, _ => by simp [putE, gonsOf]
  | x :: t, h, ho => by
    rcases three x.1 key with hl | hl | hl
    · rw [putE_lt hl, gonsOf_no rfl]
    · rw [putE_at hl, gonsOf_no rfl]
      rw [lookE_at hl] at ho
      have hx : x.2.2.2 = false := by simpa [goIs] using ho
      rw [gonsOf_no hx]
    · rw [putE_gt hl]
      rw [lookE_gt hl] at ho
      have ih := gons_same (v := v) (d := d) (inc_tail h) ho
      cases hx : x.2.2.2 with
      | false => rw [gonsOf_no hx, gonsOf_no hx, ih]
      | true => rw [gonsOf_yes hx, gonsOf_yes hx, ih]
/-- The version that stands where the key is found. -/
theorem obj_at_look {key : ByteArray} : ∀ {E : Els} {e : ElV}, IncT (ekeys E) → lookE key E = some e → e.2.2 = false → poO key E < (objsOf E).length ∧ (objsOf E)[poO key E]? = some (key, e.1, e.2.1)
  | [], e, _, hl, _ => by simp [lookE] at hl
  | x :: t, e, h, ho, he => by
    rcases three x.1 key with hl | hl | hl
    · rw [lookE_lt h hl] at ho; simp at ho
    · rw [lookE_at hl] at ho
      simp only [Option.some.injEq] at ho
      rw [(poO_at h hl).1, objsOf_no (by rw [ho]; exact he), ho, bytesInj hl]; simp
    · rw [lookE_gt hl] at ho
      obtain ⟨h1, h2⟩ := obj_at_look (inc_tail h) ho he
      cases hx : x.2.2.2 with
      | true =>
        unfold poO at h1 h2 ⊢
        rw [objsOf_yes hx]; exact ⟨h1, h2⟩
      | false =>
        unfold poO at h1 h2 ⊢
        rw [objsOf_no hx, show okeys ((x.1, x.2.1, x.2.2.1) :: objsOf t) = x.1 :: okeys (objsOf t) from rfl, pos_succ hl]
        simp only [List.length_cons, List.getElem?_cons_succ]
        exact ⟨by omega, h2⟩
theorem gon_at_look {key : ByteArray} : ∀ {E : Els} {e : ElV}, IncT (ekeys E) → lookE key E = some e → e.2.2 = true → poG key E < (gonsOf E).length ∧ (gonsOf E)[poG key E]? = some (key, e.1)
  | [], e, _, hl, _ => by simp [lookE] at hl
  | x :: t, e, h, ho, he => by
    rcases three x.1 key with hl | hl | hl
    · rw [lookE_lt h hl] at ho; simp at ho
    · rw [lookE_at hl] at ho
      simp only [Option.some.injEq] at ho
      rw [(poG_at h hl).1, gonsOf_yes (by rw [ho]; exact he), ho, bytesInj hl]; simp
    · rw [lookE_gt hl] at ho
      obtain ⟨h1, h2⟩ := gon_at_look (inc_tail h) ho he
      cases hx : x.2.2.2 with
      | false =>
        unfold poG at h1 h2 ⊢
        rw [gonsOf_no hx]; exact ⟨h1, h2⟩
      | true =>
        unfold poG at h1 h2 ⊢
        rw [gonsOf_yes hx, show gkeys ((x.1, x.2.1) :: gonsOf t) = x.1 :: gkeys (gonsOf t) from rfl, pos_succ hl]
        simp only [List.length_cons, List.getElem?_cons_succ]
        exact ⟨by omega, h2⟩
/-- The keys behind a new element. -/
theorem ekeys_new {key : ByteArray} {e : ElV} : ∀ {E : Els}, IncT (ekeys E) → lookE key E = none → ekeys (putE key e E) = (ekeys E).take (posT (ekeys E) key) ++ key :: (ekeys E).drop (posT (ekeys E) key)
  | [], _, _ => by simp [putE, ekeys]
  | x :: t, h, ho => by
    rcases three x.1 key with hl | hl | hl
    · rw [putE_lt hl, pos0 (fun y hy => by
        rcases List.mem_cons.1 hy with rfl | hy
        · exact hl
        · exact List.lt_trans hl (inc_head h y hy))]
      simp [ekeys]
    · rw [lookE_at hl] at ho; simp at ho
    · rw [putE_gt hl]
      rw [lookE_gt hl] at ho
      have ih := ekeys_new (e := e) (inc_tail h) ho
      rw [ekeys_cons, ekeys_cons, ih, pos_succ hl]
      simp
theorem ekeys_old {key : ByteArray} {e : ElV} : ∀ {E : Els}, IncT (ekeys E) → lookE key E ≠ none → ekeys (putE key e E) = ekeys E
  | [], _, ho => by simp [lookE] at ho
  | x :: t, h, ho => by
    rcases three x.1 key with hl | hl | hl
    · rw [lookE_lt h hl] at ho; simp at ho
    · rw [putE_at hl, ekeys_cons, ekeys_cons, bytesInj hl]
    · rw [putE_gt hl]
      rw [lookE_gt hl] at ho
      rw [ekeys_cons, ekeys_cons, ekeys_old (inc_tail h) ho]

/-! ### valid elements; a valid store is such a list -/
structure EP (E : Els) : Prop where
  few : E.length ≤ 1100
  inc : IncT (ekeys E)
  ok : ∀ x ∈ E, keyB x.1 = true ∧ inB x.2.1 1 1000000 = true ∧ x.2.2.1.size ≤ 30000 ∧ (x.2.2.2 = true → x.2.2.1 = ⟨#[]⟩)
def tagO (x : ByteArray × Int × ByteArray) : ByteArray × ElV := (x.1, x.2.1, x.2.2, false)
def tagG (x : ByteArray × Int) : ByteArray × ElV := (x.1, x.2, ⟨#[]⟩, true)
def elsOf (l : Objs) (m : Gones) : Els := List.merge (l.map tagO) (m.map tagG) (fun a b => leT a.1 b.1)
theorem els_parts : ∀ (n : Nat) (l : Objs) (m : Gones), l.length + m.length ≤ n → objsOf (elsOf l m) = l ∧ gonsOf (elsOf l m) = m ∧ ekeys (elsOf l m) = mergeT (okeys l) (gkeys m) := by
  have hO : ∀ l : Objs, objsOf (l.map tagO) = l ∧ gonsOf (l.map tagO) = [] ∧ ekeys (l.map tagO) = okeys l := by
    intro l
    induction l with
    | nil => exact ⟨rfl, rfl, rfl⟩
    | cons x t ih =>
      rw [List.map_cons, objsOf_no rfl, gonsOf_no rfl, ih.1, ih.2.1, ekeys_cons, ih.2.2]
      exact ⟨rfl, rfl, rfl⟩
  have hG : ∀ m : Gones, objsOf (m.map tagG) = [] ∧ gonsOf (m.map tagG) = m ∧ ekeys (m.map tagG) = gkeys m := by
    intro m
    induction m with
    | nil => exact ⟨rfl, rfl, rfl⟩
    | cons x t ih =>
      rw [List.map_cons, objsOf_yes rfl, gonsOf_yes rfl, ih.1, ih.2.1, ekeys_cons, ih.2.2]
      exact ⟨rfl, rfl, rfl⟩
  intro n
  induction n with
  | zero =>
    intro l m h
    obtain rfl : l = [] := List.length_eq_zero_iff.1 (by omega)
    obtain rfl : m = [] := List.length_eq_zero_iff.1 (by omega)
    have e : elsOf [] [] = [] := by unfold elsOf; rw [List.map_nil, List.map_nil, List.nil_merge]
    rw [e, mergeT_nil (A := okeys []) (.inl rfl)]
    exact ⟨rfl, rfl, rfl⟩
  | succ n ih =>
    intro l m h
    cases l with
    | nil =>
      have e : elsOf [] m = m.map tagG := by unfold elsOf; rw [List.map_nil, List.nil_merge]
      rw [e, mergeT_nil (A := okeys []) (.inl rfl)]
      exact hG m
    | cons x A =>
      cases m with
      | nil =>
        have e : elsOf (x :: A) [] = (x :: A).map tagO := by unfold elsOf; rw [List.map_nil, List.merge_right]
        rw [e, mergeT_nil (B := gkeys []) (.inr rfl)]
        have := hO (x :: A)
        rw [show gkeys [] = ([] : Txts) from rfl, List.append_nil]
        exact this
      | cons y B =>
        simp only [List.length_cons] at h
        cases hxy : ltT y.1 x.1 with
        | true =>
          have e := mergeT_b (W := []) (A := okeys A) (B := gkeys B) hxy
          simp only [List.nil_append, List.singleton_append] at e
          have h' : leT x.1 y.1 = false := by unfold leT; rw [hxy]; rfl
          have e2 : elsOf (x :: A) (y :: B) = tagG y :: elsOf (x :: A) B := by
            unfold elsOf
            rw [List.map_cons, List.map_cons, List.cons_merge_cons]
            rw [show leT (tagO x).1 (tagG y).1 = false from h', if_neg (by simp)]
          obtain ⟨h1, h2, h3⟩ := ih (x :: A) B (by simp only [List.length_cons]; omega)
          rw [e2, objsOf_yes rfl, gonsOf_yes rfl, ekeys_cons, h1, h2, h3]
          exact ⟨rfl, rfl, e.symm⟩
        | false =>
          have e := mergeT_a (W := []) (A := okeys A) (B := gkeys B) hxy
          simp only [List.nil_append, List.singleton_append] at e
          have h' : leT x.1 y.1 = true := by unfold leT; rw [hxy]; rfl
          have e2 : elsOf (x :: A) (y :: B) = tagO x :: elsOf A (y :: B) := by
            unfold elsOf
            rw [List.map_cons, List.map_cons, List.cons_merge_cons]
            rw [show leT (tagO x).1 (tagG y).1 = true from h', if_pos rfl]
          obtain ⟨h1, h2, h3⟩ := ih A (y :: B) (by simp only [List.length_cons]; omega)
          rw [e2, objsOf_no rfl, gonsOf_no rfl, ekeys_cons, h1, h2, h3]
          exact ⟨rfl, rfl, e.symm⟩
theorem els_mem (l : Objs) (m : Gones) (x : ByteArray × ElV) : x ∈ elsOf l m ↔ x ∈ l.map tagO ∨ x ∈ m.map tagG := by
  show x ∈ List.merge _ _ _ ↔ _
  rw [(List.merge_perm_append _ (xs := l.map tagO) (ys := m.map tagG)).mem_iff, List.mem_append]
theorem els_perm (l : Objs) (m : Gones) : (elsOf l m).Perm (l.map tagO ++ m.map tagG) := List.merge_perm_append _ (xs := l.map tagO) (ys := m.map tagG)
theorem ep_of {l : Objs} {m : Gones} (h : StoP l m) : EP (elsOf l m) := by
  obtain ⟨h1, h2, h3⟩ := els_parts _ l m (Nat.le_refl _)
  refine ⟨?_, ?_, ?_⟩
  · have := objs_gons_len (elsOf l m)
    rw [h1, h2] at this
    have := h.few
    omega
  · rw [h3]; exact (inc_merge _ _ _ (Nat.le_refl _)).2 ⟨h.oinc, h.ginc, h.apart⟩
  · intro x hx
    rcases (els_mem l m x).1 hx with hx | hx
    · obtain ⟨y, hy, rfl⟩ := List.mem_map.1 hx
      obtain ⟨i, hi, rfl⟩ := List.getElem_of_mem hy
      have := h.objs i hi
      unfold objOk obj0 obj1 obj2 at this
      rw [List.getD_eq_getElem?_getD, List.getElem?_eq_getElem hi] at this
      exact ⟨this.1, this.2.1, this.2.2, fun h => by cases h⟩
    · obtain ⟨y, hy, rfl⟩ := List.mem_map.1 hx
      obtain ⟨i, hi, rfl⟩ := List.getElem_of_mem hy
      have := h.gons i hi
      unfold gonOk gone0 gone1 at this
      rw [List.getD_eq_getElem?_getD, List.getElem?_eq_getElem hi] at this
      exact ⟨this.1, this.2, Nat.zero_le _, fun _ => rfl⟩
end Go.Proofs.Ytblpebdjbenphaa
