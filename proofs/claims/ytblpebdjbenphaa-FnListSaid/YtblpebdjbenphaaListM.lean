
/- What is listed page by page. Plain mathematics. -/
import Derived.Test.YtblpebdjbenphaaList
import Derived.Test.YtblpebdjbenphaaFindK
namespace Go.Proofs.Ytblpebdjbenphaa
open Go.ChangeShapes Go.WideShapes Go.ChangeAt Go.RowKit
set_option linter.unusedVariables false
set_option maxRecDepth 100000

theorem gr_iff {s a : ByteArray} : grB s a = true ↔ a.toList < s.toList := by
  unfold grB
  rw [Bool.and_eq_true, Bool.not_eq_true', Bool.not_eq_true', beq_eq_false_iff_ne, ← Bool.not_eq_true, bltIff]
  constructor
  · rintro ⟨h1, h2⟩
    rcases (by by_cases h : a.toList < s.toList; exact .inl h; exact .inr h : a.toList < s.toList ∨ ¬ a.toList < s.toList) with h | h
    · exact h
    · exact absurd (List.le_antisymm h h1) (fun e => h2 (by first | exact e | exact e.symm))
  · intro h
    exact ⟨fun h2 => List.lt_irrefl _ (List.lt_trans h h2), fun e => by rw [e] at h; exact List.lt_irrefl _ h⟩
def keysP (p : ByteArray) (l : Objs) : Strs := (okeys l).filter (fun s => hpB s p)
theorem listTo_filter (p a : ByteArray) (l : Objs) : ∀ k, k ≤ l.length → listTo p a l k = ((okeys l).take k).filter (pickB p a)
  | 0, _ => by simp [listTo]
  | k + 1, h => by
    have hk : k < (okeys l).length := by simp [okeys]; omega
    have e : (okeys l)[k] = obj0 l k := by
      unfold obj0
      simp only [okeys, List.getElem_map]
      rw [List.getD_eq_getElem?_getD, List.getElem?_eq_getElem (by omega)]; rfl
    rw [listTo, listTo_filter p a l k (by omega), List.take_succ_eq_append_getElem hk, List.filter_append, e]
    congr 1
    simp only [List.filter_cons, List.filter_nil]
theorem list_keys (p a : ByteArray) (l : Objs) : listTo p a l l.length = (keysP p l).filter (fun s => grB s a) := by
  rw [listTo_filter p a l l.length (Nat.le_refl _)]
  have : (okeys l).take l.length = okeys l := List.take_of_length_le (by simp [okeys])
  rw [this]
  unfold keysP
  rw [List.filter_filter]
  congr 1
  funext s
  unfold pickB
  exact Bool.and_comm _ _
theorem cnt_keys (p : ByteArray) (l : Objs) : ∀ k, k ≤ l.length → cntTo p l k = ((((okeys l).take k).filter (fun s => hpB s p)).length : Int)
  | 0, _ => by simp [cntTo]
  | k + 1, h => by
    have hk : k < (okeys l).length := by simp [okeys]; omega
    have e : (okeys l)[k] = obj0 l k := by
      unfold obj0
      simp only [okeys, List.getElem_map]
      rw [List.getD_eq_getElem?_getD, List.getElem?_eq_getElem (by omega)]; rfl
    have ih := cnt_keys p l k (by omega)
    rw [List.take_succ_eq_append_getElem hk, List.filter_append, e, List.length_append]
    cases hh : hpB (obj0 l k) p with
    | true => rw [cnt_yes hh, ih]; simp [hh]
    | false => rw [cnt_no hh, ih]; simp [hh]
theorem cnt_all (p : ByteArray) (l : Objs) : cntTo p l l.length = ((keysP p l).length : Int) := by
  rw [cnt_keys p l l.length (Nat.le_refl _)]
  have : (okeys l).take l.length = okeys l := List.take_of_length_le (by simp [okeys])
  rw [this]; rfl
theorem keysP_inc {p : ByteArray} {l : Objs} (h : IncT (okeys l)) : IncT (keysP p l) := by
  unfold IncT at h ⊢
  exact h.filter _
/-- The key behind which the k-th page's part begins. -/
def atF (F : Strs) (k : Nat) : ByteArray := if k = 0 then ⟨#[]⟩ else F.getD (k - 1) ⟨#[]⟩
theorem drop_gt : ∀ {F : Strs}, IncT F → (∀ s ∈ F, s.toList ≠ []) → ∀ k, k ≤ F.length → F.filter (fun s => grB s (atF F k)) = F.drop k
  | F, hi, hn, 0, _ => by
    have : F.filter (fun s => grB s (atF F 0)) = F := by
      rw [List.filter_eq_self]
      intro s hs
      rw [gr_iff]
      have e : (atF F 0).toList = [] := by unfold atF; rw [if_pos rfl, Lib.toList_data]
      rw [e]
      cases hl : s.toList with
      | nil => exact absurd hl (hn s hs)
      | cons _ _ => exact List.nil_lt_cons _ _
    rw [this]; rfl
  | F, hi, hn, k + 1, hk => by
    have hx : atF F (k + 1) = F[k] := by
      unfold atF
      rw [if_neg (by omega), Nat.add_sub_cancel, List.getD_eq_getElem?_getD, List.getElem?_eq_getElem (by omega)]; rfl
    rw [hx]
    have hsplit : F = F.take k ++ F[k] :: F.drop (k + 1) := by
      rw [List.getElem_cons_drop, List.take_append_drop]
    obtain ⟨A, hA⟩ : ∃ A, F.take k = A := ⟨_, rfl⟩
    obtain ⟨B, hB⟩ : ∃ B, F.drop (k + 1) = B := ⟨_, rfl⟩
    obtain ⟨x, hxx⟩ : ∃ x, F[k] = x := ⟨_, rfl⟩
    rw [hA, hB, hxx] at hsplit
    rw [hxx, hB]
    unfold IncT at hi
    rw [hsplit, List.pairwise_append, List.pairwise_cons] at hi
    obtain ⟨_, ⟨h2, _⟩, h3⟩ := hi
    conv => lhs; rw [hsplit]
    rw [List.filter_append]
    have e1 : A.filter (fun s => grB s x) = [] := by
      rw [List.filter_eq_nil_iff]
      intro s hs hg
      have := h3 s hs x (List.mem_cons_self ..)
      exact List.lt_irrefl _ (List.lt_trans this (gr_iff.1 hg))
    have e2 : B.filter (fun s => grB s x) = B := by
      rw [List.filter_eq_self]
      intro s hs
      exact gr_iff.2 (h2 s hs)
    rw [e1, List.filter_cons, if_neg (by rw [gr_iff]; exact List.lt_irrefl _), e2]; rfl
theorem page_at {p : ByteArray} {l : Objs} (hi : IncT (okeys l)) (hn : ∀ s ∈ okeys l, s.toList ≠ []) {la c : Nat} (hl : l.length = la) (hc : c ≤ (keysP p l).length) {n : Int} (hn1 : inB n 1 100 = true) : listB p (atF (keysP p l) c) l la n = ((keysP p l).drop c).take n.toNat := by
  unfold listB
  rw [if_pos hn1, ← hl, list_keys, drop_gt (keysP_inc hi) (fun s hs => hn s (List.mem_filter.1 hs).1) c hc]
/-- The i-th key of a page is greater than what stood there, and has the prefix. -/
theorem page_key {p : ByteArray} {l : Objs} (hi : IncT (okeys l)) (hn : ∀ s ∈ okeys l, s.toList ≠ []) {k : Nat} (hk : k < (keysP p l).length) : atF (keysP p l) (k + 1) = (keysP p l)[k] ∧ (atF (keysP p l) k).toList < ((keysP p l)[k]).toList ∧ hpB (keysP p l)[k] p = true := by
  have h1 : atF (keysP p l) (k + 1) = (keysP p l)[k] := by
    unfold atF
    rw [if_neg (by omega), Nat.add_sub_cancel, List.getD_eq_getElem?_getD, List.getElem?_eq_getElem hk]; rfl
  have hm := List.getElem_mem hk
  refine ⟨h1, ?_, (List.mem_filter.1 hm).2⟩
  cases k with
  | zero =>
    have e : (atF (keysP p l) 0).toList = [] := by unfold atF; rw [if_pos rfl, Lib.toList_data]
    rw [e]
    cases hl : ((keysP p l)[0]).toList with
    | nil => exact absurd hl (hn _ (List.mem_filter.1 hm).1)
    | cons _ _ => exact List.nil_lt_cons _ _
  | succ k =>
    have e : atF (keysP p l) (k + 1) = (keysP p l)[k]'(by omega) := by
      unfold atF
      rw [if_neg (by omega), Nat.add_sub_cancel, List.getD_eq_getElem?_getD, List.getElem?_eq_getElem (by omega)]; rfl
    rw [e]
    have := keysP_inc (p := p) hi
    unfold IncT at this
    rw [List.pairwise_iff_getElem] at this
    exact this k (k + 1) (by omega) hk (by omega)
end Go.Proofs.Ytblpebdjbenphaa
