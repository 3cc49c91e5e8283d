
/- Which texts are those of a claim: by their pieces, and by writing the claim again. No model in this text. -/
import Derived.Test.YtcmbaclkfnecbaaDoorReadDecs
namespace Go.Proofs.YtcmbaclkfnecbaaDoor
set_option linter.unusedVariables false

theorem split3 {c : UInt8} {a b d : List UInt8} (ha : noC c a) (hb : noC c b) (hd : noC c d) : splitL c (a ++ c :: (b ++ c :: d)) = [a, b, d] := by
  rw [splitL_at c _ _ ha, splitL_at c _ _ hb, splitL_no c _ hd]
theorem joinL_of (c : UInt8) : ∀ (n : Nat) (l : List UInt8), l.length ≤ n → ∀ x y z, splitL c l = [x, y, z] → l = x ++ c :: (y ++ c :: z) := by
  intro n l _ x y z h
  rcases splitL_form c l with h1 | ⟨a, b, rfl, h1⟩
  · rw [splitL_no c l h1] at h; simp at h
  · rw [splitL_at c a b h1] at h
    injection h with e1 e2
    subst e1
    rcases splitL_form c b with h2 | ⟨a2, b2, rfl, h2⟩
    · rw [splitL_no c b h2] at e2; simp at e2
    · rw [splitL_at c a2 b2 h2] at e2
      injection e2 with e3 e4
      subst e3
      rcases splitL_form c b2 with h3 | ⟨a3, b3, rfl, h3⟩
      · rw [splitL_no c b2 h3] at e4
        injection e4 with e5 _
        rw [e5]
      · rw [splitL_at c a3 b3 h3] at e4
        injection e4 with _ e5
        exact absurd e5 (splitL_ne c b3)
theorem blank_no (v : Int) : noC 32 (Lib.itoa v) := itoa_noC 32 (by decide) v
theorem cat3_list (a b c : ByteArray) : (cat3 a b c).data.toList = a.data.toList ++ 32 :: (b.data.toList ++ 32 :: c.data.toList) := by simp [cat3]
theorem cat3_split (a e u : Int) : splitL 32 (cat3 (decB a) (decB e) (decB u)).data.toList = [Lib.itoa a, Lib.itoa e, Lib.itoa u] := by
  rw [cat3_list, decB_list, decB_list, decB_list, split3 (blank_no _) (blank_no _) (blank_no _)]

/-- What is read of a text as a claim. -/
def rclaim (s : List UInt8) : Option (Int × Int × Int) :=
  match splitL 32 s with
  | [x, y, z] => match numD x, numD y, numD z with
    | some a, some e, some u => if claimB a e u then some (a, e, u) else none
    | _, _, _ => none
  | _ => none
theorem rclaim_iff {s : ByteArray} {a e u : Int} : rclaim s.data.toList = some (a, e, u) ↔ claimB a e u = true ∧ cat3 (decB a) (decB e) (decB u) = s := by
  constructor
  · intro h
    unfold rclaim at h
    split at h
    · rename_i x y z hs
      split at h
      · rename_i a1 e1 u1 ha he hu
        split at h
        · rename_i hc
          simp only [Option.some.injEq, Prod.mk.injEq] at h
          obtain ⟨rfl, rfl, rfl⟩ := h
          refine ⟨hc, ba_eq ?_⟩
          rw [cat3_list, decB_list, decB_list, decB_list, (numD_iff.1 ha).1, (numD_iff.1 he).1, (numD_iff.1 hu).1]
          exact (joinL_of 32 _ _ (Nat.le_refl _) x y z hs).symm
        · cases h
      · cases h
    · cases h
  · rintro ⟨hc, rfl⟩
    have hb := claimB_iff.1 hc
    unfold rclaim
    rw [cat3_split]
    simp only
    rw [numD_itoa (by omega) (by omega), numD_itoa (by omega) (by omega), numD_itoa (by omega) (by omega)]
    simp only
    rw [if_pos hc]
theorem claimTx_eq {s : ByteArray} {a e u : Int} (hs : 1 < (splitL 32 s.data.toList).length) : claimTx a e u = s ↔ rclaim s.data.toList = some (a, e, u) := by
  rw [rclaim_iff]
  unfold claimTx
  cases hc : claimB a e u with
  | true => simp
  | false =>
    simp only [Bool.false_eq_true, if_false, false_and, iff_false]
    rintro rfl
    exact absurd hs (by decide)
theorem dec_small {v : Int} {k : Nat} (hk : 1 ≤ k) (h0 : 0 ≤ v) (h1 : v.toNat < 10 ^ k) : (decB v).size ≤ k := by
  have := itoa_len_k k hk h0 h1
  simpa [decB, ByteArray.size] using this
theorem rclaim_size {s : ByteArray} {a e u : Int} (h : rclaim s.data.toList = some (a, e, u)) : s.size ≤ 40 := by
  obtain ⟨hc, rfl⟩ := rclaim_iff.1 h
  have hb := claimB_iff.1 hc
  have h1 := @dec_small a 1 (by decide) (by omega) (by omega)
  have h2 := @dec_small e 7 (by decide) (by omega) (by omega)
  have h3 := @dec_small u 7 (by decide) (by omega) (by omega)
  unfold cat3
  rw [ByteArray.size_append, ByteArray.size_append, ByteArray.size_append, ByteArray.size_append]
  show _ + 1 + _ + 1 + _ ≤ 40
  omega
theorem rclaim_long {s : ByteArray} (h : 40 < s.size) : rclaim s.data.toList = none := by
  cases hr : rclaim s.data.toList with
  | none => rfl
  | some x => exact absurd (rclaim_size (s := s) hr) (by omega)
theorem rclaim_count {s : List UInt8} (h : (splitL 32 s).length ≠ 3) : rclaim s = none := by
  unfold rclaim
  split
  · rename_i x y z hs
    rw [hs] at h
    simp at h
  · rfl
theorem rclaim_nums_no {s x y z : List UInt8} (h : splitL 32 s = [x, y, z]) (hn : numsD [x, y, z] = none) : rclaim s = none := by
  unfold rclaim
  rw [h]
  simp only
  cases h1 : numD x with
  | none => rfl
  | some a =>
    cases h2 : numD y with
    | none => rfl
    | some b =>
      cases h3 : numD z with
      | none => rfl
      | some c =>
        unfold numsD at hn
        simp [h1, h2, h3] at hn
theorem rclaim_nums {s x y z : List UInt8} {a e u : Int} (h : splitL 32 s = [x, y, z]) (hn : numsD [x, y, z] = some [a, e, u]) : rclaim s = if claimB a e u then some (a, e, u) else none := by
  unfold numsD at hn
  split at hn
  · rename_i hall
    simp only [List.all_cons, List.all_nil, Bool.and_true, Bool.and_eq_true, Option.isSome_iff_exists] at hall
    obtain ⟨⟨a1, ha⟩, ⟨e1, he⟩, ⟨u1, hu⟩⟩ := hall
    simp only [List.map_cons, List.map_nil, ha, he, hu, Option.getD_some, Option.some.injEq, List.cons.injEq, and_true] at hn
    obtain ⟨rfl, rfl, rfl⟩ := hn
    unfold rclaim
    rw [h]
    simp only [ha, he, hu]
  · cases hn
theorem three {α : Type} {l : List α} (h : l.length = 3) : ∃ x y z, l = [x, y, z] := by
  match l, h with
  | [x, y, z], _ => exact ⟨x, y, z, rfl⟩
theorem splitL_len (c : UInt8) : ∀ (l : List UInt8), ∀ x ∈ splitL c l, x.length ≤ l.length
  | [], x, hx => by simp [splitL] at hx; subst hx; simp
  | y :: t, x, hx => by
    have ih := splitL_len c t
    unfold splitL at hx
    split at hx
    · rcases List.mem_cons.1 hx with e | e
      · subst e; simp
      · have := ih x e; simp; omega
    · split at hx
      · rename_i w ws hw
        rcases List.mem_cons.1 hx with e | e
        · subst e
          have := ih w (by rw [hw]; simp)
          simp; omega
        · have := ih x (by rw [hw]; simp [e])
          simp; omega
      · simp at hx; subst hx; simp
end Go.Proofs.YtcmbaclkfnecbaaDoor
