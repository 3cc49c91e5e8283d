
/- Which texts are those of a mark: by their pieces, and by writing the mark again. No model in this text. -/
import Derived.Test.YtcmbaclkfnecbaaDoorRClaimM
import Derived.Test.YtcmbaclkfnecbaaDoorMark
namespace Go.Proofs.YtcmbaclkfnecbaaDoor
set_option linter.unusedVariables false

def okW : List UInt8 := [111, 107]
def failW : List UInt8 := [102, 97, 105, 108, 101, 100]
def wordM (b : Bool) : List UInt8 := if b then okW else failW
def mk3 (b : Bool) (e k : Int) : ByteArray := (if b then okTx else failTx) ++ decB e ++ ⟨#[32]⟩ ++ decB k
theorem mk3_list (b : Bool) (e k : Int) : (mk3 b e k).data.toList = wordM b ++ 32 :: (Lib.itoa e ++ 32 :: Lib.itoa k) := by
  cases b <;> simp [mk3, wordM, okTx, failTx, okW, failW, decB]
theorem wordM_no (b : Bool) : noC 32 (wordM b) := by
  cases b
  · intro x hx; simp [wordM, failW] at hx; rcases hx with h | h | h | h | h | h <;> subst h <;> decide
  · intro x hx; simp [wordM, okW] at hx; rcases hx with h | h <;> subst h <;> decide
theorem mk3_split (b : Bool) (e k : Int) : splitL 32 (mk3 b e k).data.toList = [wordM b, Lib.itoa e, Lib.itoa k] := by
  rw [mk3_list, split3 (wordM_no b) (blank_no _) (blank_no _)]
def isOk (x : List UInt8) : Bool := x == okW
def isWord (x : List UInt8) : Bool := x == okW || x == failW
theorem isOk_word (b : Bool) : isOk (wordM b) = b := by cases b <;> decide
theorem isWord_word (b : Bool) : isWord (wordM b) = true := by cases b <;> decide
theorem word_of {x : List UInt8} (h : isWord x = true) : x = wordM (isOk x) := by
  unfold isWord at h
  simp only [Bool.or_eq_true, beq_iff_eq] at h
  rcases h with rfl | rfl <;> decide

/-- What is read of a text as a mark. -/
def rmark (s : List UInt8) : Option (Bool × Int × Int) :=
  match splitL 32 s with
  | [x, y, z] => match numD y, numD z with
    | some e, some k => if isWord x = true ∧ markB e k = true then some (isOk x, e, k) else none
    | _, _ => none
  | _ => none
theorem rmark_iff {s : ByteArray} {b : Bool} {e k : Int} : rmark s.data.toList = some (b, e, k) ↔ markB e k = true ∧ mk3 b e k = s := by
  constructor
  · intro h
    unfold rmark at h
    split at h
    · rename_i x y z hs
      split at h
      · rename_i e1 k1 he hk
        split at h
        · rename_i hc
          simp only [Option.some.injEq, Prod.mk.injEq] at h
          obtain ⟨rfl, rfl, rfl⟩ := h
          refine ⟨hc.2, ba_eq ?_⟩
          rw [mk3_list, (numD_iff.1 he).1, (numD_iff.1 hk).1, ← word_of hc.1]
          exact (joinL_of 32 _ _ (Nat.le_refl _) x y z hs).symm
        · cases h
      · cases h
    · cases h
  · rintro ⟨hc, rfl⟩
    have hb := markB_iff.1 hc
    unfold rmark
    rw [mk3_split]
    simp only
    rw [numD_itoa (by omega) (by omega), numD_itoa (by omega) (by omega)]
    simp only
    rw [if_pos ⟨isWord_word b, hc⟩, isOk_word]
theorem markTx_eq {s : ByteArray} {b : Bool} {e k : Int} (hs : 1 < (splitL 32 s.data.toList).length) : markTx b e k = s ↔ rmark s.data.toList = some (b, e, k) := by
  rw [rmark_iff]
  unfold markTx mk3
  cases hc : markB e k with
  | true => simp
  | false =>
    simp only [Bool.false_eq_true, if_false, false_and, iff_false]
    rintro rfl
    exact absurd hs (by decide)
theorem rmark_size {s : ByteArray} {b : Bool} {e k : Int} (h : rmark s.data.toList = some (b, e, k)) : s.size ≤ 40 := by
  obtain ⟨hc, rfl⟩ := rmark_iff.1 h
  have hb := markB_iff.1 hc
  have h2 := @dec_small e 7 (by decide) (by omega) (by omega)
  have h3 := @dec_small k 1 (by decide) (by omega) (by omega)
  have h4 : (if b then okTx else failTx).size ≤ 7 := by cases b <;> decide
  unfold mk3
  rw [ByteArray.size_append, ByteArray.size_append, ByteArray.size_append]
  show _ + _ + 1 + _ ≤ 40
  omega
theorem rmark_long {s : ByteArray} (h : 40 < s.size) : rmark s.data.toList = none := by
  cases hr : rmark s.data.toList with
  | none => rfl
  | some x => exact absurd (rmark_size (s := s) hr) (by omega)
theorem rmark_count {s : List UInt8} (h : (splitL 32 s).length ≠ 3) : rmark s = none := by
  unfold rmark
  split
  · rename_i x y z hs
    rw [hs] at h
    simp at h
  · rfl
theorem rmark_nums_no {s x y z : List UInt8} (h : splitL 32 s = [x, y, z]) (hn : numsD [y, z] = none) : rmark s = none := by
  unfold rmark
  rw [h]
  simp only
  cases h2 : numD y with
  | none => rfl
  | some b =>
    cases h3 : numD z with
    | none => rfl
    | some c =>
      unfold numsD at hn
      simp [h2, h3] at hn
theorem rmark_nums {s x y z : List UInt8} {e k : Int} (h : splitL 32 s = [x, y, z]) (hn : numsD [y, z] = some [e, k]) : rmark s = if isWord x = true ∧ markB e k = true then some (isOk x, e, k) else none := by
  unfold numsD at hn
  split at hn
  · rename_i hall
    simp only [List.all_cons, List.all_nil, Bool.and_true, Bool.and_eq_true, Option.isSome_iff_exists] at hall
    obtain ⟨⟨e1, he⟩, ⟨u1, hu⟩⟩ := hall
    simp only [List.map_cons, List.map_nil, he, hu, Option.getD_some, Option.some.injEq, List.cons.injEq, and_true] at hn
    obtain ⟨rfl, rfl⟩ := hn
    unfold rmark
    rw [h]
    simp only [he, hu]
  · cases hn
theorem two {α : Type} {l : List α} (h : l.length = 2) : ∃ x y, l = [x, y] := by
  match l, h with
  | [x, y], _ => exact ⟨x, y, rfl⟩
end Go.Proofs.YtcmbaclkfnecbaaDoor
