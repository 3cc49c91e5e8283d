
/- The records that lie one behind the other in a text, as plain mathematics. -/
import Derived.Test.YthnlllbanfemaaaGreatDoorRuns4
namespace Go.Proofs.YthnlllbanfemaaaGreatDoor
open Go.ChangeShapes Go.WideShapes Go.ChangeAt Go.RowKit
set_option linter.unusedVariables false
set_option maxRecDepth 100000

def byteAt (s : ByteArray) (i : Nat) : UInt8 := s.data.toList.getD i 0
theorem byteAt_eq {s : ByteArray} {i : Nat} (h : i < s.size) : byteAt s i = s[i] := by
  unfold byteAt
  rw [List.getD_eq_getElem?_getD, List.getElem?_eq_getElem (by simpa using h)]
  rfl
def wstep (X : Int) (y : UInt8) : Int := bits BinOp.or IntKind.u64 (IntKind.u64.wrap (X * 256)) (IntKind.u64.wrap (y.toNat : Int))
/-- The word at p, its last m bytes. -/
def wordTo (s : ByteArray) (p : Nat) : Nat → Int
  | 0 => 0
  | m + 1 => wstep (wordTo s p m) (byteAt s (p + (7 - m)))
/-- Where the key of the record at a place ends. -/
def keyEnd (s : ByteArray) (at0 : Nat) : Nat := at0 + 1 + (byteAt s at0).toNat
def recAt (s : ByteArray) (at0 : Nat) : ByteArray × Int := (s.extract (at0 + 1) (keyEnd s at0), wrap64 (wordTo s (keyEnd s at0) 8))
def fitsB (s : ByteArray) (at0 : Nat) : Bool := decide (at0 < s.size) && decide (keyEnd s at0 + 8 ≤ s.size)
/-- The place behind the first k records, if there are so many. -/
def posK (s : ByteArray) : Nat → Option Nat
  | 0 => some 0
  | k + 1 => match posK s k with
    | some at0 => if fitsB s at0 then some (keyEnd s at0 + 8) else none
    | none => none
def recsK (s : ByteArray) : Nat → Recs
  | 0 => []
  | k + 1 => recsK s k ++ [recAt s ((posK s k).getD 0)]
theorem recsK_len (s : ByteArray) : ∀ k, (recsK s k).length = k
  | 0 => rfl
  | k + 1 => by simp [recsK, recsK_len s k]
theorem posK_step {s : ByteArray} {k at0 : Nat} (h : posK s k = some at0) (hf : fitsB s at0 = true) : posK s (k + 1) = some (keyEnd s at0 + 8) := by
  simp [posK, h, hf]
theorem posK_stop {s : ByteArray} {k at0 : Nat} (h : posK s k = some at0) (hf : fitsB s at0 = false) : posK s (k + 1) = none := by
  simp [posK, h, hf]
theorem recsK_step {s : ByteArray} {k at0 : Nat} (h : posK s k = some at0) : recsK s (k + 1) = recsK s k ++ [recAt s at0] := by
  simp [recsK, h]
theorem posK_none {s : ByteArray} {k : Nat} (h : posK s k = none) : ∀ j, posK s (k + j) = none
  | 0 => h
  | j + 1 => by
    show posK s (k + j + 1) = none
    simp [posK, posK_none h j]
theorem posK_some {s : ByteArray} {k j : Nat} (h : posK s k ≠ none) (hj : j ≤ k) : posK s j ≠ none := fun h0 => h (by
  have := posK_none h0 (k - j)
  rwa [show j + (k - j) = k by omega] at this)
theorem posK_end {s : ByteArray} {k : Nat} (h : posK s k = some s.size) : posK s (k + 1) = none :=
  posK_stop h (by unfold fitsB; simp)
theorem posK_one {s : ByteArray} {k j : Nat} (h : posK s k = some s.size) (hj : posK s j = some s.size) : j = k := by
  rcases Nat.lt_trichotomy j k with hl | hl | hl
  · have := posK_some (j := j + 1) (by rw [h]; simp) hl
    exact absurd (posK_end hj) this
  · exact hl
  · have := posK_some (j := k + 1) (by rw [hj]; simp) hl
    exact absurd (posK_end h) this

def readB (s : ByteArray) : Option Recs := ((List.range 601).find? fun k => decide (posK s k = some s.size) && runOkB (recsK s k)).map (recsK s)
theorem read_yes {s : ByteArray} {k : Nat} (h : posK s k = some s.size) (hk : k ≤ 600) (hr : runOkB (recsK s k) = true) : readB s = some (recsK s k) := by
  unfold readB
  cases hf : (List.range 601).find? fun k => decide (posK s k = some s.size) && runOkB (recsK s k) with
  | none =>
    rw [List.find?_eq_none] at hf
    exact absurd (by rw [decide_eq_true h, hr]; rfl) (hf k (List.mem_range.2 (by omega)))
  | some j =>
    have h1 := List.find?_some hf
    rw [Bool.and_eq_true] at h1
    rw [posK_one h (of_decide_eq_true h1.1)]; rfl
theorem read_no {s : ByteArray} (h : ∀ k, k ≤ 600 → posK s k = some s.size → runOkB (recsK s k) = false) : readB s = none := by
  unfold readB
  rw [Option.map_eq_none_iff, List.find?_eq_none]
  intro k hk hc
  rw [Bool.and_eq_true] at hc
  have := h k (by have := List.mem_range.1 hk; omega) (of_decide_eq_true hc.1)
  rw [this] at hc
  exact absurd hc.2 (by simp)
theorem read_bad {s : ByteArray} {k : Nat} (h : posK s k = some s.size) (hr : runOkB (recsK s k) = false) : readB s = none :=
  read_no fun j _ hj => by rw [posK_one h hj]; exact hr
theorem read_unfit {s : ByteArray} {k at0 : Nat} (h : posK s k = some at0) (hne : at0 < s.size) (hf : fitsB s at0 = false) : readB s = none :=
  read_no fun j _ hj => by
    have h1 := posK_stop h hf
    rcases Nat.lt_trichotomy j k with hl | hl | hl
    · exact absurd (posK_end hj) (posK_some (j := j + 1) (by rw [h]; simp) hl)
    · subst hl; rw [h] at hj; have := Option.some.inj hj; omega
    · exact absurd h1 (posK_some (j := k + 1) (by rw [hj]; simp) hl)
theorem read_many {s : ByteArray} {k at0 : Nat} (h : posK s k = some at0) (hne : at0 < s.size) (hk : 600 ≤ k) : readB s = none :=
  read_no fun j hj0 hj => by
    rcases Nat.lt_or_ge j k with hl | hl
    · exact absurd (posK_end hj) (posK_some (j := j + 1) (by rw [h]; simp) hl)
    · obtain rfl : j = k := by omega
      rw [h] at hj; have := Option.some.inj hj; omega
def readW (s : ByteArray) : Recs := (readB s).getD []
def readK (s : ByteArray) : Bool := (readB s).isSome
theorem read_none {s : ByteArray} (h : readB s = none) : readW s = [] ∧ readK s = false := by unfold readW readK; rw [h]; exact ⟨rfl, rfl⟩
theorem read_some {s : ByteArray} {W : Recs} (h : readB s = some W) : readW s = W ∧ readK s = true := by unfold readW readK; rw [h]; exact ⟨rfl, rfl⟩
theorem posK_le {s : ByteArray} : ∀ k at0, posK s k = some at0 → at0 ≤ s.size
  | 0, at0, h => by simp [posK] at h; omega
  | k + 1, at0, h => by
    unfold posK at h
    split at h
    · split at h
      · rename_i hf
        simp [fitsB] at hf
        simp at h
        omega
      · cases h
    · cases h
theorem recsK_keys (s : ByteArray) : ∀ k i, i < k → (keyAt (recsK s k) i).size ≤ s.size
  | 0, i, h => by omega
  | k + 1, i, h => by
    unfold keyAt
    rw [recsK, List.getD_eq_getElem?_getD]
    rcases Nat.lt_or_ge i k with hl | hl
    · rw [List.getElem?_append_left (by rw [recsK_len]; exact hl), ← List.getD_eq_getElem?_getD]
      exact recsK_keys s k i hl
    · obtain rfl : i = k := by omega
      rw [List.getElem?_append_right (by rw [recsK_len]; exact Nat.le_refl _), recsK_len, Nat.sub_self]
      show (s.extract _ _).size ≤ s.size
      rw [ByteArray.size_extract]; omega
theorem fits_yes {s : ByteArray} {at0 : Nat} (h1 : at0 < s.size) (h2 : keyEnd s at0 + 8 ≤ s.size) : fitsB s at0 = true := by
  unfold fitsB; rw [decide_eq_true h1, decide_eq_true h2]; rfl
theorem fits_no {s : ByteArray} {at0 : Nat} (h2 : ¬ keyEnd s at0 + 8 ≤ s.size) : fitsB s at0 = false := by
  unfold fitsB; rw [decide_eq_false h2, Bool.and_false]
end Go.Proofs.YthnlllbanfemaaaGreatDoor
