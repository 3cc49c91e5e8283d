
/- Words of a line as plain lists of bytes: cutting at a byte, splitting at blanks, the words that are not empty. No condition. -/
namespace Go.Proofs.YthndoimblfccbaaDoor

def noC (c : UInt8) (l : List UInt8) : Prop := ∀ x, x ∈ l → x ≠ c
/-- Split at byte c. -/
def splitL (c : UInt8) : List UInt8 → List (List UInt8)
  | [] => [[]]
  | x :: t => if x = c then [] :: splitL c t else match splitL c t with
    | w :: ws => (x :: w) :: ws
    | [] => [[x]]

theorem splitL_ne (c : UInt8) : ∀ l, splitL c l ≠ []
  | [] => by simp [splitL]
  | x :: t => by
    unfold splitL
    split
    · simp
    · split <;> simp

theorem splitL_no (c : UInt8) : ∀ l, noC c l → splitL c l = [l]
  | [], _ => rfl
  | x :: t, h => by
    have hx : x ≠ c := h x (by simp)
    have ht := splitL_no c t (fun y hy => h y (by simp [hy]))
    unfold splitL
    rw [if_neg hx, ht]

theorem splitL_at (c : UInt8) : ∀ a b, noC c a → splitL c (a ++ c :: b) = a :: splitL c b
  | [], b, _ => by show splitL c (c :: b) = _; rw [splitL, if_pos rfl]
  | x :: a, b, h => by
    have hx : x ≠ c := h x (by simp)
    have ih := splitL_at c a b (fun y hy => h y (by simp [hy]))
    show splitL c (x :: (a ++ c :: b)) = _
    rw [splitL, if_neg hx, ih]

def wordsL (l : List UInt8) : List (List UInt8) := (splitL 32 l).filter fun w => !w.isEmpty

theorem wordsL_nil : wordsL [] = [] := rfl
theorem wordsL_no (a : List UInt8) (h : noC 32 a) : wordsL a = if a.isEmpty then [] else [a] := by
  unfold wordsL; rw [splitL_no 32 a h]
  cases a <;> simp
theorem wordsL_at (a b : List UInt8) (h : noC 32 a) : wordsL (a ++ 32 :: b) = (if a.isEmpty then [] else [a]) ++ wordsL b := by
  unfold wordsL; rw [splitL_at 32 a b h]
  cases a <;> simp

/-- The piece of l from i to j. -/
def piece (l : List UInt8) (i j : Nat) : List UInt8 := (l.drop i).take (j - i)
theorem piece_empty (l : List UInt8) (i : Nat) : piece l i i = [] := by simp [piece]
theorem piece_snoc (l : List UInt8) (i j : Nat) (hij : i ≤ j) (hj : j < l.length) : piece l i (j + 1) = piece l i j ++ [l[j]] := by
  unfold piece
  rw [show j + 1 - i = (j - i) + 1 by omega, List.take_succ_eq_append_getElem (by simp; omega)]
  simp [show i + (j - i) = j by omega]
theorem drop_piece (l : List UInt8) (i j : Nat) (hij : i ≤ j) (hj : j < l.length) : l.drop i = piece l i j ++ l[j] :: l.drop (j + 1) := by
  unfold piece
  have h1 : l.drop i = (l.drop i).take (j - i) ++ (l.drop i).drop (j - i) := (List.take_append_drop _ _).symm
  rw [List.drop_drop, show i + (j - i) = j by omega] at h1
  rw [List.drop_eq_getElem_cons hj] at h1
  exact h1
theorem piece_end (l : List UInt8) (i : Nat) : piece l i l.length = l.drop i := by
  unfold piece; rw [List.take_of_length_le (by simp)]
theorem piece_isEmpty (l : List UInt8) (i j : Nat) (hij : i ≤ j) (hj : j ≤ l.length) : (piece l i j).isEmpty = decide (i = j) := by
  by_cases h : i = j
  · subst h; simp [piece]
  · rw [decide_eq_false h]
    unfold piece
    rw [List.isEmpty_eq_false_iff_exists_mem]
    exact ⟨l[i]'(by omega), by rw [List.mem_take_iff_getElem]; exact ⟨0, by simp; omega, by simp⟩⟩
theorem noC_snoc {c x : UInt8} {l : List UInt8} (h : noC c l) (hx : x ≠ c) : noC c (l ++ [x]) := by
  intro y hy
  rcases List.mem_append.1 hy with h1 | h1
  · exact h y h1
  · rw [List.mem_singleton.1 h1]; exact hx
theorem noC_nil {c : UInt8} : noC c [] := fun _ h => by simp at h

/-- One word found (or none) at position j: the words from 'start' on are it and the words behind. -/
theorem words_step (l : List UInt8) (s j : Nat) (hs : s ≤ j) (hj : j < l.length) (hno : noC 32 (piece l s j)) (hc : l[j] = 32) :
    wordsL (l.drop s) = (if s = j then [] else [piece l s j]) ++ wordsL (l.drop (j + 1)) := by
  rw [drop_piece l s j hs hj, hc, wordsL_at _ _ hno, piece_isEmpty l s j hs (by omega)]
  by_cases h : s = j <;> simp [h]
theorem words_end (l : List UInt8) (s : Nat) (hs : s ≤ l.length) (hno : noC 32 (piece l s l.length)) :
    wordsL (l.drop s) = if s = l.length then [] else [piece l s l.length] := by
  rw [← piece_end l s, wordsL_no _ hno, piece_isEmpty l s _ hs (Nat.le_refl _)]
  by_cases h : s = l.length <;> simp [h]
end Go.Proofs.YthndoimblfccbaaDoor
