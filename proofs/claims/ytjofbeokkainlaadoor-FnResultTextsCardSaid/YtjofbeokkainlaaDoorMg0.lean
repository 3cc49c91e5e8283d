/- Texts put together, as a claim holds at most sixty files. -/
import Derived.Test.YtjofbeokkainlaaDoorRows
import Derived.Lib.LaidTab
import Derived.Lib.ItoaNum
import Derived.Lib.SmallJoins
import Derived.Stop.LaidErr
import Derived.KernelRfl
import Derived.Below
import Derived.WalkKit
import Derived.ProofKit
namespace Go.Proofs.YtjofbeokkainlaaDoor
open Go.ChangeShapes Go.WideShapes Go.ChangeAt Go.RowKit Go.Joins

def Tabs (w : World) : Prop := Lib.TabIs Tryd.prog w "internal/strconv.uint64pow10" .u64 Lib.pow10Tab
theorem gPow : Tryd.prog.globalNamed "internal/strconv.uint64pow10" = some 0 := by kernel_rfl
theorem gPowType : (Tryd.prog.globals[0]?).map (·.type) = some 115 := by kernel_rfl
theorem gPowCells : Tryd.prog.cellsOf 115 = 20 := by kernel_rfl
theorem gU64Cells : Tryd.prog.cellsOf 68 = 1 := by kernel_rfl
theorem tabs_of {W : World} (h : laidMet Tryd.prog [("math/bits.deBruijn32tab", Rows.laid_math_bits_deBruijn32tab), ("math/bits.deBruijn64tab", Rows.laid_math_bits_deBruijn64tab), ("internal/strconv.uint64pow10", Rows.laid_internal_strconv_uint64pow10)] W) : Tabs W :=
  Lib.tabIs_of_head (k := .u64) (zs := Lib.pow10Tab) (rest := []) gPow gPowType Tryd.underlying115 Tryd.underlying68 gU64Cells gPowCells h.tail.tail
theorem Tabs.keep {w w' : World} (h : Tabs w) (hB : Below w.heap.size w w') : Tabs w' := tab_stays gPow h hB (Nat.le_refl _)
end Go.Proofs.YtjofbeokkainlaaDoor

/- Words of a line as plain lists of bytes: cutting at a byte, splitting at blanks, the words that are not empty. No condition. -/
namespace Go.Proofs.YtjofbeokkainlaaDoor

def noC (c : UInt8) (l : List UInt8) : Prop := ∀ x, x ∈ l → x ≠ c
/-- Split at byte c. -/
def splitL (c : UInt8) : List UInt8 → List (List UInt8)
  | [] => [[]]
  | x :: t => if x = c then [] :: splitL c t else match splitL c t with
    | w :: ws => (x :: w) :: ws
    | [] => [[x]]

theorem splitL_ne (c : UInt8) : ∀ l, splitL c l ≠ []
  | [] => by simp [splitL]
  | x :: t => by
    unfold splitL
    split
    · simp
    · split <;> simp

theorem splitL_no (c : UInt8) : ∀ l, noC c l → splitL c l = [l]
  | [], _ => rfl
  | x :: t, h => by
    have hx : x ≠ c := h x (by simp)
    have ht := splitL_no c t (fun y hy => h y (by simp [hy]))
    unfold splitL
    rw [if_neg hx, ht]

theorem splitL_at (c : UInt8) : ∀ a b, noC c a → splitL c (a ++ c :: b) = a :: splitL c b
  | [], b, _ => by show splitL c (c :: b) = _; rw [splitL, if_pos rfl]
  | x :: a, b, h => by
    have hx : x ≠ c := h x (by simp)
    have ih := splitL_at c a b (fun y hy => h y (by simp [hy]))
    show splitL c (x :: (a ++ c :: b)) = _
    rw [splitL, if_neg hx, ih]

def wordsL (l : List UInt8) : List (List UInt8) := (splitL 32 l).filter fun w => !w.isEmpty

theorem wordsL_nil : wordsL [] = [] := rfl
theorem wordsL_no (a : List UInt8) (h : noC 32 a) : wordsL a = if a.isEmpty then [] else [a] := by
  unfold wordsL; rw [splitL_no 32 a h]
  cases a <;> simp
theorem wordsL_at (a b : List UInt8) (h : noC 32 a) : wordsL (a ++ 32 :: b) = (if a.isEmpty then [] else [a]) ++ wordsL b := by
  unfold wordsL; rw [splitL_at 32 a b h]
  cases a <;> simp

/-- The piece of l from i to j. -/
def piece (l : List UInt8) (i j : Nat) : List UInt8 := (l.drop i).take (j - i)
theorem piece_empty (l : List UInt8) (i : Nat) : piece l i i = [] := by simp [piece]
theorem piece_snoc (l : List UInt8) (i j : Nat) (hij : i ≤ j) (hj : j < l.length) : piece l i (j + 1) = piece l i j ++ [l[j]] := by
  unfold piece
  rw [show j + 1 - i = (j - i) + 1 by omega, List.take_succ_eq_append_getElem (by simp; omega)]
  simp [show i + (j - i) = j by omega]
theorem drop_piece (l : List UInt8) (i j : Nat) (hij : i ≤ j) (hj : j < l.length) : l.drop i = piece l i j ++ l[j] :: l.drop (j + 1) := by
  unfold piece
  have h1 : l.drop i = (l.drop i).take (j - i) ++ (l.drop i).drop (j - i) := (List.take_append_drop _ _).symm
  rw [List.drop_drop, show i + (j - i) = j by omega] at h1
  rw [List.drop_eq_getElem_cons hj] at h1
  exact h1
theorem piece_end (l : List UInt8) (i : Nat) : piece l i l.length = l.drop i := by
  unfold piece; rw [List.take_of_length_le (by simp)]
theorem piece_isEmpty (l : List UInt8) (i j : Nat) (hij : i ≤ j) (hj : j ≤ l.length) : (piece l i j).isEmpty = decide (i = j) := by
  by_cases h : i = j
  · subst h; simp [piece]
  · rw [decide_eq_false h]
    unfold piece
    rw [List.isEmpty_eq_false_iff_exists_mem]
    exact ⟨l[i]'(by omega), by rw [List.mem_take_iff_getElem]; exact ⟨0, by simp; omega, by simp⟩⟩
theorem noC_snoc {c x : UInt8} {l : List UInt8} (h : noC c l) (hx : x ≠ c) : noC c (l ++ [x]) := by
  intro y hy
  rcases List.mem_append.1 hy with h1 | h1
  · exact h y h1
  · rw [List.mem_singleton.1 h1]; exact hx
theorem noC_nil {c : UInt8} : noC c [] := fun _ h => by simp at h

/-- One word found (or none) at position j: the words from 'start' on are it and the words behind. -/
theorem words_step (l : List UInt8) (s j : Nat) (hs : s ≤ j) (hj : j < l.length) (hno : noC 32 (piece l s j)) (hc : l[j] = 32) :
    wordsL (l.drop s) = (if s = j then [] else [piece l s j]) ++ wordsL (l.drop (j + 1)) := by
  rw [drop_piece l s j hs hj, hc, wordsL_at _ _ hno, piece_isEmpty l s j hs (by omega)]
  by_cases h : s = j <;> simp [h]
theorem words_end (l : List UInt8) (s : Nat) (hs : s ≤ l.length) (hno : noC 32 (piece l s l.length)) :
    wordsL (l.drop s) = if s = l.length then [] else [piece l s l.length] := by
  rw [← piece_end l s, wordsL_no _ hno, piece_isEmpty l s _ hs (Nat.le_refl _)]
  by_cases h : s = l.length <;> simp [h]
end Go.Proofs.YtjofbeokkainlaaDoor
namespace Go.Proofs.YtjofbeokkainlaaDoor

def linesP (P : List (List UInt8)) : Option (List (List UInt8)) :=
  if P.getLast? = some [] ∧ P.dropLast.length ≤ 10 ∧ P.dropLast.all (fun x => decide (x.length ≤ 200)) = true then some P.dropLast else none
def linesB (L : List UInt8) : Option (List (List UInt8)) := linesP (splitL 10 L)
def linesW (L : List UInt8) : List (List UInt8) := (linesB L).getD []
def linesK (L : List UInt8) : Bool := (linesB L).isSome

theorem linesP_done (W : List (List UInt8)) (h1 : W.length ≤ 10) (h2 : ∀ x ∈ W, x.length ≤ 200) : linesP (W ++ [[]]) = some W := by
  unfold linesP
  rw [if_pos]
  · simp
  · refine ⟨by simp, by simpa using h1, ?_⟩
    simpa [List.all_eq_true] using h2
theorem linesP_open (W : List (List UInt8)) (a : List UInt8) (h : a ≠ []) : linesP (W ++ [a]) = none := by
  unfold linesP
  rw [if_neg]
  rintro ⟨h1, _⟩
  simp at h1
  exact h h1
theorem dropLast_cons (W Q : List (List UInt8)) (a : List UInt8) (hQ : Q ≠ []) : (W ++ a :: Q).dropLast = W ++ a :: Q.dropLast := by
  rw [List.dropLast_append_of_ne_nil (by simp), List.dropLast_cons_of_ne_nil hQ]
theorem linesP_long (W Q : List (List UInt8)) (a : List UInt8) (hQ : Q ≠ []) (h : ¬ a.length ≤ 200) : linesP (W ++ a :: Q) = none := by
  unfold linesP
  rw [if_neg]
  rintro ⟨_, _, h3⟩
  rw [dropLast_cons W Q a hQ, List.all_eq_true] at h3
  exact h (of_decide_eq_true (h3 a (by simp)))
theorem linesP_many (W Q : List (List UInt8)) (a : List UInt8) (hQ : Q ≠ []) (h : W.length = 10) : linesP (W ++ a :: Q) = none := by
  unfold linesP
  rw [if_neg]
  rintro ⟨_, h2, _⟩
  rw [dropLast_cons W Q a hQ] at h2
  simp at h2
  omega
theorem linesP_bad (W : List (List UInt8)) (h : ¬ (W.length ≤ 10 ∧ ∀ x ∈ W, x.length ≤ 200)) : linesP (W ++ [[]]) = none := by
  unfold linesP
  rw [if_neg]
  rintro ⟨_, h2, h3⟩
  simp at h2
  rw [List.all_eq_true] at h3
  exact h ⟨h2, fun x hx => of_decide_eq_true (h3 x (by simpa using hx))⟩

theorem split_noC (c : UInt8) : ∀ l : List UInt8, ∀ x ∈ splitL c l, noC c x
  | [], x, hx => by simp [splitL] at hx; subst hx; exact noC_nil
  | y :: t, x, hx => by
    have ih := split_noC c t
    unfold splitL at hx
    split at hx
    · rcases List.mem_cons.1 hx with rfl | h
      · exact noC_nil
      · exact ih x h
    · rename_i hy
      split at hx
      · rename_i w ws heq
        rcases List.mem_cons.1 hx with rfl | h
        · intro z hz
          rcases List.mem_cons.1 hz with rfl | h2
          · exact hy
          · exact ih w (by rw [heq]; simp) z h2
        · exact ih x (by rw [heq]; simp [h])
      · simp at hx; subst hx
        intro z hz
        simp at hz
        subst hz
        exact hy

theorem split_short (c : UInt8) : ∀ l : List UInt8, ∀ x ∈ splitL c l, x.length ≤ l.length
  | [], x, hx => by simp [splitL] at hx; subst hx; simp
  | y :: t, x, hx => by
    have ih := split_short c t
    unfold splitL at hx
    split at hx
    · rcases List.mem_cons.1 hx with rfl | h
      · simp
      · have := ih x h; simp; omega
    · split at hx
      · rename_i w ws heq
        rcases List.mem_cons.1 hx with rfl | h
        · have := ih w (by rw [heq]; simp)
          simp; omega
        · have := ih x (by rw [heq]; simp [h])
          simp; omega
      · simp at hx; subst hx; simp
theorem linesB_some (L : List UInt8) (W : List (List UInt8)) (h : linesB L = some W) : W.length ≤ 10 ∧ (∀ x ∈ W, x.length ≤ 200 ∧ noC 10 x) ∧ splitL 10 L = W ++ [[]] := by
  unfold linesB linesP at h
  split at h
  · rename_i h1
    obtain ⟨h1, h2, h3⟩ := h1
    obtain rfl := Option.some.inj h
    rw [List.all_eq_true] at h3
    refine ⟨h2, fun x hx => ⟨of_decide_eq_true (h3 x hx), split_noC 10 L x (List.dropLast_subset _ hx)⟩, ?_⟩
    obtain ⟨ys, e⟩ := List.getLast?_eq_some_iff.1 h1
    rw [e]; simp
  · cases h

theorem linesW_few (L : List UInt8) : (linesW L).length ≤ 10 ∧ ∀ x ∈ linesW L, x.length ≤ 200 := by
  unfold linesW
  cases h : linesB L with
  | none => simp
  | some W => obtain ⟨h1, h2, _⟩ := linesB_some L W h; exact ⟨h1, fun x hx => (h2 x hx).1⟩
theorem lines_none {L : List UInt8} (h : linesB L = none) : linesW L = [] ∧ linesK L = false := by unfold linesW linesK; rw [h]; exact ⟨rfl, rfl⟩
theorem lines_some {L : List UInt8} {W : List (List UInt8)} (h : linesB L = some W) : linesW L = W ∧ linesK L = true := by unfold linesW linesK; rw [h]; exact ⟨rfl, rfl⟩

/-- The text of lines. -/
def joinN : List (List UInt8) → List UInt8
  | [] => []
  | a :: t => a ++ 10 :: joinN t
theorem joinN_snoc : ∀ (A : List (List UInt8)) (w : List UInt8), joinN (A ++ [w]) = joinN A ++ w ++ [10]
  | [], w => by simp [joinN]
  | a :: t, w => by simp [joinN, joinN_snoc t w]
theorem joinN_len : ∀ (A : List (List UInt8)) (m : Nat), (∀ x ∈ A, x.length ≤ m) → (joinN A).length ≤ A.length * (m + 1)
  | [], m, _ => by simp [joinN]
  | a :: t, m, h => by
    have := joinN_len t m (fun x hx => h x (by simp [hx]))
    have h1 := h a (by simp)
    simp only [joinN, List.length_append, List.length_cons, Nat.add_mul]
    omega
theorem split_joinN : ∀ A : List (List UInt8), (∀ x ∈ A, noC 10 x) → splitL 10 (joinN A) = A ++ [[]]
  | [], _ => rfl
  | a :: t, h => by
    rw [joinN, splitL_at 10 a _ (h a (by simp)), split_joinN t (fun x hx => h x (by simp [hx]))]
    rfl
theorem joinN_split : ∀ L : List UInt8, ∀ A, splitL 10 L = A ++ [[]] → joinN A = L
  | [], A, h => by
    have : A = [] := by
      have := congrArg List.length h
      simp [splitL] at this
      exact this
    subst this; rfl
  | y :: t, A, h => by
    unfold splitL at h
    split at h
    · rename_i hy
      match A, h with
      | [], h => have := congrArg List.length h; simp at this; exact absurd this (splitL_ne 10 t)
      | a :: A', h =>
        simp only [List.cons_append, List.cons.injEq] at h
        obtain ⟨rfl, h⟩ := h
        rw [joinN, joinN_split t A' h, hy]; rfl
    · split at h
      · rename_i w ws heq
        match A, h with
        | [], h => simp at h
        | a :: A', h =>
          simp only [List.cons_append, List.cons.injEq] at h
          obtain ⟨rfl, h⟩ := h
          have := joinN_split t (w :: A') (by rw [heq, h]; rfl)
          rw [joinN] at this ⊢
          rw [← this]; rfl
      · rename_i heq; exact absurd heq (splitL_ne 10 t)
/-- Lines that come back. -/
def rightL (W : List (List UInt8)) : Bool := decide (W.length ≤ 10) && W.all fun x => decide (x.length ≤ 200) && x.all fun c => c != 10
theorem rightL_iff (W : List (List UInt8)) : rightL W = true ↔ W.length ≤ 10 ∧ ∀ x ∈ W, x.length ≤ 200 ∧ noC 10 x := by
  unfold rightL noC
  simp [List.all_eq_true]
theorem linesB_of_split {L : List UInt8} {W : List (List UInt8)} (h : splitL 10 L = W ++ [[]]) : linesB L = if rightL W = true then some W else none := by
  have hno : ∀ x ∈ W, noC 10 x := fun x hx => split_noC 10 L x (by rw [h]; simp [hx])
  unfold linesB
  rw [h]
  by_cases hr : rightL W = true
  · rw [if_pos hr]
    obtain ⟨h1, h2⟩ := (rightL_iff W).1 hr
    exact linesP_done W h1 (fun x hx => (h2 x hx).1)
  · rw [if_neg hr]
    refine linesP_bad W fun ⟨h1, h2⟩ => hr ((rightL_iff W).2 ⟨h1, fun x hx => ⟨h2 x hx, hno x hx⟩⟩)
end Go.Proofs.YtjofbeokkainlaaDoor
