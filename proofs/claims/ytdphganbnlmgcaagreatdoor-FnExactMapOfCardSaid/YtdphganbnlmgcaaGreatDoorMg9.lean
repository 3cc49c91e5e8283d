/- Texts put together, as a claim holds at most sixty files. -/
import Derived.Test.YtdphganbnlmgcaaGreatDoorMg3
import Derived.Test.YtdphganbnlmgcaaGreatDoorMg8
namespace Go.Proofs.YtdphganbnlmgcaaGreatDoor

def linesP (P : List (List UInt8)) : Option (List (List UInt8)) :=
  if P.getLast? = some [] ∧ P.dropLast.length ≤ 10 ∧ P.dropLast.all (fun x => decide (x.length ≤ 200)) = true then some P.dropLast else none
def linesB (L : List UInt8) : Option (List (List UInt8)) := linesP (splitL 10 L)
def linesW (L : List UInt8) : List (List UInt8) := (linesB L).getD []
def linesK (L : List UInt8) : Bool := (linesB L).isSome

theorem linesP_done (W : List (List UInt8)) (h1 : W.length ≤ 10) (h2 : ∀ x ∈ W, x.length ≤ 200) : linesP (W ++ [[]]) = some W := by
  unfold linesP
  rw [if_pos]
  · simp
  · refine ⟨by simp, by simpa using h1, ?_⟩
    simpa [List.all_eq_true] using h2
theorem linesP_open (W : List (List UInt8)) (a : List UInt8) (h : a ≠ []) : linesP (W ++ [a]) = none := by
  unfold linesP
  rw [if_neg]
  rintro ⟨h1, _⟩
  simp at h1
  exact h h1
theorem dropLast_cons (W Q : List (List UInt8)) (a : List UInt8) (hQ : Q ≠ []) : (W ++ a :: Q).dropLast = W ++ a :: Q.dropLast := by
  rw [List.dropLast_append_of_ne_nil (by simp), List.dropLast_cons_of_ne_nil hQ]
theorem linesP_long (W Q : List (List UInt8)) (a : List UInt8) (hQ : Q ≠ []) (h : ¬ a.length ≤ 200) : linesP (W ++ a :: Q) = none := by
  unfold linesP
  rw [if_neg]
  rintro ⟨_, _, h3⟩
  rw [dropLast_cons W Q a hQ, List.all_eq_true] at h3
  exact h (of_decide_eq_true (h3 a (by simp)))
theorem linesP_many (W Q : List (List UInt8)) (a : List UInt8) (hQ : Q ≠ []) (h : W.length = 10) : linesP (W ++ a :: Q) = none := by
  unfold linesP
  rw [if_neg]
  rintro ⟨_, h2, _⟩
  rw [dropLast_cons W Q a hQ] at h2
  simp at h2
  omega
theorem linesP_bad (W : List (List UInt8)) (h : ¬ (W.length ≤ 10 ∧ ∀ x ∈ W, x.length ≤ 200)) : linesP (W ++ [[]]) = none := by
  unfold linesP
  rw [if_neg]
  rintro ⟨_, h2, h3⟩
  simp at h2
  rw [List.all_eq_true] at h3
  exact h ⟨h2, fun x hx => of_decide_eq_true (h3 x (by simpa using hx))⟩

theorem split_noC (c : UInt8) : ∀ l : List UInt8, ∀ x ∈ splitL c l, noC c x
  | [], x, hx => by simp [splitL] at hx; subst hx; exact noC_nil
  | y :: t, x, hx => by
    have ih := split_noC c t
    unfold splitL at hx
    split at hx
    · rcases List.mem_cons.1 hx with rfl | h
      · exact noC_nil
      · exact ih x h
    · rename_i hy
      split at hx
      · rename_i w ws heq
        rcases List.mem_cons.1 hx with rfl | h
        · intro z hz
          rcases List.mem_cons.1 hz with rfl | h2
          · exact hy
          · exact ih w (by rw [heq]; simp) z h2
        · exact ih x (by rw [heq]; simp [h])
      · simp at hx; subst hx
        intro z hz
        simp at hz
        subst hz
        exact hy

theorem split_short (c : UInt8) : ∀ l : List UInt8, ∀ x ∈ splitL c l, x.length ≤ l.length
  | [], x, hx => by simp [splitL] at hx; subst hx; simp
  | y :: t, x, hx => by
    have ih := split_short c t
    unfold splitL at hx
    split at hx
    · rcases List.mem_cons.1 hx with rfl | h
      · simp
      · have := ih x h; simp; omega
    · split at hx
      · rename_i w ws heq
        rcases List.mem_cons.1 hx with rfl | h
        · have := ih w (by rw [heq]; simp)
          simp; omega
        · have := ih x (by rw [heq]; simp [h])
          simp; omega
      · simp at hx; subst hx; simp
theorem linesB_some (L : List UInt8) (W : List (List UInt8)) (h : linesB L = some W) : W.length ≤ 10 ∧ (∀ x ∈ W, x.length ≤ 200 ∧ noC 10 x) ∧ splitL 10 L = W ++ [[]] := by
  unfold linesB linesP at h
  split at h
  · rename_i h1
    obtain ⟨h1, h2, h3⟩ := h1
    obtain rfl := Option.some.inj h
    rw [List.all_eq_true] at h3
    refine ⟨h2, fun x hx => ⟨of_decide_eq_true (h3 x hx), split_noC 10 L x (List.dropLast_subset _ hx)⟩, ?_⟩
    obtain ⟨ys, e⟩ := List.getLast?_eq_some_iff.1 h1
    rw [e]; simp
  · cases h

theorem linesW_few (L : List UInt8) : (linesW L).length ≤ 10 ∧ ∀ x ∈ linesW L, x.length ≤ 200 := by
  unfold linesW
  cases h : linesB L with
  | none => simp
  | some W => obtain ⟨h1, h2, _⟩ := linesB_some L W h; exact ⟨h1, fun x hx => (h2 x hx).1⟩
theorem lines_none {L : List UInt8} (h : linesB L = none) : linesW L = [] ∧ linesK L = false := by unfold linesW linesK; rw [h]; exact ⟨rfl, rfl⟩
theorem lines_some {L : List UInt8} {W : List (List UInt8)} (h : linesB L = some W) : linesW L = W ∧ linesK L = true := by unfold linesW linesK; rw [h]; exact ⟨rfl, rfl⟩

/-- The text of lines. -/
def joinN : List (List UInt8) → List UInt8
  | [] => []
  | a :: t => a ++ 10 :: joinN t
theorem joinN_snoc : ∀ (A : List (List UInt8)) (w : List UInt8), joinN (A ++ [w]) = joinN A ++ w ++ [10]
  | [], w => by simp [joinN]
  | a :: t, w => by simp [joinN, joinN_snoc t w]
theorem joinN_len : ∀ (A : List (List UInt8)) (m : Nat), (∀ x ∈ A, x.length ≤ m) → (joinN A).length ≤ A.length * (m + 1)
  | [], m, _ => by simp [joinN]
  | a :: t, m, h => by
    have := joinN_len t m (fun x hx => h x (by simp [hx]))
    have h1 := h a (by simp)
    simp only [joinN, List.length_append, List.length_cons, Nat.add_mul]
    omega
theorem split_joinN : ∀ A : List (List UInt8), (∀ x ∈ A, noC 10 x) → splitL 10 (joinN A) = A ++ [[]]
  | [], _ => rfl
  | a :: t, h => by
    rw [joinN, splitL_at 10 a _ (h a (by simp)), split_joinN t (fun x hx => h x (by simp [hx]))]
    rfl
theorem joinN_split : ∀ L : List UInt8, ∀ A, splitL 10 L = A ++ [[]] → joinN A = L
  | [], A, h => by
    have : A = [] := by
      have := congrArg List.length h
      simp [splitL] at this
      exact this
    subst this; rfl
  | y :: t, A, h => by
    unfold splitL at h
    split at h
    · rename_i hy
      match A, h with
      | [], h => have := congrArg List.length h; simp at this; exact absurd this (splitL_ne 10 t)
      | a :: A', h =>
        simp only [List.cons_append, List.cons.injEq] at h
        obtain ⟨rfl, h⟩ := h
        rw [joinN, joinN_split t A' h, hy]; rfl
    · split at h
      · rename_i w ws heq
        match A, h with
        | [], h => simp at h
        | a :: A', h =>
          simp only [List.cons_append, List.cons.injEq] at h
          obtain ⟨rfl, h⟩ := h
          have := joinN_split t (w :: A') (by rw [heq, h]; rfl)
          rw [joinN] at this ⊢
          rw [← this]; rfl
      · rename_i heq; exact absurd heq (splitL_ne 10 t)
/-- Lines that come back. -/
def rightL (W : List (List UInt8)) : Bool := decide (W.length ≤ 10) && W.all fun x => decide (x.length ≤ 200) && x.all fun c => c != 10
theorem rightL_iff (W : List (List UInt8)) : rightL W = true ↔ W.length ≤ 10 ∧ ∀ x ∈ W, x.length ≤ 200 ∧ noC 10 x := by
  unfold rightL noC
  simp [List.all_eq_true]
theorem linesB_of_split {L : List UInt8} {W : List (List UInt8)} (h : splitL 10 L = W ++ [[]]) : linesB L = if rightL W = true then some W else none := by
  have hno : ∀ x ∈ W, noC 10 x := fun x hx => split_noC 10 L x (by rw [h]; simp [hx])
  unfold linesB
  rw [h]
  by_cases hr : rightL W = true
  · rw [if_pos hr]
    obtain ⟨h1, h2⟩ := (rightL_iff W).1 hr
    exact linesP_done W h1 (fun x hx => (h2 x hx).1)
  · rw [if_neg hr]
    refine linesP_bad W fun ⟨h1, h2⟩ => hr ((rightL_iff W).2 ⟨h1, fun x hx => ⟨h2 x hx, hno x hx⟩⟩)
end Go.Proofs.YtdphganbnlmgcaaGreatDoor
namespace Go.Proofs.YtdphganbnlmgcaaGreatDoor
open Go.ChangeShapes Go.WideShapes Go.ChangeAt Go.RowKit
set_option linter.unusedVariables false
set_option maxRecDepth 100000

theorem filter_le (P : List (List UInt8)) (n : Nat) (h : ∀ x ∈ P, x.length ≤ n) : ∀ x ∈ P.filter (fun y => !y.isEmpty), x.length ≤ n := fun x hx => h x (List.mem_filter.1 hx).1
theorem words_short (s : ByteArray) (hs : s.size ≤ maxLen) : Short ((wordsL s.data.toList).take 20) := by
  refine ⟨List.length_take_le _ _, fun j h => ?_⟩
  have hmem : ((wordsL s.data.toList).take 20)[j] ∈ wordsL s.data.toList := List.mem_of_mem_take (List.getElem_mem h)
  have := filter_le _ _ (split_short 32 s.data.toList) _ hmem
  simp at this
  simp
  omega

end Go.Proofs.YtdphganbnlmgcaaGreatDoor
namespace Go.Proofs.YtdphganbnlmgcaaGreatDoor
open Go.ChangeShapes Go.WideShapes Go.ChangeAt Go.RowKit
set_option linter.unusedVariables false
set_option maxRecDepth 100000

def MadeWsC (W : List (List UInt8)) (w : World) (e : Ending) (w' : World) : Prop :=
  ∃ q cp, e = .returned (.slice q W.length cp) ∧ Ws w.heap.size w' q W ∧ Below w.heap.size w w' ∧ W.length ≤ cp ∧ cp ≤ maxLen
theorem words_wsc (s : ByteArray) (w : World) (hs : s.size ≤ 1048576) :
    Calls Tryz.prog 84 #[.string s] w (MadeWsC ((wordsL s.data.toList).take 20) w) :=
  (words_any s w hs).mono fun e w' ⟨v, he, hown, hb⟩ => by
    obtain ⟨q, cp, rfl⟩ := own_form hown
    refine ⟨q, cp, he, ws_of_own hown (List.take_length).symm, hb, ?_, ?_⟩
    · rcases hown.2 with ⟨h1, h2⟩ | ⟨g, cap, cur, hv, _, _, h1, _⟩
      · omega
      · simp only [Value.slice.injEq, true_and] at hv
        obtain ⟨_, rfl⟩ := hv
        exact h1
    · rcases hown.2 with ⟨h1, h2⟩ | ⟨g, cap, cur, hv, _, _, _, h1, _⟩
      · simp only [Value.slice.injEq] at h1; unfold maxLen; omega
      · simp only [Value.slice.injEq, true_and] at hv
        obtain ⟨_, rfl⟩ := hv
        exact h1

set_option maxHeartbeats 1000000 in
theorem swords_wsc (s : ByteArray) (w : World) (hs : s.size ≤ 1048576) :
    Calls Tryz.prog 38 #[.string s] w (MadeWsC ((wordsL s.data.toList).take 20) w) := by
  obtain ⟨W, hW⟩ : ∃ W, wordsL s.data.toList = W := ⟨_, rfl⟩
  have HW := Lib.hid hW
  rw [hW]
  clear hW
  go_enter Tryz.func38, Tryz.ntmps38
  go_wp2_with fail
  refine (l1words_any s _ hs).mono ?_
  rw [HW.out]
  rintro e w1 ⟨v, rfl, hown, hB, hlen⟩
  obtain ⟨q, cp, hv⟩ := own_form hown
  subst hv
  have HOWN := Lib.hid hown
  have HB := Lib.hid hB
  have hcp : W.length ≤ cp := by
    rcases hown.2 with ⟨h1, h2⟩ | ⟨g, cap, cur, hv, _, _, h1, _⟩
    · omega
    · simp only [Value.slice.injEq, true_and] at hv
      obtain ⟨_, rfl⟩ := hv
      exact h1
  have hcm : cp ≤ maxLen := by
    rcases hown.2 with ⟨h1, h2⟩ | ⟨g, cap, cur, hv, _, _, _, h1, _⟩
    · simp only [Value.slice.injEq] at h1; unfold maxLen; omega
    · simp only [Value.slice.injEq, true_and] at hv
      obtain ⟨_, rfl⟩ := hv
      exact h1
  unfold maxLen at hcm
  by_cases h20 : 20 < W.length
  · have hl : (W.take 20).length = 20 := by simp; omega
    have HT := Lib.hid (show Ws w.heap.size w1 q (W.take 20) from ws_of_own hown (by rw [hl]))
    have HL := Lib.hid hl
    have hd : (20 : Int) < (W.length : Int) := by omega
    have hd0 : decide ((20 : Int) < (W.length : Int)) = true := by simp; omega
    clear hown hB hl hlen
    go_wp2
    go_ret
    refine ⟨q, cp, ?_, HT.out, HB.out, by rw [HL.out]; omega, by unfold maxLen; omega⟩
    rw [HL.out]; rfl
  · have hl : W.take 20 = W := List.take_of_length_le (by omega)
    have HT := Lib.hid (show Ws w.heap.size w1 q W from ws_of_own hown (by rw [List.take_length]))
    have HL := Lib.hid hl
    have hd0 : decide ((20 : Int) < (W.length : Int)) = false := by simp; omega
    clear hown hB hl hlen
    go_wp2
    go_ret
    refine ⟨q, cp, ?_, ?_, HB.out, by rw [HL.out]; exact hcp, by unfold maxLen; omega⟩
    · rw [HL.out]; rfl
    · rw [HL.out]; exact HT.out

end Go.Proofs.YtdphganbnlmgcaaGreatDoor
