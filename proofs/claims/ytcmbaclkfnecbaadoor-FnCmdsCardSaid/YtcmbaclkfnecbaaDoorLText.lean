
/- The text of lines, in the program and in its model. Nothing but new blocks is made. -/
import Derived.Test.YtcmbaclkfnecbaaDoorLines2
import Derived.Test.YtcmbaclkfnecbaaDoorStrs3
namespace Go.Proofs.YtcmbaclkfnecbaaDoor
open Go.ChangeShapes Go.WideShapes Go.ChangeAt Go.RowKit
set_option linter.unusedVariables false
set_option maxRecDepth 100000

def bytesOf (l : Strs) : List (List UInt8) := l.map fun s => s.data.toList
def textTo (l : Strs) (k : Nat) : List UInt8 := joinN (bytesOf (l.take k))
theorem textTo_zero (l : Strs) : textTo l 0 = [] := by simp [textTo, bytesOf, joinN]
theorem textTo_step {l : Strs} {k : Nat} (h : k < l.length) : textTo l (k + 1) = textTo l k ++ (strAt l k).data.toList ++ [10] := by
  unfold textTo bytesOf strAt
  rw [List.take_succ_eq_append_getElem h, List.map_append, List.map_singleton, joinN_snoc, List.getD_eq_getElem?_getD, List.getElem?_eq_getElem h]
  rfl
/-- The text of all lines. -/
def linesTx (l : Strs) : ByteArray := ⟨(textTo l l.length).toArray⟩
theorem text_is {T : ByteArray} {X : List UInt8} (h : T.data.toList = X) : T = ⟨X.toArray⟩ := by
  subst h
  obtain ⟨⟨l⟩⟩ := T
  rfl
theorem text_of {l : Strs} {T : ByteArray} (h : T.data.toList = textTo l l.length) : T = linesTx l := text_is h

theorem snoc_list (T s : ByteArray) : (T ++ (s ++ ⟨#[10]⟩)).data.toList = T.data.toList ++ s.data.toList ++ [10] := by simp
theorem snoc_list' (T s : ByteArray) : (T ++ s ++ ⟨#[10]⟩).data.toList = T.data.toList ++ s.data.toList ++ [10] := by simp

def SameStr (s : ByteArray) (w : World) (e : Ending) (w' : World) : Prop := e = .returned (.string s) ∧ w = w'

/-- The end of LinesText. -/
def MadeText (l : Strs) (w : World) (e : Ending) (w' : World) : Prop :=
  e = .returned (.tuple #[.string (if rightB l then linesTx l else ByteArray.empty), .bool (rightB l)]) ∧ Below w.heap.size w w'
theorem madetext_no {l : Strs} {w w' : World} (h : rightB l = false) (hB : Below w.heap.size w w') : MadeText l w (.returned (.tuple #[.string ⟨#[]⟩, .bool false])) w' := by
  unfold MadeText; rw [h]; exact ⟨rfl, hB⟩
theorem madetext_yes {l : Strs} {T : ByteArray} {w w' : World} (h : rightB l = true) (hT : T = linesTx l) (hB : Below w.heap.size w w') : MadeText l w (.returned (.tuple #[.string T, .bool true])) w' := by
  unfold MadeText; rw [h, hT]; exact ⟨rfl, hB⟩
theorem right_parts {l : Strs} (h : rightB l = true) : l.length ≤ 10 ∧ ∀ k, k < l.length → (strAt l k).size ≤ 200 ∧ hasC 10 (strAt l k) = false := by
  obtain ⟨h1, h2⟩ := (rightL_iff _).1 h
  refine ⟨by simpa using h1, fun k hk => ?_⟩
  have := h2 (strAt l k).data.toList (by
    refine List.mem_map.2 ⟨strAt l k, ?_, rfl⟩
    unfold strAt
    rw [List.getD_eq_getElem?_getD, List.getElem?_eq_getElem hk]
    exact List.getElem_mem hk)
  refine ⟨by simpa using this.1, ?_⟩
  unfold hasC
  rw [Bool.not_eq_false', List.all_eq_true]
  intro x hx
  simpa using this.2 x hx

theorem right_badlen {l : Strs} (h : ¬ l.length ≤ 10) : rightB l = false := by
  rw [← Bool.not_eq_true]
  intro hr
  exact h (right_parts hr).1
theorem right_badhas {l : Strs} {k : Nat} (hk : k < l.length) (h : (200 < (strAt l k).size) ∨ hasC 10 (strAt l k) = true) : rightB l = false := by
  rw [← Bool.not_eq_true]
  intro hr
  obtain ⟨h1, h2⟩ := (right_parts hr).2 k hk
  rcases h with h | h
  · omega
  · rw [h2] at h; cases h
theorem right_goodhas {l : Strs} (h0 : l.length ≤ 10) (h : ∀ k, k < l.length → (strAt l k).size ≤ 200 ∧ hasC 10 (strAt l k) = false) : rightB l = true := by
  rw [right_good (fun k hk => ?_), decide_eq_true h0]
  obtain ⟨h1, h2⟩ := h k hk
  refine ⟨h1, fun x hx hxc => ?_⟩
  unfold hasC at h2
  rw [Bool.not_eq_false', List.all_eq_true] at h2
  have := h2 x hx
  simp [hxc] at this

end Go.Proofs.YtcmbaclkfnecbaaDoor
