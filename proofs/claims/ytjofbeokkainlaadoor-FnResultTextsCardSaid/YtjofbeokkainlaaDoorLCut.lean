
/- The library's Cut and Contains at one byte: no bound on the text, nothing is written. -/
import Derived.Test.YtjofbeokkainlaaDoorMg7
import Derived.Test.YtjofbeokkainlaaDoorShelf
import Derived.Lib.IndexLaws
namespace Go.Proofs.YtjofbeokkainlaaDoor
open Go.ChangeShapes Go.WideShapes Go.ChangeAt Go.RowKit
set_option linter.unusedVariables false
set_option maxRecDepth 100000

def Same1 (x : Int) (w : World) (e : Ending) (w' : World) : Prop := e = .returned (.int .i64 x) ∧ w = w'
theorem noC_of_idx {l : List UInt8} {c : UInt8} (h : Lib.indexByte l c = -1) : noC c l := by
  intro x hx hxc
  obtain ⟨k, hk, rfl⟩ := List.getElem_of_mem hx
  exact Lib.indexByte_none h k (by rw [List.getElem?_eq_getElem hk, hxc])
theorem idx_of_noC {l : List UInt8} {c : UInt8} (h : noC c l) : Lib.indexByte l c = -1 := by
  have hge := Lib.indexByte_ge l c
  by_cases hn : Lib.indexByte l c = -1
  · exact hn
  · obtain ⟨k, hk⟩ : ∃ k : Nat, Lib.indexByte l c = k := ⟨(Lib.indexByte l c).toNat, by omega⟩
    obtain ⟨h1, _⟩ := Lib.indexByte_some hk
    obtain ⟨hlt, he⟩ := List.getElem?_eq_some_iff.1 h1
    exact absurd he (h _ (List.getElem_mem hlt))

theorem cut_facts {s : ByteArray} {c : UInt8} {k : Nat} (h : Lib.indexByte s.data.toList c = k) : k < s.size ∧ noC c (s.extract 0 k).data.toList ∧ s.data.toList = (s.extract 0 k).data.toList ++ c :: (s.extract (k + 1) s.size).data.toList := by
  obtain ⟨h1, h2⟩ := Lib.indexByte_some h
  obtain ⟨hlt, he⟩ := List.getElem?_eq_some_iff.1 h1
  have hs : k < s.size := by simpa using hlt
  have e1 : (s.extract 0 k).data.toList = piece s.data.toList 0 k := by rw [extract_piece]
  have e2 : (s.extract (k + 1) s.size).data.toList = s.data.toList.drop (k + 1) := by
    rw [extract_piece, show s.size = s.data.toList.length by simp, piece_end]
  have e3 := drop_piece s.data.toList 0 k (Nat.zero_le _) hlt
  rw [List.drop_zero, he] at e3
  refine ⟨hs, ?_, by rw [e1, e2]; exact e3⟩
  rw [e1]
  intro x hx hxc
  unfold piece at hx
  obtain ⟨j, hj, hjx⟩ := List.getElem_of_mem hx
  simp at hj hjx
  refine h2 j (by omega) ?_
  rw [List.getElem?_eq_getElem (by simp; omega)]
  simp [hjx, hxc]

def hasC (c : UInt8) (s : ByteArray) : Bool := !(s.data.toList.all fun x => x != c)
def SameB (x : Bool) (w : World) (e : Ending) (w' : World) : Prop := e = .returned (.bool x) ∧ w = w'
theorem hasC_idx (c : UInt8) (s : ByteArray) : decide (0 ≤ Lib.indexByte s.data.toList c) = hasC c s := by
  unfold hasC
  by_cases h : noC c s.data.toList
  · rw [idx_of_noC h]
    have : (s.data.toList.all fun x => x != c) = true := by rw [List.all_eq_true]; intro x hx; simpa using h x hx
    rw [this]; rfl
  · have hne : Lib.indexByte s.data.toList c ≠ -1 := fun e => h (noC_of_idx e)
    have := Lib.indexByte_ge s.data.toList c
    have h2 : (s.data.toList.all fun x => x != c) = false := by
      rw [← Bool.not_eq_true, List.all_eq_true]
      intro h3
      exact h fun x hx => by simpa using h3 x hx
    rw [h2, decide_eq_true (by omega)]; rfl
end Go.Proofs.YtjofbeokkainlaaDoor
