
/- Two runs merged, as plain mathematics: the records of both, in order. -/
import Derived.Test.YtjfbmjeekihdaaaDoorSortM
namespace Go.Proofs.YtjfbmjeekihdaaaDoor
open Go.ChangeShapes Go.WideShapes Go.ChangeAt Go.RowKit
set_option linter.unusedVariables false
set_option maxRecDepth 100000

def mergeL (l k : Recs) : Recs := List.merge l k leR
theorem mergeL_b {W A B : Recs} {x y : ByteArray × Int} (h : leR x y = false) : W ++ mergeL (x :: A) (y :: B) = (W ++ [y]) ++ mergeL (x :: A) B := by
  unfold mergeL
  rw [List.cons_merge_cons, h, if_neg (by simp), List.append_assoc]; rfl
theorem mergeL_a {W A B : Recs} {x y : ByteArray × Int} (h : leR x y = true) : W ++ mergeL (x :: A) (y :: B) = (W ++ [x]) ++ mergeL A (y :: B) := by
  unfold mergeL
  rw [List.cons_merge_cons, h, if_pos rfl, List.append_assoc]; rfl
theorem mergeL_nil {A B : Recs} (h : A = [] ∨ B = []) : mergeL A B = A ++ B := by
  unfold mergeL
  rcases h with rfl | rfl
  · rw [List.nil_merge]; rfl
  · rw [List.merge_right, List.append_nil]
theorem mergeL_sort {l k : Recs} (hl : InOrder l) (hk : InOrder k) : sortL (l ++ k) = mergeL l k :=
  sortL_of (List.pairwise_merge leR_trans leR_total l k hl hk) (List.merge_perm_append leR)
theorem mergeL_len (l k : Recs) : (mergeL l k).length = l.length + k.length := by
  have := (List.merge_perm_append leR (xs := l) (ys := k)).length_eq
  rw [List.length_append] at this
  exact this
end Go.Proofs.YtjfbmjeekihdaaaDoor
