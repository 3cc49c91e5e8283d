
/- What Sorted computes in the model: the records in order, in a row of its own. Only new blocks are made. -/
import Derived.Test.YthnlllbanfemaaaGreatDoorSortM
import Derived.Test.YthnlllbanfemaaaGreatDoorMg27
namespace Go.Proofs.YthnlllbanfemaaaGreatDoor
open Go.ChangeShapes Go.WideShapes Go.ChangeAt Go.RowKit
set_option linter.unusedVariables false
set_option maxRecDepth 100000

theorem own_cap {w : World} {base : Nat} {e : TypeId} {size : Nat} {q : Option Addr} {n cp : Nat} {xs : List Value} (h : w.ownsRow base e size (.slice q n cp) n xs) : n ≤ cp ∧ cp ≤ maxLen ∧ (q = none → cp = 0) := by
  rcases h.2 with ⟨h1, h2⟩ | ⟨g, cap, cur, hv, _, _, h1, h2, _⟩
  · simp only [Value.slice.injEq] at h1; exact ⟨by omega, by unfold maxLen; omega, fun _ => h1.2.2⟩
  · simp only [Value.slice.injEq] at hv
    obtain ⟨rfl, _, rfl⟩ := hv
    exact ⟨h1, h2, fun h => by cases h⟩
/-- The end of a function that returns records in a row of its own. -/
def MadeRs (W : Recs) (w : World) (e : Ending) (w' : World) : Prop :=
  ∃ q cp, e = .returned (.slice q W.length cp) ∧ Rs w.heap.size w' q W ∧ Below w.heap.size w w' ∧ W.length ≤ cp ∧ cp ≤ maxLen ∧ (q = none → cp = 0)

theorem laid_take {cur : Array Value} {V : Recs} {n : Nat} (h : Laid cur V n) (hn : V.length = n) (hs : n * 2 ≤ cur.size) : cur.toList.take (n * 2) = cellsL V := by
  subst hn
  refine List.ext_getElem? fun i => ?_
  by_cases hi : i < V.length * 2
  · rw [List.getElem?_take_of_lt hi]
    obtain ⟨h1, h2⟩ := h (i / 2) (by omega)
    obtain ⟨e1, e2⟩ := cellsL_get V (i / 2) (by omega)
    rcases Nat.mod_two_eq_zero_or_one i with hm | hm
    · have e : i / 2 * 2 = i := by omega
      rw [e] at h1 e1
      rw [e1]; simpa using h1
    · have e : i / 2 * 2 + 1 = i := by omega
      rw [e] at h2 e2
      rw [e2]; simpa using h2
  · rw [List.getElem?_eq_none (by simp; omega), List.getElem?_eq_none (by rw [cellsL_len]; omega)]
theorem own_of_laid {w : World} {base g n cap : Nat} {cur : Array Value} {V : Recs} (hr : Row w g 54 cur) (hb : base ≤ g) (hn : V.length = n) (h1 : n ≤ cap) (h2 : cap ≤ maxLen) (h3 : cur.size = cap * 2) (hl : Laid cur V n) :
    w.ownsRow base 54 2 (.slice (some ⟨g, 0, none⟩) n cap) n (cellsL V) :=
  ⟨by rw [cellsL_len, hn], .inr ⟨g, cap, cur, rfl, hb, hr, h1, h2, h3, laid_take hl hn (by omega)⟩⟩
theorem laid_of_take {cur : Array Value} {V : Recs} {n : Nat} (hn : V.length = n) (h : cur.toList.take (n * 2) = cellsL V) : Laid cur V n := by
  intro j hj
  obtain ⟨e1, e2⟩ := cellsL_get V j (by omega)
  rw [← h, List.getElem?_take_of_lt (by omega)] at e1 e2
  exact ⟨by simpa using e1, by simpa using e2⟩

/-- The row while x looks for its place j: the records ahead of j, and those behind it, one place further. -/
def Gap (cur : Array Value) (V : Recs) (j k : Nat) : Prop :=
  (∀ i, i < j → cur[i * 2]? = some (.string (keyAt V i)) ∧ cur[i * 2 + 1]? = some (.int .i64 (numAt V i))) ∧
  (∀ i, j ≤ i → i < k → cur[(i + 1) * 2]? = some (.string (keyAt V i)) ∧ cur[(i + 1) * 2 + 1]? = some (.int .i64 (numAt V i)))
theorem gap_start {cur : Array Value} {V : Recs} {x : ByteArray × Int} {k : Nat} (h : Laid cur (V ++ [x]) (k + 1)) (hk : V.length = k) : Gap cur V k k := by
  refine ⟨fun i hi => ?_, fun i h1 h2 => by omega⟩
  have := h i (by omega)
  unfold keyAt numAt at this ⊢
  rw [List.getD_eq_getElem?_getD, List.getElem?_append_left (by omega)] at this
  rw [List.getD_eq_getElem?_getD]
  exact this
theorem gap_shift {cur : Array Value} {V : Recs} {j k : Nat} (h : Gap cur V (j + 1) k) (hj : j < k) (hs : (k + 1) * 2 ≤ cur.size) :
    Gap ((cur.setIfInBounds ((j + 1) * 2) (.string (keyAt V j))).setIfInBounds ((j + 1) * 2 + 1) (.int .i64 (numAt V j))) V j k := by
  have h1 : (j + 1) * 2 < cur.size := by omega
  have h2 : (j + 1) * 2 + 1 < cur.size := by omega
  refine ⟨fun i hi => ?_, fun i hi hik => ?_⟩
  · obtain ⟨e1, e2⟩ := h.1 i (by omega)
    constructor
    · rw [Array.getElem?_setIfInBounds_ne (by omega), Array.getElem?_setIfInBounds_ne (by omega)]; exact e1
    · rw [Array.getElem?_setIfInBounds_ne (by omega), Array.getElem?_setIfInBounds_ne (by omega)]; exact e2
  · rcases Nat.lt_or_ge j i with hl | hl
    · obtain ⟨e1, e2⟩ := h.2 i (by omega) hik
      constructor
      · rw [Array.getElem?_setIfInBounds_ne (by omega), Array.getElem?_setIfInBounds_ne (by omega)]; exact e1
      · rw [Array.getElem?_setIfInBounds_ne (by omega), Array.getElem?_setIfInBounds_ne (by omega)]; exact e2
    · obtain rfl : i = j := by omega
      constructor
      · rw [Array.getElem?_setIfInBounds_ne (by omega)]; simp [h1]
      · simp [h2]
theorem gap_end {cur : Array Value} {V : Recs} {s : ByteArray} {n : Int} {j k : Nat} (h : Gap cur V j k) (hk : V.length = k) (hj : j ≤ k) (hs : (k + 1) * 2 ≤ cur.size) :
    Laid ((cur.setIfInBounds (j * 2) (.string s)).setIfInBounds (j * 2 + 1) (.int .i64 n)) (V.take j ++ (s, n) :: V.drop j) (k + 1) := by
  have h1 : j * 2 < cur.size := by omega
  have h2 : j * 2 + 1 < cur.size := by omega
  intro i hi
  have htl : (V.take j).length = j := by simp; omega
  rcases Nat.lt_trichotomy i j with hl | hl | hl
  · obtain ⟨e1, e2⟩ := h.1 i hl
    have hg : (V.take j ++ (s, n) :: V.drop j)[i]? = V[i]? := by
      rw [List.getElem?_append_left (by omega), List.getElem?_take_of_lt hl]
    unfold keyAt numAt
    rw [List.getD_eq_getElem?_getD, hg, ← List.getD_eq_getElem?_getD]
    constructor
    · rw [Array.getElem?_setIfInBounds_ne (by omega), Array.getElem?_setIfInBounds_ne (by omega)]; exact e1
    · rw [Array.getElem?_setIfInBounds_ne (by omega), Array.getElem?_setIfInBounds_ne (by omega)]; exact e2
  · subst hl
    have hg : (V.take i ++ (s, n) :: V.drop i)[i]? = some (s, n) := by
      rw [List.getElem?_append_right (by omega), htl, Nat.sub_self]; rfl
    unfold keyAt numAt
    rw [List.getD_eq_getElem?_getD, hg]
    constructor
    · rw [Array.getElem?_setIfInBounds_ne (by omega)]; simp [h1]
    · simp [h2]
  · obtain ⟨m, rfl⟩ : ∃ m, i = m + 1 := ⟨i - 1, by omega⟩
    obtain ⟨e1, e2⟩ := h.2 m (by omega) (by omega)
    have hg : (V.take j ++ (s, n) :: V.drop j)[m + 1]? = V[m]? := by
      rw [List.getElem?_append_right (by omega), htl, show m + 1 - j = (m - j) + 1 by omega, List.getElem?_cons_succ, List.getElem?_drop]
      congr 1; omega
    unfold keyAt numAt
    rw [List.getD_eq_getElem?_getD, hg, ← List.getD_eq_getElem?_getD]
    constructor
    · rw [Array.getElem?_setIfInBounds_ne (by omega), Array.getElem?_setIfInBounds_ne (by omega)]; exact e1
    · rw [Array.getElem?_setIfInBounds_ne (by omega), Array.getElem?_setIfInBounds_ne (by omega)]; exact e2

/-- The records so far, in order. -/
structure SortSt (l : Recs) (w wr : World) (v : Value) (V : Recs) (k : Nat) : Prop where
  own : wr.ownsRow w.heap.size 54 2 v k (cellsL V)
  below : Below w.heap.size w wr
  length : V.length = k
  perm : V.Perm (l.take k)
  order : InOrder V
  ok : ∀ j, j < k → okAt l j = true

theorem sort_stop {l : Recs} {k : Nat} (hk : k < l.length) (h : okAt l k = false) : sortedB l = [] := by
  unfold sortedB
  rw [recsOk_inv hk h]; rfl
theorem sort_long {l : Recs} (h : ¬ l.length ≤ 600) : sortedB l = [] := by
  unfold sortedB
  rw [recsOk_long h]; rfl
theorem sort_end {l : Recs} {w wr : World} {v : Value} {V : Recs} {k : Nat} (h : SortSt l w wr v V k) (hk : l.length = k) (h600 : k ≤ 600) : sortedB l = V := by
  unfold sortedB
  rw [recsOk_good (by omega) (by rw [hk]; exact h.ok), if_pos rfl]
  have hp := h.perm
  rw [← hk, List.take_length] at hp
  exact sortL_of h.order hp

/-- While record k looks for its place. -/
structure PutSt (l : Recs) (w wr : World) (g cap : Nat) (V : Recs) (k j : Nat) : Prop where
  below : Below w.heap.size w wr
  row : ∃ cur, Row wr g 54 cur ∧ cur.size = cap * 2 ∧ Gap cur V j k
  behind : ∀ y ∈ V.drop j, leR (keyAt l k, numAt l k) y = true

theorem row_cell {w : World} {B : Nat} {E : TypeId} {cur : Array Value} {j : Nat} {v : Value} (h : Row w B E cur) (e : cur[j]? = some v) : w.cell? ⟨B, j, none⟩ = some v := by
  unfold Row at h; simp [World.cell?, h, e]
theorem row_some {w : World} {B : Nat} {E : TypeId} {cur : Array Value} {j : Nat} (h : Row w B E cur) (hj : j < cur.size) : ∃ v, w.cell? ⟨B, j, none⟩ = some v := ⟨_, h.cell hj⟩
theorem less_leR {s u : ByteArray} {n m : Int} (h : lessB s n u m = true) : leR (s, n) (u, m) = true := by
  rw [leR_iff']
  rcases (less_iff s u n m).1 h with h | ⟨h, h2⟩
  · exact .inl h
  · exact .inr ⟨h, Int.le_of_lt h2⟩
theorem PutSt.keep {l : Recs} {w wr w1 : World} {g cap : Nat} {V : Recs} {k j : Nat} (h : PutSt l w wr g cap V k j) (hB : Below wr.heap.size wr w1) : PutSt l w w1 g cap V k j :=
  ⟨below_via h.below hB, by obtain ⟨cur, h1, h2, h3⟩ := h.row; exact ⟨cur, h1.keep hB, h2, h3⟩, h.behind⟩
theorem PutSt.shift {l : Recs} {w wr : World} {g cap : Nat} {V : Recs} {k m : Nat} (h : PutSt l w wr g cap V k (m + 1)) (hV : V.length = k) (hm : m < k) (hbg : w.heap.size ≤ g) (hk1 : k + 1 ≤ cap) (hls : lessB (keyAt l k) (numAt l k) (keyAt V m) (numAt V m) = true) :
    PutSt l w ((wr.setCell ⟨g, (m + 1) * 2, none⟩ (.string (keyAt V m))).setCell ⟨g, (m + 1) * 2 + 1, none⟩ (.int .i64 (numAt V m))) g cap V k m := by
  obtain ⟨cur, h1, h2, h3⟩ := h.row
  refine ⟨(h.below.setCell hbg _).setCell hbg _, ⟨_, (h1.set _ _).set _ _, by simpa using h2, gap_shift h3 hm (by omega)⟩, fun y hy => ?_⟩
  rw [List.drop_eq_getElem_cons (by omega)] at hy
  rcases List.mem_cons.1 hy with rfl | hy
  · rw [at_get V m (by omega)]; exact less_leR hls
  · exact h.behind y hy
theorem PutSt.done {l : Recs} {w wr wx : World} {v : Value} {g cap : Nat} {V : Recs} {k j : Nat} (h : PutSt l w wx g cap V k j) (hS : SortSt l w wr v V k) (hj : j ≤ k) (hbg : w.heap.size ≤ g) (hk1 : k + 1 ≤ cap) (hmx : cap ≤ maxLen)
    (hkl : k < l.length) (hok : okAt l k = true) (hahead : ∀ y ∈ V.take j, leR y (keyAt l k, numAt l k) = true) :
    SortSt l w ((wx.setCell ⟨g, j * 2, none⟩ (.string (keyAt l k))).setCell ⟨g, j * 2 + 1, none⟩ (.int .i64 (numAt l k))) (.slice (some ⟨g, 0, none⟩) (k + 1) cap) (V.take j ++ (keyAt l k, numAt l k) :: V.drop j) (k + 1) := by
  obtain ⟨cur, h1, h2, h3⟩ := h.row
  have hlen : (V.take j ++ (keyAt l k, numAt l k) :: V.drop j).length = k + 1 := by have := hS.length; simp; omega
  refine ⟨own_of_laid ((h1.set _ _).set _ _) hbg hlen hk1 hmx (by simpa using h2) (gap_end h3 hS.length hj (by omega)), (h.below.setCell hbg _).setCell hbg _, hlen, ?_, insert_order hS.order h.behind hahead, fun i hi => ?_⟩
  · rw [List.take_succ_eq_append_getElem hkl, at_get l k hkl]
    exact (insert_perm V _ j).trans (hS.perm.append_right _)
  · rcases Nat.lt_or_ge i k with hl | hl
    · exact hS.ok i hl
    · obtain rfl : i = k := by omega
      exact hok

end Go.Proofs.YthnlllbanfemaaaGreatDoor
