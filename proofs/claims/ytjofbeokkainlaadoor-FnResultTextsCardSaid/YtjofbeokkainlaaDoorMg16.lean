/- Texts put together, as a claim holds at most sixty files. -/
import Derived.Test.YtjofbeokkainlaaDoorMg2
import Derived.StillTailTactics
import Derived.Test.YtjofbeokkainlaaDoorMg18
import Derived.Test.YtjofbeokkainlaaDoorMg17
namespace Go.Proofs.YtjofbeokkainlaaDoor
open Go.ChangeShapes Go.WideShapes Go.ChangeAt Go.RowKit
set_option linter.unusedVariables false
set_option maxRecDepth 100000

theorem comb_14 (a b : Int) : combN 4 a b = combN 1 a b := by rw [← comb_sum 4 a b (.inr rfl), ← comb_sum 1 a b (.inl rfl)]
end Go.Proofs.YtjofbeokkainlaaDoor
namespace Go.Proofs.YtjofbeokkainlaaDoor
open Go.ChangeShapes Go.WideShapes Go.ChangeAt Go.RowKit
set_option linter.unusedVariables false
set_option maxRecDepth 100000

/-- One record more: joined to the last one, if that has its key. -/
def joinsB (W : Recs) (r : ByteArray × Int) : Bool := decide (0 < W.length) && sameKey (keyAt W (W.length - 1)) r.1
def cStep (op : Int) (W : Recs) (r : ByteArray × Int) : Recs :=
  if joinsB W r then W.set (W.length - 1) (keyAt W (W.length - 1), combN op (numAt W (W.length - 1)) r.2) else W ++ [r]
def cTo (op : Int) (l : Recs) (k : Nat) : Recs := (l.take k).foldl (cStep op) []
theorem cTo_succ (op : Int) (l : Recs) (k : Nat) (h : k < l.length) : cTo op l (k + 1) = cStep op (cTo op l k) (keyAt l k, numAt l k) := by
  unfold cTo
  rw [List.take_succ_eq_append_getElem h, List.foldl_append, at_get l k h]
  rfl
theorem cStep_len (op : Int) (W : Recs) (r : ByteArray × Int) : (cStep op W r).length ≤ W.length + 1 := by
  unfold cStep
  split
  · simp
  · simp
theorem cTo_len (op : Int) (l : Recs) : ∀ k, k ≤ l.length → (cTo op l k).length ≤ k
  | 0, _ => by simp [cTo]
  | k + 1, h => by
    rw [cTo_succ op l k (by omega)]
    have := cTo_len op l k (by omega)
    have := cStep_len op (cTo op l k) (keyAt l k, numAt l k)
    omega
theorem cStep_new {op : Int} {W : Recs} {r : ByteArray × Int} (h : joinsB W r = false) : cStep op W r = W ++ [r] := by unfold cStep; rw [h]; rfl
theorem cStep_join {op : Int} {W : Recs} {r : ByteArray × Int} {m : Nat} (h : joinsB W r = true) (hm : W.length = m + 1) : cStep op W r = W.set m (keyAt W m, combN op (numAt W m) r.2) := by
  unfold cStep; rw [h, hm]; rfl

theorem laid_set {cur : Array Value} {W : Recs} {n i : Nat} (r : ByteArray × Int) (h : Laid cur W n) (hn : W.length = n) (hi : i < n) (hs : n * 2 ≤ cur.size) :
    Laid ((cur.setIfInBounds (i * 2) (.string r.1)).setIfInBounds (i * 2 + 1) (.int .i64 r.2)) (W.set i r) n := by
  intro j hj
  obtain ⟨e1, e2⟩ := h j hj
  have h1 : i * 2 < cur.size := by omega
  have h2 : i * 2 + 1 < cur.size := by omega
  by_cases hji : j = i
  · subst hji
    have hk : keyAt (W.set j r) j = r.1 ∧ numAt (W.set j r) j = r.2 := by
      unfold keyAt numAt
      rw [List.getD_eq_getElem?_getD, List.getElem?_set_self (by omega)]
      exact ⟨rfl, rfl⟩
    rw [hk.1, hk.2]
    constructor
    · rw [Array.getElem?_setIfInBounds_ne (by omega)]; simp [h1]
    · simp [h2]
  · have hk : keyAt (W.set i r) j = keyAt W j ∧ numAt (W.set i r) j = numAt W j := by
      unfold keyAt numAt
      rw [List.getD_eq_getElem?_getD, List.getElem?_set_ne (by omega), ← List.getD_eq_getElem?_getD]
      exact ⟨rfl, rfl⟩
    rw [hk.1, hk.2]
    constructor
    · rw [Array.getElem?_setIfInBounds_ne (by omega), Array.getElem?_setIfInBounds_ne (by omega)]; exact e1
    · rw [Array.getElem?_setIfInBounds_ne (by omega), Array.getElem?_setIfInBounds_ne (by omega)]; exact e2
theorem laid_setN {cur : Array Value} {W : Recs} {n i : Nat} (x : Int) (h : Laid cur W n) (hn : W.length = n) (hi : i < n) (hs : n * 2 ≤ cur.size) :
    Laid (cur.setIfInBounds (i * 2 + 1) (.int .i64 x)) (W.set i (keyAt W i, x)) n := by
  intro j hj
  have hl := laid_set (keyAt W i, x) h hn hi hs j hj
  have h1 : i * 2 < cur.size := by omega
  have e : (cur.setIfInBounds (i * 2) (.string (keyAt W i))) = cur := by
    apply Array.ext
    · simp
    · intro k hk1 hk2
      by_cases hki : k = i * 2
      · subst hki
        have := (h i hi).1
        rw [Array.getElem?_eq_getElem h1] at this
        simp at this
        simp [this]
      · rw [Array.getElem_setIfInBounds_ne]; omega
  simp only at hl
  rw [e] at hl
  exact hl
/-- The last record of a row of the call's own: where it lies; put anew. -/
theorem own_row {w : World} {base n cp : Nat} {q : Option Addr} {W : Recs} (h : w.ownsRow base 30 2 (.slice q n cp) n (cellsL W)) (hn : W.length = n) (h0 : 0 < n) :
    ∃ g cur, q = some ⟨g, 0, none⟩ ∧ base ≤ g ∧ Row w g 30 cur ∧ n ≤ cp ∧ cp ≤ maxLen ∧ cur.size = cp * 2 ∧ Laid cur W n := by
  rcases h.2 with ⟨h1, h2⟩ | ⟨g, cap, cur, hv, hb, hh, h1, h2, h3, h4⟩
  · omega
  · simp only [Value.slice.injEq] at hv
    obtain ⟨rfl, _, rfl⟩ := hv
    exact ⟨g, cur, rfl, hb, hh, h1, h2, h3, laid_of_take hn h4⟩
theorem own_put {w : World} {base g n cp i : Nat} {W : Recs} (h : w.ownsRow base 30 2 (.slice (some ⟨g, 0, none⟩) n cp) n (cellsL W)) (hn : W.length = n) (hi : i < n) (r : ByteArray × Int) :
    ((w.setCell ⟨g, i * 2, none⟩ (.string r.1)).setCell ⟨g, i * 2 + 1, none⟩ (.int .i64 r.2)).ownsRow base 30 2 (.slice (some ⟨g, 0, none⟩) n cp) n (cellsL (W.set i r)) := by
  obtain ⟨g', cur, hq, hb, hr, h1, h2, h3, hl⟩ := own_row h hn (by omega)
  simp only [Option.some.injEq, Addr.mk.injEq, and_true] at hq
  subst hq
  exact own_of_laid ((hr.set _ _).set _ _) hb (by simpa using hn) h1 h2 (by simpa using h3) (laid_set r hl hn hi (by omega))
theorem own_putN {w : World} {base g n cp i : Nat} {W : Recs} (h : w.ownsRow base 30 2 (.slice (some ⟨g, 0, none⟩) n cp) n (cellsL W)) (hn : W.length = n) (hi : i < n) (x : Int) :
    (w.setCell ⟨g, i * 2 + 1, none⟩ (.int .i64 x)).ownsRow base 30 2 (.slice (some ⟨g, 0, none⟩) n cp) n (cellsL (W.set i (keyAt W i, x))) := by
  obtain ⟨g', cur, hq, hb, hr, h1, h2, h3, hl⟩ := own_row h hn (by omega)
  simp only [Option.some.injEq, Addr.mk.injEq, and_true] at hq
  subst hq
  exact own_of_laid (hr.set _ _) hb (by simpa using hn) h1 h2 (by simpa using h3) (laid_setN x hl hn hi (by omega))
theorem own_cells {w : World} {base n cp i : Nat} {q : Option Addr} {W : Recs} (h : w.ownsRow base 30 2 (.slice q n cp) n (cellsL W)) (hn : W.length = n) (hi : i < n) :
    ∃ g, q = some ⟨g, 0, none⟩ ∧ base ≤ g ∧ w.cell? ⟨g, i * 2, none⟩ = some (.string (keyAt W i)) ∧ w.cell? ⟨g, i * 2 + 1, none⟩ = some (.int .i64 (numAt W i)) ∧ ∀ o, w.frozen? ⟨g, o, none⟩ = false := by
  obtain ⟨g, cur, hq, hb, hr, h1, h2, h3, hl⟩ := own_row h hn (by omega)
  obtain ⟨e1, e2⟩ := hl i hi
  refine ⟨g, hq, hb, ?_, ?_, hr.free⟩
  · unfold Row at hr; simp [World.cell?, hr, e1]
  · unfold Row at hr; simp [World.cell?, hr, e2]

structure CSt (op : Int) (l : Recs) (w wr : World) (q : Option Addr) (n cp k : Nat) : Prop where
  own : wr.ownsRow w.heap.size 30 2 (.slice q n cp) n (cellsL (cTo op l k))
  size : (cTo op l k).length = n
  below : Below w.heap.size w wr
end Go.Proofs.YtjofbeokkainlaaDoor
namespace Go.Proofs.YtjofbeokkainlaaDoor
open Go.ChangeShapes Go.WideShapes Go.ChangeAt Go.RowKit
set_option linter.unusedVariables false
set_option maxRecDepth 100000

end Go.Proofs.YtjofbeokkainlaaDoor
