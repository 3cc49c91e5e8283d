
/- Slices of texts: the laws' measure and copy of them. Only new blocks are made. -/
import Derived.Test.YthndoimblfccbaaDoorStrs
import Derived.Test.YthndoimblfccbaaDoorOwn
namespace Go.Proofs.YthndoimblfccbaaDoor
open Go.ChangeShapes Go.WideShapes Go.ChangeAt Go.RowKit
set_option linter.unusedVariables false
set_option maxRecDepth 100000

/-- The bytes of the first k texts. -/
def sumTo (l : Strs) : Nat → Nat
  | 0 => 0
  | k + 1 => sumTo l k + (strAt l k).size

/-- The end of the laws' measure of texts: below 0 (too much), or what is left. -/
def SizedStrs (len : Nat) (l : Strs) (left : Int) (w : World) (e : Ending) (w' : World) : Prop :=
  ∃ x : Int, -1 ≤ x ∧ x ≤ 1048576 ∧ e = .returned (.int .i64 x) ∧ w = w' ∧ (0 ≤ x → x = left - len - sumTo l len)

/-- The first k texts of l lie at the head of the row. -/
def LaidS (cur : Array Value) (l : Strs) (k : Nat) : Prop := ∀ j, j < k → cur[j]? = some (.string (strAt l j))
theorem LaidS.step {cur : Array Value} {l : Strs} {k len : Nat} (h : LaidS cur l k) (hs : cur.size = len) (hk : k < len) :
    LaidS (cur.setIfInBounds k (.string (strAt l k))) l (k + 1) := by
  intro j hj
  rcases Nat.lt_or_ge j k with hlt | hge
  · rw [Array.getElem?_setIfInBounds_ne (by omega)]; exact h j hlt
  · obtain rfl : j = k := by omega
    have h1 : j < cur.size := by omega
    simp [h1]
theorem StrsAt.ofRow {w : World} {B len : Nat} {E : TypeId} {cur : Array Value} {l : Strs} (h : Row w B E cur) (hl : l.length = len) (hm : len ≤ maxLen) (hk : ∀ i, i < len → (strAt l i).size ≤ maxLen) (hlaid : LaidS cur l len) : StrsAt w (some ⟨B, 0, none⟩) len l := by
  refine ⟨hl, hm, hk, .inr ⟨B, 0, rfl, h.lt, fun i hi => ?_⟩⟩
  have e1 := hlaid i hi
  unfold Row at h
  simp [World.cell?, h, e1]

/-- The end of the laws' copy of texts: a new slice of the same texts. -/
def MadeStrs (len : Nat) (l : Strs) (w : World) (e : Ending) (w' : World) : Prop :=
  e = .returned (.slice (some ⟨w.heap.size, 0, none⟩) len len) ∧ StrsAt w' (some ⟨w.heap.size, 0, none⟩) len l ∧ Below w.heap.size w w' ∧ ∃ cur, Row w' w.heap.size 9 cur ∧ cur.size = len

theorem strs_of_is {w : World} {a : Option Addr} {len cap : Nat} {ss : List ByteArray}
    (h : (a = none ∧ len = 0 ∧ cap = 0 ∧ ss = []) ∨ ∃ x, a = some x ∧ len ≤ cap ∧ cap ≤ maxLen ∧ ss.length = cap ∧ (∀ i, i < ss.length → w.cell? (x.add i) = some (.string (ss.getD i ByteArray.empty))) ∧ ∀ s ∈ ss, s.size ≤ maxLen) : StrsAt w a len (ss.take len) := by
  rcases h with ⟨rfl, rfl, _, rfl⟩ | ⟨x, rfl, hl, hm, hz, hc, hw⟩
  · exact ⟨rfl, Nat.zero_le _, fun i hi => by omega, .inl rfl⟩
  · have hget : ∀ i, i < len → strAt (ss.take len) i = ss.getD i ByteArray.empty := by
      intro i hi
      unfold strAt
      rw [List.getD_eq_getElem?_getD, List.getD_eq_getElem?_getD, List.getElem?_take_of_lt hi]
    refine ⟨by simp; omega, by omega, fun i hi => ?_, ?_⟩
    · rw [hget i hi, List.getD_eq_getElem?_getD, List.getElem?_eq_getElem (by omega)]
      exact hw _ (List.getElem_mem _)
    · by_cases h0 : len = 0
      · exact .inl h0
      · obtain ⟨b, off, spot⟩ := x
        have hc0 := hc 0 (by omega)
        have hspot : spot = none := by simpa [Addr.add] using World.cell?_spot hc0
        subst hspot
        refine .inr ⟨b, off, rfl, ?_, fun i hi => ?_⟩
        · have := World.block_lt_of_cell? _ _ hc0
          simpa [Addr.add] using this
        · have h1 := hc i (by omega)
          rw [hget i hi]
          by_cases hi0 : i = 0
          · subst hi0
            simpa [Addr.add] using h1
          · simpa [Addr.add, hi0] using h1
end Go.Proofs.YthndoimblfccbaaDoor
