
/- Slices of records that may be read: the laws' copies and comparisons of them, and what RunOk of the program and of its model compute. Only new blocks are made. -/
import Derived.Test.YthnlllbanfemaaaGreatDoorMg0
import Derived.OwnWalk
namespace Go.Proofs.YthnlllbanfemaaaGreatDoor
open Go.ChangeShapes Go.WideShapes Go.ChangeAt Go.RowKit
set_option linter.unusedVariables false
set_option maxRecDepth 100000

abbrev Recs := List (ByteArray × Int)
def keyAt (l : Recs) (i : Nat) : ByteArray := (l.getD i (ByteArray.empty, 0)).1
def numAt (l : Recs) (i : Nat) : Int := (l.getD i (ByteArray.empty, 0)).2

/-- The slice (a, len, cap) holds the records l. -/
structure RecsAt (w : World) (a : Option Addr) (len : Nat) (l : Recs) : Prop where
  length : l.length = len
  max : len ≤ maxLen
  keys : ∀ i, i < len → (keyAt l i).size ≤ maxLen
  src : len = 0 ∨ ∃ b off, a = some ⟨b, off, none⟩ ∧ b < w.heap.size ∧ ∀ i, i < len → w.cell? ⟨b, off + i * 2, none⟩ = some (.string (keyAt l i)) ∧ w.cell? ⟨b, off + i * 2 + 1, none⟩ = some (.int .i64 (numAt l i))

theorem RecsAt.keep {w w1 : World} {a : Option Addr} {len : Nat} {l : Recs} (h : RecsAt w a len l) (hB : Below w.heap.size w w1) : RecsAt w1 a len l := by
  refine ⟨h.length, h.max, h.keys, ?_⟩
  rcases h.src with h0 | ⟨b, off, ha, hb, hc⟩
  · exact .inl h0
  · exact .inr ⟨b, off, ha, Nat.lt_of_lt_of_le hb hB.size, fun i hi => ⟨(hB.cell (p := ⟨b, off + i * 2, none⟩) hb).trans (hc i hi).1, (hB.cell (p := ⟨b, off + i * 2 + 1, none⟩) hb).trans (hc i hi).2⟩⟩

/-- The end of the laws' measure of records: below 0 (too much), or what is left; then the records and their keys are few and short. -/
def Sized (len : Nat) (l : Recs) (w : World) (e : Ending) (w' : World) : Prop :=
  ∃ x : Int, -1 ≤ x ∧ x ≤ 1048576 ∧ e = .returned (.int .i64 x) ∧ Below w.heap.size w w' ∧ (0 ≤ x → len ≤ 1048576 ∧ ∀ i, i < len → (keyAt l i).size ≤ 1048576)

theorem sz1_bd (x : Int) (s : ByteArray) (h0 : 0 ≤ x) (h1 : x ≤ 1048576) : -1 ≤ sz1 x s ∧ sz1 x s ≤ 1048576 ∧ (0 ≤ sz1 x s → s.size ≤ 1048576) := by
  unfold sz1; split <;> omega

theorem infoRec : (Tryz.prog.info? 54).map (fun i => (i.zero, i.size, i.bytes)) = some (some (.agg #[.string ByteArray.empty, .int .i64 0]), 2, 24) := by kernel_rfl

/-- The first k records of l lie at the head of the row. -/
def Laid (cur : Array Value) (l : Recs) (k : Nat) : Prop := ∀ j, j < k → cur[j * 2]? = some (.string (keyAt l j)) ∧ cur[j * 2 + 1]? = some (.int .i64 (numAt l j))
theorem Laid.step {cur : Array Value} {l : Recs} {k len : Nat} (h : Laid cur l k) (hs : cur.size = len * 2) (hk : k < len) :
    Laid ((cur.setIfInBounds (k * 2) (.string (keyAt l k))).setIfInBounds (k * 2 + 1) (.int .i64 (numAt l k))) l (k + 1) := by
  intro j hj
  have h1 : k * 2 < cur.size := by omega
  have h2 : k * 2 + 1 < cur.size := by omega
  rcases Nat.lt_or_ge j k with hlt | hge
  · obtain ⟨e1, e2⟩ := h j hlt
    constructor
    · rw [Array.getElem?_setIfInBounds_ne (by omega), Array.getElem?_setIfInBounds_ne (by omega)]; exact e1
    · rw [Array.getElem?_setIfInBounds_ne (by omega), Array.getElem?_setIfInBounds_ne (by omega)]; exact e2
  · obtain rfl : j = k := by omega
    constructor
    · rw [Array.getElem?_setIfInBounds_ne (by omega)]; simp [h1]
    · simp [h2]

theorem RecsAt.ofRow {w : World} {B len : Nat} {E : TypeId} {cur : Array Value} {l : Recs} (h : Row w B E cur) (hl : l.length = len) (hm : len ≤ maxLen) (hk : ∀ i, i < len → (keyAt l i).size ≤ maxLen) (hlaid : Laid cur l len) : RecsAt w (some ⟨B, 0, none⟩) len l := by
  refine ⟨hl, hm, hk, .inr ⟨B, 0, rfl, h.lt, fun i hi => ?_⟩⟩
  obtain ⟨e1, e2⟩ := hlaid i hi
  unfold Row at h
  simp [World.cell?, h, e1, e2]

/-- The end of the laws' copy of records: a new slice of the same records. -/
def MadeRecs (len : Nat) (l : Recs) (w : World) (e : Ending) (w' : World) : Prop :=
  e = .returned (.slice (some ⟨w.heap.size, 0, none⟩) len len) ∧ RecsAt w' (some ⟨w.heap.size, 0, none⟩) len l ∧ Below w.heap.size w w' ∧ ∃ cur, Row w' w.heap.size 54 cur ∧ cur.size = len * 2

end Go.Proofs.YthnlllbanfemaaaGreatDoor
