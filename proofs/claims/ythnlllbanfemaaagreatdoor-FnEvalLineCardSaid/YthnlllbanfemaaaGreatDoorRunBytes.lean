
/- What RunBytes computes in the program and in its model: the bytes of the records of a run. Only new blocks are made. -/
import Derived.Test.YthnlllbanfemaaaGreatDoorMg27
import Derived.Test.YthnlllbanfemaaaGreatDoorRuns5
import Derived.Test.YthnlllbanfemaaaGreatDoorSortM
import Derived.Test.YthnlllbanfemaaaGreatDoorMg8
import Derived.Laws.BytesArg
import Derived.Lib.AppendStr
namespace Go.Proofs.YthnlllbanfemaaaGreatDoor
open Go.ChangeShapes Go.WideShapes Go.ChangeAt Go.RowKit
set_option linter.unusedVariables false
set_option maxRecDepth 100000

def bytesTo (l : Recs) : Nat → List Int
  | 0 => []
  | k + 1 => bytesTo l k ++ recN (keyAt l k) (numAt l k)
def sizeTo (l : Recs) : Nat → Nat
  | 0 => 0
  | k + 1 => sizeTo l k + (1 + (keyAt l k).size + 8)
theorem bytesTo_len (l : Recs) : ∀ k, (bytesTo l k).length = sizeTo l k
  | 0 => rfl
  | k + 1 => by
    rw [bytesTo, sizeTo, List.length_append, bytesTo_len l k, recN_len]; omega
theorem sizeTo_le (l : Recs) (h : ∀ i, i < l.length → (keyAt l i).size ≤ 40) : ∀ k, k ≤ l.length → sizeTo l k ≤ 49 * k
  | 0, _ => by simp [sizeTo]
  | k + 1, hk => by
    have := sizeTo_le l h k (by omega)
    have := h k (by omega)
    unfold sizeTo; omega
theorem sizeTo_mono (l : Recs) : ∀ k j, k ≤ j → sizeTo l k ≤ sizeTo l j := by
  intro k j hkj
  induction j with
  | zero => obtain rfl : k = 0 := by omega
            exact Nat.le_refl _
  | succ j ih =>
    rcases Nat.lt_or_ge k (j + 1) with h | h
    · have := ih (by omega)
      have e : sizeTo l (j + 1) = sizeTo l j + (1 + (keyAt l j).size + 8) := rfl
      omega
    · obtain rfl : k = j + 1 := by omega
      exact Nat.le_refl _
/-- The bytes of a run. -/
def runBytesB (l : Recs) : ByteArray := if runOkB l then strOfNums (bytesTo l l.length) else ByteArray.empty
theorem runbytes_no {l : Recs} (h : runOkB l = false) : ByteArray.empty = runBytesB l := by unfold runBytesB; rw [h]; rfl
theorem runbytes_yes {l : Recs} {n : Nat} (h : runOkB l = true) (hn : l.length = n) : strOfNums (bytesTo l n) = runBytesB l := by unfold runBytesB; rw [h, ← hn]; rfl
/-- The bytes so far, in the model. -/
def byteCells (X : List Int) : List Value := X.map fun x => Value.int .u8 x
theorem byteCells_append (X Y : List Int) : byteCells (X ++ Y) = byteCells X ++ byteCells Y := by simp [byteCells]
structure L2St (w wr : World) (v : Value) (n : Nat) (X : List Int) : Prop where
  own : wr.ownsRow w.heap.size 5 1 v n (byteCells X)
  length : X.length = n
  below : Below w.heap.size w wr
theorem L2St.text {w wr : World} {q : Option Addr} {n cp : Nat} {X : List Int} (h : L2St w wr (.slice q n cp) n X) (hne : ∃ g, q = some ⟨g, 0, none⟩) :
    (convert 40 9 (.slice q n cp)).run Tryz.prog wr = .ok (.string (strOfNums X)) wr := by
  obtain ⟨g, rfl⟩ := hne
  exact run_convert_bytes_arg _ _ _ Tryz.underlying40 Tryz.underlying5 g 0 n cp X h.length (fun i hi => by
    rw [Nat.zero_add]
    have hl := h.length
    have hiX : i < X.length := by omega
    rw [h.own.cellAt i (by omega)]
    rw [List.getD_eq_getElem?_getD]
    simp [byteCells, hiX]) _ Tryz.underlying9

theorem byte_cell (x : Int) : ∀ u ∈ [Value.int .u8 x], u.oneCell' = true := by
  intro u hu
  simp at hu
  subst hu; rfl
theorem L2St.addByte {w wr w1 : World} {v v' : Value} {n : Nat} {X : List Int} {x : Int} {o : Obj} (h : L2St w wr v n X) (hown : w1.ownsRow w.heap.size 5 1 v' (n + 1) (byteCells X ++ [.int .u8 x])) (hg : (wr.alloc o).grownBy w1 v.ownBlock) : L2St w w1 v' (n + 1) (X ++ [x]) :=
  ⟨by rw [byteCells_append]; exact hown, by simp [h.length], (below_alloc h.below o).grown hg (below_alloc h.below o).size (fun j hj => (h.own.lt j hj).1)⟩
theorem L2St.addText {w wr w1 : World} {v v' : Value} {n : Nat} {X : List Int} {s : ByteArray} (h : L2St w wr v n X) (hown : w1.ownsRow w.heap.size 5 1 v' (n + s.size) (byteCells X ++ Lib.strCells s)) (hg : wr.grownBy w1 v.ownBlock) : L2St w w1 v' (n + s.size) (X ++ ints s.data.toList) :=
  ⟨by rw [byteCells_append]; simpa [byteCells, ints, Lib.strCells, Function.comp_def] using hown, by simp [h.length, ints], h.below.grown hg h.below.size (fun j hj => (h.own.lt j hj).1)⟩
theorem own_some {w : World} {base n cp : Nat} {e : TypeId} {q : Option Addr} {xs : List Value} (h : w.ownsRow base e 1 (.slice q n cp) n xs) (hn : 0 < n) : ∃ g, q = some ⟨g, 0, none⟩ := by
  rcases h.2 with ⟨h1, h2⟩ | ⟨g, cap, cur, hv, _⟩
  · simp only [Value.slice.injEq] at h1; omega
  · simp only [Value.slice.injEq] at hv
    exact ⟨g, hv.1⟩

end Go.Proofs.YthnlllbanfemaaaGreatDoor
