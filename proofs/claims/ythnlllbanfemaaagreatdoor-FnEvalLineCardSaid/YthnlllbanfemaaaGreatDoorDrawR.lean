
/- Drawn records and runs: at most 601 records whose keys have at most 41 bytes; only the reader's position and new blocks change. -/
import Derived.Test.YthnlllbanfemaaaGreatDoorMg9
import Derived.Test.YthnlllbanfemaaaGreatDoorSorted
import Derived.Deep.Onto
namespace Go.Proofs.YthnlllbanfemaaaGreatDoor
open Go.ChangeShapes Go.WideShapes Go.ChangeAt Go.RowKit
set_option linter.unusedVariables false
set_option maxRecDepth 100000

theorem Went.on {w w1 w2 : World} {r : Nat} {a : Option Addr} {len cap : Nat} (h : Went w r a len cap w1) (hB : Below w1.heap.size w1 w2) : Went w r a len cap w2 :=
  ⟨growB h.grown hB, h.rdr.below (hB.mono h.rdr.lt)⟩
theorem Went.row {w w1 w2 : World} {r : Nat} {a : Option Addr} {len cap : Nat} {row : Option Nat} (h : Went w r a len cap w1) (hg : w1.grownBy w2 row) (hr : r < w.heap.size) (hrow : ∀ k, row = some k → w.heap.size ≤ k) : Went w r a len cap w2 :=
  ⟨growO h.grown hg hrow, h.rdr.below ⟨hg.os, hg.tape, hg.output, hg.size, fun k hk => hg.block k (by have := h.rdr.lt; omega) (fun e => by have := hrow k e.symm; omega)⟩⟩

theorem made_recs (n : Nat) : (madeCells (Value.agg #[.string ByteArray.empty, .int .i64 0]).cells (n * 2)).toList = cellsL (List.replicate n (ByteArray.empty, 0)) := by
  refine List.ext_getElem? fun i => ?_
  by_cases hi : i < n * 2
  · obtain ⟨e1, e2⟩ := cellsL_get (List.replicate n (ByteArray.empty, 0)) (i / 2) (by simp; omega)
    have k1 : keyAt (List.replicate n (ByteArray.empty, 0)) (i / 2) = ByteArray.empty := by
      unfold keyAt; rw [List.getD_eq_getElem?_getD, List.getElem?_replicate, if_pos (by omega)]; rfl
    have k2 : numAt (List.replicate n (ByteArray.empty, 0)) (i / 2) = 0 := by
      unfold numAt; rw [List.getD_eq_getElem?_getD, List.getElem?_replicate, if_pos (by omega)]; rfl
    rw [k1] at e1
    rw [k2] at e2
    rcases Nat.mod_two_eq_zero_or_one i with hm | hm
    · have e : i / 2 * 2 = i := by omega
      rw [e] at e1
      rw [e1]
      simp [madeCells, Value.cells, hi, hm]
    · have e : i / 2 * 2 + 1 = i := by omega
      rw [e] at e2
      rw [e2]
      simp [madeCells, Value.cells, hi, hm]
  · rw [List.getElem?_eq_none (by simp [madeCells]; omega), List.getElem?_eq_none (by rw [cellsL_len]; simp; omega)]

/-- Records in a row of the call's own, drawn by reader r. -/
structure DrawnR (w wr : World) (r : Nat) (a : Option Addr) (len cap : Nat) (v : Value) (W : Recs) : Prop where
  own : wr.ownsRow w.heap.size 54 2 v W.length (cellsL W)
  went : Went w r a len cap wr
  short : ∀ x ∈ W, x.1.size ≤ 41
  wf : ∀ x ∈ W, (Lit.int .i64 x.2).wf = true

theorem own_wentR {w w1 : World} {base r : Nat} {a : Option Addr} {len cap : Nat} {e : TypeId} {size : Nat} {v : Value} {n : Nat} {xs : List Value} (h : w.ownsRow base e size v n xs) (hw : Went w r a len cap w1) (hr : r < base) : w1.ownsRow base e size v n xs :=
  h.kept hw.grown (by
    by_cases hv : v.ownBlock = none
    · exact .inl hv
    · refine .inr fun he => ?_
      have := (h.lt r he).1
      omega)
theorem DrawnR.trans {w wr w1 : World} {r : Nat} {a : Option Addr} {len cap : Nat} {v : Value} {W : Recs} (h : DrawnR w wr r a len cap v W) (hr : r < w.heap.size) (hw : Went wr r a len cap w1) : DrawnR w w1 r a len cap v W :=
  ⟨own_wentR h.own hw hr, h.went.trans hw, h.short, h.wf⟩
theorem DrawnR.add {w wr w1 : World} {r : Nat} {a : Option Addr} {len cap : Nat} {v v' : Value} {W : Recs} {s : ByteArray} {n : Int} {o : Obj} (h : DrawnR w wr r a len cap v W) (hr : r < w.heap.size) (hs : s.size ≤ 41) (hn : (Lit.int .i64 n).wf = true)
    (hown : w1.ownsRow w.heap.size 54 2 v' (W.length + 1) (cellsL W ++ [.string s, .int .i64 n])) (hg : (wr.alloc o).grownBy w1 v.ownBlock) : DrawnR w w1 r a len cap v' (W ++ [(s, n)]) :=
  ⟨by rw [cellsL_snoc]; simpa using hown, (h.went.alloc o).row hg hr (fun k hk => (h.own.lt k hk).1), fun x hx => by
    rcases List.mem_append.1 hx with hx | hx
    · exact h.short x hx
    · simp at hx; subst hx; exact hs, fun x hx => by
    rcases List.mem_append.1 hx with hx | hx
    · exact h.wf x hx
    · simp at hx; subst hx; exact hn⟩

/-- The end of a method that draws records into a row of its own. -/
def RdRecs (w : World) (r : Nat) (a : Option Addr) (len cap : Nat) (e : Ending) (w' : World) : Prop :=
  ∃ (q : Option Addr) (cp : Nat) (W : Recs), e = .returned (.slice q W.length cp) ∧ W.length ≤ 601 ∧ DrawnR w w' r a len cap (.slice q W.length cp) W

end Go.Proofs.YthnlllbanfemaaaGreatDoor
