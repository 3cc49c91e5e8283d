/- Texts put together, as a claim holds at most sixty files. -/
import Derived.Test.YthnlllbanfemaaaGreatDoorMg9
import Derived.Test.YthnlllbanfemaaaGreatDoorMg30
import Derived.Deep.Onto
import Derived.Test.YthnlllbanfemaaaGreatDoorMg7
import Derived.Test.YthnlllbanfemaaaGreatDoorMg29
namespace Go.Proofs.YthnlllbanfemaaaGreatDoor
open Go.ChangeShapes Go.WideShapes Go.ChangeAt Go.RowKit
set_option linter.unusedVariables false
set_option maxRecDepth 100000

theorem Went.on {w w1 w2 : World} {r : Nat} {a : Option Addr} {len cap : Nat} (h : Went w r a len cap w1) (hB : Below w1.heap.size w1 w2) : Went w r a len cap w2 :=
  ⟨growB h.grown hB, h.rdr.below (hB.mono h.rdr.lt)⟩
theorem Went.row {w w1 w2 : World} {r : Nat} {a : Option Addr} {len cap : Nat} {row : Option Nat} (h : Went w r a len cap w1) (hg : w1.grownBy w2 row) (hr : r < w.heap.size) (hrow : ∀ k, row = some k → w.heap.size ≤ k) : Went w r a len cap w2 :=
  ⟨growO h.grown hg hrow, h.rdr.below ⟨hg.os, hg.tape, hg.output, hg.size, fun k hk => hg.block k (by have := h.rdr.lt; omega) (fun e => by have := hrow k e.symm; omega)⟩⟩

theorem made_recs (n : Nat) : (madeCells (Value.agg #[.string ByteArray.empty, .int .i64 0]).cells (n * 2)).toList = cellsL (List.replicate n (ByteArray.empty, 0)) := by
  refine List.ext_getElem? fun i => ?_
  by_cases hi : i < n * 2
  · obtain ⟨e1, e2⟩ := cellsL_get (List.replicate n (ByteArray.empty, 0)) (i / 2) (by simp; omega)
    have k1 : keyAt (List.replicate n (ByteArray.empty, 0)) (i / 2) = ByteArray.empty := by
      unfold keyAt; rw [List.getD_eq_getElem?_getD, List.getElem?_replicate, if_pos (by omega)]; rfl
    have k2 : numAt (List.replicate n (ByteArray.empty, 0)) (i / 2) = 0 := by
      unfold numAt; rw [List.getD_eq_getElem?_getD, List.getElem?_replicate, if_pos (by omega)]; rfl
    rw [k1] at e1
    rw [k2] at e2
    rcases Nat.mod_two_eq_zero_or_one i with hm | hm
    · have e : i / 2 * 2 = i := by omega
      rw [e] at e1
      rw [e1]
      simp [madeCells, Value.cells, hi, hm]
    · have e : i / 2 * 2 + 1 = i := by omega
      rw [e] at e2
      rw [e2]
      simp [madeCells, Value.cells, hi, hm]
  · rw [List.getElem?_eq_none (by simp [madeCells]; omega), List.getElem?_eq_none (by rw [cellsL_len]; simp; omega)]

/-- Records in a row of the call's own, drawn by reader r. -/
structure DrawnR (w wr : World) (r : Nat) (a : Option Addr) (len cap : Nat) (v : Value) (W : Recs) : Prop where
  own : wr.ownsRow w.heap.size 54 2 v W.length (cellsL W)
  went : Went w r a len cap wr
  short : ∀ x ∈ W, x.1.size ≤ 41
  wf : ∀ x ∈ W, (Lit.int .i64 x.2).wf = true

theorem own_wentR {w w1 : World} {base r : Nat} {a : Option Addr} {len cap : Nat} {e : TypeId} {size : Nat} {v : Value} {n : Nat} {xs : List Value} (h : w.ownsRow base e size v n xs) (hw : Went w r a len cap w1) (hr : r < base) : w1.ownsRow base e size v n xs :=
  h.kept hw.grown (by
    by_cases hv : v.ownBlock = none
    · exact .inl hv
    · refine .inr fun he => ?_
      have := (h.lt r he).1
      omega)
theorem DrawnR.trans {w wr w1 : World} {r : Nat} {a : Option Addr} {len cap : Nat} {v : Value} {W : Recs} (h : DrawnR w wr r a len cap v W) (hr : r < w.heap.size) (hw : Went wr r a len cap w1) : DrawnR w w1 r a len cap v W :=
  ⟨own_wentR h.own hw hr, h.went.trans hw, h.short, h.wf⟩
theorem DrawnR.add {w wr w1 : World} {r : Nat} {a : Option Addr} {len cap : Nat} {v v' : Value} {W : Recs} {s : ByteArray} {n : Int} {o : Obj} (h : DrawnR w wr r a len cap v W) (hr : r < w.heap.size) (hs : s.size ≤ 41) (hn : (Lit.int .i64 n).wf = true)
    (hown : w1.ownsRow w.heap.size 54 2 v' (W.length + 1) (cellsL W ++ [.string s, .int .i64 n])) (hg : (wr.alloc o).grownBy w1 v.ownBlock) : DrawnR w w1 r a len cap v' (W ++ [(s, n)]) :=
  ⟨by rw [cellsL_snoc]; simpa using hown, (h.went.alloc o).row hg hr (fun k hk => (h.own.lt k hk).1), fun x hx => by
    rcases List.mem_append.1 hx with hx | hx
    · exact h.short x hx
    · simp at hx; subst hx; exact hs, fun x hx => by
    rcases List.mem_append.1 hx with hx | hx
    · exact h.wf x hx
    · simp at hx; subst hx; exact hn⟩

/-- The end of a method that draws records into a row of its own. -/
def RdRecs (w : World) (r : Nat) (a : Option Addr) (len cap : Nat) (e : Ending) (w' : World) : Prop :=
  ∃ (q : Option Addr) (cp : Nat) (W : Recs), e = .returned (.slice q W.length cp) ∧ W.length ≤ 601 ∧ DrawnR w w' r a len cap (.slice q W.length cp) W

end Go.Proofs.YthnlllbanfemaaaGreatDoor
namespace Go.Proofs.YthnlllbanfemaaaGreatDoor
open Go.ChangeShapes Go.WideShapes Go.ChangeAt Go.RowKit
set_option linter.unusedVariables false
set_option maxRecDepth 100000

theorem laid_setkey {cur : Array Value} {W : Recs} {n i : Nat} (s : ByteArray) (h : Laid cur W n) (hn : W.length = n) (hi : i < n) (hs : n * 2 ≤ cur.size) : Laid (cur.setIfInBounds (i * 2) (.string s)) (W.set i (s, numAt W i)) n := by
  intro j hj
  obtain ⟨e1, e2⟩ := h j hj
  have h1 : i * 2 < cur.size := by omega
  by_cases hji : j = i
  · subst hji
    have hg : (W.set j (s, numAt W j))[j]? = some (s, numAt W j) := by rw [List.getElem?_set]; simp [hn, hj]
    have k1 : keyAt (W.set j (s, numAt W j)) j = s := by unfold keyAt; rw [List.getD_eq_getElem?_getD, hg]; rfl
    have k2 : numAt (W.set j (s, numAt W j)) j = numAt W j := by
      show ((W.set j (s, numAt W j)).getD j _).2 = _
      rw [List.getD_eq_getElem?_getD, hg]; rfl
    rw [k1, k2]
    constructor
    · simp [h1]
    · rw [Array.getElem?_setIfInBounds_ne (by omega)]; exact e2
  · have hg : (W.set i (s, numAt W i))[j]? = W[j]? := by rw [List.getElem?_set]; simp [Ne.symm hji]
    have k1 : keyAt (W.set i (s, numAt W i)) j = keyAt W j := by unfold keyAt; rw [List.getD_eq_getElem?_getD, hg, ← List.getD_eq_getElem?_getD]
    have k2 : numAt (W.set i (s, numAt W i)) j = numAt W j := by
      show ((W.set i (s, numAt W i)).getD j _).2 = _
      rw [List.getD_eq_getElem?_getD, hg, ← List.getD_eq_getElem?_getD]; rfl
    rw [k1, k2]
    constructor
    · rw [Array.getElem?_setIfInBounds_ne (by omega)]; exact e1
    · rw [Array.getElem?_setIfInBounds_ne (by omega)]; exact e2

theorem DrawnR.recs {w wr : World} {r : Nat} {a : Option Addr} {len cap : Nat} {q : Option Addr} {cp : Nat} {W : Recs} (h : DrawnR w wr r a len cap (.slice q W.length cp) W) (h6 : W.length ≤ 601) : RecsAt wr q W.length W :=
  recs_of_rs (rs_of_own h.own) rfl (by unfold maxLen; omega) (fun i hi => by
    have := h.short W[i] (List.getElem_mem hi)
    rw [at_get W i hi] at this
    unfold maxLen
    have h41 : (keyAt W i).size ≤ 41 := this
    omega)

theorem rs_apart {base r : Nat} {w : World} {q : Option Addr} {W : Recs} (h : Rs base w q W) (hr : r < base) : 0 < W.length → ∀ b off, q = some ⟨b, off, none⟩ → r < b := by
  intro hn b off hq
  rcases h with h0 | ⟨g, cur, rfl, hb, _⟩
  · omega
  · simp only [Option.some.injEq, Addr.mk.injEq, and_true] at hq
    omega

/-- The end of a method that draws a run. -/
def RdRun (w : World) (r : Nat) (a : Option Addr) (len cap : Nat) (e : Ending) (w' : World) : Prop :=
  ∃ (q : Option Addr) (cp : Nat) (V : Recs), e = .returned (.slice q V.length cp) ∧ V.length ≤ 601 ∧ (∀ x ∈ V, x.1.size ≤ 41) ∧ RecsAt w' q V.length V ∧ Went w r a len cap w' ∧ ((∀ x ∈ V, (Lit.int .i64 x.2).wf = true) ∧ V.length ≤ cp ∧ cp ≤ maxLen ∧ (q = none → cp = 0)) ∧ (0 < V.length → ∀ b off, q = some ⟨b, off, none⟩ → r < b)

theorem sortedB_wf {W : Recs} (hs : ∀ x ∈ W, (Lit.int .i64 x.2).wf = true) : ∀ x ∈ sortedB W, (Lit.int .i64 x.2).wf = true := by
  unfold sortedB
  split
  · exact fun x hx => hs x ((sortL_perm W).mem_iff.1 hx)
  · exact fun x hx => by simp at hx
theorem sortedB_short {W : Recs} (h6 : W.length ≤ 601) (hs : ∀ x ∈ W, x.1.size ≤ 41) : (sortedB W).length ≤ 601 ∧ ∀ x ∈ sortedB W, x.1.size ≤ 41 := by
  unfold sortedB
  split
  · refine ⟨by rw [(sortL_perm W).length_eq]; exact h6, fun x hx => hs x ((sortL_perm W).mem_iff.1 hx)⟩
  · exact ⟨Nat.zero_le _, fun x hx => by simp at hx⟩

/-- What is drawn: a run, mostly. -/
def DrewRun (w : World) (e : Ending) (w' : World) : Prop := ∃ (q : Option Addr) (cp : Nat) (V : Recs), e = .returned (.slice q V.length cp) ∧ V.length ≤ 601 ∧ (∀ x ∈ V, x.1.size ≤ 41) ∧ RecsAt w' q V.length V ∧ Below w.heap.size w w' ∧ (∀ x ∈ V, (Lit.int .i64 x.2).wf = true) ∧ V.length ≤ cp ∧ cp ≤ maxLen ∧ (q = none → cp = 0)

/-- What is drawn for FindRec: a run, mostly, and a short key. -/
def DrewFind (w : World) (e : Ending) (w' : World) : Prop := ∃ (q : Option Addr) (cp : Nat) (V : Recs) (s : ByteArray), e = .returned (.tuple #[.slice q V.length cp, .string s]) ∧ s.size ≤ 5 ∧ V.length ≤ 601 ∧ (∀ x ∈ V, x.1.size ≤ 41) ∧ RecsAt w' q V.length V ∧ Below w.heap.size w w'

theorem RecsAt.went {w w1 : World} {a : Option Addr} {n : Nat} {l : Recs} {r : Nat} {sa : Option Addr} {len cap : Nat} (h : RecsAt w a n l) (hw : Went w r sa len cap w1) (hne : 0 < n → ∀ b off, a = some ⟨b, off, none⟩ → r < b) : RecsAt w1 a n l := by
  refine ⟨h.length, h.max, h.keys, ?_⟩
  rcases h.src with h0 | ⟨b, off, ha, hb, hc⟩
  · exact .inl h0
  · by_cases h0 : n = 0
    · exact .inl h0
    · refine .inr ⟨b, off, ha, Nat.lt_of_lt_of_le hb hw.size, fun i hi => ?_⟩
      obtain ⟨c0, c1⟩ := hc i hi
      have hbr : b ≠ r := Nat.ne_of_gt (hne (by omega) b off ha)
      exact ⟨hw.cell c0 hbr, hw.cell c1 hbr⟩

end Go.Proofs.YthnlllbanfemaaaGreatDoor
namespace Go.Proofs.YthnlllbanfemaaaGreatDoor
open Go.ChangeShapes Go.WideShapes Go.ChangeAt Go.RowKit
set_option linter.unusedVariables false
set_option maxRecDepth 100000

theorem runBytesB_size (l : Recs) : (runBytesB l).size ≤ 29400 := by
  unfold runBytesB
  cases h : runOkB l with
  | false => exact Nat.zero_le _
  | true =>
    obtain ⟨h6, hk⟩ := runOk_keys h
    have := sizeTo_le l hk l.length (Nat.le_refl _)
    rw [if_pos rfl, strOfNums_size, bytesTo_len]
    omega

end Go.Proofs.YthnlllbanfemaaaGreatDoor
