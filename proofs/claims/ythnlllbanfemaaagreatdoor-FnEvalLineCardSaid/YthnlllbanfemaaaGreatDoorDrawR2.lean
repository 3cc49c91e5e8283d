
/- A drawn run: at most 601 records whose keys have at most 41 bytes; only the reader's position and new blocks change. -/
import Derived.Test.YthnlllbanfemaaaGreatDoorDrawR
import Derived.Test.YthnlllbanfemaaaGreatDoorMg7
namespace Go.Proofs.YthnlllbanfemaaaGreatDoor
open Go.ChangeShapes Go.WideShapes Go.ChangeAt Go.RowKit
set_option linter.unusedVariables false
set_option maxRecDepth 100000

theorem laid_setkey {cur : Array Value} {W : Recs} {n i : Nat} (s : ByteArray) (h : Laid cur W n) (hn : W.length = n) (hi : i < n) (hs : n * 2 ≤ cur.size) : Laid (cur.setIfInBounds (i * 2) (.string s)) (W.set i (s, numAt W i)) n := by
  intro j hj
  obtain ⟨e1, e2⟩ := h j hj
  have h1 : i * 2 < cur.size := by omega
  by_cases hji : j = i
  · subst hji
    have hg : (W.set j (s, numAt W j))[j]? = some (s, numAt W j) := by rw [List.getElem?_set]; simp [hn, hj]
    have k1 : keyAt (W.set j (s, numAt W j)) j = s := by unfold keyAt; rw [List.getD_eq_getElem?_getD, hg]; rfl
    have k2 : numAt (W.set j (s, numAt W j)) j = numAt W j := by
      show ((W.set j (s, numAt W j)).getD j _).2 = _
      rw [List.getD_eq_getElem?_getD, hg]; rfl
    rw [k1, k2]
    constructor
    · simp [h1]
    · rw [Array.getElem?_setIfInBounds_ne (by omega)]; exact e2
  · have hg : (W.set i (s, numAt W i))[j]? = W[j]? := by rw [List.getElem?_set]; simp [Ne.symm hji]
    have k1 : keyAt (W.set i (s, numAt W i)) j = keyAt W j := by unfold keyAt; rw [List.getD_eq_getElem?_getD, hg, ← List.getD_eq_getElem?_getD]
    have k2 : numAt (W.set i (s, numAt W i)) j = numAt W j := by
      show ((W.set i (s, numAt W i)).getD j _).2 = _
      rw [List.getD_eq_getElem?_getD, hg, ← List.getD_eq_getElem?_getD]; rfl
    rw [k1, k2]
    constructor
    · rw [Array.getElem?_setIfInBounds_ne (by omega)]; exact e1
    · rw [Array.getElem?_setIfInBounds_ne (by omega)]; exact e2

theorem DrawnR.recs {w wr : World} {r : Nat} {a : Option Addr} {len cap : Nat} {q : Option Addr} {cp : Nat} {W : Recs} (h : DrawnR w wr r a len cap (.slice q W.length cp) W) (h6 : W.length ≤ 601) : RecsAt wr q W.length W :=
  recs_of_rs (rs_of_own h.own) rfl (by unfold maxLen; omega) (fun i hi => by
    have := h.short W[i] (List.getElem_mem hi)
    rw [at_get W i hi] at this
    unfold maxLen
    have h41 : (keyAt W i).size ≤ 41 := this
    omega)

theorem rs_apart {base r : Nat} {w : World} {q : Option Addr} {W : Recs} (h : Rs base w q W) (hr : r < base) : 0 < W.length → ∀ b off, q = some ⟨b, off, none⟩ → r < b := by
  intro hn b off hq
  rcases h with h0 | ⟨g, cur, rfl, hb, _⟩
  · omega
  · simp only [Option.some.injEq, Addr.mk.injEq, and_true] at hq
    omega

/-- The end of a method that draws a run. -/
def RdRun (w : World) (r : Nat) (a : Option Addr) (len cap : Nat) (e : Ending) (w' : World) : Prop :=
  ∃ (q : Option Addr) (cp : Nat) (V : Recs), e = .returned (.slice q V.length cp) ∧ V.length ≤ 601 ∧ (∀ x ∈ V, x.1.size ≤ 41) ∧ RecsAt w' q V.length V ∧ Went w r a len cap w' ∧ ((∀ x ∈ V, (Lit.int .i64 x.2).wf = true) ∧ V.length ≤ cp ∧ cp ≤ maxLen ∧ (q = none → cp = 0)) ∧ (0 < V.length → ∀ b off, q = some ⟨b, off, none⟩ → r < b)

theorem sortedB_wf {W : Recs} (hs : ∀ x ∈ W, (Lit.int .i64 x.2).wf = true) : ∀ x ∈ sortedB W, (Lit.int .i64 x.2).wf = true := by
  unfold sortedB
  split
  · exact fun x hx => hs x ((sortL_perm W).mem_iff.1 hx)
  · exact fun x hx => by simp at hx
theorem sortedB_short {W : Recs} (h6 : W.length ≤ 601) (hs : ∀ x ∈ W, x.1.size ≤ 41) : (sortedB W).length ≤ 601 ∧ ∀ x ∈ sortedB W, x.1.size ≤ 41 := by
  unfold sortedB
  split
  · refine ⟨by rw [(sortL_perm W).length_eq]; exact h6, fun x hx => hs x ((sortL_perm W).mem_iff.1 hx)⟩
  · exact ⟨Nat.zero_le _, fun x hx => by simp at hx⟩

/-- What is drawn: a run, mostly. -/
def DrewRun (w : World) (e : Ending) (w' : World) : Prop := ∃ (q : Option Addr) (cp : Nat) (V : Recs), e = .returned (.slice q V.length cp) ∧ V.length ≤ 601 ∧ (∀ x ∈ V, x.1.size ≤ 41) ∧ RecsAt w' q V.length V ∧ Below w.heap.size w w' ∧ (∀ x ∈ V, (Lit.int .i64 x.2).wf = true) ∧ V.length ≤ cp ∧ cp ≤ maxLen ∧ (q = none → cp = 0)

/-- What is drawn for FindRec: a run, mostly, and a short key. -/
def DrewFind (w : World) (e : Ending) (w' : World) : Prop := ∃ (q : Option Addr) (cp : Nat) (V : Recs) (s : ByteArray), e = .returned (.tuple #[.slice q V.length cp, .string s]) ∧ s.size ≤ 5 ∧ V.length ≤ 601 ∧ (∀ x ∈ V, x.1.size ≤ 41) ∧ RecsAt w' q V.length V ∧ Below w.heap.size w w'

theorem RecsAt.went {w w1 : World} {a : Option Addr} {n : Nat} {l : Recs} {r : Nat} {sa : Option Addr} {len cap : Nat} (h : RecsAt w a n l) (hw : Went w r sa len cap w1) (hne : 0 < n → ∀ b off, a = some ⟨b, off, none⟩ → r < b) : RecsAt w1 a n l := by
  refine ⟨h.length, h.max, h.keys, ?_⟩
  rcases h.src with h0 | ⟨b, off, ha, hb, hc⟩
  · exact .inl h0
  · by_cases h0 : n = 0
    · exact .inl h0
    · refine .inr ⟨b, off, ha, Nat.lt_of_lt_of_le hb hw.size, fun i hi => ?_⟩
      obtain ⟨c0, c1⟩ := hc i hi
      have hbr : b ≠ r := Nat.ne_of_gt (hne (by omega) b off ha)
      exact ⟨hw.cell c0 hbr, hw.cell c1 hbr⟩

end Go.Proofs.YthnlllbanfemaaaGreatDoor
