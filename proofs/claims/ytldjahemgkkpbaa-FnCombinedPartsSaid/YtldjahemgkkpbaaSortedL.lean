
/- The law on sorted records, walked: what is sorted is a run that has each record as often. Only new blocks are made. -/
import Derived.Test.YtldjahemgkkpbaaDrawLf
import Derived.Test.YtldjahemgkkpbaaSo8
import Derived.Test.YtldjahemgkkpbaaSameR
import Derived.Test.YtldjahemgkkpbaaDraw1
import Derived.Test.YtldjahemgkkpbaaFind
import Derived.Test.YtldjahemgkkpbaaMg3
namespace Go.Proofs.Ytldjahemgkkpbaa
open Go.ChangeShapes Go.WideShapes Go.ChangeAt Go.RowKit
set_option linter.unusedVariables false
set_option maxRecDepth 100000

def DrewSd (w : World) (e : Ending) (w' : World) : Prop :=
  ∃ (q : Option Addr) (n cp : Nat) (V : Recs), e = .returned (.slice q n cp) ∧ DrawnL w' q n cp V ∧ Below w.heap.size w w'

def eqP (a b : ByteArray × Int) : Bool := sameKey a.1 b.1 && (a.2 == b.2)
def cntB (l : Recs) (x : ByteArray × Int) (k : Nat) : Nat := (l.take k).countP (fun r => eqP r x)
theorem cnt_step (l : Recs) (x : ByteArray × Int) (k : Nat) (h : k < l.length) : cntB l x (k + 1) = cntB l x k + if eqP (keyAt l k, numAt l k) x then 1 else 0 := by
  unfold cntB
  rw [List.take_succ_eq_append_getElem h, List.countP_append, at_get l k h]
  simp
theorem cnt_le (l : Recs) (x : ByteArray × Int) (k : Nat) : cntB l x k ≤ k :=
  Nat.le_trans List.countP_le_length (by rw [List.length_take]; omega)
theorem cnt_perm {l k : Recs} (h : l.Perm k) (x : ByteArray × Int) (n : Nat) (hl : l.length = n) (hk : k.length = n) : cntB l x n = cntB k x n := by
  unfold cntB
  rw [List.take_of_length_le (by omega), List.take_of_length_le (by omega)]
  exact h.countP_eq _
theorem eqP_cases (s u : ByteArray) (n m : Int) : (eqP (s, n) (u, m) = true ∧ s = u ∧ n = m) ∨ (eqP (s, n) (u, m) = false ∧ ¬ s.toList = u.toList) ∨ (eqP (s, n) (u, m) = false ∧ s = u ∧ ¬ n = m) := by
  unfold eqP sameKey
  by_cases h : s.toList = u.toList
  · have hs := toList_inj h
    subst hs
    by_cases h2 : n = m
    · exact .inl ⟨by simp [h2], rfl, h2⟩
    · exact .inr (.inr ⟨by simp [h2], rfl, h2⟩)
  · exact .inr (.inl ⟨by simp [h], h⟩)
theorem sortedB_facts {V S : Recs} {n : Nat} (hs : sortedB V = S) (hl : V.length = n) (hk : S.length = n) : V.Perm S ∧ runOkB S = true ∧ sortedB S = S := by
  have hok : recsOkB V = true := by
    cases h : recsOkB V with
    | true => rfl
    | false =>
      rw [sortedB_not h] at hs
      subst hs
      simp at hk
      subst hk
      obtain rfl := List.eq_nil_of_length_eq_zero hl
      exact h ▸ rfl
  rw [sortedB_is hok] at hs
  have hp : S.Perm V := by rw [← hs]; exact sortL_perm V
  obtain ⟨h1, h2⟩ := recsOk_parts hok
  have hk2 : recsOkB S = true := by
    unfold recsOkB
    rw [Bool.and_eq_true, List.all_eq_true]
    refine ⟨decide_eq_true (by omega), fun i hi => ?_⟩
    have hi' := List.mem_range.1 hi
    have hm := hp.mem_iff.1 (List.getElem_mem hi')
    obtain ⟨j, hj, e⟩ := List.mem_iff_getElem.1 hm
    rw [at_get _ i hi', at_get _ j hj] at e
    have e1 : keyAt V j = keyAt S i := congrArg Prod.fst e
    have := h2 j hj
    unfold okAt at *
    rw [← e1]
    exact this
  have ho : InOrder S := by rw [← hs]; exact sortL_order V
  exact ⟨hp.symm, (runOk_iff S).2 ⟨hk2, ho⟩, by rw [sortedB_is hk2]; exact sortL_of ho (List.Perm.refl _)⟩

structure FS (w : World) (q qs : Option Addr) (n cp : Nat) (V S : Recs) (wr : World) : Prop where
  below : Below w.heap.size w wr
  l : DrawnL wr q n cp V
  s : RecsAt wr qs n S
theorem FS.keep {w : World} {q qs : Option Addr} {n cp : Nat} {V S : Recs} {wr w1 : World} (h : FS w q qs n cp V S wr) (hB : Below wr.heap.size wr w1) : FS w q qs n cp V S w1 :=
  ⟨below_via h.below hB, h.l.keep hB, h.s.keep hB⟩

end Go.Proofs.Ytldjahemgkkpbaa
