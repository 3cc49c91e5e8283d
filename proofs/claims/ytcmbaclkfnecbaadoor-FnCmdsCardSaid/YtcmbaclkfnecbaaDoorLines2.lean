
/- What LinesOf computes in the model: the lines of a text, if they come back. Only new blocks are made. -/
import Derived.Test.YtcmbaclkfnecbaaDoorLines1
namespace Go.Proofs.YtcmbaclkfnecbaaDoor
open Go.ChangeShapes Go.WideShapes Go.ChangeAt Go.RowKit
set_option linter.unusedVariables false
set_option maxRecDepth 100000

/-- The lines so far, in the model. -/
structure LinesSt2 (L : List UInt8) (n : Nat) (w wr : World) (v : Value) (W : List (List UInt8)) (cur : ByteArray) : Prop where
  own : wr.ownsRow w.heap.size 9 1 v W.length (W.map encS)
  below : Below w.heap.size w wr
  rest : W ++ splitL 10 cur.data.toList = splitL 10 L
  few : W.length + cur.size ≤ n

/-- The end of l1Lines. -/
def MadeLines2 (L : List UInt8) (n : Nat) (w : World) (e : Ending) (w' : World) : Prop :=
  ∃ (v : Value) (W : List (List UInt8)) (b : Bool), e = .returned (.tuple #[v, .bool b]) ∧ w'.ownsRow w.heap.size 9 1 v W.length (W.map encS) ∧ Below w.heap.size w w' ∧ W.length ≤ n + 1 ∧
    (b = true → splitL 10 L = W ++ [[]]) ∧ (b = false → linesB L = none)

theorem lines2_end {L : List UInt8} {n : Nat} {w wr : World} {v : Value} {W : List (List UInt8)} {cur : ByteArray} (h : LinesSt2 L n w wr v W cur) (h0 : cur.size = 0) :
    MadeLines2 L n w (.returned (.tuple #[v, .bool true])) wr := by
  have hc : cur.data.toList = [] := by
    apply List.eq_nil_of_length_eq_zero
    simpa using h0
  have hr := h.rest
  rw [hc] at hr
  exact ⟨v, W, true, rfl, h.own, h.below, by have := h.few; omega, fun _ => hr.symm, (fun h => by cases h)⟩

theorem lines2_open {L : List UInt8} {n : Nat} {w wr w1 : World} {v v' : Value} {W : List (List UInt8)} {cur a r : ByteArray} (h : LinesSt2 L n w wr v W cur) (h0 : cur.size ≠ 0)
    (hn : noC 10 a.data.toList) (hf : a = cur ∧ r.size = 0)
    (hown : w1.ownsRow w.heap.size 9 1 v' (W.length + 1) (W.map encS ++ [.string a])) (hbl : Below w.heap.size w w1) : MadeLines2 L n w (.returned (.tuple #[v', .bool false])) w1 := by
  refine ⟨v', W ++ [a.data.toList], false, rfl, ?_, hbl, by simp; have := h.few; omega, (fun h => by cases h), fun _ => ?_⟩
  · have e : encS a.data.toList = .string a := rfl
    rw [← e] at hown
    simpa using hown
  · have hr := h.rest
    unfold linesB
    obtain ⟨rfl, _⟩ := hf
    rw [splitL_no 10 _ hn] at hr
    rw [← hr]
    refine linesP_open W _ fun e => h0 ?_
    have := congrArg List.length e
    simpa using this

theorem lines2_add {L : List UInt8} {n : Nat} {w wr w1 : World} {v v' : Value} {W : List (List UInt8)} {cur a r : ByteArray} (h : LinesSt2 L n w wr v W cur)
    (hn : noC 10 a.data.toList) (hb : cur.data.toList = a.data.toList ++ 10 :: r.data.toList)
    (hown : w1.ownsRow w.heap.size 9 1 v' (W.length + 1) (W.map encS ++ [.string a])) (hbl : Below w.heap.size w w1) : LinesSt2 L n w w1 v' (W ++ [a.data.toList]) r where
  own := by
    have e : encS a.data.toList = .string a := rfl
    rw [← e] at hown
    simpa using hown
  below := hbl
  rest := by
    have hr := h.rest
    rw [hb, splitL_at 10 _ _ hn] at hr
    rw [← hr]; simp
  few := by
    have := h.few
    have hs := congrArg List.length hb
    simp at hs
    simp; omega

def rightB (l : Strs) : Bool := rightL (l.map fun s => s.data.toList)
theorem right_bad {l : Strs} {k : Nat} (hk : k < l.length) (h : ¬ ((strAt l k).size ≤ 200 ∧ noC 10 (strAt l k).data.toList)) : rightB l = false := by
  rw [← Bool.not_eq_true]
  intro hr
  obtain ⟨_, h2⟩ := (rightL_iff _).1 hr
  refine h ?_
  have := h2 (strAt l k).data.toList (by
    refine List.mem_map.2 ⟨strAt l k, ?_, rfl⟩
    unfold strAt
    rw [List.getD_eq_getElem?_getD, List.getElem?_eq_getElem hk]
    exact List.getElem_mem hk)
  exact ⟨by simpa using this.1, this.2⟩
theorem right_good {l : Strs} (h : ∀ k, k < l.length → (strAt l k).size ≤ 200 ∧ noC 10 (strAt l k).data.toList) : rightB l = decide (l.length ≤ 10) := by
  by_cases h10 : l.length ≤ 10
  · rw [decide_eq_true h10]
    refine (rightL_iff _).2 ⟨by simpa using h10, fun x hx => ?_⟩
    obtain ⟨s, hs, rfl⟩ := List.mem_map.1 hx
    obtain ⟨k, hk, rfl⟩ := List.getElem_of_mem hs
    have := h k hk
    unfold strAt at this
    rw [List.getD_eq_getElem?_getD, List.getElem?_eq_getElem hk] at this
    exact ⟨by simpa using this.1, this.2⟩
  · rw [decide_eq_false h10, ← Bool.not_eq_true]
    intro hr
    have := ((rightL_iff _).1 hr).1
    simp at this
    exact h10 this

end Go.Proofs.YtcmbaclkfnecbaaDoor
