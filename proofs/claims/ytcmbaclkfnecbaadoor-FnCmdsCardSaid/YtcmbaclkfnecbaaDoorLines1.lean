
/- What LinesOf computes in the program: the lines of a text in a row of its own. Only new blocks are made. -/
import Derived.Test.YtcmbaclkfnecbaaDoorLCut
import Derived.Test.YtcmbaclkfnecbaaDoorLinesM
import Derived.Test.YtcmbaclkfnecbaaDoorWs
namespace Go.Proofs.YtcmbaclkfnecbaaDoor
open Go.ChangeShapes Go.WideShapes Go.ChangeAt Go.RowKit
set_option linter.unusedVariables false
set_option maxRecDepth 100000

/-- The lines so far. -/
structure LinesSt (L : List UInt8) (w wr : World) (v : Value) (W : List (List UInt8)) (cur : ByteArray) : Prop where
  own : wr.ownsRow w.heap.size 9 1 v W.length (W.map encS)
  below : Below w.heap.size w wr
  rest : W ++ splitL 10 cur.data.toList = splitL 10 L
  few : W.length ≤ 10
  short : ∀ x ∈ W, x.length ≤ 200

/-- The end of a function that returns texts in a row of its own, and a bool. -/
def MadeWsB (W : List (List UInt8)) (b : Bool) (w : World) (e : Ending) (w' : World) : Prop :=
  ∃ q cp, e = .returned (.tuple #[.slice q W.length cp, .bool b]) ∧ Ws w.heap.size w' q W ∧ Below w.heap.size w w'

theorem madews_none {L : List UInt8} {w w' : World} (h : linesB L = none) (hB : Below w.heap.size w w') : MadeWsB (linesW L) (linesK L) w (.returned (.tuple #[.slice none 0 0, .bool false])) w' := by
  obtain ⟨h1, h2⟩ := lines_none h
  rw [h1, h2]
  exact ⟨none, 0, rfl, .inl rfl, hB⟩

theorem lines_end {L : List UInt8} {w wr : World} {q : Option Addr} {n cp : Nat} {W : List (List UInt8)} {cur : ByteArray} (h : LinesSt L w wr (.slice q n cp) W cur) (hn : W.length = n) (h0 : cur.size = 0) :
    MadeWsB (linesW L) (linesK L) w (.returned (.tuple #[.slice q n cp, .bool true])) wr := by
  subst hn
  have hc : cur.data.toList = [] := by
    apply List.eq_nil_of_length_eq_zero
    simpa using h0
  have hr := h.rest
  rw [hc] at hr
  have hs : linesB L = some W := by
    unfold linesB
    rw [← hr]
    exact linesP_done W h.few h.short
  obtain ⟨h1, h2⟩ := lines_some hs
  rw [h1, h2]
  exact ⟨q, cp, rfl, ws_of_own h.own (List.take_length).symm, h.below⟩

theorem lines_stop {L : List UInt8} {w wr : World} {v : Value} {W : List (List UInt8)} {cur a r : ByteArray} {b : Bool} (h : LinesSt L w wr v W cur) (h0 : cur.size ≠ 0)
    (hn : noC 10 a.data.toList) (hb : b = true → cur.data.toList = a.data.toList ++ 10 :: r.data.toList) (hf : b = false → a = cur ∧ r.size = 0)
    (hbad : b = false ∨ ¬ a.size ≤ 200 ∨ W.length = 10) : linesB L = none := by
  have hr := h.rest
  unfold linesB
  cases b with
  | false =>
    obtain ⟨rfl, _⟩ := hf rfl
    rw [splitL_no 10 _ hn] at hr
    rw [← hr]
    refine linesP_open W _ fun e => h0 ?_
    have := congrArg List.length e
    simpa using this
  | true =>
    rw [hb rfl, splitL_at 10 _ _ hn] at hr
    rw [← hr]
    rcases hbad with h1 | h1 | h1
    · cases h1
    · exact linesP_long W _ _ (splitL_ne 10 _) (by simpa using h1)
    · exact linesP_many W _ _ (splitL_ne 10 _) h1

theorem lines_add {L : List UInt8} {w wr w1 : World} {v v' : Value} {W : List (List UInt8)} {cur a r : ByteArray} (h : LinesSt L w wr v W cur)
    (hn : noC 10 a.data.toList) (hb : cur.data.toList = a.data.toList ++ 10 :: r.data.toList) (h1 : a.size ≤ 200) (h2 : W.length < 10)
    (hown : w1.ownsRow w.heap.size 9 1 v' (W.length + 1) (W.map encS ++ [.string a])) (hbl : Below w.heap.size w w1) : LinesSt L w w1 v' (W ++ [a.data.toList]) r where
  own := by
    have e : encS a.data.toList = .string a := rfl
    rw [← e] at hown
    simpa using hown
  below := hbl
  rest := by
    have hr := h.rest
    rw [hb, splitL_at 10 _ _ hn] at hr
    rw [← hr]; simp
  few := by simp; omega
  short := fun x hx => by
    rcases List.mem_append.1 hx with hx | hx
    · exact h.short x hx
    · simp at hx; subst hx; simpa using h1

end Go.Proofs.YtcmbaclkfnecbaaDoor
