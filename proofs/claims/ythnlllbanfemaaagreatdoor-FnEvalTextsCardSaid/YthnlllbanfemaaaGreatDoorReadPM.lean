
/- Reading a program out of a text: what both sides' loops have done so far. -/
import Derived.Test.YthnlllbanfemaaaGreatDoorRProgM
import Derived.Test.YthnlllbanfemaaaGreatDoorMg6
import Derived.Test.YthnlllbanfemaaaGreatDoorMg20
namespace Go.Proofs.YthnlllbanfemaaaGreatDoor
open Go.ChangeShapes Go.WideShapes Go.ChangeAt Go.RowKit
set_option linter.unusedVariables false
set_option maxRecDepth 100000

theorem prWords_short (l : List UInt8) : ∀ x ∈ prWords l, x.length ≤ l.length := by
  intro x hx
  unfold prWords at hx
  split at hx
  · cases hx
  · exact split_short 32 l x hx
theorem insOf_size {l : List UInt8} {k : Nat} (h : k < (insOf l).length) : (ins2 (insOf l) k).size ≤ l.length := by
  rw [insOf_len] at h
  rw [(insOf_get h).2.2.1]
  exact Nat.le_trans (readL_size _) (prWords_short l _ (List.getElem_mem h))
theorem readP_some {l : List UInt8} {p : Instrs} (h : readP l = some p) : p = insOf l ∧ progB p = true := by
  unfold readP at h
  split at h
  · rename_i hc
    rw [Bool.and_eq_true] at hc
    injection h with h
    subst h
    exact ⟨rfl, hc.2⟩
  · cases h

/-- The program's words so far. -/
structure RPSt (L : List UInt8) (w wr : World) (v : Value) (W : List (List UInt8)) (cur : ByteArray) (more : Bool) : Prop where
  own : wr.ownsRow w.heap.size 52 3 v W.length (cellsI (W.map readL))
  below : Below w.heap.size w wr
  going : more = true → prWords L = W ++ splitL 32 cur.data.toList
  over : more = false → prWords L = W
  ok : ∀ x ∈ W, readLB x = true
theorem RPSt.word {L : List UInt8} {w wr : World} {v : Value} {W : List (List UInt8)} {cur a r : ByteArray} {b : Bool} (h : RPSt L w wr v W cur true) (hn : noC 32 a.data.toList) (hb : b = true → cur.data.toList = a.data.toList ++ 32 :: r.data.toList) (hf : b = false → a = cur ∧ r.size = 0) :
    (b = true → prWords L = (W ++ [a.data.toList]) ++ splitL 32 r.data.toList) ∧ (b = false → prWords L = W ++ [a.data.toList]) := by
  have g := h.going rfl
  constructor
  · intro e
    rw [hb e, splitL_at 32 _ _ hn] at g
    rw [g]; simp
  · intro e
    obtain ⟨rfl, _⟩ := hf e
    rw [splitL_no 32 _ hn] at g
    exact g
theorem word_in {L : List UInt8} {W : List (List UInt8)} {x : List UInt8} {r : List UInt8} {b : Bool} (h : (b = true → prWords L = (W ++ [x]) ++ splitL 32 r) ∧ (b = false → prWords L = W ++ [x])) : x ∈ prWords L ∧ W.length < (prWords L).length := by
  cases b with
  | true => rw [h.1 rfl]; exact ⟨by simp, by simp only [List.length_append, List.length_singleton]; omega⟩
  | false => rw [h.2 rfl]; exact ⟨by simp, by simp only [List.length_append, List.length_singleton]; omega⟩
theorem RPSt.add {L : List UInt8} {w wr w1 : World} {v v' : Value} {W : List (List UInt8)} {cur a r : ByteArray} {b : Bool} (h : RPSt L w wr v W cur true) (hw : (b = true → prWords L = (W ++ [a.data.toList]) ++ splitL 32 r.data.toList) ∧ (b = false → prWords L = W ++ [a.data.toList]))
    {op n : Int} {s : ByteArray} (hr : readL a.data.toList = (op, n, s)) (hok : readLB a.data.toList = true)
    (hown : w1.ownsRow w.heap.size 52 3 v' (W.length + 1) (cellsI (W.map readL) ++ [.int .i64 op, .int .i64 n, .string s])) (hB : Below w.heap.size w w1) : RPSt L w w1 v' (W ++ [a.data.toList]) r b where
  own := by
    rw [List.map_append, List.map_cons, List.map_nil, hr, cellsI_snoc, List.length_append]
    exact hown
  below := hB
  going := hw.1
  over := hw.2
  ok := fun x hx => by
    rcases List.mem_append.1 hx with e | e
    · exact h.ok x e
    · simp only [List.mem_singleton] at e
      rw [e]; exact hok

/-- The end of reading a program: a row of the call's own that holds it, and whether there is one. -/
def MadeRP (o : Option Instrs) (w : World) (e : Ending) (w' : World) : Prop :=
  Below w.heap.size w w' ∧ ∃ q n cp, e = .returned (.tuple #[.slice q n cp, .bool o.isSome]) ∧ (o.getD []).length = n ∧ w'.ownsRow w.heap.size 52 3 (.slice q n cp) n (cellsI (o.getD []))
theorem own_nil (w : World) (base : Nat) (h : base ≤ w.heap.size) : w.ownsRow base 52 3 (.slice none 0 0) 0 (cellsI []) := ⟨rfl, .inl ⟨rfl, rfl⟩⟩
theorem rp_none {o : Option Instrs} {w w' : World} (h : o = none) (hB : Below w.heap.size w w') : MadeRP o w (.returned (.tuple #[.slice none 0 0, .bool false])) w' := by
  subst h; exact ⟨hB, _, _, _, rfl, rfl, own_nil _ _ hB.size⟩
theorem rp_some {o : Option Instrs} {p : Instrs} {w w' : World} {q : Option Addr} {n cp : Nat} (h : o = some p) (hB : Below w.heap.size w w') (hn : p.length = n) (hown : w'.ownsRow w.heap.size 52 3 (.slice q n cp) n (cellsI p)) :
    MadeRP o w (.returned (.tuple #[.slice q n cp, .bool true])) w' := by
  subst h; exact ⟨hB, _, _, _, rfl, hn, hown⟩
end Go.Proofs.YthnlllbanfemaaaGreatDoor
