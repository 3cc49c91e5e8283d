
/- Rows of runs that a call has made, one appended to the other: where they lie, and how they read. -/
import Derived.Test.YtjofbeokkainlaaGreatDoorMg21
import Derived.Test.YtjofbeokkainlaaGreatDoorMg22
import Derived.Test.YtjofbeokkainlaaGreatDoorMg1
import Derived.Deep.AppendLies
import Derived.Deep.Onto
namespace Go.Proofs.YtjofbeokkainlaaGreatDoor
open Go.ChangeShapes Go.WideShapes Go.ChangeAt Go.RowKit
set_option linter.unusedVariables false
set_option maxRecDepth 100000

theorem rs_lowO {b c : Nat} {w : World} {q : Option Addr} {W : Recs} (h : Rs b w q W) (hc : c ≤ b) : Rs c w q W := by
  rcases h with h0 | ⟨g, cur, hq, hb, hr, h1, h2⟩
  · exact .inl h0
  · exact .inr ⟨g, cur, hq, Nat.le_trans hc hb, hr, h1, h2⟩
theorem rs_apartT {base bo : Nat} {w w1 : World} {q : Option Addr} {W : Recs} {e : TypeId} {size n : Nat} {v : Value} {xs : List Value} (h : Rs base w q W) (ho : w.ownsRow bo e size v n xs) (hT : 37 ≠ e) (hg : w.grownBy w1 v.ownBlock) : Rs base w1 q W := by
  rcases h with h0 | ⟨g, cur, hq, hb, hr, h1, h2⟩
  · exact .inl h0
  · exact .inr ⟨g, cur, hq, hb, ot_row_grownT hr ho hT hg, h1, h2⟩
/-- The runs that the model has so far. -/
structure OutS (R : List Recs) (w wr : World) (q : Option Addr) (k cp : Nat) (XS : List Value) : Prop where
  own : wr.ownsRow w.heap.size 34 1 (.slice q k cp) k XS
  runs : ∀ i, i < k → ∃ p c, XS[i]? = some (.slice p (nAt R i) c) ∧ Rs w.heap.size wr p (R.getD i []) ∧ (p = none → nAt R i = 0 ∧ c = 0)
  below : Below w.heap.size w wr
theorem OutS.keep {R : List Recs} {w wr w1 : World} {q : Option Addr} {k cp : Nat} {XS : List Value} (h : OutS R w wr q k cp XS) (hB : Below wr.heap.size wr w1) : OutS R w w1 q k cp XS :=
  ⟨own_below h.own hB, fun i hi => by
    obtain ⟨p, c, e1, e2, e3⟩ := h.runs i hi
    exact ⟨p, c, e1, rs_keep e2 hB, e3⟩, below_via h.below hB⟩
theorem OutS.add {R : List Recs} {w wr w3 : World} {q q3 : Option Addr} {k cp c3 : Nat} {XS : List Value} (h : OutS R w wr q k cp XS) {o : Obj} {p : Option Addr} {c : Nat} (hr : Rs w.heap.size wr p (R.getD k [])) (hnil : p = none → nAt R k = 0 ∧ c = 0)
    (ho : w3.ownsRow w.heap.size 34 1 (.slice q3 (k + 1) c3) (k + 1) (XS ++ [.slice p (nAt R k) c])) (hg : (wr.alloc o).grownBy w3 (Value.slice q k cp).ownBlock) : OutS R w w3 q3 (k + 1) c3 (XS ++ [.slice p (nAt R k) c]) := by
  have ha := below_alloc (Below.refl wr.heap.size wr) o
  have hO := own_below h.own ha
  have hxl : XS.length = k := by have := h.own.1; omega
  refine ⟨ho, fun i hi => ?_, (below_via h.below ha).grown hg (Nat.le_trans h.below.size ha.size) (fun j hj => (h.own.lt j hj).1)⟩
  rcases Nat.lt_or_ge i k with hlt | hge
  · obtain ⟨p1, c1, e1, e2, e3⟩ := h.runs i hlt
    exact ⟨p1, c1, by rw [List.getElem?_append_left (by omega)]; exact e1, rs_apartT (rs_keep e2 ha) hO (by decide) hg, e3⟩
  · obtain rfl : i = k := by omega
    exact ⟨p, c, by rw [List.getElem?_append_right (by omega), hxl]; simp, rs_apartT (rs_keep hr ha) hO (by decide) hg, hnil⟩
theorem OutS.low {R : List Recs} {w wa wr : World} {q : Option Addr} {k cp : Nat} {XS : List Value} (h : OutS R wa wr q k cp XS) (hB : Below w.heap.size w wa) : OutS R w wr q k cp XS :=
  ⟨h.own.mono hB.size, fun i hi => by
    obtain ⟨p, c, e1, e2, e3⟩ := h.runs i hi
    exact ⟨p, c, e1, rs_lowO e2 hB.size, e3⟩, below_via hB h.below⟩
theorem outS_nil (w w' : World) (hB : Below w.heap.size w w') : OutS [] w w' none 0 0 [] := ⟨World.ownsRow_nil _ _ _ _, fun i hi => by omega, hB⟩
theorem OutS.src {R : List Recs} {w wr : World} {q : Option Addr} {k cp : Nat} {XS : List Value} (h : OutS R w wr q k cp XS) (hk : 0 < k) : ∃ g, q = some ⟨g, 0, none⟩ ∧ g < wr.heap.size ∧ w.heap.size ≤ g ∧ k ≤ cp ∧ cp ≤ maxLen ∧ ∀ i, i < k → ∃ p c, wr.cell? ⟨g, i, none⟩ = some (.slice p (nAt R i) c) ∧ Rs w.heap.size wr p (R.getD i []) ∧ (p = none → nAt R i = 0 ∧ c = 0) := by
  rcases h.own.2 with ⟨_, h2⟩ | ⟨g, cap, cur, hv, hb, hh, h1, h2, h3, h4⟩
  · omega
  · have hlt : g < wr.heap.size := Row.lt (show Row wr g 34 cur from hh)
    simp only [Value.slice.injEq] at hv
    obtain ⟨rfl, _, rfl⟩ := hv
    refine ⟨g, rfl, hlt, hb, h1, h2, fun i hi => ?_⟩
    obtain ⟨p, c1, e1, e2, e3⟩ := h.runs i hi
    exact ⟨p, c1, by rw [h.own.cellAt i (by omega)]; exact e1, e2, e3⟩
/-- Short runs. -/
def ShortR (R : List Recs) : Prop := ∀ i, i < R.length → nAt R i ≤ 600 ∧ ∀ j, j < nAt R i → (keyAt (R.getD i []) j).size ≤ 40
theorem OutS.ls {R : List Recs} {w wr : World} {q : Option Addr} {k cp : Nat} {XS : List Value} (h : OutS R w wr q k cp XS) (hk : R.length = k) (hm : k ≤ maxLen) (hf : ShortR R) : RunLs wr q k R := by
  refine ⟨hk, hm, ?_⟩
  by_cases h0 : k = 0
  · exact .inl h0
  · obtain ⟨g, rfl, hlt, _, _, _, hc⟩ := h.src (by omega)
    refine .inr ⟨g, 0, rfl, hlt, fun i hi => ?_⟩
    obtain ⟨p, c, hx, hr, _⟩ := hc i hi
    exact ⟨p, nAt R i, c, by rw [Nat.zero_add]; exact hx, recs_of_rs hr rfl (by have := (hf i (by omega)).1; unfold maxLen; omega) (fun j hj => by have := (hf i (by omega)).2 j hj; unfold maxLen; omega)⟩
theorem OutS.ss {R : List Recs} {w wr : World} {q : Option Addr} {k cp : Nat} {XS : List Value} (h : OutS R w wr q k cp XS) (hk : R.length = k) (hf : ShortR R) : RunSs wr q k R := by
  refine ⟨hk, ?_⟩
  by_cases h0 : k = 0
  · exact .inl h0
  · obtain ⟨g, rfl, hlt, _, _, _, hc⟩ := h.src (by omega)
    refine .inr ⟨g, 0, rfl, hlt, fun i hi => ?_⟩
    obtain ⟨p, c, hx, hr, hz⟩ := hc i hi
    exact ⟨p, nAt R i, c, by rw [Nat.zero_add]; exact hx, recs_of_rs hr rfl (by have := (hf i (by omega)).1; unfold maxLen; omega) (fun j hj => by have := (hf i (by omega)).2 j hj; unfold maxLen; omega), hz⟩
end Go.Proofs.YtjofbeokkainlaaGreatDoor
