
/- Slices of texts that lie in rows of their own: they stay while other rows are marked. -/
import Derived.Test.YthndoimblfccbaaDoorStrs2
import Derived.Test.YthndoimblfccbaaDoorOwn
import Derived.Test.YthndoimblfccbaaDoorMarkN
namespace Go.Proofs.YthndoimblfccbaaDoor
open Go.ChangeShapes Go.WideShapes Go.ChangeAt Go.RowKit
set_option linter.unusedVariables false
set_option maxRecDepth 100000

/-- The slice (q, length of W) holds the texts W in a row from block 'base' on. -/
def Ks (base : Nat) (w : World) (q : Option Addr) (W : Strs) : Prop :=
  W.length = 0 ∨ ∃ g cur, q = some ⟨g, 0, none⟩ ∧ base ≤ g ∧ Row w g 9 cur ∧ W.length ≤ cur.size ∧ ∀ j (h : j < W.length), cur[j]? = some (.string W[j])

theorem ks_of_own {base : Nat} {w : World} {q : Option Addr} {cp : Nat} {W : Strs} (h : w.ownsRow base 9 1 (.slice q W.length cp) W.length (W.map Value.string)) : Ks base w q W := by
  rcases h.2 with ⟨_, h2⟩ | ⟨g, cap, cur, hv, hb, hh, h1, _, h3, h4⟩
  · exact .inl h2
  · simp only [Value.slice.injEq, true_and] at hv
    obtain ⟨rfl, rfl⟩ := hv
    refine .inr ⟨g, cur, rfl, hb, hh, by omega, fun j hj => ?_⟩
    have e : (cur.toList.take (W.length * 1))[j]? = (W.map Value.string)[j]? := by rw [h4]
    rw [List.getElem?_take_of_lt (by omega)] at e
    have e2 : cur[j]? = cur.toList[j]? := by simp
    rw [e2, e]
    simp [hj]
theorem ks_keep {base : Nat} {w w1 : World} {q : Option Addr} {W : Strs} (h : Ks base w q W) (hB : Below w.heap.size w w1) : Ks base w1 q W := by
  rcases h with h0 | ⟨g, cur, rfl, hb, hr, h1, h2⟩
  · exact .inl h0
  · exact .inr ⟨g, cur, rfl, hb, hr.keep hB, h1, h2⟩
theorem ks_lt {base : Nat} {w : World} {q : Option Addr} {W : Strs} (h : Ks base w q W) (hn : 0 < W.length) : ∀ g, q = some ⟨g, 0, none⟩ → base ≤ g ∧ g < w.heap.size := by
  intro g hg
  rcases h with h0 | ⟨g', cur, rfl, hb, hr, h1, h2⟩
  · omega
  · simp only [Option.some.injEq, Addr.mk.injEq, and_true] at hg
    rw [← hg]; exact ⟨hb, hr.lt⟩
theorem ks_grown {base g : Nat} {w w1 : World} {q : Option Addr} {W : Strs} (h : Ks base w q W) (hg : w.grownBy w1 (some g)) (hne : 0 < W.length → ∀ g', q = some ⟨g', 0, none⟩ → g' ≠ g) : Ks base w1 q W := by
  rcases h with h0 | ⟨g', cur, rfl, hb, hr, h1, h2⟩
  · exact .inl h0
  · by_cases hz : W.length = 0
    · exact .inl hz
    · exact .inr ⟨g', cur, rfl, hb, (hg.block g' hr.lt (by simpa using hne (by omega) g' rfl)).trans hr, h1, h2⟩
theorem strs_of_ks {base n : Nat} {w : World} {q : Option Addr} {W : Strs} (h : Ks base w q W) (hn : W.length = n) (hm : n ≤ maxLen) (hs : ∀ x ∈ W, x.size ≤ maxLen) : StrsAt w q n W := by
  subst hn
  have hat : ∀ i (hi : i < W.length), strAt W i = W[i] := fun i hi => by
    unfold strAt; rw [List.getD_eq_getElem?_getD, List.getElem?_eq_getElem hi]; rfl
  refine ⟨rfl, hm, fun i hi => by rw [hat i hi]; exact hs _ (List.getElem_mem hi), ?_⟩
  rcases h with h0 | ⟨g, cur, rfl, _, hr, _, hc⟩
  · exact .inl h0
  · refine .inr ⟨g, 0, rfl, hr.lt, fun i hi => ?_⟩
    rw [hat i hi]
    have := hc i hi
    unfold Row at hr
    simp [World.cell?, hr, this]

end Go.Proofs.YthndoimblfccbaaDoor
