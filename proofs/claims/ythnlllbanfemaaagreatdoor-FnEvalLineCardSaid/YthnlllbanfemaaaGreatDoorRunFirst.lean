
/- The law on a run in two parts, walked: the bytes of the two parts are the run's, and both are runs. Only new blocks are made. -/
import Derived.Test.YthnlllbanfemaaaGreatDoorRoundM2
import Derived.Test.YthnlllbanfemaaaGreatDoorDrawRR
import Derived.Test.YthnlllbanfemaaaGreatDoorPlace
namespace Go.Proofs.YthnlllbanfemaaaGreatDoor
open Go.ChangeShapes Go.WideShapes Go.ChangeAt Go.RowKit
set_option linter.unusedVariables false
set_option maxRecDepth 100000

theorem recs_take {w : World} {q : Option Addr} {n : Nat} {l : Recs} (h : RecsAt w q n l) (k : Nat) (hk : k ≤ n) : RecsAt w q k (l.take k) := by
  have hl := h.length
  have hat : ∀ i, i < k → keyAt (l.take k) i = keyAt l i ∧ numAt (l.take k) i = numAt l i := by
    intro i hi
    unfold keyAt numAt
    rw [List.getD_eq_getElem?_getD, List.getD_eq_getElem?_getD, List.getElem?_take_of_lt hi]
    exact ⟨rfl, rfl⟩
  refine ⟨by rw [List.length_take]; omega, Nat.le_trans hk h.max, fun i hi => ?_, ?_⟩
  · rw [(hat i hi).1]; exact h.keys i (by omega)
  · rcases h.src with h0 | ⟨b, off, hq, hb, hc⟩
    · exact .inl (by omega)
    · refine .inr ⟨b, off, hq, hb, fun i hi => ?_⟩
      rw [(hat i hi).1, (hat i hi).2]
      exact hc i (by omega)
theorem recs_drop {w : World} {b off : Nat} {n : Nat} {l : Recs} (h : RecsAt w (some ⟨b, off, none⟩) n l) (k : Nat) (hk : k ≤ n) : RecsAt w (some ⟨b, off + k * 2, none⟩) (n - k) (l.drop k) := by
  have hl := h.length
  have hm := h.max
  have hat : ∀ i, keyAt (l.drop k) i = keyAt l (k + i) ∧ numAt (l.drop k) i = numAt l (k + i) := by
    intro i
    unfold keyAt numAt
    rw [List.getD_eq_getElem?_getD, List.getD_eq_getElem?_getD, List.getElem?_drop]
    exact ⟨rfl, rfl⟩
  refine ⟨by rw [List.length_drop]; omega, by omega, fun i hi => ?_, ?_⟩
  · rw [(hat i).1]; exact h.keys (k + i) (by omega)
  · rcases h.src with h0 | ⟨b', off', hq, hb, hc⟩
    · exact .inl (by omega)
    · simp only [Option.some.injEq, Addr.mk.injEq, and_true] at hq
      obtain ⟨rfl, rfl⟩ := hq
      refine .inr ⟨b, off + k * 2, rfl, hb, fun i hi => ?_⟩
      rw [(hat i).1, (hat i).2]
      have := hc (k + i) (by omega)
      rw [Nat.add_mul, ← Nat.add_assoc] at this
      exact this
theorem recs_none (w : World) (q : Option Addr) {l : Recs} (h : l.length = 0) : RecsAt w q 0 l := ⟨h, Nat.zero_le _, fun i hi => by omega, .inl rfl⟩

end Go.Proofs.YthnlllbanfemaaaGreatDoor
