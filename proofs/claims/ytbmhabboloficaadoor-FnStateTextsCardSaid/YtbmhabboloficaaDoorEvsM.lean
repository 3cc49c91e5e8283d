
/- Texts of lists of events: longest runs of equal ones, as plain data. No walk in this text. -/
import Derived.Test.YtbmhabboloficaaDoorEvM
import Derived.Test.YtbmhabboloficaaDoorEvents
namespace Go.Proofs.YtbmhabboloficaaDoor
open Go.ChangeShapes Go.WideShapes Go.ChangeAt Go.RowKit
set_option linter.unusedVariables false
set_option maxRecDepth 100000

def seqTx (n : Nat) (k v : Int) : ByteArray := decB (n : Int) ++ ⟨#[32]⟩ ++ evTx k v ++ ⟨#[10]⟩
def evAt (l : Events) (i : Nat) : Int × Int := (ev0 l i, ev1 l i)
/-- The text of the runs that are over behind k events, and how many there are of the one that is not. -/
def evFold (l : Events) : Nat → ByteArray × Nat
  | 0 => (ByteArray.empty, 0)
  | k + 1 => if k + 1 = l.length ∨ evAt l (k + 1) ≠ evAt l k then ((evFold l k).1 ++ seqTx ((evFold l k).2 + 1) (ev0 l k) (ev1 l k), 0) else ((evFold l k).1, (evFold l k).2 + 1)
def evsB (l : Events) (n : Int) : Bool := decide (l.length ≤ 1000) && l.all fun e => evB e.1 e.2 n
def evsTx (l : Events) : ByteArray := if evsB l 4 then (evFold l l.length).1 else ByteArray.empty
theorem evFold_end {l : Events} {k : Nat} {t : ByteArray} {n : Nat} (h : evFold l k = (t, n)) (hb : k + 1 = l.length ∨ evAt l (k + 1) ≠ evAt l k) : evFold l (k + 1) = (t ++ seqTx (n + 1) (ev0 l k) (ev1 l k), 0) := by
  unfold evFold
  rw [if_pos hb, h]
theorem evFold_on {l : Events} {k : Nat} {t : ByteArray} {n : Nat} (h : evFold l k = (t, n)) (hb : ¬ (k + 1 = l.length ∨ evAt l (k + 1) ≠ evAt l k)) : evFold l (k + 1) = (t, n + 1) := by
  unfold evFold
  rw [if_neg hb, h]
theorem evFold_count (l : Events) : ∀ k, (evFold l k).2 ≤ k
  | 0 => Nat.le_refl _
  | k + 1 => by
    have := evFold_count l k
    unfold evFold
    split
    · exact Nat.zero_le _
    · show (evFold l k).2 + 1 ≤ k + 1
      omega
theorem evTx_le (k v : Int) : (evTx k v).size ≤ 7 := by
  cases h : evB k v 4 with
  | true => exact (evTx_len h).2
  | false => rw [evTx_no h]; decide
theorem seqTx_le {n : Nat} (k v : Int) (hn : n ≤ 100000) : (seqTx n k v).size ≤ 30 := by
  have h1 := @decB_size (n : Int) (by omega) (by omega)
  have h2 := evTx_le k v
  unfold seqTx
  rw [ByteArray.size_append, ByteArray.size_append, ByteArray.size_append]
  show _ + 1 + _ + 1 ≤ 30
  omega
theorem evFold_size (l : Events) : ∀ k, k ≤ 99999 → (evFold l k).1.size ≤ 30 * k
  | 0, _ => Nat.le_refl _
  | k + 1, hk => by
    have h1 := evFold_size l k (by omega)
    have h2 := evFold_count l k
    have h3 := @seqTx_le ((evFold l k).2 + 1) (ev0 l k) (ev1 l k) (by omega)
    unfold evFold
    split
    · rw [ByteArray.size_append]; omega
    · show (evFold l k).1.size ≤ 30 * (k + 1)
      omega
theorem evsB_iff {l : Events} {n : Int} : evsB l n = true ↔ l.length ≤ 1000 ∧ ∀ i, i < l.length → evB (ev0 l i) (ev1 l i) n = true := by
  unfold evsB
  rw [Bool.and_eq_true, decide_eq_true_eq, List.all_eq_true]
  constructor
  · rintro ⟨h1, h2⟩
    refine ⟨h1, fun i hi => ?_⟩
    have := h2 l[i] (List.getElem_mem _)
    simpa [ev0, ev1, hi] using this
  · rintro ⟨h1, h2⟩
    refine ⟨h1, fun e he => ?_⟩
    obtain ⟨i, hi, rfl⟩ := List.getElem_of_mem he
    have := h2 i hi
    simpa [ev0, ev1, hi] using this
theorem evs_many {l : Events} {n : Int} (h : ¬ l.length ≤ 1000) : evsB l n = false := by
  cases hb : evsB l n with
  | false => rfl
  | true => exact absurd (evsB_iff.1 hb).1 h
theorem evs_bad {l : Events} {n : Int} {i : Nat} (hi : i < l.length) (h : evB (ev0 l i) (ev1 l i) n = false) : evsB l n = false := by
  cases hb : evsB l n with
  | false => rfl
  | true => rw [(evsB_iff.1 hb).2 i hi] at h; cases h
theorem evsTx_no {l : Events} (h : evsB l 4 = false) : evsTx l = ByteArray.empty := by unfold evsTx; rw [h]; rfl
theorem evsTx_yes {l : Events} {t : ByteArray} {n : Nat} (h : evsB l 4 = true) (hf : evFold l l.length = (t, n)) : evsTx l = t := by unfold evsTx; rw [h, if_pos rfl, hf]
end Go.Proofs.YtbmhabboloficaaDoor
