
/- The library's partial insertion sort over such a row computes the plain one. -/
import Derived.Test.YtjofbeokkainlaaDoorMg19
import Derived.Sort.LotA
namespace Go.Proofs.YtjofbeokkainlaaDoor
open Go.ChangeShapes Go.WideShapes Go.ChangeAt Go.RowKit Go.Lib
open Go.Sort hiding Below
set_option linter.unusedVariables false
set_option maxRecDepth 100000
variable {R : RA → World → Prop} {ra : Option Addr} {rl rc n B : Nat}

theorem ss_go {d : RA} {b i : Nat} (h : i < b) (hl : ltR d[i]! d[i - 1]! = false) : scanSorted ltR d b i = scanSorted ltR d b (i + 1) := by
  rw [scanSorted, if_pos (by rw [hl, decide_eq_true h]; rfl)]
theorem ss_stop {d : RA} {b i : Nat} (h : ¬ i < b ∨ ltR d[i]! d[i - 1]! = true) : scanSorted ltR d b i = i := by
  rw [scanSorted, if_neg (by rcases h with h | h <;> simp [h])]
theorem sdn_go {j : Nat} {d : RA} (hj : 1 ≤ j) (hl : ltR d[j]! d[j - 1]! = true) : shiftDown ltR j d = shiftDown ltR (j - 1) (swp d j (j - 1)) := by
  cases j with
  | zero => omega
  | succ k =>
    rw [Nat.add_sub_cancel] at hl ⊢
    rw [shiftDown, hl]; rfl
theorem sdn_stop {j : Nat} {d : RA} (h : ¬ 1 ≤ j ∨ ltR d[j]! d[j - 1]! = false) : shiftDown ltR j d = d := by
  cases j with
  | zero => rw [shiftDown]
  | succ k =>
    rw [Nat.add_sub_cancel] at h
    rw [shiftDown]
    rcases h with h | h
    · omega
    · rw [h]; rfl
theorem sup_go {b j : Nat} {d : RA} (hj : j < b) (hl : ltR d[j]! d[j - 1]! = true) : shiftUp ltR b j d = shiftUp ltR b (j + 1) (swp d j (j - 1)) := by
  rw [shiftUp, if_pos hj, hl]; rfl
theorem sup_stop {b j : Nat} {d : RA} (h : ¬ j < b ∨ ltR d[j]! d[j - 1]! = false) : shiftUp ltR b j d = d := by
  rw [shiftUp]
  by_cases hj : j < b
  · rcases h with h | h
    · exact absurd hj h
    · rw [if_pos hj, h]; rfl
  · rw [if_neg hj]
theorem pins_true {a b s i : Nat} {d : RA} (hs : s < 5) (hK : scanSorted ltR d b i = b) : partialIns ltR a b (5 - s) i d = (d, true) := by
  rw [show 5 - s = (4 - s) + 1 by omega, partialIns_succ, if_pos hK]
theorem pins_short {a b s i k : Nat} {d : RA} (hs : s < 5) (hK : scanSorted ltR d b i = k) (hk : k ≠ b) (h50 : b - a < 50) : partialIns ltR a b (5 - s) i d = (d, false) := by
  rw [show 5 - s = (4 - s) + 1 by omega, partialIns_succ, hK, if_neg hk, if_pos h50]
theorem pins_go {a b s i k : Nat} {d : RA} (hs : s < 5) (hK : scanSorted ltR d b i = k) (hkb : k ≠ b) (h50 : ¬ b - a < 50) :
    partialIns ltR a b (5 - s) i d = partialIns ltR a b (5 - (s + 1)) k (fixUp ltR b k (fixDown ltR a k (swp d k (k - 1)))) := by
  rw [show 5 - s = (4 - s) + 1 by omega, partialIns_succ, hK, if_neg hkb, if_neg h50, show 5 - (s + 1) = 4 - s by omega]

end Go.Proofs.YtjofbeokkainlaaDoor
