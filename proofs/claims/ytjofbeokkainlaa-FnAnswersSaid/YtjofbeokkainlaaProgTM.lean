
/- Texts of instructions and programs, as lists of bytes. -/
import Derived.Test.YtjofbeokkainlaaMg8
import Derived.Test.YtjofbeokkainlaaDecs
import Derived.Lib.Join
namespace Go.Proofs.Ytjofbeokkainlaa
open Go.ChangeShapes Go.WideShapes Go.ChangeAt Go.RowKit
set_option linter.unusedVariables false
set_option maxRecDepth 100000

def insTx (op n : Int) (s : ByteArray) : ByteArray :=
  if op = 1 then ⟨#[102]⟩ ++ decB n else if op = 2 then ⟨#[116, 58]⟩ ++ s else if op = 3 then ⟨#[110]⟩ ++ decB n else textB op.toNat
def txAt (l : Instrs) (i : Nat) : ByteArray := insTx (ins0 l i) (ins1 l i) (ins2 l i)
def progTo (l : Instrs) : Nat → ByteArray
  | 0 => ByteArray.empty
  | k + 1 => (if 0 < k then progTo l k ++ ⟨#[32]⟩ else progTo l k) ++ txAt l k
def progTx (l : Instrs) : ByteArray := if progB l then progTo l l.length else ByteArray.empty
def txsOf (l : Instrs) (n : Nat) : List ByteArray := (List.range n).map (txAt l)

theorem join_snoc (xs : List (List UInt8)) (x sep : List UInt8) (h : xs ≠ []) : Lib.join (xs ++ [x]) sep = Lib.join xs sep ++ sep ++ x := by
  cases xs with
  | nil => exact absurd rfl h
  | cons a r =>
    rw [List.cons_append, Lib.join_cons, Lib.join_cons]
    simp [Lib.joinTail]
theorem join_prog (l : Instrs) : ∀ n, Lib.join ((txsOf l n).map (·.data.toList)) [32] = (progTo l n).data.toList
  | 0 => rfl
  | n + 1 => by
    have e : (txsOf l (n + 1)).map (·.data.toList) = (txsOf l n).map (·.data.toList) ++ [(txAt l n).data.toList] := by
      simp [txsOf, List.range_succ]
    rw [e]
    by_cases hn : n = 0
    · subst hn
      simp [txsOf, Lib.join_one, progTo]
    · have hne : (txsOf l n).map (·.data.toList) ≠ [] := by
        intro h
        have := congrArg List.length h
        simp [txsOf] at this
        exact hn this
      rw [join_snoc _ _ _ hne, join_prog l n]
      show _ = ((if 0 < n then progTo l n ++ ⟨#[32]⟩ else progTo l n) ++ txAt l n).data.toList
      rw [if_pos (by omega)]
      simp
theorem prog_ins {l : Instrs} (h : progB l = true) {k : Nat} (hk : k < l.length) : instrB (ins0 l k) (ins1 l k) (ins2 l k) = true := by
  cases hi : instrB (ins0 l k) (ins1 l k) (ins2 l k) with
  | true => rfl
  | false =>
    have := prog_bad (k := k + 1) (by omega) (stk_wrong hi)
    rw [h] at this
    cases this
theorem prog_few {l : Instrs} (h : progB l = true) : l.length ≤ 30 := by
  by_cases h30 : l.length ≤ 30
  · exact h30
  · rw [prog_long h30] at h; cases h
theorem pushB_size {s : ByteArray} (h : pushB s = true) : s.size ≤ 20 := by
  unfold pushB at h
  simp only [Bool.and_eq_true, decide_eq_true_eq] at h
  omega
theorem text_few (x : Nat) : (textB x).size ≤ 6 := by
  unfold textB
  split <;> decide
theorem ins_ways {op n : Int} {s : ByteArray} (h : instrB op n s = true) :
    (op = 1 ∧ s.size = 0) ∨ (op = 2 ∧ s.size ≤ 20) ∨ (op = 3 ∧ s.size = 0) ∨ ∃ x : Nat, op = (x : Int) + 4 ∧ x < 11 ∧ s.size = 0 := by
  unfold instrB at h
  split at h
  · simp only [Bool.and_eq_true, decide_eq_true_eq] at h; exact .inl ⟨by assumption, h.2⟩
  · split at h
    · simp only [Bool.and_eq_true, decide_eq_true_eq] at h; exact .inr (.inl ⟨by assumption, pushB_size h.2⟩)
    · split at h
      · simp only [decide_eq_true_eq] at h; exact .inr (.inr (.inl ⟨by assumption, h⟩))
      · simp only [Bool.and_eq_true, decide_eq_true_eq] at h
        exact .inr (.inr (.inr ⟨(op - 4).toNat, by omega, by omega, h.2.2⟩))
theorem insTx_size {op n : Int} {s : ByteArray} (h : instrB op n s = true) (hn : In64 n) : (insTx op n s).size ≤ 22 := by
  have hd : (decB n).size ≤ 20 := decB_size hn.1 (by have := hn.2; omega)
  unfold insTx
  rcases ins_ways h with ⟨rfl, h0⟩ | ⟨rfl, h0⟩ | ⟨rfl, h0⟩ | ⟨x, rfl, hx, h0⟩
  · rw [if_pos rfl, ByteArray.size_append]; show 1 + _ ≤ _; omega
  · rw [if_neg (by decide), if_pos rfl, ByteArray.size_append]; show 2 + _ ≤ _; omega
  · rw [if_neg (by decide), if_neg (by decide), if_pos rfl, ByteArray.size_append]; show 1 + _ ≤ _; omega
  · rw [if_neg (by omega), if_neg (by omega), if_neg (by omega)]
    have := text_few ((x : Int) + 4).toNat
    omega
theorem progTo_size {l : Instrs} (h : progB l = true) (hn : ∀ i, i < l.length → In64 (ins1 l i)) : ∀ k, k ≤ l.length → (progTo l k).size ≤ 23 * k
  | 0, _ => by show (0 : Nat) ≤ _; omega
  | k + 1, hk => by
    have h1 := progTo_size h hn k (by omega)
    have h2 := insTx_size (prog_ins h (show k < l.length by omega)) (hn k (by omega))
    show ((if 0 < k then progTo l k ++ ⟨#[32]⟩ else progTo l k) ++ txAt l k).size ≤ _
    rw [ByteArray.size_append]
    have h3 : (txAt l k).size ≤ 22 := h2
    split
    · rw [ByteArray.size_append]; show _ + 1 + _ ≤ _; omega
    · omega

end Go.Proofs.Ytjofbeokkainlaa
