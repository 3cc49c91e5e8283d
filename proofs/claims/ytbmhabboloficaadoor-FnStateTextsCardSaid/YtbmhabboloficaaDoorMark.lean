
/- The text of a mark of a task: what the program and its model write. Only new blocks are made. -/
import Derived.Test.YtbmhabboloficaaDoorClaim
namespace Go.Proofs.YtbmhabboloficaaDoor
open Go.ChangeShapes Go.WideShapes Go.ChangeAt Go.RowKit
set_option linter.unusedVariables false
set_option maxRecDepth 100000

def markB (e k : Int) : Bool := inB e 1 1000000 && inB k 0 3
theorem markB_iff {e k : Int} : markB e k = true ↔ (1 ≤ e ∧ e ≤ 1000000) ∧ (0 ≤ k ∧ k ≤ 3) := by
  unfold markB
  simp only [Bool.and_eq_true, inB_iff]
def okTx : ByteArray := ⟨#[111, 107, 32]⟩
def failTx : ByteArray := ⟨#[102, 97, 105, 108, 101, 100, 32]⟩
def markTx (ok : Bool) (e k : Int) : ByteArray := if markB e k then (if ok then okTx else failTx) ++ decB e ++ ⟨#[32]⟩ ++ decB k else ByteArray.empty

theorem app_le {a b : ByteArray} {m n : Nat} (ha : a.size ≤ m) (hb : b.size ≤ n) : (a ++ b).size ≤ m + n := by rw [ByteArray.size_append]; omega
theorem join2 (e k : Int) : joinB ⟨#[32]⟩ [e, k] = decB e ++ ⟨#[32]⟩ ++ decB k := by
  apply ba_eq
  simp [joinB, Lib.join, List.intercalate, decB]
theorem join2_size {e k : Int} (ze : (decB e).size ≤ 20) (zk : (decB k).size ≤ 20) : (joinB ⟨#[32]⟩ [e, k]).size ≤ 41 := by
  rw [join2, ByteArray.size_append, ByteArray.size_append]
  show (decB e).size + 1 + (decB k).size ≤ 41
  omega
theorem mark_ok {e k : Int} (h : markB e k = true) : (⟨#[111, 107]⟩ ++ ⟨#[32]⟩ ++ joinB ⟨#[32]⟩ [e, k] : ByteArray) = markTx true e k := by
  unfold markTx
  rw [if_pos h, if_pos rfl, join2]
  apply ba_eq
  simp [okTx]
theorem mark_fail {e k : Int} (h : markB e k = true) : (⟨#[102, 97, 105, 108, 101, 100]⟩ ++ ⟨#[32]⟩ ++ joinB ⟨#[32]⟩ [e, k] : ByteArray) = markTx false e k := by
  unfold markTx
  rw [if_pos h, if_neg (by simp), join2]
  apply ba_eq
  simp [failTx]

end Go.Proofs.YtbmhabboloficaaDoor
