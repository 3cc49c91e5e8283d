
/- The text of a claim: what the program and its model write. Only new blocks are made. -/
import Derived.Test.YtjfbmjeekihdaaaDoorDecs
import Derived.Test.YtjfbmjeekihdaaaDoorKeyOk
import Derived.Test.YtjfbmjeekihdaaaDoorRec
namespace Go.Proofs.YtjfbmjeekihdaaaDoor
open Go.ChangeShapes Go.WideShapes Go.ChangeAt Go.RowKit
set_option linter.unusedVariables false
set_option maxRecDepth 100000

def claimB (a e u : Int) : Bool := inB a 0 3 && (inB e 1 1000000 && inB u 0 1000000)
theorem claimB_iff {a e u : Int} : claimB a e u = true ↔ (0 ≤ a ∧ a ≤ 3) ∧ (1 ≤ e ∧ e ≤ 1000000) ∧ (0 ≤ u ∧ u ≤ 1000000) := by
  unfold claimB
  simp only [Bool.and_eq_true, inB_iff]

def cat3 (a b c : ByteArray) : ByteArray := (((a ++ ⟨#[32]⟩) ++ b) ++ ⟨#[32]⟩) ++ c
def claimTx (a e u : Int) : ByteArray := if claimB a e u then cat3 (decB a) (decB e) (decB u) else ByteArray.empty
theorem cat_run {P : Program} {w : World} (a b : ByteArray) (n : Nat) (ha : a.size ≤ n) (hb : b.size ≤ n) (hn : n ≤ 4611686018427387903 := by decide) : (Op.stringOp .add a b).run P w = .ok (.string (a ++ b)) w :=
  run_string_add_sum w a b (by omega)
theorem join3 (a e u : Int) : joinB ⟨#[32]⟩ [a, e, u] = cat3 (decB a) (decB e) (decB u) := by
  apply ba_eq
  simp [joinB, cat3, Lib.join, List.intercalate, decB]

theorem nums_new (w : World) (t : TypeId) (ns : List Int) (h : ∀ n ∈ ns, In64 n) : Nums (w.alloc (.cells (ns.map fun n => Value.int .i64 n).toArray t)) w.heap.size ns :=
  ⟨by simp, fun j hj => by
    have := heap_alloc_new w (.cells (ns.map fun n => Value.int .i64 n).toArray t)
    unfold World.cell?
    rw [this]
    simp [hj], h⟩

end Go.Proofs.YtjfbmjeekihdaaaDoor
