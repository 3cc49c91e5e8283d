
/- A drawn line: a text of at most 400 bytes; only the reader's position and new blocks change. -/
import Derived.Test.YtldjahemgkkpbaaDraw1
import Derived.Laws.BytesArg
import Derived.OwnWalk
namespace Go.Proofs.Ytldjahemgkkpbaa
open Go.ChangeShapes Go.WideShapes Go.ChangeAt Go.RowKit
set_option linter.unusedVariables false
set_option maxRecDepth 100000

theorem infoByte : (Try.prog.info? 5).map (fun i => (i.zero, i.size, i.bytes)) = some (some (.int .u8 0), 1, 1) := by kernel_rfl

theorem zeros_text {w : World} {base g n : Nat} (hown : w.ownsRow base 5 1 (.slice (some ⟨g, 0, none⟩) n n) n (madeCells (Value.int .u8 0).cells (n * 1)).toList) :
    (convert 22 9 (.slice (some ⟨g, 0, none⟩) n n)).run Try.prog w = .ok (.string (strOfNums (List.replicate n 0))) w :=
  run_convert_bytes_arg _ _ _ Try.underlying22 Try.underlying5 g 0 n n (List.replicate n 0) (by simp) (fun i hi => by
    have := hown.cellAt i (by omega)
    rw [Nat.zero_add, this]
    simp [madeCells, Value.cells, hi, Nat.mod_one]
    ) _ Try.underlying9

/-- What is drawn: a text of at most m bytes. -/
def DrewText (m : Nat) (w : World) (e : Ending) (w' : World) : Prop := ∃ s : ByteArray, s.size ≤ m ∧ e = .returned (.string s) ∧ Below w.heap.size w w'

end Go.Proofs.Ytldjahemgkkpbaa
