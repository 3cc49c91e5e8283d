
/- Drawn programs and drawn texts of programs. Only new blocks are made. -/
import Derived.Test.YtjofbeokkainlaaDrawPg3
import Derived.Test.YtjofbeokkainlaaMg2
import Derived.Test.YtjofbeokkainlaaMg40
namespace Go.Proofs.Ytjofbeokkainlaa
open Go.ChangeShapes Go.WideShapes Go.ChangeAt Go.RowKit
set_option linter.unusedVariables false
set_option maxRecDepth 100000

theorem DrawnI.ins {w wr : World} {r : Nat} {a : Option Addr} {len cap n cp : Nat} {q : Option Addr} {W : Instrs} (h : DrawnI w wr r a len cap (.slice q n cp) n W) (hn : n ≤ 80) : InstrsAt wr q n W ∧ ∀ i, i < n → In64 (ins1 W i) :=
  ⟨own_inss h.own h.size (by unfold maxLen; omega) (fun i hi => by have := (fine_at h.fine (k := i) (by rw [h.size]; exact hi)).2; unfold maxLen; omega), fun i hi => (fine_at h.fine (by rw [h.size]; exact hi)).1⟩
/-- A drawn program. -/
def DrewProg (w : World) (e : Ending) (w' : World) : Prop := ∃ (q : Option Addr) (n cp : Nat) (W : Instrs), e = .returned (.slice q n cp) ∧ n ≤ 80 ∧ InstrsAt w' q n W ∧ (∀ i, i < n → In64 (ins1 W i)) ∧ Below w.heap.size w w'
theorem progTx_size {l : Instrs} (hn : ∀ i, i < l.length → In64 (ins1 l i)) : (progTx l).size ≤ 690 := by
  unfold progTx
  split
  · rename_i h
    have := progTo_size h hn _ (Nat.le_refl _)
    have := prog_few h
    omega
  · exact Nat.zero_le _
/-- A drawn text. -/
def DrewTx (m : Nat) (w : World) (e : Ending) (w' : World) : Prop := ∃ t : ByteArray, t.size ≤ m ∧ e = .returned (.string t) ∧ Below w.heap.size w w'
end Go.Proofs.Ytjofbeokkainlaa
