
/- The library's breaking of patterns over such a row: the records of the range in some order. -/
import Derived.Test.YtjofbeokkainlaaDoorMg19
import Derived.Test.YtjofbeokkainlaaDoorShelf
import Derived.Sort.LotD1
namespace Go.Proofs.YtjofbeokkainlaaDoor
open Go.ChangeShapes Go.WideShapes Go.ChangeAt Go.RowKit Go.Lib
open Go.Sort hiding Below
set_option linter.unusedVariables false
set_option maxRecDepth 100000
variable {R : RA → World → Prop} {ra : Option Addr} {rl rc n B : Nat}

/-- The end of a step that leaves the records of a range in some order. -/
def Mixed (R : RA → World → Prop) (a b : Nat) (V : RA) (e : Ending) (w' : World) : Prop := e = .returned (.tuple #[]) ∧ ∃ V', R V' w' ∧ PermIn a b V V'

def Rnd (c : Nat) (w : World) : Prop := ∃ r : Nat, r < 18446744073709551616 ∧ w.cell? ⟨c, 0, none⟩ = some (.int .u64 r) ∧ w.frozen? ⟨c, 0, none⟩ = false
theorem Rnd.keep {c B : Nat} {w w' : World} (h : Rnd c w) (hB : B ≤ c) (k : KeepB B w w') : Rnd c w' := by
  obtain ⟨s, hs, hc, hf⟩ := h
  have hl : c < w.heap.size := World.block_lt_of_cell? _ _ hc
  exact ⟨s, hs, (k.2 c 0 hB hl).1.trans hc, (k.2 c 0 hB hl).2.trans hf⟩
def NextEnd (R : RA → World → Prop) (V : RA) (c : Nat) (e : Ending) (w' : World) : Prop := ∃ r : Nat, r < 18446744073709551616 ∧ e = .returned (.int .u64 r) ∧ R V w' ∧ Rnd c w'
end Go.Proofs.YtjofbeokkainlaaDoor
