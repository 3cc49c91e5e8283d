
/- The exact law on KeysOf, walked: for every slice of records that may be read it returns true and only makes new blocks. -/
import Derived.Test.YtldjahemgkkpbaaKeys3
namespace Go.Proofs.Ytldjahemgkkpbaa
open Go.ChangeShapes Go.WideShapes Go.ChangeAt Go.RowKit
set_option linter.unusedVariables false
set_option maxRecDepth 100000

def MadeKs (W : Strs) (w : World) (e : Ending) (w' : World) : Prop := ∃ q cp, e = .returned (.slice q W.length cp) ∧ Ks w.heap.size w' q W ∧ Below w.heap.size w w'
theorem made_ks {W : Strs} {w : World} {e : Ending} {w' : World} (h : MadeKeys W w e w') : MadeKs W w e w' := by
  obtain ⟨v, he, hown, hb⟩ := h
  obtain ⟨q, cp, rfl⟩ := own_form hown
  exact ⟨q, cp, he, ks_of_own hown, hb⟩
theorem keys_ks (a : Option Addr) (len cap : Nat) (l : Recs) (w : World) (h : RecsAt w a len l) (hfew : len ≤ 1048576) : Calls Try.prog 13 #[.slice a len cap] w (MadeKs (keysB l) w) := (keys_any a len cap l w h hfew).mono fun _ _ h => made_ks h

end Go.Proofs.Ytldjahemgkkpbaa
