
/- Records that may be read stay while another row grows. -/
import Derived.Test.YtjfbmjeekihdaaaDoorRuns
import Derived.Deep.AppendLies
namespace Go.Proofs.YtjfbmjeekihdaaaDoor
open Go.ChangeShapes Go.WideShapes Go.ChangeAt Go.RowKit
set_option linter.unusedVariables false
set_option maxRecDepth 100000

theorem recs_grown {w w1 : World} {a : Option Addr} {n : Nat} {l : Recs} {row : Option Nat} (h : RecsAt w a n l) (hg : w.grownBy w1 row) (hne : 0 < n → ∀ b off, a = some ⟨b, off, none⟩ → row ≠ some b) : RecsAt w1 a n l := by
  refine ⟨h.length, h.max, h.keys, ?_⟩
  rcases h.src with h0 | ⟨b, off, ha, hb, hc⟩
  · exact .inl h0
  · by_cases h0 : n = 0
    · exact .inl h0
    · have hn := hne (by omega) b off ha
      refine .inr ⟨b, off, ha, Nat.lt_of_lt_of_le hb hg.size, fun i hi => ?_⟩
      exact ⟨(hg.cell_far ⟨b, off + i * 2, none⟩ hb (Ne.symm hn)).trans (hc i hi).1, (hg.cell_far ⟨b, off + i * 2 + 1, none⟩ hb (Ne.symm hn)).trans (hc i hi).2⟩
end Go.Proofs.YtjfbmjeekihdaaaDoor
