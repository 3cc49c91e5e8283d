
/- The library's IsSorted over the program's records in order, and RunOk of the program: whether a list is a run. Only new blocks are made. -/
import Derived.Test.YthnlllbanfemaaaGreatDoorRuns4
namespace Go.Proofs.YthnlllbanfemaaaGreatDoor
open Go.ChangeShapes Go.WideShapes Go.ChangeAt Go.RowKit
set_option linter.unusedVariables false
set_option maxRecDepth 100000

theorem runOk_sorted {l : Recs} (h : recsOkB l = true) (hb : ∀ i, i < l.length → badAt l i = false) : runOkB l = true :=
  runOk_good (recsOk_parts h).1 (fun i hi => ⟨(recsOk_parts h).2 i hi, hb i hi⟩)

end Go.Proofs.YthnlllbanfemaaaGreatDoor
