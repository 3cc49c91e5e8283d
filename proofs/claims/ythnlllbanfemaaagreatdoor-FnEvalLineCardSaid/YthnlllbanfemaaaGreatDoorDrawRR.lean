
/- A drawn text for ReadRun: at most 29401 bytes; only new blocks are made. -/
import Derived.Test.YthnlllbanfemaaaGreatDoorRunBytes
import Derived.Test.YthnlllbanfemaaaGreatDoorDrawR2
namespace Go.Proofs.YthnlllbanfemaaaGreatDoor
open Go.ChangeShapes Go.WideShapes Go.ChangeAt Go.RowKit
set_option linter.unusedVariables false
set_option maxRecDepth 100000

theorem runBytesB_size (l : Recs) : (runBytesB l).size ≤ 29400 := by
  unfold runBytesB
  cases h : runOkB l with
  | false => exact Nat.zero_le _
  | true =>
    obtain ⟨h6, hk⟩ := runOk_keys h
    have := sizeTo_le l hk l.length (Nat.le_refl _)
    rw [if_pos rfl, strOfNums_size, bytesTo_len]
    omega

end Go.Proofs.YthnlllbanfemaaaGreatDoor
