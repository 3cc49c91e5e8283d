
/- Comparing slices of records that are the same. Nothing is written but the count of draws and new blocks. -/
import Derived.Test.YthnlllbanfemaaaGreatDoorRuns2
namespace Go.Proofs.YthnlllbanfemaaaGreatDoor
open Go.ChangeShapes Go.WideShapes Go.ChangeAt Go.RowKit
set_option linter.unusedVariables false
set_option maxRecDepth 100000

set_option maxHeartbeats 1000000 in
theorem samerun_same (a1 a2 : Option Addr) (len cap1 cap2 : Nat) (l : Recs) (w : World) (h1 : RecsAt w a1 len l) (h2 : RecsAt w a2 len l) :
    Calls Tryz.prog 28 #[.slice a1 len cap1, .slice a2 len cap2] w (MadeBool true w) := by
  have hm := h1.max
  unfold maxLen at hm
  have HR1 := Lib.hid h1
  have HR2 := Lib.hid h2
  clear h1 h2
  go_enter Tryz.func28, Tryz.ntmps28
  go_wp2
  go_loopw [5] (fun i wr => ∃ k : Nat, k ≤ len ∧ i = .int .i64 k ∧ Hid (Below w.heap.size w wr)) (fun i _ => len - (intOf i).toNat)
  case atStart => exact ⟨0, Nat.zero_le _, rfl, Below.refl _ _⟩
  case round =>
    obtain ⟨k, hk, rfl, HW⟩ := hrel
    by_cases hlt : k < len
    · rcases HR1.out.src with hz | ⟨b1, off1, rfl, hb1, hc1⟩
      · omega
      · rcases HR2.out.src with hz | ⟨b2, off2, rfl, hb2, hc2⟩
        · omega
        · have c0 := (HW.out.cell (p := ⟨b1, off1 + k * 2, none⟩) hb1).trans (hc1 k hlt).1
          have c1 := (HW.out.cell (p := ⟨b1, off1 + k * 2 + 1, none⟩) hb1).trans (hc1 k hlt).2
          have d0 := (HW.out.cell (p := ⟨b2, off2 + k * 2, none⟩) hb2).trans (hc2 k hlt).1
          have d1 := (HW.out.cell (p := ⟨b2, off2 + k * 2 + 1, none⟩) hb2).trans (hc2 k hlt).2
          have hi1 : (k : Int) < (len : Int) := by omega
          have hi0 : (0 : Int) ≤ (k : Int) := by omega
          clear hc1 hc2 hb1 hb2
          go_wp2_with fail
          go_quiet (fail)
          go_wp2
          go_roundw
          case rel => exact ⟨k + 1, by omega, by go_num, below_drewN HW.out _⟩
          case measure => simp [intOf]; omega
    · go_wp2
      go_ret
      exact ⟨rfl, HW.out⟩
end Go.Proofs.YthnlllbanfemaaaGreatDoor
