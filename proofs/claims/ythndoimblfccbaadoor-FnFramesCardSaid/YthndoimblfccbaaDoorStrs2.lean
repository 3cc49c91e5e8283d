
/- That marks are still held in a row of texts. Only new blocks are made. -/
import Derived.Test.YthndoimblfccbaaDoorStrs
namespace Go.Proofs.YthndoimblfccbaaDoor
open Go.ChangeShapes Go.WideShapes Go.ChangeAt Go.RowKit
set_option linter.unusedVariables false
set_option maxRecDepth 100000

def HeldNum (q : Nat) (w : World) (e : Ending) (w' : World) : Prop := e = .returned (.int .i64 (q : Int)) ∧ Below w.heap.size w w'

set_option maxHeartbeats 1000000 in
theorem heldstrs_any (B len cap k0 : Nat) (E : TypeId) (cur : Array Value) (w : World) (h : Row w B E cur) (hm : Marked cur k0 len) (h1 : 1 ≤ k0) (h2 : k0 + len ≤ 1099511627776) :
    Calls Tryd.prog 12 #[.slice (some ⟨B, 0, none⟩) len cap, .int .i64 k0] w (HeldNum (k0 + len) w) := by
  have HC := Lib.hid (show ∀ j, j < len → w.cell? ⟨B, j, none⟩ = some (.string (mtext (k0 + j))) by
    intro j hj
    have := hm j hj
    unfold Row at h
    simp [World.cell?, h, this])
  have HLT := Lib.hid h.lt
  clear h hm
  go_enter Tryd.func12, Tryd.ntmps12
  go_wp2
  go_loopw [1, 5] (fun t i wr => ∃ k : Nat, k ≤ len ∧ i = .int .i64 k ∧ t = .int .i64 ((k0 + k : Nat) : Int) ∧ Hid (Below w.heap.size w wr)) (fun _ i _ => len - (intOf i).toNat)
  case atStart => exact ⟨0, Nat.zero_le _, rfl, rfl, Below.refl _ _⟩
  case round =>
    obtain ⟨k, hk, rfl, rfl, HW⟩ := hrel
    by_cases hlt : k < len
    · have c0 := (HW.out.cell (p := ⟨B, k, none⟩) HLT.out).trans (HC.out k hlt)
      obtain ⟨q, hq⟩ : ∃ q, k0 + k = q := ⟨_, rfl⟩
      rw [hq] at c0 ⊢
      have hq1 : 1 ≤ q := by omega
      have hq2 : q < 1099511627776 := by omega
      have HQ := Lib.hid hq
      have HB := Lib.hid HW.out.drew
      have hi1 : (k : Int) < (len : Int) := by omega
      have hi0 : (0 : Int) ≤ (k : Int) := by omega
      clear hq
      go_wp2_with fail
      go_region_held3 (fun w' => Hid (Below w.heap.size w w') ∧ w'.cell? ⟨B, k, none⟩ = some (.string (mtext q)))
        (first | exact ⟨HB, c0⟩ | exact ⟨HB, e0⟩)
        (first | (go_at_call 20; refine (marktext_any q _ hq1 (by omega)).mono ?_; rintro e w2 ⟨rfl, hB⟩; have e0 := (hB.cell (p := ⟨B, k, none⟩) (World.block_lt_of_cell? _ _ c0)).trans c0; have HB := Lib.hid (below_via HB.out hB); clear hB))
      go_wp2
      go_roundw
      case rel => exact ⟨k + 1, by omega, by go_num, by have := HQ.out; go_num, HB⟩
      case measure => simp [intOf]; omega
    · obtain rfl : k = len := by omega
      go_wp2
      go_ret
      exact ⟨rfl, HW.out⟩
end Go.Proofs.YthndoimblfccbaaDoor
