
/- Comparing slices of records, and what RunOk computes in the program and in its model. Only new blocks are made. -/
import Derived.Test.YthnlllbanfemaaaGreatDoorMg11
namespace Go.Proofs.YthnlllbanfemaaaGreatDoor
open Go.ChangeShapes Go.WideShapes Go.ChangeAt Go.RowKit
set_option linter.unusedVariables false
set_option maxRecDepth 100000

theorem eqrec_same (s : ByteArray) (n : Int) (w : World) : Calls Tryz.prog 42 #[.agg #[.string s, .int .i64 n], .agg #[.string s, .int .i64 n]] w (MadeBool true w) := by
  go_enter Tryz.func42, Tryz.ntmps42
  go_wp2
  go_ret
  exact ⟨rfl, below_alloc (below_alloc (Below.refl _ _) _) _⟩

set_option maxHeartbeats 1000000 in
theorem eqrecs_same (a1 a2 : Option Addr) (len cap1 cap2 : Nat) (l : Recs) (w : World) (h1 : RecsAt w a1 len l) (h2 : RecsAt w a2 len l) :
    Calls Tryz.prog 17 #[.slice a1 len cap1, .slice a2 len cap2] w (MadeBool true w) := by
  have hm := h1.max
  unfold maxLen at hm
  have HR1 := Lib.hid h1
  have HR2 := Lib.hid h2
  clear h1 h2
  go_enter Tryz.func17, Tryz.ntmps17
  go_wp2
  go_loopw [5] (fun i wr => ∃ k : Nat, k ≤ len ∧ i = .int .i64 k ∧ Hid (Below w.heap.size w wr)) (fun i _ => len - (intOf i).toNat)
  case atStart => exact ⟨0, Nat.zero_le _, rfl, Below.refl _ _⟩
  case round =>
    obtain ⟨k, hk, rfl, HW⟩ := hrel
    by_cases hlt : k < len
    · rcases HR1.out.src with hz | ⟨b1, off1, rfl, hb1, hc1⟩
      · omega
      · rcases HR2.out.src with hz | ⟨b2, off2, rfl, hb2, hc2⟩
        · omega
        · have c0 := (HW.out.cell (p := ⟨b1, off1 + k * 2, none⟩) hb1).trans (hc1 k hlt).1
          have c1 := (HW.out.cell (p := ⟨b1, off1 + k * 2 + 1, none⟩) hb1).trans (hc1 k hlt).2
          have d0 := (HW.out.cell (p := ⟨b2, off2 + k * 2, none⟩) hb2).trans (hc2 k hlt).1
          have d1 := (HW.out.cell (p := ⟨b2, off2 + k * 2 + 1, none⟩) hb2).trans (hc2 k hlt).2
          have HB := Lib.hid HW.out.drew
          clear hc1 hc2 hb1 hb2
          go_wp2_with fail
          go_region_held3 (fun w' => Hid (Below w.heap.size w w') ∧ w'.cell? ⟨b1, off1 + k * 2, none⟩ = some (.string (keyAt l k)) ∧ w'.cell? ⟨b1, off1 + k * 2 + 1, none⟩ = some (.int .i64 (numAt l k)) ∧ w'.cell? ⟨b2, off2 + k * 2, none⟩ = some (.string (keyAt l k)) ∧ w'.cell? ⟨b2, off2 + k * 2 + 1, none⟩ = some (.int .i64 (numAt l k)))
            (first | exact ⟨HB, c0, c1, d0, d1⟩ | exact ⟨HB, e0, e1, f0, f1⟩)
            (first | (go_at_call 42; refine (eqrec_same _ _ _).mono ?_; rintro e w2 ⟨rfl, hB⟩; have e0 := (hB.cell (p := ⟨b1, off1 + k * 2, none⟩) (World.block_lt_of_cell? _ _ c0)).trans c0; have e1 := (hB.cell (p := ⟨b1, off1 + k * 2 + 1, none⟩) (World.block_lt_of_cell? _ _ c1)).trans c1; have f0 := (hB.cell (p := ⟨b2, off2 + k * 2, none⟩) (World.block_lt_of_cell? _ _ d0)).trans d0; have f1 := (hB.cell (p := ⟨b2, off2 + k * 2 + 1, none⟩) (World.block_lt_of_cell? _ _ d1)).trans d1; have HB := Lib.hid (below_via HB.out hB); clear hB))
          go_wp2
          go_roundw
          case rel => exact ⟨k + 1, by omega, by go_num, HB⟩
          case measure => simp [intOf]; omega
    · go_wp2
      go_ret
      exact ⟨rfl, HW.out⟩
end Go.Proofs.YthnlllbanfemaaaGreatDoor
