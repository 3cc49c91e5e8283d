
/- Comparing slices of Cmd values that are the same. Only new blocks are made. -/
import Derived.Test.YtdjfihoempjjpaaDoorMg1
namespace Go.Proofs.YtdjfihoempjjpaaDoor
open Go.ChangeShapes Go.WideShapes Go.ChangeAt Go.RowKit
set_option linter.unusedVariables false
set_option maxRecDepth 100000

set_option maxHeartbeats 1000000 in
theorem eqcmd_same (x0 : Int) (x1 : ByteArray) (x2 : Int) (x3 : ByteArray) (w : World) : Calls Tryd.prog 64 #[.agg #[.int .i64 x0, .string x1, .int .i64 x2, .string x3], .agg #[.int .i64 x0, .string x1, .int .i64 x2, .string x3]] w (MadeBool true w) := by
  go_enter Tryd.func64, Tryd.ntmps64
  go_wp2
  go_ret
  exact ⟨rfl, below_alloc (below_alloc (Below.refl _ _) _) _⟩

set_option maxHeartbeats 2000000 in
theorem eqcmds_same (a1 a2 : Option Addr) (len cap1 cap2 : Nat) (l : Cmds) (w : World) (h1 : CmdsAt w a1 len l) (h2 : CmdsAt w a2 len l) :
    Calls Tryd.prog 27 #[.slice a1 len cap1, .slice a2 len cap2] w (MadeBool true w) := by
  have hm := h1.max
  unfold maxLen at hm
  have HR1 := Lib.hid h1
  have HR2 := Lib.hid h2
  clear h1 h2
  go_enter Tryd.func27, Tryd.ntmps27
  go_wp2
  go_loopw [5] (fun i wr => ∃ k : Nat, k ≤ len ∧ i = .int .i64 k ∧ Hid (Below w.heap.size w wr)) (fun i _ => len - (intOf i).toNat)
  case atStart => exact ⟨0, Nat.zero_le _, rfl, Below.refl _ _⟩
  case round =>
    obtain ⟨k, hk, rfl, HW⟩ := hrel
    by_cases hlt : k < len
    · rcases HR1.out.src with hz | ⟨b1, off1, rfl, hb1, hc1⟩
      · omega
      · rcases HR2.out.src with hz | ⟨b2, off2, rfl, hb2, hc2⟩
        · omega
        · have c0 := (HW.out.cell (p := ⟨b1, off1 + k * 4, none⟩) hb1).trans (hc1 k hlt).1
          have c1 := (HW.out.cell (p := ⟨b1, off1 + k * 4 + 1, none⟩) hb1).trans (hc1 k hlt).2.1
          have c2 := (HW.out.cell (p := ⟨b1, off1 + k * 4 + 2, none⟩) hb1).trans (hc1 k hlt).2.2.1
          have c3 := (HW.out.cell (p := ⟨b1, off1 + k * 4 + 3, none⟩) hb1).trans (hc1 k hlt).2.2.2
          have d0 := (HW.out.cell (p := ⟨b2, off2 + k * 4, none⟩) hb2).trans (hc2 k hlt).1
          have d1 := (HW.out.cell (p := ⟨b2, off2 + k * 4 + 1, none⟩) hb2).trans (hc2 k hlt).2.1
          have d2 := (HW.out.cell (p := ⟨b2, off2 + k * 4 + 2, none⟩) hb2).trans (hc2 k hlt).2.2.1
          have d3 := (HW.out.cell (p := ⟨b2, off2 + k * 4 + 3, none⟩) hb2).trans (hc2 k hlt).2.2.2
          have HB := Lib.hid HW.out.drew
          clear hc1 hc2 hb1 hb2
          go_wp2_with fail
          go_region_held3 (fun w' => Hid (Below w.heap.size w w') ∧ w'.cell? ⟨b1, off1 + k * 4, none⟩ = some (.int .i64 (cmd0 l k)) ∧ w'.cell? ⟨b1, off1 + k * 4 + 1, none⟩ = some (.string (cmd1 l k)) ∧ w'.cell? ⟨b1, off1 + k * 4 + 2, none⟩ = some (.int .i64 (cmd2 l k)) ∧ w'.cell? ⟨b1, off1 + k * 4 + 3, none⟩ = some (.string (cmd3 l k)) ∧ w'.cell? ⟨b2, off2 + k * 4, none⟩ = some (.int .i64 (cmd0 l k)) ∧ w'.cell? ⟨b2, off2 + k * 4 + 1, none⟩ = some (.string (cmd1 l k)) ∧ w'.cell? ⟨b2, off2 + k * 4 + 2, none⟩ = some (.int .i64 (cmd2 l k)) ∧ w'.cell? ⟨b2, off2 + k * 4 + 3, none⟩ = some (.string (cmd3 l k)))
            (first | exact ⟨HB, c0, c1, c2, c3, d0, d1, d2, d3⟩ | exact ⟨HB, e0, e1, e2, e3, f0, f1, f2, f3⟩)
            (first | (go_at_call 64; refine (eqcmd_same _ _ _ _ _).mono ?_; rintro e w2 ⟨rfl, hB⟩; have e0 := (hB.cell (p := ⟨b1, off1 + k * 4, none⟩) (World.block_lt_of_cell? _ _ c0)).trans c0; have e1 := (hB.cell (p := ⟨b1, off1 + k * 4 + 1, none⟩) (World.block_lt_of_cell? _ _ c1)).trans c1; have e2 := (hB.cell (p := ⟨b1, off1 + k * 4 + 2, none⟩) (World.block_lt_of_cell? _ _ c2)).trans c2; have e3 := (hB.cell (p := ⟨b1, off1 + k * 4 + 3, none⟩) (World.block_lt_of_cell? _ _ c3)).trans c3; have f0 := (hB.cell (p := ⟨b2, off2 + k * 4, none⟩) (World.block_lt_of_cell? _ _ d0)).trans d0; have f1 := (hB.cell (p := ⟨b2, off2 + k * 4 + 1, none⟩) (World.block_lt_of_cell? _ _ d1)).trans d1; have f2 := (hB.cell (p := ⟨b2, off2 + k * 4 + 2, none⟩) (World.block_lt_of_cell? _ _ d2)).trans d2; have f3 := (hB.cell (p := ⟨b2, off2 + k * 4 + 3, none⟩) (World.block_lt_of_cell? _ _ d3)).trans d3; have HB := Lib.hid (below_via HB.out hB); clear hB))
          go_wp2
          go_roundw
          case rel => exact ⟨k + 1, by omega, by go_num, HB⟩
          case measure => simp [intOf]; omega
    · go_wp2
      go_ret
      exact ⟨rfl, HW.out⟩
end Go.Proofs.YtdjfihoempjjpaaDoor
