
/- The laws' word on equal stores, on two stores that hold the same. -/
import Derived.Test.YtblpebdjbenphaaGreatDoorMg5
import Derived.BigQuiet
namespace Go.Proofs.YtblpebdjbenphaaGreatDoor
open Go.ChangeShapes Go.WideShapes Go.ChangeAt Go.RowKit
set_option linter.unusedVariables false
set_option maxRecDepth 100000

structure GB (w : World) (bx bz : Array Value) (wr : World) : Prop where
  below : Below w.heap.size w wr
  b1 : Row wr w.heap.size 27 bx
  b2 : Row wr (w.heap.size + 1) 27 bz
theorem GB.drewN {w wr : World} {bx bz : Array Value} (h : GB w bx bz wr) (n : Nat) : GB w bx bz (wr.drewN n) := ⟨below_drewN h.below n, h.b1, h.b2⟩

set_option maxHeartbeats 4000000 in
theorem samesto_same (a1 g1 a2 g2 : Option Addr) (la c1 c2 lg d1 d2 : Nat) (l : Objs) (m : Gones) (w : World) (h1 : StoAt w a1 la l g1 lg m) (h2 : StoAt w a2 la l g2 lg m) :
    Calls Tryz.prog 9 #[.agg #[.slice a1 la c1, .slice g1 lg d1], .agg #[.slice a2 la c2, .slice g2 lg d2]] w (MadeBool true w) := by
  have hm1 := h1.o.max
  have hm2 := h1.d.max
  unfold maxLen at hm1 hm2
  have H1 := Lib.hid h1
  have H2 := Lib.hid h2
  have HG := Lib.hid (show GB w #[.slice a1 la c1, .slice g1 lg d1] #[.slice a2 la c2, .slice g2 lg d2] ((w.alloc (.cells #[.slice a1 la c1, .slice g1 lg d1] 27)).alloc (.cells #[.slice a2 la c2, .slice g2 lg d2] 27)) from
    ⟨below_alloc (below_alloc (Below.refl _ _) _) _, (row_new _ _ _).al _, row_new1 _ _ _ _⟩)
  clear h1 h2
  go_enter Tryz.func9, Tryz.ntmps9
  go_wp2_with fail
  go_loopw [5] (fun i wr => ∃ k : Nat, k ≤ la ∧ i = .int .i64 k ∧ Hid (GB w #[.slice a1 la c1, .slice g1 lg d1] #[.slice a2 la c2, .slice g2 lg d2] wr)) (fun i _ => la - (intOf i).toNat)
  case atStart => exact ⟨0, Nat.zero_le _, rfl, HG.out⟩
  case round =>
    obtain ⟨k, hk, rfl, HW⟩ := hrel
    clear HG
    have x0 := HW.out.b1.cell (j := 0) (by simp)
    have y0 := HW.out.b2.cell (j := 0) (by simp)
    simp at x0 y0
    by_cases hlt : k < la
    · rcases H1.out.o.src with hz | ⟨b, off, rfl, hb, hc⟩
      · omega
      rcases H2.out.o.src with hz | ⟨b', off', rfl, hb', hc'⟩
      · omega
      have p0 := (HW.out.below.cell (p := ⟨b, off + k * 3, none⟩) hb).trans (hc k hlt).1
      have p1 := (HW.out.below.cell (p := ⟨b, off + k * 3 + 1, none⟩) hb).trans (hc k hlt).2.1
      have p2 := (HW.out.below.cell (p := ⟨b, off + k * 3 + 2, none⟩) hb).trans (hc k hlt).2.2
      have q0 := (HW.out.below.cell (p := ⟨b', off' + k * 3, none⟩) hb').trans (hc' k hlt).1
      have q1 := (HW.out.below.cell (p := ⟨b', off' + k * 3 + 1, none⟩) hb').trans (hc' k hlt).2.1
      have q2 := (HW.out.below.cell (p := ⟨b', off' + k * 3 + 2, none⟩) hb').trans (hc' k hlt).2.2
      have hi0 : (0 : Int) ≤ (k : Int) := by omega
      have hi1 : (k : Int) < (la : Int) := by omega
      clear hc hc' hb hb'
      go_wp2_with fail
      go_quiet (fail)
      clear p0 p1 p2 q0 q1 q2 x0 y0
      go_wp2
      go_roundw
      case rel => exact ⟨k + 1, by omega, by go_num, HW.out.drewN _⟩
      case measure => simp [intOf]; omega
    · obtain rfl : k = la := by omega
      go_wp2_with fail
      go_loopw [6] (fun i wr => ∃ j : Nat, j ≤ lg ∧ i = .int .i64 j ∧ Hid (GB w #[.slice a1 k c1, .slice g1 lg d1] #[.slice a2 k c2, .slice g2 lg d2] wr)) (fun i _ => lg - (intOf i).toNat)
      case atStart => exact ⟨0, Nat.zero_le _, rfl, HW.out⟩
      case round =>
        obtain ⟨j, hj, rfl, HW⟩ := hrel
        clear x0 y0
        have x1 := HW.out.b1.cell (j := 1) (by simp)
        have y1 := HW.out.b2.cell (j := 1) (by simp)
        simp at x1 y1
        by_cases hlt : j < lg
        · rcases H1.out.d.src with hz | ⟨b, off, rfl, hb, hc⟩
          · omega
          rcases H2.out.d.src with hz | ⟨b', off', rfl, hb', hc'⟩
          · omega
          have p0 := (HW.out.below.cell (p := ⟨b, off + j * 2, none⟩) hb).trans (hc j hlt).1
          have p1 := (HW.out.below.cell (p := ⟨b, off + j * 2 + 1, none⟩) hb).trans (hc j hlt).2
          have q0 := (HW.out.below.cell (p := ⟨b', off' + j * 2, none⟩) hb').trans (hc' j hlt).1
          have q1 := (HW.out.below.cell (p := ⟨b', off' + j * 2 + 1, none⟩) hb').trans (hc' j hlt).2
          have hi0 : (0 : Int) ≤ (j : Int) := by omega
          have hi1 : (j : Int) < (lg : Int) := by omega
          clear hc hc' hb hb'
          go_wp2_with fail
          go_quiet (fail)
          clear p0 p1 q0 q1 x1 y1
          go_wp2
          go_roundw
          case rel => exact ⟨j + 1, by omega, by go_num, HW.out.drewN _⟩
          case measure => simp [intOf]; omega
        · obtain rfl : j = lg := by omega
          go_wp2
          go_ret
          exact ⟨rfl, HW.out.below⟩
end Go.Proofs.YtblpebdjbenphaaGreatDoor
