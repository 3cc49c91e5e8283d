
/- That the laws' marks are still held in slices of Instr values. Only new blocks are made. -/
import Derived.Test.YtgijalecpeabjaaDoorInstrMark
namespace Go.Proofs.YtgijalecpeabjaaDoor
open Go.ChangeShapes Go.WideShapes Go.ChangeAt Go.RowKit
set_option linter.unusedVariables false
set_option maxRecDepth 100000

def HeldNumI (q : Nat) (w : World) (e : Ending) (w' : World) : Prop := e = .returned (.int .i64 (q : Int)) ∧ Below w.heap.size w w'
set_option maxHeartbeats 2000000 in
theorem heldinss_any (B len cap k0 : Nat) (E : TypeId) (cur : Array Value) (w : World) (h : Row w B E cur) (hm : MarkedInstr cur k0 len) (h1 : 1 ≤ k0) (h2 : k0 + 3 * len ≤ 1099511627776) :
    Calls Tryd.prog 21 #[.slice (some ⟨B, 0, none⟩) len cap, .int .i64 k0] w (HeldNumI (k0 + 3 * len) w) := by
  have HC := Lib.hid (show ∀ j, j < len → w.cell? ⟨B, j * 3, none⟩ = some (.int .i64 ((k0 + 3 * j + 0 : Nat) : Int)) ∧ w.cell? ⟨B, j * 3 + 1, none⟩ = some (.int .i64 ((k0 + 3 * j + 1 : Nat) : Int)) ∧ w.cell? ⟨B, j * 3 + 2, none⟩ = some (.string (mtext (k0 + 3 * j + 2))) by
    intro j hj
    obtain ⟨e0, e1, e2⟩ := hm j hj
    unfold Row at h
    simp [World.cell?, h, e0, e1, e2])
  have HLT := Lib.hid h.lt
  clear h hm
  go_enter Tryd.func21, Tryd.ntmps21
  go_wp2
  go_loopw [1, 5] (fun t i wr => ∃ k : Nat, k ≤ len ∧ i = .int .i64 k ∧ t = .int .i64 ((k0 + 3 * k : Nat) : Int) ∧ Hid (Below w.heap.size w wr)) (fun _ i _ => len - (intOf i).toNat)
  case atStart => exact ⟨0, Nat.zero_le _, rfl, rfl, Below.refl _ _⟩
  case round =>
    obtain ⟨k, hk, rfl, rfl, HW⟩ := hrel
    by_cases hlt : k < len
    · have c0 := (HW.out.cell (p := ⟨B, k * 3, none⟩) HLT.out).trans (HC.out k hlt).1
      have c1 := (HW.out.cell (p := ⟨B, k * 3 + 1, none⟩) HLT.out).trans (HC.out k hlt).2.1
      have c2 := (HW.out.cell (p := ⟨B, k * 3 + 2, none⟩) HLT.out).trans (HC.out k hlt).2.2
      obtain ⟨q, hq⟩ : ∃ q, k0 + 3 * k = q := ⟨_, rfl⟩
      rw [hq] at c0 c1 c2 ⊢
      have hq1 : 1 ≤ q := by omega
      have hq2 : q + 3 ≤ 1099511627776 := by omega
      have HQ := Lib.hid hq
      have HB := Lib.hid HW.out.drew
      have hi1 : (k : Int) < (len : Int) := by omega
      have hi0 : (0 : Int) ≤ (k : Int) := by omega
      replace c0 : wr.cell? ⟨B, k * 3, none⟩ = some (.int .i64 (q : Int)) := by rw [c0]; simp
      replace c1 : wr.cell? ⟨B, k * 3 + 1, none⟩ = some (.int .i64 ((q : Int) + 1)) := by rw [c1]; simp
      clear hq
      go_wp2_with fail
      clear c0 c1
      obtain ⟨T, hT⟩ : ∃ T : Int, (q : Int) + 1 + 1 = T := ⟨_, rfl⟩
      rw [hT]
      have hT0 : 0 ≤ T := by omega
      have hT1 : T ≤ 1099511627776 := by omega
      have HT := Lib.hid (show T = ((q + 2 : Nat) : Int) by rw [← hT]; simp; omega)
      have HT3 := Lib.hid (show T + 1 = ((q + 3 : Nat) : Int) by rw [← hT]; simp; omega)
      have HMK := Lib.hid (fun w => marktextI_any T (q + 2) w HT.out (by omega) (by omega))
      obtain ⟨M, hM⟩ : ∃ M, mtext (q + 2) = M := ⟨_, rfl⟩
      rw [hM] at c2 HMK
      clear hT hM
      go_region_held3 (fun w' => Hid (Below w.heap.size w w') ∧ w'.cell? ⟨B, k * 3 + 2, none⟩ = some (.string M))
        (first | exact ⟨HB, c2⟩ | exact ⟨HB, e2⟩)
        (first | (go_at_call 50; refine (HMK.out _).mono ?_; rintro e w2 ⟨rfl, hB⟩; have e2 := (hB.cell (p := ⟨B, k * 3 + 2, none⟩) (World.block_lt_of_cell? _ _ c2)).trans c2; have HB := Lib.hid (below_via HB.out hB); clear hB))
      go_wp2
      go_roundw
      case rel => exact ⟨k + 1, by omega, by go_num, by rw [HT3.out, ← HQ.out]; congr 2, HB⟩
      case measure => simp [intOf]; omega
    · obtain rfl : k = len := by omega
      go_wp2
      go_ret
      exact ⟨rfl, HW.out⟩

theorem heldinss_none (q : Option Addr) (cap k0 : Nat) (w : World) : Calls Tryd.prog 21 #[.slice q 0 cap, .int .i64 k0] w fun e w' => e = .returned (.int .i64 k0) ∧ w = w' := by
  go_enter Tryd.func21, Tryd.ntmps21
  go_wp2
  go_loop [1, 5] (fun t i => t = .int .i64 k0 ∧ i = .int .i64 0) (fun _ _ => 0)
  case atStart => exact ⟨rfl, rfl⟩
  case round =>
    obtain ⟨rfl, rfl⟩ := hrel
    go_wp2
    go_ret
    exact ⟨rfl, rfl⟩
end Go.Proofs.YtgijalecpeabjaaDoor
