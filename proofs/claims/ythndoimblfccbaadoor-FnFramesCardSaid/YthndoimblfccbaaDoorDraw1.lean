
/- What is drawn for the laws on texts: a short text; a text and a number; and that a slice of bytes that came in is one that a reader may be opened over. Only new blocks are made. -/
import Derived.Test.YthndoimblfccbaaDoorRd2
import Derived.Deep.RegionWith
namespace Go.Proofs.YthndoimblfccbaaDoor
open Go.ChangeShapes Go.WideShapes Go.ChangeAt Go.RowKit
set_option linter.unusedVariables false
set_option maxRecDepth 100000

theorem src_of {w : World} {a : Option Addr} {len cap : Nat} {zs : List Int}
    (h : (a = none ∧ len = 0 ∧ cap = 0 ∧ zs = []) ∨ ∃ x, a = some x ∧ len ≤ cap ∧ cap ≤ maxLen ∧ zs.length = cap ∧ (∀ i, i < zs.length → w.cell? (x.add i) = some (.int .u8 (zs.getD i 0))) ∧ ∀ n ∈ zs, (Lit.int .u8 n).wf = true) : Src w a len := by
  rcases h with ⟨rfl, rfl, _, _⟩ | ⟨x, rfl, hl, hm, hz, hc, hw⟩
  · exact ⟨Nat.zero_le _, .inl rfl⟩
  · refine ⟨by omega, ?_⟩
    by_cases h0 : len = 0
    · exact .inl h0
    · obtain ⟨b, off, spot⟩ := x
      have hc0 := hc 0 (by omega)
      have hspot : spot = none := by simpa [Addr.add] using World.cell?_spot hc0
      subst hspot
      refine .inr ⟨b, off, rfl, ?_, fun i hi => ?_⟩
      · rcases Nat.lt_or_ge b w.heap.size with h' | h'
        · exact h'
        · simp [World.cell?, Addr.add, Array.getElem?_eq_none h'] at hc0
      · have h1 := hc i (by omega)
        have hmem : zs.getD i 0 ∈ zs := by
          rw [List.getD_eq_getElem?_getD, List.getElem?_eq_getElem (by omega)]
          exact List.getElem_mem _
        have hb := bounds_u8 (hw _ hmem)
        refine ⟨(zs.getD i 0).toNat, by omega, ?_⟩
        rw [Int.toNat_of_nonneg hb.1]
        by_cases hi0 : i = 0
        · subst hi0
          simpa [Addr.add] using h1
        · simpa [Addr.add, hi0] using h1

theorem Src.below {w w' : World} {a : Option Addr} {len : Nat} (h : Src w a len) (hb : Below w.heap.size w w') : Src w' a len := by
  refine ⟨h.1, ?_⟩
  rcases h.2 with h0 | ⟨b, off, ha, hlt, hc⟩
  · exact .inl h0
  · exact .inr ⟨b, off, ha, Nat.lt_of_lt_of_le hlt hb.size, fun i hi => by obtain ⟨z, hz, hcz⟩ := hc i hi; exact ⟨z, hz, (hb.cell (p := ⟨b, off + i, none⟩) hlt).trans hcz⟩⟩

theorem big_yes (a : Option Addr) (len cap : Nat) (w : World) (h : 1048576 < len) : Calls Tryd.prog 13 #[.slice a len cap] w fun e w' => e = .returned (.bool true) ∧ w = w' := by
  have hd : decide ((1048576 : Int) < (len : Int)) = true := by simp; omega
  go_enter Tryd.func13, Tryd.ntmps13
  go_wp2
  go_ret
  exact ⟨rfl, rfl⟩

theorem big_no (a : Option Addr) (len cap : Nat) (w : World) (h : ¬ 1048576 < len) : Calls Tryd.prog 13 #[.slice a len cap] w fun e w' => e = .returned (.bool false) ∧ w = w' := by
  have hd : decide ((1048576 : Int) < (len : Int)) = false := by simp; omega
  go_enter Tryd.func13, Tryd.ntmps13
  go_wp2
  go_ret
  exact ⟨rfl, rfl⟩

/-- What is drawn for PartOf. -/
def DrewPart (w : World) (e : Ending) (w' : World) : Prop := ∃ (s : ByteArray) (n : Int), s.size ≤ 5 ∧ (Lit.int .i64 n).wf = true ∧ e = .returned (.tuple #[.string s, .int .i64 n]) ∧ Below w.heap.size w w'

set_option maxHeartbeats 1000000 in
theorem hurt_any (s : ByteArray) (m : Nat) (w : World) (r : Nat) (a : Option Addr) (len cap : Nat) (h : Rdr w r a len cap) (hs : s.size ≤ m) (hm : m ≤ 1000000) :
    Calls Tryd.prog 24 #[.pointer (some ⟨r, 0, none⟩), .string s] w (RdStr (m + 1) w r a len cap) := by
  have H := Lib.hid h
  clear h
  go_enter Tryd.func24, Tryd.ntmps24
  go_wp2_with (first | (go_at_call 22; refine (below_any _ _ _ _ _ _ H.out (by omega) (by omega)).mono ?_; rintro e w1 ⟨⟨x, hx1, hx2, rfl⟩, hw⟩; have HW := Lib.hid hw; clear hw H))
  · refine (below_any _ _ _ _ _ _ HW.out.rdr (by omega) (by omega)).mono ?_
    rintro e w2 ⟨⟨y, hy1, hy2, rfl⟩, hw⟩
    have HW2 := Lib.hid (HW.out.trans hw)
    clear hw
    obtain ⟨k, rfl⟩ : ∃ k : Nat, y = k := ⟨y.toNat, by omega⟩
    have hk : k ≤ s.size := by omega
    clear hy1 hy2
    go_wp2
    go_ret
    refine ⟨⟨_, ?_, rfl⟩, HW2.out⟩
    rw [ByteArray.size_extract]; omega
  · refine (below_any _ _ _ _ _ _ HW.out.rdr (by omega) (by omega)).mono ?_
    rintro e w2 ⟨⟨y, hy1, hy2, rfl⟩, hw⟩
    have HW2 := Lib.hid (HW.out.trans hw)
    clear hw HW
    obtain ⟨k, rfl⟩ : ∃ k : Nat, y = k := ⟨y.toNat, by omega⟩
    have hk : k < s.size := by omega
    clear hy1 hy2
    have hx1 : (s.extract 0 k).size ≤ s.size := by rw [ByteArray.size_extract]; omega
    have hx2 : (s.extract (k + 1) s.size).size ≤ s.size := by rw [ByteArray.size_extract]; omega
    have hi0 : (0 : Int) ≤ (k : Int) := by omega
    have hi1 : (k : Int) ≤ (s.size : Int) := by omega
    have hi2 : k ≤ s.size := by omega
    have hj0 : (0 : Int) ≤ (k : Int) + 1 := by omega
    have hj1 : (k : Int) + 1 ≤ (s.size : Int) := by omega
    clear hi0 hi2
    go_wp2_with fail
    have hj2 : ((k : Int) + 1).toNat = k + 1 := by omega
    have hwr : IntKind.i64.wrap ((k : Int) + 1) = (k : Int) + 1 := IntWalk.i64_in _ (by omega)
    go_region_with (first | (go_at_call 22; (with_reducible refine (below_any _ _ _ _ _ _ (HW2.out.rdr.alloc _).drew (by decide) (by decide)).mono ?_); rintro e w3 ⟨⟨z, hz1, hz2, rfl⟩, hw⟩; obtain ⟨u, hu, hcu⟩ := tab_cell (m := 1) (hw.block (k := w2.heap.size) (heap_alloc_new _ _) (Nat.ne_of_gt HW2.out.rdr.lt)) (by decide) z hz1 (Int.lt_of_le_of_lt hz2 (by decide)); have HW3 := Lib.hid (((HW2.out.alloc _).drewN 1).trans hw); clear hw) | (go_at_call 22; (with_reducible refine (below_any _ _ _ _ _ _ HW2.out.rdr.drew (by decide) (by decide)).mono ?_); rintro e w3 ⟨⟨z, hz1, hz2, rfl⟩, hw⟩; obtain ⟨u, hu, hcu⟩ := tab_cell (m := 1) (heap_alloc_new w3 (.cells #[.string ⟨#[0]⟩, .string ⟨#[55]⟩, .string ⟨#[255]⟩, .string ⟨#[32]⟩] 9)) (by decide) z hz1 (Int.lt_of_le_of_lt hz2 (by decide)); have HW3 := Lib.hid ((HW2.out.drewN 1).trans hw); clear hw))
    all_goals (clear hwr hj2; go_wp2; go_ret; refine ⟨⟨_, ?_, rfl⟩, ?_⟩)
    all_goals first | exact HW3.out | exact HW3.out.alloc _ | (simp only [ByteArray.size_append, ByteArray.size_extract]; omega)
  · go_ret
    exact ⟨⟨s, by omega, rfl⟩, HW.out⟩
  · refine (below_any _ _ _ _ _ _ (HW.out.rdr.alloc _) (by omega) (by omega)).mono ?_
    rintro e w2 ⟨⟨y, hy1, hy2, rfl⟩, hw⟩
    obtain ⟨u, hu, hcu⟩ := tab_cell (m := 1) (hw.block (k := w1.heap.size) (heap_alloc_new _ _) (Nat.ne_of_gt HW.out.rdr.lt)) (by decide) y hy1 (by show y < 4; omega)
    have HW2 := Lib.hid ((HW.out.alloc _).trans hw)
    clear hw
    go_wp2
    go_ret
    refine ⟨⟨_, ?_, rfl⟩, HW2.out⟩
    rw [ByteArray.size_append]; omega
  · go_ret
    exact ⟨⟨s, by omega, rfl⟩, HW.out⟩
end Go.Proofs.YthndoimblfccbaaDoor
