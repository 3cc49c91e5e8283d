/- Texts put together, as a claim holds at most sixty files. -/
import Derived.Test.YtjofbeokkainlaaGreatDoorMg0
import Derived.Deep.RegionWith
import Derived.Laws.BytesArg
import Derived.OwnWalk
namespace Go.Proofs.YtjofbeokkainlaaGreatDoor
open Go.ChangeShapes Go.WideShapes Go.ChangeAt Go.RowKit
set_option linter.unusedVariables false
set_option maxRecDepth 100000

theorem src_of {w : World} {a : Option Addr} {len cap : Nat} {zs : List Int}
    (h : (a = none ∧ len = 0 ∧ cap = 0 ∧ zs = []) ∨ ∃ x, a = some x ∧ len ≤ cap ∧ cap ≤ maxLen ∧ zs.length = cap ∧ (∀ i, i < zs.length → w.cell? (x.add i) = some (.int .u8 (zs.getD i 0))) ∧ ∀ n ∈ zs, (Lit.int .u8 n).wf = true) : Src w a len := by
  rcases h with ⟨rfl, rfl, _, _⟩ | ⟨x, rfl, hl, hm, hz, hc, hw⟩
  · exact ⟨Nat.zero_le _, .inl rfl⟩
  · refine ⟨by omega, ?_⟩
    by_cases h0 : len = 0
    · exact .inl h0
    · obtain ⟨b, off, spot⟩ := x
      have hc0 := hc 0 (by omega)
      have hspot : spot = none := by simpa [Addr.add] using World.cell?_spot hc0
      subst hspot
      refine .inr ⟨b, off, rfl, ?_, fun i hi => ?_⟩
      · rcases Nat.lt_or_ge b w.heap.size with h' | h'
        · exact h'
        · simp [World.cell?, Addr.add, Array.getElem?_eq_none h'] at hc0
      · have h1 := hc i (by omega)
        have hmem : zs.getD i 0 ∈ zs := by
          rw [List.getD_eq_getElem?_getD, List.getElem?_eq_getElem (by omega)]
          exact List.getElem_mem _
        have hb := bounds_u8 (hw _ hmem)
        refine ⟨(zs.getD i 0).toNat, by omega, ?_⟩
        rw [Int.toNat_of_nonneg hb.1]
        by_cases hi0 : i = 0
        · subst hi0
          simpa [Addr.add] using h1
        · simpa [Addr.add, hi0] using h1

theorem Src.below {w w' : World} {a : Option Addr} {len : Nat} (h : Src w a len) (hb : Below w.heap.size w w') : Src w' a len := by
  refine ⟨h.1, ?_⟩
  rcases h.2 with h0 | ⟨b, off, ha, hlt, hc⟩
  · exact .inl h0
  · exact .inr ⟨b, off, ha, Nat.lt_of_lt_of_le hlt hb.size, fun i hi => by obtain ⟨z, hz, hcz⟩ := hc i hi; exact ⟨z, hz, (hb.cell (p := ⟨b, off + i, none⟩) hlt).trans hcz⟩⟩

theorem big_yes (a : Option Addr) (len cap : Nat) (w : World) (h : 1048576 < len) : Calls Tryz.prog 4 #[.slice a len cap] w fun e w' => e = .returned (.bool true) ∧ w = w' := by
  have hd : decide ((1048576 : Int) < (len : Int)) = true := by simp; omega
  go_enter Tryz.func4, Tryz.ntmps4
  go_wp2
  go_ret
  exact ⟨rfl, rfl⟩

theorem big_no (a : Option Addr) (len cap : Nat) (w : World) (h : ¬ 1048576 < len) : Calls Tryz.prog 4 #[.slice a len cap] w fun e w' => e = .returned (.bool false) ∧ w = w' := by
  have hd : decide ((1048576 : Int) < (len : Int)) = false := by simp; omega
  go_enter Tryz.func4, Tryz.ntmps4
  go_wp2
  go_ret
  exact ⟨rfl, rfl⟩

/-- What is drawn for PartOf. -/
def DrewPart (w : World) (e : Ending) (w' : World) : Prop := ∃ (s : ByteArray) (n : Int), s.size ≤ 5 ∧ (Lit.int .i64 n).wf = true ∧ e = .returned (.tuple #[.string s, .int .i64 n]) ∧ Below w.heap.size w w'

end Go.Proofs.YtjofbeokkainlaaGreatDoor
namespace Go.Proofs.YtjofbeokkainlaaGreatDoor
open Go.ChangeShapes Go.WideShapes Go.ChangeAt Go.RowKit
set_option linter.unusedVariables false
set_option maxRecDepth 100000

theorem infoByte : (Tryz.prog.info? 5).map (fun i => (i.zero, i.size, i.bytes)) = some (some (.int .u8 0), 1, 1) := by kernel_rfl

theorem zeros_text {w : World} {base g n : Nat} (hown : w.ownsRow base 5 1 (.slice (some ⟨g, 0, none⟩) n n) n (madeCells (Value.int .u8 0).cells (n * 1)).toList) :
    (convert 22 9 (.slice (some ⟨g, 0, none⟩) n n)).run Tryz.prog w = .ok (.string (strOfNums (List.replicate n 0))) w :=
  run_convert_bytes_arg _ _ _ Tryz.underlying22 Tryz.underlying5 g 0 n n (List.replicate n 0) (by simp) (fun i hi => by
    have := hown.cellAt i (by omega)
    rw [Nat.zero_add, this]
    simp [madeCells, Value.cells, hi, Nat.mod_one]
    ) _ Tryz.underlying9

/-- What is drawn: a text of at most m bytes. -/
def DrewText (m : Nat) (w : World) (e : Ending) (w' : World) : Prop := ∃ s : ByteArray, s.size ≤ m ∧ e = .returned (.string s) ∧ Below w.heap.size w w'

set_option maxHeartbeats 2000000 in
theorem lineof_any (w : World) (r : Nat) (a : Option Addr) (len cap : Nat) (h : Rdr w r a len cap) :
    Calls Tryz.prog 76 #[.pointer (some ⟨r, 0, none⟩)] w (RdStr 400 w r a len cap) := by
  have HG := Lib.hid (Went.refl h)
  clear h
  go_enter Tryz.func76, Tryz.ntmps76
  go_wp2_with fail
  refine (below_any _ _ _ _ _ _ HG.out.rdr (by decide) (by decide)).mono ?_
  rintro e w1 ⟨⟨x, hx1, hx2, rfl⟩, hw⟩
  have HG := Lib.hid (HG.out.trans hw)
  clear hw
  go_wp2_with fail
  go_loopw [3, 4] (fun t i wr => ∃ (k : Nat) (s : ByteArray), i = .int .i64 k ∧ t = .string s ∧ s.size + 6 * k ≤ 30 ∧ Hid (Went w r a len cap wr)) (fun _ i _ => (intOf i).toNat)
  case atStart => exact ⟨x.toNat, ByteArray.empty, by rw [Int.toNat_of_nonneg hx1], rfl, by show 0 + 6 * x.toNat ≤ 30; omega, HG.out⟩
  case round =>
    obtain ⟨k, s, rfl, rfl, hs, HW⟩ := hrel
    clear HG
    by_cases hk : 0 < k
    · go_wp2_with fail
      refine (word1_any _ _ _ _ _ HW.out.rdr).mono ?_
      rintro e w2 ⟨⟨u, hu, rfl⟩, hw⟩
      have HW := Lib.hid (HW.out.trans hw)
      clear hw
      obtain ⟨m, rfl⟩ : ∃ m, k = m + 1 := ⟨k - 1, by omega⟩
      have hsu : (s ++ u).size ≤ s.size + u.size := by rw [ByteArray.size_append]; exact Nat.le_refl _
      go_wp2
      go_roundw
      case rel => exact ⟨m, _, by go_num, rfl, by rw [ByteArray.size_append, ByteArray.size_append]; show s.size + u.size + 1 + 6 * m ≤ 30; omega, HW.out⟩
      case measure => simp [intOf]
    · obtain rfl : k = 0 := by omega
      go_wp2_with fail
      refine (below_any _ _ _ _ _ _ HW.out.rdr (by decide) (by decide)).mono ?_
      rintro e w2 ⟨⟨y, hy1, hy2, rfl⟩, hw⟩
      have HW := Lib.hid (HW.out.trans hw)
      clear hw
      obtain ⟨i0, hi, hz0, hz1, hz2⟩ := info_parts infoByte
      go_wp2_with fail
      · refine (below_any _ _ _ _ _ _ HW.out.rdr (by decide) (by decide)).mono ?_
        rintro e w3 ⟨⟨z, hz3, hz4, rfl⟩, hw⟩
        have HW := Lib.hid (HW.out.trans hw)
        clear hw
        obtain ⟨n, hn⟩ : ∃ n : Nat, 30 + z = (n : Int) := ⟨(30 + z).toNat, by omega⟩
        have hn49 : n ≤ 49 := by omega
        go_wp2_with (at_make; go_loud (refine wpList_make_full _ rfl _ _ 22 rfl w3.heap.size 5 i0 _ 1 Tryz.underlying22 hi hz0 hz1 .i64 .i64 _ _ n rfl rfl rfl rfl (by rw [hz2]; omega) (by unfold maxLen; omega) (Nat.le_refl _) ?_); intro w4 hown hgrow; have hzt := zeros_text hown; have hzs : (strOfNums (List.replicate n 0)).size ≤ 49 := (by simp [strOfNums, ByteArray.size]; omega); have HW4 := Lib.hid (Went.mk (grown_trans HW.out.grown ⟨hgrow.os, hgrow.tape, hgrow.output, hgrow.size, fun k hk _ => hgrow.block k hk (by simp)⟩) (HW.out.rdr.below ⟨hgrow.os, hgrow.tape, hgrow.output, hgrow.size, fun k hk => hgrow.block k (by have := HW.out.rdr.lt; omega) (by simp)⟩) : Went w r a len cap w4); clear hown hgrow)
        go_ret
        exact ⟨⟨_, by rw [ByteArray.size_append]; omega, rfl⟩, HW4.out⟩
      · go_ret
        exact ⟨⟨_, by rw [ByteArray.size_append]; show 2 + s.size ≤ 400; omega, rfl⟩, HW.out⟩
      · go_loop [3, 5] (fun t i => ∃ (k : Nat) (u : ByteArray), k ≤ 24 ∧ i = .int .i64 k ∧ t = .string u ∧ u.size ≤ 30 + 2 * k) (fun _ i => 24 - (intOf i).toNat)
        case atStart => exact ⟨0, s, by omega, rfl, rfl, by omega⟩
        case round =>
          obtain ⟨k, u, hk, rfl, rfl, hu⟩ := hrel
          by_cases hlt : k < 24
          · go_wp2
            go_round
            case rel => exact ⟨k + 1, _, by omega, by go_num, rfl, by rw [ByteArray.size_append]; show u.size + 2 ≤ 30 + 2 * (k + 1); omega⟩
            case measure => simp [intOf]; omega
          · go_wp2
            go_ret
            exact ⟨⟨_, by omega, rfl⟩, HW.out⟩
      · go_ret
        exact ⟨⟨_, by omega, rfl⟩, HW.out⟩

end Go.Proofs.YtjofbeokkainlaaGreatDoor
namespace Go.Proofs.YtjofbeokkainlaaGreatDoor
open Go.ChangeShapes Go.WideShapes Go.ChangeAt Go.RowKit
set_option linter.unusedVariables false
set_option maxRecDepth 100000

theorem wf_wrap64 (y : Int) : (Lit.int .i64 (wrap64 y)).wf = true := WalkArith.wf_i64 (by unfold wrap64; omega)

set_option maxHeartbeats 1000000 in
theorem num_any (w : World) (r : Nat) (a : Option Addr) (len cap : Nat) (h : Rdr w r a len cap) :
    Calls Tryz.prog 102 #[.pointer (some ⟨r, 0, none⟩)] w (RdWf .i64 w r a len cap) := by
  have H := Lib.hid h
  clear h
  go_enter Tryz.func102, Tryz.ntmps102
  go_wp2_with fail
  refine (below_any _ _ _ _ _ _ H.out (by decide) (by decide)).mono ?_
  rintro e w1 ⟨⟨x, hx1, hx2, rfl⟩, hw⟩
  have HW := Lib.hid hw
  clear hw H
  go_wp2_with fail
  · refine (word_any _ _ _ _ _ HW.out.rdr).mono ?_
    rintro e w2 ⟨⟨y, hy, rfl⟩, hw⟩
    have HW := Lib.hid (HW.out.trans hw)
    have hyb := bounds_u64 hy
    clear hw hy
    go_wp2
    go_ret
    exact ⟨⟨_, wf_wrap64 y, rfl⟩, HW.out⟩
  · refine (below_any _ _ _ _ _ _ (HW.out.rdr.alloc _) (by decide) (by decide)).mono ?_
    rintro e w2 ⟨⟨y, hy1, hy2, rfl⟩, hw⟩
    obtain ⟨z, hz, hcz⟩ := int_cell (k := .i64) (hw.block (k := w1.heap.size) (heap_alloc_new _ _) (Nat.ne_of_gt HW.out.rdr.lt)) (by decide) y hy1 (by show y < 4; omega)
    have HZ := Lib.hid hz
    have HW := Lib.hid ((HW.out.alloc _).trans hw)
    clear hw hz
    go_wp2
    go_ret
    exact ⟨⟨_, HZ.out, rfl⟩, HW.out⟩
  · refine (below_any _ _ _ _ _ _ HW.out.rdr (by decide) (by decide)).mono ?_
    rintro e w2 ⟨⟨y, hy1, hy2, rfl⟩, hw⟩
    have HW := Lib.hid (HW.out.trans hw)
    clear hw
    go_wp2
    go_ret
    exact ⟨⟨_, WalkArith.wf_i64 (by omega), rfl⟩, HW.out⟩
end Go.Proofs.YtjofbeokkainlaaGreatDoor
