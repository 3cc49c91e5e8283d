
/- The laws' measure of slices of records, told how long the keys are. -/
import Derived.Test.YtjfbmjeekihdaaaDoorSSIn
import Derived.Test.YtjfbmjeekihdaaaDoorResM
namespace Go.Proofs.YtjfbmjeekihdaaaDoor
open Go.ChangeShapes Go.WideShapes Go.ChangeAt Go.RowKit
set_option linter.unusedVariables false
set_option maxRecDepth 100000

theorem sz1_key (x : Int) (s : ByteArray) : 0 ≤ sz1 x s → (s.size : Int) ≤ x := by
  unfold sz1; split <;> omega
def SizedK (left : Int) (len : Nat) (l : Recs) (w : World) (e : Ending) (w' : World) : Prop :=
  ∃ x : Int, -1 ≤ x ∧ x ≤ 1048576 ∧ e = .returned (.int .i64 x) ∧ Below w.heap.size w w' ∧ (0 ≤ x → x + len ≤ left ∧ ∀ i, i < len → (keyAt l i).size ≤ 1048576)
def SizedSK (len : Nat) (LS : List Recs) (w : World) (e : Ending) (w' : World) : Prop :=
  ∃ x : Int, -1 ≤ x ∧ x ≤ 1048576 ∧ e = .returned (.int .i64 x) ∧ Below w.heap.size w w' ∧ (0 ≤ x → len ≤ 1048576 ∧ LS.flatten.length ≤ 1048576 ∧ (∀ i, i < len → (LS.getD i []).length ≤ 1048576) ∧ ∀ i, i < len → ∀ j, j < (LS.getD i []).length → (keyAt (LS.getD i []) j).size ≤ 1048576)

set_option maxHeartbeats 1000000 in
theorem szrecsK_any (a : Option Addr) (len cap : Nat) (l : Recs) (left : Int) (w : World) (h : RecsAt w a len l) (h0 : 0 ≤ left) (h1 : left ≤ 1048576) :
    Calls Tryd.prog 58 #[.slice a len cap, .int .i64 left] w (SizedK left len l w) := by
  have hm := h.max
  unfold maxLen at hm
  have HR := Lib.hid h
  clear h
  by_cases hl : left < len
  · have g : left - (len : Int) < 0 := by omega
    go_enter Tryd.func58, Tryd.ntmps58
    go_wp2
    go_ret
    exact ⟨-1, by omega, by omega, rfl, Below.refl _ _, fun h => by omega⟩
  · have g : ¬ left - (len : Int) < 0 := by omega
    go_enter Tryd.func58, Tryd.ntmps58
    go_wp2
    go_loopw [1, 5] (fun t i wr => ∃ k : Nat, k ≤ len ∧ i = .int .i64 k ∧ (∃ L : Int, 0 ≤ L ∧ L + len ≤ left ∧ t = .int .i64 L) ∧ Hid (∀ i, i < k → (keyAt l i).size ≤ 1048576) ∧ Hid (Below w.heap.size w wr)) (fun _ i _ => len - (intOf i).toNat)
    case atStart => exact ⟨0, Nat.zero_le _, rfl, ⟨_, by omega, by omega, rfl⟩, Lib.hid (fun i hi => by omega), Below.refl _ _⟩
    case round =>
      obtain ⟨k, hk, rfl, ⟨L, hL0, hL1, rfl⟩, HKY, hw⟩ := hrel
      by_cases hlt : k < len
      · have HW := hw
        rcases (HR.out.keep hw.out).src with hz | ⟨b, off, rfl, hb, hc⟩
        · omega
        · obtain ⟨c0, c1⟩ := hc k hlt
          have HK := Lib.hid (HR.out.keys k hlt)
          have hLm : L ≤ 1048576 := by omega
          have hsz := sz1_bd L (keyAt l k) hL0 hLm
          have hle := sz1_le L (keyAt l k) hL0
          have hke := sz1_key L (keyAt l k)
          obtain ⟨x, hx⟩ : ∃ x, sz1 L (keyAt l k) = x := ⟨_, rfl⟩
          have HX := Lib.hid hx
          rw [hx] at hsz hle hke
          have HKE := Lib.hid hke
          have HZ := Lib.hid hle
          have hz1 := hsz.1
          have hz2 := hsz.2.1
          clear hx hsz hc hw hb hle hke
          by_cases hneg : x < 0
          · go_wp2_with (go_at_call 81; refine (szrec_any _ _ _ _ HK.out hL0 hLm).mono ?_; rw [HX.out]; rintro e w1 ⟨rfl, hB⟩; have HB := Lib.hid (below_via HW.out hB); clear hB)
            go_ret
            exact ⟨-1, by omega, by omega, rfl, HB.out, fun h => by omega⟩
          · have hxl := HZ.out (by omega)
            go_wp2_with (go_at_call 81; refine (szrec_any _ _ _ _ HK.out hL0 hLm).mono ?_; rw [HX.out]; rintro e w1 ⟨rfl, hB⟩; have HB := Lib.hid (below_via HW.out hB); clear hB)
            go_roundw
            case rel => exact ⟨k + 1, by omega, by go_num, ⟨x, by omega, by omega, rfl⟩, Lib.hid (fun i hi => by
              by_cases hik : i < k
              · exact HKY.out i hik
              · obtain rfl : i = k := by omega
                have := HKE.out (by omega)
                omega), HB.out⟩
            case measure => simp [intOf]; omega
      · go_wp2
        go_ret
        exact ⟨L, by omega, by omega, rfl, hw.out, fun _ => ⟨hL1, fun i hi => HKY.out i (by omega)⟩⟩

set_option maxHeartbeats 1000000 in
theorem szrecssK_any (a : Option Addr) (len cap : Nat) (LS : List Recs) (left : Int) (w : World) (h : RunLs w a len LS) (h0 : 0 ≤ left) (h1 : left ≤ 1048576) :
    Calls Tryd.prog 34 #[.slice a len cap, .int .i64 left] w (SizedSK len LS w) := by
  have hm := h.2.1
  unfold maxLen at hm
  have HR := Lib.hid h
  have HL := Lib.hid h.1
  clear h
  by_cases hl : left < len
  · have g : left - (len : Int) < 0 := by omega
    go_enter Tryd.func34, Tryd.ntmps34
    go_wp2
    go_ret
    exact ⟨-1, by omega, by omega, rfl, Below.refl _ _, fun h => by omega⟩
  · have g : ¬ left - (len : Int) < 0 := by omega
    go_enter Tryd.func34, Tryd.ntmps34
    go_wp2
    go_loopw [1, 5] (fun t i wr => ∃ k : Nat, k ≤ len ∧ i = .int .i64 k ∧ (∃ L : Int, 0 ≤ L ∧ L + (allTo LS k).length ≤ 1048576 ∧ t = .int .i64 L) ∧ Hid (∀ i, i < k → ∀ j, j < (LS.getD i []).length → (keyAt (LS.getD i []) j).size ≤ 1048576) ∧ Hid (Below w.heap.size w wr)) (fun _ i _ => len - (intOf i).toNat)
    case atStart => exact ⟨0, Nat.zero_le _, rfl, ⟨_, by omega, by simp [allTo]; omega, rfl⟩, Lib.hid (fun i hi => by omega), Below.refl _ _⟩
    case round =>
      obtain ⟨k, hk, rfl, ⟨L, hL0, hL1, rfl⟩, HKY, HW⟩ := hrel
      by_cases hlt : k < len
      · rcases HR.out.2.2 with hz | ⟨b, off, rfl, hb, hc⟩
        · omega
        · obtain ⟨q, n, c, hcell, hre⟩ := hc k hlt
          have c0 := (HW.out.cell (p := ⟨b, off + k, none⟩) hb).trans hcell
          have hstep := len_allTo (LS := LS) (k := k) (by rw [HL.out]; exact hlt)
          rw [hre.length] at hstep
          have HST := Lib.hid hstep
          have HRE := Lib.hid (hre.keep HW.out)
          have hLm : L ≤ 1048576 := by omega
          clear hc hcell hre hstep hb
          go_wp2_with fail
          refine (szrecsK_any _ _ _ _ _ _ HRE.out hL0 hLm).mono ?_
          rintro e w1 ⟨x, hx1, hx2, rfl, hB, hsz⟩
          have HB := Lib.hid (below_via HW.out hB)
          have HSZ := Lib.hid hsz
          clear hB hsz
          by_cases hneg : x < 0
          · go_wp2
            go_ret
            exact ⟨-1, by omega, by omega, rfl, HB.out, fun h => by omega⟩
          · have hxl := (HSZ.out (by omega)).1
            go_wp2
            go_roundw
            case rel => exact ⟨k + 1, by omega, by go_num, ⟨x, by omega, by rw [HST.out]; omega, rfl⟩, Lib.hid (fun i hi => by
              by_cases hik : i < k
              · exact HKY.out i hik
              · obtain rfl : i = k := by omega
                intro j hj
                exact (HSZ.out (by omega)).2 j (by rw [← HRE.out.length]; exact hj)), HB.out⟩
            case measure => simp [intOf]; omega
      · obtain rfl : k = len := by omega
        have hall : allTo LS k = LS.flatten := by unfold allTo; rw [← HL.out, List.take_length]
        have HF := Lib.hid (show LS.flatten.length ≤ 1048576 by rw [← hall]; omega)
        have hLm : L ≤ 1048576 := by omega
        clear hall
        go_wp2
        go_ret
        exact ⟨L, by omega, hLm, rfl, HW.out, fun _ => ⟨by omega, HF.out, fun i hi => Nat.le_trans (len_one (by rw [HL.out]; exact hi)) HF.out, fun i hi => HKY.out i hi⟩⟩
end Go.Proofs.YtjfbmjeekihdaaaDoor
