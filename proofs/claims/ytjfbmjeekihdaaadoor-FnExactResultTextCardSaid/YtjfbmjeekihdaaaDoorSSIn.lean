
/- A slice of slices of the laws' records that came in: what it reads as, its measure, its copy. -/
import Derived.Test.YtjfbmjeekihdaaaDoorRecsIn
import Derived.Test.YtjfbmjeekihdaaaDoorMergeA
namespace Go.Proofs.YtjfbmjeekihdaaaDoor
open Go.ChangeShapes Go.WideShapes Go.ChangeAt Go.RowKit Go.Deep
set_option linter.unusedVariables false
set_option maxRecDepth 100000

/-- The slice (a, len) holds slices of records. -/
def RunLs (w : World) (a : Option Addr) (len : Nat) (LS : List Recs) : Prop :=
  LS.length = len ∧ len ≤ maxLen ∧ (len = 0 ∨ ∃ b off, a = some ⟨b, off, none⟩ ∧ b < w.heap.size ∧ ∀ i, i < len → ∃ q n c, w.cell? ⟨b, off + i, none⟩ = some (.slice q n c) ∧ RecsAt w q n (LS.getD i []))
theorem RunLs.keep {w w1 : World} {a : Option Addr} {len : Nat} {LS : List Recs} (h : RunLs w a len LS) (hB : Below w.heap.size w w1) : RunLs w1 a len LS := by
  refine ⟨h.1, h.2.1, ?_⟩
  rcases h.2.2 with h0 | ⟨b, off, ha, hb, hc⟩
  · exact .inl h0
  · refine .inr ⟨b, off, ha, Nat.lt_of_lt_of_le hb hB.size, fun i hi => ?_⟩
    obtain ⟨q, n, c, h1, h2⟩ := hc i hi
    exact ⟨q, n, c, (hB.cell (p := ⟨b, off + i, none⟩) hb).trans h1, h2.keep hB⟩

theorem cellsRecS : Tryd.prog.cellsOf 100 = 1 := by kernel_rfl

theorem recss_of_trod {H : Type} {enc : TypeId × Value → H} {w : World} {base : Nat} {spare : Nat → Bool} {held : Bool} {fuel : Nat} {a : Option Addr} {len cap : Nat} {x : DataW H × List MemPlace}
    (h : DataW.trod enc Tryd.prog w base spare held fuel 28 [.slice a len cap] = some x) : ∃ LS, RunLs w a len LS := by
  rcases open_slice Tryd.underlying28 h with ⟨hcs, _⟩ | ⟨ad, len', cap', m, n, D, Pl, hcs, _, hl, hm, hmm, _, hx⟩
  · simp at hcs
    obtain ⟨rfl, rfl, rfl⟩ := hcs
    exact ⟨[], rfl, Nat.zero_le _, .inl rfl⟩
  · simp at hcs
    obtain ⟨rfl, rfl, rfl⟩ := hcs
    by_cases h0 : len = 0
    · subst h0
      exact ⟨[], rfl, Nat.zero_le _, .inl rfl⟩
    · have hlm : len ≤ m := by rw [hmm]; split <;> omega
      rw [cellsRecS] at hx
      have hall : ∀ i, i < len → ∃ r : (Option Addr × Nat × Nat) × Recs, w.cell? (ad.add i) = some (.slice r.1.1 r.1.2.1 r.1.2.2) ∧ RecsAt w r.1.1 r.1.2.1 r.2 := by
        intro i hi
        obtain ⟨cs', h1, h2⟩ := hx i (by omega)
        obtain ⟨_, hsz, hc⟩ := World.cells?_some h1
        obtain ⟨q, k, c, rfl⟩ : ∃ q k c, cs' = [.slice q k c] := by
          rcases open_slice Tryd.underlying100 h2 with ⟨hcs, _⟩ | ⟨ad', l', c', _, _, _, _, hcs, _⟩
          · exact ⟨_, _, _, hcs⟩
          · exact ⟨_, _, _, hcs⟩
        obtain ⟨l, hr⟩ := recs_of_trod h2
        exact ⟨((q, k, c), l), by have := hc 0 (by omega); simpa [Addr.add] using this, hr⟩
      obtain ⟨R, hR⟩ := choose_lt hall
      obtain ⟨b, off, spot⟩ := ad
      have hspot : spot = none := by
        have := World.cell?_spot (hR 0 (by omega)).1
        simpa [Addr.add] using this
      subst hspot
      have hget : ∀ i, i < len → ((List.range len).map fun i => (R i).2).getD i [] = (R i).2 := by
        intro i hi
        rw [List.getD_eq_getElem?_getD, List.getElem?_map, List.getElem?_range hi]; rfl
      refine ⟨(List.range len).map fun i => (R i).2, by simp, by omega, .inr ⟨b, off, rfl, ?_, fun i hi => ?_⟩⟩
      · have := World.block_lt_of_cell? _ _ (hR 0 (by omega)).1
        simpa [Addr.add] using this
      · obtain ⟨h1, h2⟩ := hR i hi
        rw [add_plain] at h1
        exact ⟨_, _, _, h1, by rw [hget i hi]; exact h2⟩

/-- The end of the laws' measure of records, told how much they take. -/
def SizedB (left : Int) (len : Nat) (w : World) (e : Ending) (w' : World) : Prop :=
  ∃ x : Int, -1 ≤ x ∧ x ≤ 1048576 ∧ e = .returned (.int .i64 x) ∧ Below w.heap.size w w' ∧ (0 ≤ x → x + len ≤ left)
theorem sz1_le (x : Int) (s : ByteArray) (h0 : 0 ≤ x) : 0 ≤ sz1 x s → sz1 x s ≤ x := by
  unfold sz1; split <;> omega

set_option maxHeartbeats 1000000 in
theorem szrecsB_any (a : Option Addr) (len cap : Nat) (l : Recs) (left : Int) (w : World) (h : RecsAt w a len l) (h0 : 0 ≤ left) (h1 : left ≤ 1048576) :
    Calls Tryd.prog 58 #[.slice a len cap, .int .i64 left] w (SizedB left len w) := by
  have hm := h.max
  unfold maxLen at hm
  have HR := Lib.hid h
  clear h
  by_cases hl : left < len
  · have g : left - (len : Int) < 0 := by omega
    go_enter Tryd.func58, Tryd.ntmps58
    go_wp2
    go_ret
    exact ⟨-1, by omega, by omega, rfl, Below.refl _ _, fun h => by omega⟩
  · have g : ¬ left - (len : Int) < 0 := by omega
    go_enter Tryd.func58, Tryd.ntmps58
    go_wp2
    go_loopw [1, 5] (fun t i wr => ∃ k : Nat, k ≤ len ∧ i = .int .i64 k ∧ (∃ L : Int, 0 ≤ L ∧ L + len ≤ left ∧ t = .int .i64 L) ∧ Hid (Below w.heap.size w wr)) (fun _ i _ => len - (intOf i).toNat)
    case atStart => exact ⟨0, Nat.zero_le _, rfl, ⟨_, by omega, by omega, rfl⟩, Below.refl _ _⟩
    case round =>
      obtain ⟨k, hk, rfl, ⟨L, hL0, hL1, rfl⟩, hw⟩ := hrel
      by_cases hlt : k < len
      · have HW := hw
        rcases (HR.out.keep hw.out).src with hz | ⟨b, off, rfl, hb, hc⟩
        · omega
        · obtain ⟨c0, c1⟩ := hc k hlt
          have HK := Lib.hid (HR.out.keys k hlt)
          have hLm : L ≤ 1048576 := by omega
          have hsz := sz1_bd L (keyAt l k) hL0 hLm
          have hle := sz1_le L (keyAt l k) hL0
          obtain ⟨x, hx⟩ : ∃ x, sz1 L (keyAt l k) = x := ⟨_, rfl⟩
          have HX := Lib.hid hx
          rw [hx] at hsz hle
          have HZ := Lib.hid hle
          have hz1 := hsz.1
          have hz2 := hsz.2.1
          clear hx hsz hc hw hb hle
          by_cases hneg : x < 0
          · go_wp2_with (go_at_call 81; refine (szrec_any _ _ _ _ HK.out hL0 hLm).mono ?_; rw [HX.out]; rintro e w1 ⟨rfl, hB⟩; have HB := Lib.hid (below_via HW.out hB); clear hB)
            go_ret
            exact ⟨-1, by omega, by omega, rfl, HB.out, fun h => by omega⟩
          · have hxl := HZ.out (by omega)
            go_wp2_with (go_at_call 81; refine (szrec_any _ _ _ _ HK.out hL0 hLm).mono ?_; rw [HX.out]; rintro e w1 ⟨rfl, hB⟩; have HB := Lib.hid (below_via HW.out hB); clear hB)
            go_roundw
            case rel => exact ⟨k + 1, by omega, by go_num, ⟨x, by omega, by omega, rfl⟩, HB.out⟩
            case measure => simp [intOf]; omega
      · go_wp2
        go_ret
        exact ⟨L, by omega, by omega, rfl, hw.out, fun _ => hL1⟩

/-- The end of the laws' measure of slices of records. -/
def SizedSS (len : Nat) (LS : List Recs) (w : World) (e : Ending) (w' : World) : Prop :=
  ∃ x : Int, -1 ≤ x ∧ x ≤ 1048576 ∧ e = .returned (.int .i64 x) ∧ Below w.heap.size w w' ∧ (0 ≤ x → len ≤ 1048576 ∧ LS.flatten.length ≤ 1048576 ∧ ∀ i, i < len → (LS.getD i []).length ≤ 1048576)
theorem len_allTo {LS : List Recs} {k : Nat} (h : k < LS.length) : (allTo LS (k + 1)).length = (allTo LS k).length + (LS.getD k []).length := by
  rw [allTo_step LS k h, List.length_append]
theorem len_one {LS : List Recs} {i : Nat} (h : i < LS.length) : (LS.getD i []).length ≤ LS.flatten.length := by
  have h1 := len_allTo h
  have h2 := allTo_le LS (i + 1)
  omega

set_option maxHeartbeats 1000000 in
theorem szrecss_any (a : Option Addr) (len cap : Nat) (LS : List Recs) (left : Int) (w : World) (h : RunLs w a len LS) (h0 : 0 ≤ left) (h1 : left ≤ 1048576) :
    Calls Tryd.prog 34 #[.slice a len cap, .int .i64 left] w (SizedSS len LS w) := by
  have hm := h.2.1
  unfold maxLen at hm
  have HR := Lib.hid h
  have HL := Lib.hid h.1
  clear h
  by_cases hl : left < len
  · have g : left - (len : Int) < 0 := by omega
    go_enter Tryd.func34, Tryd.ntmps34
    go_wp2
    go_ret
    exact ⟨-1, by omega, by omega, rfl, Below.refl _ _, fun h => by omega⟩
  · have g : ¬ left - (len : Int) < 0 := by omega
    go_enter Tryd.func34, Tryd.ntmps34
    go_wp2
    go_loopw [1, 5] (fun t i wr => ∃ k : Nat, k ≤ len ∧ i = .int .i64 k ∧ (∃ L : Int, 0 ≤ L ∧ L + (allTo LS k).length ≤ 1048576 ∧ t = .int .i64 L) ∧ Hid (Below w.heap.size w wr)) (fun _ i _ => len - (intOf i).toNat)
    case atStart => exact ⟨0, Nat.zero_le _, rfl, ⟨_, by omega, by simp [allTo]; omega, rfl⟩, Below.refl _ _⟩
    case round =>
      obtain ⟨k, hk, rfl, ⟨L, hL0, hL1, rfl⟩, HW⟩ := hrel
      by_cases hlt : k < len
      · rcases HR.out.2.2 with hz | ⟨b, off, rfl, hb, hc⟩
        · omega
        · obtain ⟨q, n, c, hcell, hre⟩ := hc k hlt
          have c0 := (HW.out.cell (p := ⟨b, off + k, none⟩) hb).trans hcell
          have hstep := len_allTo (LS := LS) (k := k) (by rw [HL.out]; exact hlt)
          rw [hre.length] at hstep
          have HST := Lib.hid hstep
          have HRE := Lib.hid (hre.keep HW.out)
          have hLm : L ≤ 1048576 := by omega
          clear hc hcell hre hstep hb
          go_wp2_with fail
          refine (szrecsB_any _ _ _ _ _ _ HRE.out hL0 hLm).mono ?_
          rintro e w1 ⟨x, hx1, hx2, rfl, hB, hsz⟩
          have HB := Lib.hid (below_via HW.out hB)
          have HSZ := Lib.hid hsz
          clear hB hsz
          by_cases hneg : x < 0
          · go_wp2
            go_ret
            exact ⟨-1, by omega, by omega, rfl, HB.out, fun h => by omega⟩
          · have hxl := HSZ.out (by omega)
            go_wp2
            go_roundw
            case rel => exact ⟨k + 1, by omega, by go_num, ⟨x, by omega, by rw [HST.out]; omega, rfl⟩, HB.out⟩
            case measure => simp [intOf]; omega
      · obtain rfl : k = len := by omega
        have hall : allTo LS k = LS.flatten := by unfold allTo; rw [← HL.out, List.take_length]
        have HF := Lib.hid (show LS.flatten.length ≤ 1048576 by rw [← hall]; omega)
        have hLm : L ≤ 1048576 := by omega
        clear hall
        go_wp2
        go_ret
        exact ⟨L, by omega, hLm, rfl, HW.out, fun _ => ⟨by omega, HF.out, fun i hi => Nat.le_trans (len_one (by rw [HL.out]; exact hi)) HF.out⟩⟩
end Go.Proofs.YtjfbmjeekihdaaaDoor
