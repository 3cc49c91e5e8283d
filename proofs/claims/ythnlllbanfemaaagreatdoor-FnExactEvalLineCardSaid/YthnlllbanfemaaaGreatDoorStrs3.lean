
/- Slices of texts: the laws' measure and copy of them. Only new blocks are made. -/
import Derived.Test.YthnlllbanfemaaaGreatDoorMg5
import Derived.Test.YthnlllbanfemaaaGreatDoorMg4
namespace Go.Proofs.YthnlllbanfemaaaGreatDoor
open Go.ChangeShapes Go.WideShapes Go.ChangeAt Go.RowKit
set_option linter.unusedVariables false
set_option maxRecDepth 100000

/-- The bytes of the first k texts. -/
def sumTo (l : Strs) : Nat → Nat
  | 0 => 0
  | k + 1 => sumTo l k + (strAt l k).size

/-- The end of the laws' measure of texts: below 0 (too much), or what is left. -/
def SizedStrs (len : Nat) (l : Strs) (left : Int) (w : World) (e : Ending) (w' : World) : Prop :=
  ∃ x : Int, -1 ≤ x ∧ x ≤ 1048576 ∧ e = .returned (.int .i64 x) ∧ w = w' ∧ (0 ≤ x → x = left - len - sumTo l len)

set_option maxHeartbeats 1000000 in
theorem szstrs_any (a : Option Addr) (len cap : Nat) (l : Strs) (left : Int) (w : World) (h : StrsAt w a len l) (h0 : 0 ≤ left) (h1 : left ≤ 1048576) :
    Calls Tryz.prog 12 #[.slice a len cap, .int .i64 left] w (SizedStrs len l left w) := by
  have hm := h.max
  unfold maxLen at hm
  have HR := Lib.hid h
  clear h
  by_cases hl : left < len
  · have g : left - (len : Int) < 0 := by omega
    go_enter Tryz.func12, Tryz.ntmps12
    go_wp2
    go_ret
    exact ⟨-1, by omega, by omega, rfl, rfl, fun h => by omega⟩
  · have g : ¬ left - (len : Int) < 0 := by omega
    go_enter Tryz.func12, Tryz.ntmps12
    go_wp2
    go_loop [1, 5] (fun t i => ∃ k : Nat, k ≤ len ∧ i = .int .i64 k ∧ (∃ L : Int, 0 ≤ L ∧ L ≤ 1048576 ∧ t = .int .i64 L ∧ Hid (L = left - len - sumTo l k))) (fun _ i => len - (intOf i).toNat)
    case atStart => exact ⟨0, Nat.zero_le _, rfl, _, by omega, by omega, rfl, Lib.hid (by simp [sumTo])⟩
    case round =>
      obtain ⟨k, hk, rfl, L, hL0, hL1, rfl, HL⟩ := hrel
      by_cases hlt : k < len
      · rcases HR.out.src with hz | ⟨b, off, rfl, hb, hc⟩
        · omega
        · have c0 := hc k hlt
          have HS := Lib.hid (HR.out.sizes k hlt)
          obtain ⟨s, hs⟩ : ∃ s, strAt l k = s := ⟨_, rfl⟩
          rw [hs] at c0 HS
          have HSK := Lib.hid (show sumTo l (k + 1) = sumTo l k + s.size by rw [← hs]; rfl)
          have hsm : s.size ≤ 9223372036854775807 := HS.out
          clear hc hb hs
          by_cases hneg : L < s.size
          · have g2 : L - (s.size : Int) < 0 := by omega
            go_wp2
            go_ret
            exact ⟨-1, by omega, by omega, rfl, rfl, fun h => by omega⟩
          · have g2 : ¬ L - (s.size : Int) < 0 := by omega
            go_wp2
            go_round
            case rel => exact ⟨k + 1, by omega, by go_num, _, by omega, by omega, rfl, Lib.hid (by have h1 := HSK.out; have h2 := HL.out; omega)⟩
            case measure => simp [intOf]; omega
      · obtain rfl : k = len := by omega
        go_wp2
        go_ret
        exact ⟨L, by omega, by omega, rfl, rfl, fun _ => HL.out⟩

/-- The first k texts of l lie at the head of the row. -/
def LaidS (cur : Array Value) (l : Strs) (k : Nat) : Prop := ∀ j, j < k → cur[j]? = some (.string (strAt l j))
theorem LaidS.step {cur : Array Value} {l : Strs} {k len : Nat} (h : LaidS cur l k) (hs : cur.size = len) (hk : k < len) :
    LaidS (cur.setIfInBounds k (.string (strAt l k))) l (k + 1) := by
  intro j hj
  rcases Nat.lt_or_ge j k with hlt | hge
  · rw [Array.getElem?_setIfInBounds_ne (by omega)]; exact h j hlt
  · obtain rfl : j = k := by omega
    have h1 : j < cur.size := by omega
    simp [h1]
theorem StrsAt.ofRow {w : World} {B len : Nat} {E : TypeId} {cur : Array Value} {l : Strs} (h : Row w B E cur) (hl : l.length = len) (hm : len ≤ maxLen) (hk : ∀ i, i < len → (strAt l i).size ≤ maxLen) (hlaid : LaidS cur l len) : StrsAt w (some ⟨B, 0, none⟩) len l := by
  refine ⟨hl, hm, hk, .inr ⟨B, 0, rfl, h.lt, fun i hi => ?_⟩⟩
  have e1 := hlaid i hi
  unfold Row at h
  simp [World.cell?, h, e1]

/-- The end of the laws' copy of texts: a new slice of the same texts. -/
def MadeStrs (len : Nat) (l : Strs) (w : World) (e : Ending) (w' : World) : Prop :=
  e = .returned (.slice (some ⟨w.heap.size, 0, none⟩) len len) ∧ StrsAt w' (some ⟨w.heap.size, 0, none⟩) len l ∧ Below w.heap.size w w' ∧ ∃ cur, Row w' w.heap.size 9 cur ∧ cur.size = len

set_option maxHeartbeats 1000000 in
theorem tostrs_any (a : Option Addr) (len cap : Nat) (l : Strs) (w : World) (h : StrsAt w a len l) (hfew : len ≤ 1048576) :
    Calls Tryz.prog 15 #[.slice a len cap] w (MadeStrs len l w) := by
  obtain ⟨i0, hi, hz0, hz1, hz2⟩ := info_parts infoStr
  have HR := Lib.hid h
  clear h
  go_enter Tryz.func15, Tryz.ntmps15
  go_wp2_with (at_make; refine wpList_make_full _ rfl _ _ 23 rfl w.heap.size 9 i0 _ 1 Tryz.underlying23 hi hz0 hz1 .i64 .i64 _ _ len rfl rfl rfl rfl (by rw [hz2]; omega) (by unfold maxLen; omega) (Nat.le_refl _) ?_; intro w1 hown hgrow)
  obtain ⟨cur0, hrow0, hsz0⟩ : ∃ cur, Row w1 w.heap.size 9 cur ∧ cur.size = len := by
    rcases hown.2 with ⟨h, _⟩ | ⟨g, cp, cur, hv, _, hh, _, _, hs, _⟩
    · simp at h
    · simp only [Value.slice.injEq, Option.some.injEq, Addr.mk.injEq, true_and, and_true] at hv
      obtain ⟨rfl, rfl⟩ := hv
      exact ⟨cur, hh, by omega⟩
  have HB0 := Lib.hid ((Below.refl w.heap.size w).grown hgrow (Nat.le_refl _) (by simp))
  have HR0 := Lib.hid hrow0
  have HS0 := Lib.hid hsz0
  clear hown hgrow hrow0 hsz0
  go_loopw [4] (fun i wr => ∃ k : Nat, k ≤ len ∧ i = .int .i64 k ∧ Hid (Below w.heap.size w wr ∧ ∃ cur, Row wr w.heap.size 9 cur ∧ cur.size = len ∧ LaidS cur l k)) (fun i _ => len - (intOf i).toNat)
  case atStart => exact ⟨0, Nat.zero_le _, rfl, HB0.out, cur0, HR0.out, HS0.out, fun j hj => by omega⟩
  case round =>
    obtain ⟨k, hk, rfl, HW⟩ := hrel
    clear HB0 HR0 HS0
    by_cases hlt : k < len
    · rcases HR.out.src with hz | ⟨b, off, rfl, hb, hc⟩
      · omega
      · have c0 := (HW.out.1.cell (p := ⟨b, off + k, none⟩) hb).trans (hc k hlt)
        have hbne : b ≠ w.heap.size := Nat.ne_of_lt hb
        clear hc hb
        obtain ⟨hb0, cur, hr, hs, hla⟩ := HW.out
        have hA0 := hr.cell (j := k) (by omega)
        have hf0 := hr.free k
        have HB := Lib.hid hb0
        have HR2 := Lib.hid hr
        have HS := Lib.hid hs
        have HL := Lib.hid hla
        generalize cur[k] = x0 at hA0
        have hi0 : (0 : Int) ≤ (k : Int) := by omega
        have hi1 : (k : Int) < (len : Int) := by omega
        clear hr hs hla hb0 HW
        go_wp2_with fail
        go_roundw
        case rel => exact ⟨k + 1, by omega, by go_num, HB.out.setCell (Nat.le_refl _) _, _, HR2.out.set _ _, by simpa using HS.out, HL.out.step HS.out hlt⟩
        case measure => simp [intOf]; omega
    · go_wp2
      go_ret
      obtain ⟨hb0, cur, hr, hs, hla⟩ := HW.out
      obtain rfl : k = len := by omega
      exact ⟨rfl, StrsAt.ofRow hr HR.out.length HR.out.max HR.out.sizes hla, hb0, cur, hr, hs⟩
theorem strs_of_is {w : World} {a : Option Addr} {len cap : Nat} {ss : List ByteArray}
    (h : (a = none ∧ len = 0 ∧ cap = 0 ∧ ss = []) ∨ ∃ x, a = some x ∧ len ≤ cap ∧ cap ≤ maxLen ∧ ss.length = cap ∧ (∀ i, i < ss.length → w.cell? (x.add i) = some (.string (ss.getD i ByteArray.empty))) ∧ ∀ s ∈ ss, s.size ≤ maxLen) : StrsAt w a len (ss.take len) := by
  rcases h with ⟨rfl, rfl, _, rfl⟩ | ⟨x, rfl, hl, hm, hz, hc, hw⟩
  · exact ⟨rfl, Nat.zero_le _, fun i hi => by omega, .inl rfl⟩
  · have hget : ∀ i, i < len → strAt (ss.take len) i = ss.getD i ByteArray.empty := by
      intro i hi
      unfold strAt
      rw [List.getD_eq_getElem?_getD, List.getD_eq_getElem?_getD, List.getElem?_take_of_lt hi]
    refine ⟨by simp; omega, by omega, fun i hi => ?_, ?_⟩
    · rw [hget i hi, List.getD_eq_getElem?_getD, List.getElem?_eq_getElem (by omega)]
      exact hw _ (List.getElem_mem _)
    · by_cases h0 : len = 0
      · exact .inl h0
      · obtain ⟨b, off, spot⟩ := x
        have hc0 := hc 0 (by omega)
        have hspot : spot = none := by simpa [Addr.add] using World.cell?_spot hc0
        subst hspot
        refine .inr ⟨b, off, rfl, ?_, fun i hi => ?_⟩
        · have := World.block_lt_of_cell? _ _ hc0
          simpa [Addr.add] using this
        · have h1 := hc i (by omega)
          rw [hget i hi]
          by_cases hi0 : i = 0
          · subst hi0
            simpa [Addr.add] using h1
          · simpa [Addr.add, hi0] using h1
end Go.Proofs.YthnlllbanfemaaaGreatDoor
