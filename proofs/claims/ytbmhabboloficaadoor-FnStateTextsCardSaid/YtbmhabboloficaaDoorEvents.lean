
/- Slices of Event values that may be read: the laws' copies and measures of them. Only new blocks are made. -/
import Derived.Test.YtbmhabboloficaaDoorRow
import Derived.OwnWalk
import Derived.WalkKit
import Derived.ProofKit
import Derived.OpenShut
import Derived.WalkLawsBesides
import Derived.Deep.QuietTactic
import Derived.BigQuiet
import Derived.Deep.RegionHeld3
import Derived.Lib.Hide
import Derived.Outline
import Derived.Test.YtbmhabboloficaaDoorRec
namespace Go.Proofs.YtbmhabboloficaaDoor
open Go.ChangeShapes Go.WideShapes Go.ChangeAt Go.RowKit
set_option linter.unusedVariables false
set_option maxRecDepth 100000

abbrev Events := List (Int × Int)
def ev0 (l : Events) (i : Nat) : Int := (l.getD i (0, 0)).1
def ev1 (l : Events) (i : Nat) : Int := (l.getD i (0, 0)).2

/-- The slice (a, len, cap) holds the values l. -/
structure EventsAt (w : World) (a : Option Addr) (len : Nat) (l : Events) : Prop where
  length : l.length = len
  max : len ≤ maxLen
  keys : ∀ i, i < len → True
  src : len = 0 ∨ ∃ b off, a = some ⟨b, off, none⟩ ∧ b < w.heap.size ∧ ∀ i, i < len → w.cell? ⟨b, off + i * 2, none⟩ = some (.int .i64 (ev0 l i)) ∧ w.cell? ⟨b, off + i * 2 + 1, none⟩ = some (.int .i64 (ev1 l i))

theorem EventsAt.keep {w w1 : World} {a : Option Addr} {len : Nat} {l : Events} (h : EventsAt w a len l) (hB : Below w.heap.size w w1) : EventsAt w1 a len l := by
  refine ⟨h.length, h.max, h.keys, ?_⟩
  rcases h.src with h0 | ⟨b, off, ha, hb, hc⟩
  · exact .inl h0
  · exact .inr ⟨b, off, ha, Nat.lt_of_lt_of_le hb hB.size, fun i hi => ⟨(hB.cell (p := ⟨b, off + i * 2, none⟩) hb).trans (hc i hi).1, (hB.cell (p := ⟨b, off + i * 2 + 1, none⟩) hb).trans (hc i hi).2⟩⟩

theorem EventsAt.put {w : World} {a : Option Addr} {len : Nat} {l : Events} (h : EventsAt w a len l) {X : Nat} (hne : ∀ b off, a = some ⟨b, off, none⟩ → b ≠ X) (j : Nat) (v : Value) : EventsAt (w.setCell ⟨X, j, none⟩ v) a len l := by
  refine ⟨h.length, h.max, h.keys, ?_⟩
  rcases h.src with h0 | ⟨b, off, ha, hb, hc⟩
  · exact .inl h0
  · have e : ∀ o, (w.setCell ⟨X, j, none⟩ v).cell? ⟨b, o, none⟩ = w.cell? ⟨b, o, none⟩ := fun o => by
      simp only [World.cell?, Below.heap_setCell w ⟨X, j, none⟩ v b (hne b off ha)]
    exact .inr ⟨b, off, ha, by simpa [World.setCell] using hb, fun i hi => by simpa only [e] using hc i hi⟩

def EventSized (len : Nat) (l : Events) (w : World) (e : Ending) (w' : World) : Prop :=
  ∃ x : Int, -1 ≤ x ∧ x ≤ 1048576 ∧ e = .returned (.int .i64 x) ∧ Below w.heap.size w w' ∧ (0 ≤ x → len ≤ 1048576 ∧ ∀ i, i < len → True)

set_option maxHeartbeats 1000000 in
theorem szevs_any (a : Option Addr) (len cap : Nat) (l : Events) (left : Int) (w : World) (h : EventsAt w a len l) (h0 : 0 ≤ left) (h1 : left ≤ 1048576) :
    Calls Tryd.prog 21 #[.slice a len cap, .int .i64 left] w (EventSized len l w) := by
  have hm := h.max
  unfold maxLen at hm
  have HR := Lib.hid h
  clear h
  by_cases hl : left < len
  · have g : left - (len : Int) < 0 := by omega
    go_enter Tryd.func21, Tryd.ntmps21
    go_wp2
    go_ret
    exact ⟨-1, by omega, by omega, rfl, Below.refl _ _, fun h => by omega⟩
  · have g : ¬ left - (len : Int) < 0 := by omega
    go_enter Tryd.func21, Tryd.ntmps21
    go_wp2
    go_ret
    exact ⟨left - (len : Int), by omega, by omega, rfl, Below.refl _ _, fun _ => ⟨by omega, fun _ _ => trivial⟩⟩

theorem infoEvent : (Tryd.prog.info? 25).map (fun i => (i.zero, i.size, i.bytes)) = some (some (.agg #[.int .i64 0, .int .i64 0]), 2, 16) := by kernel_rfl

def EventLaid (cur : Array Value) (l : Events) (k : Nat) : Prop := ∀ j, j < k → cur[j * 2]? = some (.int .i64 (ev0 l j)) ∧ cur[j * 2 + 1]? = some (.int .i64 (ev1 l j))
theorem EventLaid.step {cur : Array Value} {l : Events} {k len : Nat} (h : EventLaid cur l k) (hs : cur.size = len * 2) (hk : k < len) :
    EventLaid ((cur.setIfInBounds (k * 2) (.int .i64 (ev0 l k))).setIfInBounds (k * 2 + 1) (.int .i64 (ev1 l k))) l (k + 1) := by
  intro j hj
  rcases Nat.lt_or_ge j k with hlt | hge
  · obtain ⟨e0, e1⟩ := h j hlt
    refine ⟨?_, ?_⟩
    · rw [Array.getElem?_setIfInBounds_ne (by omega), Array.getElem?_setIfInBounds_ne (by omega)]; exact e0
    · rw [Array.getElem?_setIfInBounds_ne (by omega), Array.getElem?_setIfInBounds_ne (by omega)]; exact e1
  · obtain rfl : j = k := by omega
    refine ⟨?_, ?_⟩
    · rw [Array.getElem?_setIfInBounds_ne (by omega)]; rw [Array.getElem?_setIfInBounds_self_of_lt (by first | omega | (simp only [Array.size_setIfInBounds]; omega))]
    · rw [Array.getElem?_setIfInBounds_self_of_lt (by first | omega | (simp only [Array.size_setIfInBounds]; omega))]

theorem EventsAt.ofRow {w : World} {B len : Nat} {E : TypeId} {cur : Array Value} {l : Events} (h : Row w B E cur) (hl : l.length = len) (hm : len ≤ maxLen) (hk : ∀ i, i < len → True) (hlaid : EventLaid cur l len) : EventsAt w (some ⟨B, 0, none⟩) len l := by
  refine ⟨hl, hm, hk, .inr ⟨B, 0, rfl, h.lt, fun i hi => ?_⟩⟩
  obtain ⟨e0, e1⟩ := hlaid i hi
  unfold Row at h
  simp [World.cell?, h, e0, e1]

def MadeEvent (x0 : Int) (x1 : Int) (w : World) (e : Ending) (w' : World) : Prop := e = .returned (.agg #[.int .i64 x0, .int .i64 x1]) ∧ Below w.heap.size w w'

theorem toev_any (x0 : Int) (x1 : Int) (w : World) : Calls Tryd.prog 16 #[.agg #[.int .i64 x0, .int .i64 x1]] w (MadeEvent x0 x1 w) := by
  go_enter Tryd.func16, Tryd.ntmps16
  go_wp2
  exact bodyPost_ret (v := .agg #[.int .i64 x0, .int .i64 x1]) (by simp [results, Tryd.results16, go_sem]) rfl ⟨rfl, below_alloc (below_alloc (below_alloc (Below.refl _ _) _) _) _⟩

/-- The end of the laws' copy: a new slice of the same values. -/
def MadeEvents (len : Nat) (l : Events) (w : World) (e : Ending) (w' : World) : Prop :=
  e = .returned (.slice (some ⟨w.heap.size, 0, none⟩) len len) ∧ EventsAt w' (some ⟨w.heap.size, 0, none⟩) len l ∧ Below w.heap.size w w' ∧ ∃ cur, Row w' w.heap.size 25 cur ∧ cur.size = len * 2

set_option maxHeartbeats 2000000 in
theorem toevs_any (a : Option Addr) (len cap : Nat) (l : Events) (w : World) (h : EventsAt w a len l) (hfew : len ≤ 1048576) :
    Calls Tryd.prog 23 #[.slice a len cap] w (MadeEvents len l w) := by
  obtain ⟨i0, hi, hz0, hz1, hz2⟩ := info_parts infoEvent
  have HR := Lib.hid h
  clear h
  go_enter Tryd.func23, Tryd.ntmps23
  go_wp2_with (at_make; refine wpList_make_full _ rfl _ _ 35 rfl w.heap.size 25 i0 _ 2 Tryd.underlying35 hi hz0 hz1 .i64 .i64 _ _ len rfl rfl rfl rfl (by rw [hz2]; omega) (by unfold maxLen; omega) (Nat.le_refl _) ?_; intro w1 hown hgrow)
  obtain ⟨cur0, hrow0, hsz0⟩ : ∃ cur, Row w1 w.heap.size 25 cur ∧ cur.size = len * 2 := by
    rcases hown.2 with ⟨h, _⟩ | ⟨g, cp, cur, hv, _, hh, _, _, hs, _⟩
    · simp at h
    · simp only [Value.slice.injEq, Option.some.injEq, Addr.mk.injEq, true_and, and_true] at hv
      obtain ⟨rfl, rfl⟩ := hv
      exact ⟨cur, hh, hs⟩
  have HB0 := Lib.hid ((Below.refl w.heap.size w).grown hgrow (Nat.le_refl _) (by simp))
  have HR0 := Lib.hid hrow0
  have HS0 := Lib.hid hsz0
  clear hown hgrow hrow0 hsz0
  go_loopw [4] (fun i wr => ∃ k : Nat, k ≤ len ∧ i = .int .i64 k ∧ Hid (Below w.heap.size w wr ∧ ∃ cur, Row wr w.heap.size 25 cur ∧ cur.size = len * 2 ∧ EventLaid cur l k)) (fun i _ => len - (intOf i).toNat)
  case atStart => exact ⟨0, Nat.zero_le _, rfl, HB0.out, cur0, HR0.out, HS0.out, fun j hj => by omega⟩
  case round =>
    obtain ⟨k, hk, rfl, HW⟩ := hrel
    clear HB0 HR0 HS0
    by_cases hlt : k < len
    · rcases HR.out.src with hz | ⟨b, off, rfl, hb, hc⟩
      · omega
      · have c0 := (HW.out.1.cell (p := ⟨b, off + k * 2, none⟩) hb).trans (hc k hlt).1
        have c1 := (HW.out.1.cell (p := ⟨b, off + k * 2 + 1, none⟩) hb).trans (hc k hlt).2
        clear hc hb
        go_wp2_with fail
        refine (toev_any _ _ _).mono ?_
        rintro e w2 ⟨rfl, hB⟩
        obtain ⟨hb0, cur, hr, hs, hla⟩ := HW.out
        have hr2 := hr.keep hB
        have hA0 := hr2.cell (j := k * 2) (by omega)
        have hA1 := hr2.cell (j := k * 2 + 1) (by omega)
        have hf0 := hr2.free (k * 2)
        have hf1 := hr2.free (k * 2 + 1)
        have HB := Lib.hid (below_via hb0 hB)
        have HR2 := Lib.hid hr2
        have HS := Lib.hid hs
        have HL := Lib.hid hla
        generalize cur[k * 2] = x0 at hA0
        generalize cur[k * 2 + 1] = x1 at hA1
        clear hB hr hr2 hs hla hb0 HW
        go_wp2
        go_roundw
        case rel => exact ⟨k + 1, by omega, by go_num, (HB.out.setCell (Nat.le_refl _) _).setCell (Nat.le_refl _) _, _, (HR2.out.set _ _).set _ _, by simpa using HS.out, HL.out.step HS.out hlt⟩
        case measure => simp [intOf]; omega
    · go_wp2
      go_ret
      obtain ⟨hb0, cur, hr, hs, hla⟩ := HW.out
      obtain rfl : k = len := by omega
      exact ⟨rfl, EventsAt.ofRow hr HR.out.length HR.out.max HR.out.keys hla, hb0, cur, hr, hs⟩
end Go.Proofs.YtbmhabboloficaaDoor
