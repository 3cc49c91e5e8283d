/- Texts put together, as a claim holds at most sixty files. -/
import Derived.Test.YtdphganbnlmgcaaGreatDoorMg0
import Derived.Lib.Strings
import Derived.OwnWalk
import Derived.WalkKit
import Derived.ProofKit
import Derived.OpenShut
import Derived.WalkLawsBesides
import Derived.Deep.QuietTactic
import Derived.BigQuiet
import Derived.Deep.RegionHeld3
import Derived.Lib.Hide
import Derived.Outline
namespace Go.Proofs.YtdphganbnlmgcaaGreatDoor
open Go.ChangeShapes Go.WideShapes Go.ChangeAt Go.RowKit
set_option linter.unusedVariables false
set_option maxRecDepth 100000

def pbB (c : Nat) : Bool := decide (33 ≤ c ∧ c ≤ 126)
def pushB (s : ByteArray) : Bool := decide (s.size ≤ 20) && s.data.toList.all fun c => pbB c.toNat
theorem push_all {s : ByteArray} (h : ∀ k, (hk : k < s.size) → pbB s[k].toNat = true) : pushB s = decide (s.size ≤ 20) := by
  unfold pushB
  rw [List.all_eq_true.2, Bool.and_true]
  intro c hc
  obtain ⟨k, hk, rfl⟩ := List.getElem_of_mem hc
  exact h k (by simpa using hk)
theorem push_bad {s : ByteArray} {k : Nat} (hk : k < s.size) (h : pbB s[k].toNat = false) : pushB s = false := by
  unfold pushB
  rw [Bool.and_eq_false_iff]
  right
  rw [List.all_eq_false]
  exact ⟨s[k], by rw [← get_list s k hk]; exact List.getElem_mem _, by rw [h]; simp⟩
theorem push_long {s : ByteArray} (h : ¬ s.size ≤ 20) : pushB s = false := by
  unfold pushB
  rw [decide_eq_false h]; rfl
theorem push_none : pushB ByteArray.empty = true := by decide

set_option maxHeartbeats 1000000 in
theorem pushedok_any (s : ByteArray) (w : World) (hs : s.size ≤ maxLen) : Calls Tryz.prog 80 #[.string s] w (SameBool (pushB s) w) := by
  unfold maxLen at hs
  by_cases h20 : (20 : Int) < (s.size : Int)
  · have HK := Lib.hid (push_long (s := s) (by omega))
    go_enter Tryz.func80, Tryz.ntmps80
    go_wp2
    go_ret
    exact ⟨ret_bool HK.out.symm, rfl⟩
  · go_enter Tryz.func80, Tryz.ntmps80
    go_wp2
    go_loop [3] (fun i => ∃ k : Nat, k ≤ s.size ∧ i = .int .i64 k ∧ Hid (∀ j, (hj : j < s.size) → j < k → pbB s[j].toNat = true)) (fun i => s.size - (intOf i).toNat)
    case atStart => exact ⟨0, Nat.zero_le _, rfl, Lib.hid fun j _ h => by omega⟩
    case round =>
      obtain ⟨k, hk, rfl, HW⟩ := hrel
      by_cases hlt : k < s.size
      · by_cases h33 : (s[k].toNat : Int) < 33
        · have HK := Lib.hid (push_bad hlt (by unfold pbB; exact decide_eq_false (by omega)))
          go_wp2
          go_ret
          exact ⟨ret_bool HK.out.symm, rfl⟩
        · by_cases h126 : (126 : Int) < (s[k].toNat : Int)
          · have HK := Lib.hid (push_bad hlt (by unfold pbB; exact decide_eq_false (by omega)))
            go_wp2
            go_ret
            exact ⟨ret_bool HK.out.symm, rfl⟩
          · have HQ := Lib.hid (show pbB s[k].toNat = true by unfold pbB; exact decide_eq_true (by omega))
            go_wp2
            go_round
            case rel => exact ⟨k + 1, by omega, by go_num, Lib.hid fun j hj h => by
              rcases Nat.lt_or_ge j k with h | h
              · exact HW.out j hj h
              · obtain rfl : j = k := by omega
                exact HQ.out⟩
            case measure => simp [intOf]; omega
      · have HK := Lib.hid (show pushB s = true by rw [push_all (fun j hj => HW.out j hj (by omega))]; exact decide_eq_true (by omega))
        go_wp2
        go_ret
        exact ⟨ret_bool HK.out.symm, rfl⟩

/-- Which instructions are valid. -/
def instrB (op n : Int) (s : ByteArray) : Bool :=
  if op = 1 then decide (0 ≤ n ∧ n ≤ 19) && decide (s.size = 0)
  else if op = 2 then decide (n = 0) && pushB s
  else if op = 3 then decide (s.size = 0)
  else decide (4 ≤ op ∧ op ≤ 14) && (decide (n = 0) && decide (s.size = 0))
end Go.Proofs.YtdphganbnlmgcaaGreatDoor
namespace Go.Proofs.YtdphganbnlmgcaaGreatDoor
open Go.ChangeShapes Go.WideShapes Go.ChangeAt Go.RowKit
set_option linter.unusedVariables false
set_option maxRecDepth 100000

abbrev Instrs := List (Int × Int × ByteArray)
def ins0 (l : Instrs) (i : Nat) : Int := (l.getD i (0, 0, ByteArray.empty)).1
def ins1 (l : Instrs) (i : Nat) : Int := (l.getD i (0, 0, ByteArray.empty)).2.1
def ins2 (l : Instrs) (i : Nat) : ByteArray := (l.getD i (0, 0, ByteArray.empty)).2.2

/-- The slice (a, len, cap) holds the values l. -/
structure InstrsAt (w : World) (a : Option Addr) (len : Nat) (l : Instrs) : Prop where
  length : l.length = len
  max : len ≤ maxLen
  keys : ∀ i, i < len → (ins2 l i).size ≤ maxLen
  src : len = 0 ∨ ∃ b off, a = some ⟨b, off, none⟩ ∧ b < w.heap.size ∧ ∀ i, i < len → w.cell? ⟨b, off + i * 3, none⟩ = some (.int .i64 (ins0 l i)) ∧ w.cell? ⟨b, off + i * 3 + 1, none⟩ = some (.int .i64 (ins1 l i)) ∧ w.cell? ⟨b, off + i * 3 + 2, none⟩ = some (.string (ins2 l i))

theorem InstrsAt.keep {w w1 : World} {a : Option Addr} {len : Nat} {l : Instrs} (h : InstrsAt w a len l) (hB : Below w.heap.size w w1) : InstrsAt w1 a len l := by
  refine ⟨h.length, h.max, h.keys, ?_⟩
  rcases h.src with h0 | ⟨b, off, ha, hb, hc⟩
  · exact .inl h0
  · exact .inr ⟨b, off, ha, Nat.lt_of_lt_of_le hb hB.size, fun i hi => ⟨(hB.cell (p := ⟨b, off + i * 3, none⟩) hb).trans (hc i hi).1, (hB.cell (p := ⟨b, off + i * 3 + 1, none⟩) hb).trans (hc i hi).2.1, (hB.cell (p := ⟨b, off + i * 3 + 2, none⟩) hb).trans (hc i hi).2.2⟩⟩

theorem InstrsAt.put {w : World} {a : Option Addr} {len : Nat} {l : Instrs} (h : InstrsAt w a len l) {X : Nat} (hne : ∀ b off, a = some ⟨b, off, none⟩ → b ≠ X) (j : Nat) (v : Value) : InstrsAt (w.setCell ⟨X, j, none⟩ v) a len l := by
  refine ⟨h.length, h.max, h.keys, ?_⟩
  rcases h.src with h0 | ⟨b, off, ha, hb, hc⟩
  · exact .inl h0
  · have e : ∀ o, (w.setCell ⟨X, j, none⟩ v).cell? ⟨b, o, none⟩ = w.cell? ⟨b, o, none⟩ := fun o => by
      simp only [World.cell?, Below.heap_setCell w ⟨X, j, none⟩ v b (hne b off ha)]
    exact .inr ⟨b, off, ha, by simpa [World.setCell] using hb, fun i hi => by simpa only [e] using hc i hi⟩

def InstrSized1 (left : Int) (x2 : ByteArray) (w : World) (e : Ending) (w' : World) : Prop :=
  ∃ x : Int, -1 ≤ x ∧ x ≤ left ∧ e = .returned (.int .i64 x) ∧ Below w.heap.size w w' ∧ (0 ≤ x → x2.size ≤ 1048576)

set_option maxHeartbeats 1000000 in
theorem szins_any (x0 : Int) (x1 : Int) (x2 : ByteArray) (left : Int) (w : World) (hs2 : x2.size ≤ maxLen) (h0 : 0 ≤ left) (h1 : left ≤ 1048576) : Calls Tryz.prog 33 #[.agg #[.int .i64 x0, .int .i64 x1, .string x2], .int .i64 left] w (InstrSized1 left x2 w) := by
  unfold maxLen at hs2
  by_cases g0 : left < x2.size
  · have q0 : left - x2.size < 0 := by omega
    go_enter Tryz.func33, Tryz.ntmps33
    go_wp2
    go_ret
    exact ⟨-1, by omega, by omega, rfl, below_alloc (Below.refl _ _) _, fun h => by omega⟩
  · have q0 : ¬ left - x2.size < 0 := by omega
    go_enter Tryz.func33, Tryz.ntmps33
    go_wp2
    go_ret
    exact ⟨_, by omega, by omega, rfl, below_alloc (Below.refl _ _) _, fun h => by omega⟩

def InstrSized (len : Nat) (l : Instrs) (w : World) (e : Ending) (w' : World) : Prop :=
  ∃ x : Int, -1 ≤ x ∧ x ≤ 1048576 ∧ e = .returned (.int .i64 x) ∧ Below w.heap.size w w' ∧ (0 ≤ x → len ≤ 1048576 ∧ ∀ i, i < len → (ins2 l i).size ≤ 1048576)

set_option maxHeartbeats 1000000 in
theorem szinss_any (a : Option Addr) (len cap : Nat) (l : Instrs) (left : Int) (w : World) (h : InstrsAt w a len l) (h0 : 0 ≤ left) (h1 : left ≤ 1048576) :
    Calls Tryz.prog 13 #[.slice a len cap, .int .i64 left] w (InstrSized len l w) := by
  have hm := h.max
  unfold maxLen at hm
  have HR := Lib.hid h
  clear h
  by_cases hl : left < len
  · have g : left - (len : Int) < 0 := by omega
    go_enter Tryz.func13, Tryz.ntmps13
    go_wp2
    go_ret
    exact ⟨-1, by omega, by omega, rfl, Below.refl _ _, fun h => by omega⟩
  · have g : ¬ left - (len : Int) < 0 := by omega
    go_enter Tryz.func13, Tryz.ntmps13
    go_wp2
    go_loopw [1, 5] (fun t i wr => ∃ k : Nat, k ≤ len ∧ i = .int .i64 k ∧ (∃ L : Int, 0 ≤ L ∧ L ≤ 1048576 ∧ t = .int .i64 L) ∧ Hid (Below w.heap.size w wr ∧ ∀ j, j < k → (ins2 l j).size ≤ 1048576)) (fun _ i _ => len - (intOf i).toNat)
    case atStart => exact ⟨0, Nat.zero_le _, rfl, ⟨_, by omega, by omega, rfl⟩, Below.refl _ _, fun j hj => by omega⟩
    case round =>
      obtain ⟨k, hk, rfl, ⟨L, hL0, hL1, rfl⟩, HW⟩ := hrel
      by_cases hlt : k < len
      · rcases (HR.out.keep HW.out.1).src with hz | ⟨b, off, rfl, hb, hc⟩
        · omega
        · obtain ⟨c0, c1, c2⟩ := hc k hlt
          have HK := Lib.hid (HR.out.keys k hlt)
          clear hc hb
          go_wp2_with fail
          refine (szins_any _ _ _ _ _ HK.out hL0 hL1).mono ?_
          rintro e w1 ⟨x, hx0, hx1, rfl, hB, hfx⟩
          have HB := Lib.hid (below_via HW.out.1 hB)
          have HZ := Lib.hid hfx
          clear hB hfx
          by_cases hneg : x < 0
          · go_wp2
            go_ret
            exact ⟨-1, by omega, by omega, rfl, HB.out, fun h => by omega⟩
          · go_wp2
            go_roundw
            case rel => exact ⟨k + 1, by omega, by go_num, ⟨x, by omega, by omega, rfl⟩, HB.out, fun j hj => by
              rcases Nat.lt_or_ge j k with h | h
              · exact HW.out.2 j h
              · obtain rfl : j = k := by omega
                exact HZ.out (by omega)⟩
            case measure => simp [intOf]; omega
      · go_wp2
        go_ret
        exact ⟨L, by omega, by omega, rfl, HW.out.1, fun _ => ⟨by omega, fun i hi => HW.out.2 i (by omega)⟩⟩

theorem infoInstr : (Tryz.prog.info? 90).map (fun i => (i.zero, i.size, i.bytes)) = some (some (.agg #[.int .i64 0, .int .i64 0, .string ByteArray.empty]), 3, 32) := by kernel_rfl

def InstrLaid (cur : Array Value) (l : Instrs) (k : Nat) : Prop := ∀ j, j < k → cur[j * 3]? = some (.int .i64 (ins0 l j)) ∧ cur[j * 3 + 1]? = some (.int .i64 (ins1 l j)) ∧ cur[j * 3 + 2]? = some (.string (ins2 l j))
theorem InstrLaid.step {cur : Array Value} {l : Instrs} {k len : Nat} (h : InstrLaid cur l k) (hs : cur.size = len * 3) (hk : k < len) :
    InstrLaid (((cur.setIfInBounds (k * 3) (.int .i64 (ins0 l k))).setIfInBounds (k * 3 + 1) (.int .i64 (ins1 l k))).setIfInBounds (k * 3 + 2) (.string (ins2 l k))) l (k + 1) := by
  intro j hj
  rcases Nat.lt_or_ge j k with hlt | hge
  · obtain ⟨e0, e1, e2⟩ := h j hlt
    refine ⟨?_, ?_, ?_⟩
    · rw [Array.getElem?_setIfInBounds_ne (by omega), Array.getElem?_setIfInBounds_ne (by omega), Array.getElem?_setIfInBounds_ne (by omega)]; exact e0
    · rw [Array.getElem?_setIfInBounds_ne (by omega), Array.getElem?_setIfInBounds_ne (by omega), Array.getElem?_setIfInBounds_ne (by omega)]; exact e1
    · rw [Array.getElem?_setIfInBounds_ne (by omega), Array.getElem?_setIfInBounds_ne (by omega), Array.getElem?_setIfInBounds_ne (by omega)]; exact e2
  · obtain rfl : j = k := by omega
    refine ⟨?_, ?_, ?_⟩
    · rw [Array.getElem?_setIfInBounds_ne (by omega), Array.getElem?_setIfInBounds_ne (by omega)]; rw [Array.getElem?_setIfInBounds_self_of_lt (by first | omega | (simp only [Array.size_setIfInBounds]; omega))]
    · rw [Array.getElem?_setIfInBounds_ne (by omega)]; rw [Array.getElem?_setIfInBounds_self_of_lt (by first | omega | (simp only [Array.size_setIfInBounds]; omega))]
    · rw [Array.getElem?_setIfInBounds_self_of_lt (by first | omega | (simp only [Array.size_setIfInBounds]; omega))]

theorem InstrsAt.ofRow {w : World} {B len : Nat} {E : TypeId} {cur : Array Value} {l : Instrs} (h : Row w B E cur) (hl : l.length = len) (hm : len ≤ maxLen) (hk : ∀ i, i < len → (ins2 l i).size ≤ maxLen) (hlaid : InstrLaid cur l len) : InstrsAt w (some ⟨B, 0, none⟩) len l := by
  refine ⟨hl, hm, hk, .inr ⟨B, 0, rfl, h.lt, fun i hi => ?_⟩⟩
  obtain ⟨e0, e1, e2⟩ := hlaid i hi
  unfold Row at h
  simp [World.cell?, h, e0, e1, e2]

def MadeInstr (x0 : Int) (x1 : Int) (x2 : ByteArray) (w : World) (e : Ending) (w' : World) : Prop := e = .returned (.agg #[.int .i64 x0, .int .i64 x1, .string x2]) ∧ Below w.heap.size w w'

theorem toins_any (x0 : Int) (x1 : Int) (x2 : ByteArray) (w : World) : Calls Tryz.prog 44 #[.agg #[.int .i64 x0, .int .i64 x1, .string x2]] w (MadeInstr x0 x1 x2 w) := by
  go_enter Tryz.func44, Tryz.ntmps44
  go_wp2
  exact bodyPost_ret (v := .agg #[.int .i64 x0, .int .i64 x1, .string x2]) (by simp [results, Tryz.results44, go_sem]) rfl ⟨rfl, below_alloc (below_alloc (below_alloc (Below.refl _ _) _) _) _⟩

/-- The end of the laws' copy: a new slice of the same values. -/
def MadeInstrs (len : Nat) (l : Instrs) (w : World) (e : Ending) (w' : World) : Prop :=
  e = .returned (.slice (some ⟨w.heap.size, 0, none⟩) len len) ∧ InstrsAt w' (some ⟨w.heap.size, 0, none⟩) len l ∧ Below w.heap.size w w' ∧ ∃ cur, Row w' w.heap.size 90 cur ∧ cur.size = len * 3

set_option maxHeartbeats 2000000 in
theorem toinss_any (a : Option Addr) (len cap : Nat) (l : Instrs) (w : World) (h : InstrsAt w a len l) (hfew : len ≤ 1048576) :
    Calls Tryz.prog 22 #[.slice a len cap] w (MadeInstrs len l w) := by
  obtain ⟨i0, hi, hz0, hz1, hz2⟩ := info_parts infoInstr
  have HR := Lib.hid h
  clear h
  go_enter Tryz.func22, Tryz.ntmps22
  go_wp2_with (at_make; refine wpList_make_full _ rfl _ _ 30 rfl w.heap.size 90 i0 _ 3 Tryz.underlying30 hi hz0 hz1 .i64 .i64 _ _ len rfl rfl rfl rfl (by rw [hz2]; omega) (by unfold maxLen; omega) (Nat.le_refl _) ?_; intro w1 hown hgrow)
  obtain ⟨cur0, hrow0, hsz0⟩ : ∃ cur, Row w1 w.heap.size 90 cur ∧ cur.size = len * 3 := by
    rcases hown.2 with ⟨h, _⟩ | ⟨g, cp, cur, hv, _, hh, _, _, hs, _⟩
    · simp at h
    · simp only [Value.slice.injEq, Option.some.injEq, Addr.mk.injEq, true_and, and_true] at hv
      obtain ⟨rfl, rfl⟩ := hv
      exact ⟨cur, hh, hs⟩
  have HB0 := Lib.hid ((Below.refl w.heap.size w).grown hgrow (Nat.le_refl _) (by simp))
  have HR0 := Lib.hid hrow0
  have HS0 := Lib.hid hsz0
  clear hown hgrow hrow0 hsz0
  go_loopw [4] (fun i wr => ∃ k : Nat, k ≤ len ∧ i = .int .i64 k ∧ Hid (Below w.heap.size w wr ∧ ∃ cur, Row wr w.heap.size 90 cur ∧ cur.size = len * 3 ∧ InstrLaid cur l k)) (fun i _ => len - (intOf i).toNat)
  case atStart => exact ⟨0, Nat.zero_le _, rfl, HB0.out, cur0, HR0.out, HS0.out, fun j hj => by omega⟩
  case round =>
    obtain ⟨k, hk, rfl, HW⟩ := hrel
    clear HB0 HR0 HS0
    by_cases hlt : k < len
    · rcases HR.out.src with hz | ⟨b, off, rfl, hb, hc⟩
      · omega
      · have c0 := (HW.out.1.cell (p := ⟨b, off + k * 3, none⟩) hb).trans (hc k hlt).1
        have c1 := (HW.out.1.cell (p := ⟨b, off + k * 3 + 1, none⟩) hb).trans (hc k hlt).2.1
        have c2 := (HW.out.1.cell (p := ⟨b, off + k * 3 + 2, none⟩) hb).trans (hc k hlt).2.2
        clear hc hb
        go_wp2_with fail
        refine (toins_any _ _ _ _).mono ?_
        rintro e w2 ⟨rfl, hB⟩
        obtain ⟨hb0, cur, hr, hs, hla⟩ := HW.out
        have hr2 := hr.keep hB
        have hA0 := hr2.cell (j := k * 3) (by omega)
        have hA1 := hr2.cell (j := k * 3 + 1) (by omega)
        have hA2 := hr2.cell (j := k * 3 + 2) (by omega)
        have hf0 := hr2.free (k * 3)
        have hf1 := hr2.free (k * 3 + 1)
        have hf2 := hr2.free (k * 3 + 2)
        have HB := Lib.hid (below_via hb0 hB)
        have HR2 := Lib.hid hr2
        have HS := Lib.hid hs
        have HL := Lib.hid hla
        generalize cur[k * 3] = x0 at hA0
        generalize cur[k * 3 + 1] = x1 at hA1
        generalize cur[k * 3 + 2] = x2 at hA2
        clear hB hr hr2 hs hla hb0 HW
        go_wp2
        go_roundw
        case rel => exact ⟨k + 1, by omega, by go_num, ((HB.out.setCell (Nat.le_refl _) _).setCell (Nat.le_refl _) _).setCell (Nat.le_refl _) _, _, ((HR2.out.set _ _).set _ _).set _ _, by simpa using HS.out, HL.out.step HS.out hlt⟩
        case measure => simp [intOf]; omega
    · go_wp2
      go_ret
      obtain ⟨hb0, cur, hr, hs, hla⟩ := HW.out
      obtain rfl : k = len := by omega
      exact ⟨rfl, InstrsAt.ofRow hr HR.out.length HR.out.max HR.out.keys hla, hb0, cur, hr, hs⟩
end Go.Proofs.YtdphganbnlmgcaaGreatDoor
namespace Go.Proofs.YtdphganbnlmgcaaGreatDoor
open Go.ChangeShapes Go.WideShapes Go.ChangeAt Go.RowKit
set_option linter.unusedVariables false
set_option maxRecDepth 100000

def takesB : Nat → ByteArray
  | 4 => ⟨#[84, 84]⟩ | 5 => ⟨#[84]⟩ | 6 => ⟨#[84]⟩ | 7 => ⟨#[78]⟩ | 8 => ⟨#[78, 78]⟩ | 9 => ⟨#[78, 78]⟩ | 10 => ⟨#[78, 78]⟩ | 11 => ⟨#[78, 78]⟩
  | 12 => ⟨#[84, 84]⟩ | 13 => ⟨#[84, 78]⟩ | 14 => ⟨#[84, 78, 78]⟩ | _ => ByteArray.empty
def givesB : Nat → ByteArray
  | 1 => ⟨#[84]⟩ | 2 => ⟨#[84]⟩ | 3 => ⟨#[78]⟩ | 4 => ⟨#[84]⟩ | 5 => ⟨#[78]⟩ | 6 => ⟨#[78]⟩ | 7 => ⟨#[84]⟩ | 8 => ⟨#[78]⟩ | 9 => ⟨#[78]⟩ | 10 => ⟨#[78]⟩ | 11 => ⟨#[78]⟩
  | 12 => ⟨#[78]⟩ | _ => ByteArray.empty
theorem takes_few (x : Nat) : (takesB x).size ≤ 3 := by
  unfold takesB; split <;> decide
theorem gives_few (x : Nat) : (givesB x).size ≤ 1 := by
  unfold givesB; split <;> decide

/-- The stack behind an instruction, or none. -/
def stepB (st tk gv : ByteArray) : Option ByteArray :=
  if tk.size ≤ st.size ∧ st.extract (st.size - tk.size) st.size = tk then some (st.extract 0 (st.size - tk.size) ++ gv) else none
def stk (l : Instrs) : Nat → Option ByteArray
  | 0 => some ByteArray.empty
  | k + 1 => match stk l k with
    | none => none
    | some st => if instrB (ins0 l k) (ins1 l k) (ins2 l k) = true then stepB st (takesB (ins0 l k).toNat) (givesB (ins0 l k).toNat) else none
def progB (l : Instrs) : Bool := decide (l.length ≤ 30) && decide (stk l l.length = some ByteArray.empty)

theorem stk_none {l : Instrs} {k n : Nat} (h : stk l k = none) (hk : k ≤ n) : stk l n = none := by
  induction n with
  | zero => obtain rfl : k = 0 := by omega
            exact h
  | succ n ih =>
    rcases Nat.lt_or_ge n k with h1 | h1
    · obtain rfl : k = n + 1 := by omega
      exact h
    · rw [stk, ih h1]
theorem prog_long {l : Instrs} (h : ¬ l.length ≤ 30) : progB l = false := by
  unfold progB; rw [decide_eq_false h]; rfl
theorem prog_bad {l : Instrs} {k : Nat} (hk : k ≤ l.length) (h : stk l k = none) : progB l = false := by
  unfold progB; rw [stk_none h hk]; simp
theorem prog_end {l : Instrs} {st : ByteArray} (h30 : l.length ≤ 30) (h : stk l l.length = some st) : progB l = decide (st.size = 0) := by
  unfold progB
  rw [h, decide_eq_true h30, Bool.true_and]
  by_cases hs : st.size = 0
  · have : st = ByteArray.empty := ByteArray.ext (Array.eq_empty_of_size_eq_zero hs)
    rw [this]; rfl
  · rw [decide_eq_false hs, decide_eq_false]
    intro he
    rw [Option.some.injEq] at he
    rw [he] at hs
    exact hs rfl
theorem stk_step {l : Instrs} {k : Nat} {st : ByteArray} (h : stk l k = some st) (hi : instrB (ins0 l k) (ins1 l k) (ins2 l k) = true) :
    stk l (k + 1) = stepB st (takesB (ins0 l k).toNat) (givesB (ins0 l k).toNat) := by
  rw [stk, h]; simp only [hi, if_pos]
theorem stk_wrong {l : Instrs} {k : Nat} (hi : instrB (ins0 l k) (ins1 l k) (ins2 l k) = false) : stk l (k + 1) = none := by
  rw [stk]
  split
  · rfl
  · rw [hi]; rfl
theorem step_short {st tk gv : ByteArray} (h : st.size < tk.size) : stepB st tk gv = none := by
  unfold stepB; rw [if_neg (by omega)]
theorem step_other {st tk gv : ByteArray} (h : st.extract (st.size - tk.size) st.size ≠ tk) : stepB st tk gv = none := by
  unfold stepB; rw [if_neg (fun h2 => h h2.2)]
theorem step_fits {st tk gv : ByteArray} (h0 : tk.size ≤ st.size) (h : st.extract (st.size - tk.size) st.size = tk) : stepB st tk gv = some (st.extract 0 (st.size - tk.size) ++ gv) := by
  unfold stepB; rw [if_pos ⟨h0, h⟩]
theorem step_size {st tk gv r : ByteArray} (h : stepB st tk gv = some r) (hg : gv.size ≤ 1) : r.size ≤ st.size + 1 := by
  unfold stepB at h
  split at h
  · rw [Option.some.injEq] at h
    rw [← h, ByteArray.size_append, ByteArray.size_extract]
    omega
  · cases h
theorem instr_op {op n : Int} {s : ByteArray} (h : instrB op n s = true) : 1 ≤ op ∧ op ≤ 14 := by
  unfold instrB at h
  split at h
  · omega
  · split at h
    · omega
    · split at h
      · omega
      · rw [Bool.and_eq_true, decide_eq_true_eq] at h
        omega
end Go.Proofs.YtdphganbnlmgcaaGreatDoor
