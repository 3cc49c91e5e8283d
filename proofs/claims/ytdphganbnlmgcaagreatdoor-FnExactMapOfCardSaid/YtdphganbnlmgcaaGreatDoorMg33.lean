/- Texts put together, as a claim holds at most sixty files. -/
import Derived.Test.YtdphganbnlmgcaaGreatDoorMg1
import Derived.Test.YtdphganbnlmgcaaGreatDoorMg5
import Derived.Test.YtdphganbnlmgcaaGreatDoorMg4
import Derived.Test.YtdphganbnlmgcaaGreatDoorMg0
namespace Go.Proofs.YtdphganbnlmgcaaGreatDoor
open Go.ChangeShapes Go.WideShapes Go.ChangeAt Go.RowKit
set_option linter.unusedVariables false
set_option maxRecDepth 100000

set_option maxHeartbeats 1000000 in
theorem eqins_same (x0 : Int) (x1 : Int) (x2 : ByteArray) (w : World) : Calls Tryz.prog 53 #[.agg #[.int .i64 x0, .int .i64 x1, .string x2], .agg #[.int .i64 x0, .int .i64 x1, .string x2]] w (MadeBool true w) := by
  go_enter Tryz.func53, Tryz.ntmps53
  go_wp2
  go_ret
  exact ⟨rfl, below_alloc (below_alloc (Below.refl _ _) _) _⟩

set_option maxHeartbeats 2000000 in
theorem eqinss_same (a1 a2 : Option Addr) (len cap1 cap2 : Nat) (l : Instrs) (w : World) (h1 : InstrsAt w a1 len l) (h2 : InstrsAt w a2 len l) :
    Calls Tryz.prog 27 #[.slice a1 len cap1, .slice a2 len cap2] w (MadeBool true w) := by
  have hm := h1.max
  unfold maxLen at hm
  have HR1 := Lib.hid h1
  have HR2 := Lib.hid h2
  clear h1 h2
  go_enter Tryz.func27, Tryz.ntmps27
  go_wp2
  go_loopw [5] (fun i wr => ∃ k : Nat, k ≤ len ∧ i = .int .i64 k ∧ Hid (Below w.heap.size w wr)) (fun i _ => len - (intOf i).toNat)
  case atStart => exact ⟨0, Nat.zero_le _, rfl, Below.refl _ _⟩
  case round =>
    obtain ⟨k, hk, rfl, HW⟩ := hrel
    by_cases hlt : k < len
    · rcases HR1.out.src with hz | ⟨b1, off1, rfl, hb1, hc1⟩
      · omega
      · rcases HR2.out.src with hz | ⟨b2, off2, rfl, hb2, hc2⟩
        · omega
        · have c0 := (HW.out.cell (p := ⟨b1, off1 + k * 3, none⟩) hb1).trans (hc1 k hlt).1
          have c1 := (HW.out.cell (p := ⟨b1, off1 + k * 3 + 1, none⟩) hb1).trans (hc1 k hlt).2.1
          have c2 := (HW.out.cell (p := ⟨b1, off1 + k * 3 + 2, none⟩) hb1).trans (hc1 k hlt).2.2
          have d0 := (HW.out.cell (p := ⟨b2, off2 + k * 3, none⟩) hb2).trans (hc2 k hlt).1
          have d1 := (HW.out.cell (p := ⟨b2, off2 + k * 3 + 1, none⟩) hb2).trans (hc2 k hlt).2.1
          have d2 := (HW.out.cell (p := ⟨b2, off2 + k * 3 + 2, none⟩) hb2).trans (hc2 k hlt).2.2
          have HB := Lib.hid HW.out.drew
          clear hc1 hc2 hb1 hb2
          go_wp2_with fail
          go_region_held3 (fun w' => Hid (Below w.heap.size w w') ∧ w'.cell? ⟨b1, off1 + k * 3, none⟩ = some (.int .i64 (ins0 l k)) ∧ w'.cell? ⟨b1, off1 + k * 3 + 1, none⟩ = some (.int .i64 (ins1 l k)) ∧ w'.cell? ⟨b1, off1 + k * 3 + 2, none⟩ = some (.string (ins2 l k)) ∧ w'.cell? ⟨b2, off2 + k * 3, none⟩ = some (.int .i64 (ins0 l k)) ∧ w'.cell? ⟨b2, off2 + k * 3 + 1, none⟩ = some (.int .i64 (ins1 l k)) ∧ w'.cell? ⟨b2, off2 + k * 3 + 2, none⟩ = some (.string (ins2 l k)))
            (first | exact ⟨HB, c0, c1, c2, d0, d1, d2⟩ | exact ⟨HB, e0, e1, e2, f0, f1, f2⟩)
            (first | (go_at_call 53; refine (eqins_same _ _ _ _).mono ?_; rintro e w2 ⟨rfl, hB⟩; have e0 := (hB.cell (p := ⟨b1, off1 + k * 3, none⟩) (World.block_lt_of_cell? _ _ c0)).trans c0; have e1 := (hB.cell (p := ⟨b1, off1 + k * 3 + 1, none⟩) (World.block_lt_of_cell? _ _ c1)).trans c1; have e2 := (hB.cell (p := ⟨b1, off1 + k * 3 + 2, none⟩) (World.block_lt_of_cell? _ _ c2)).trans c2; have f0 := (hB.cell (p := ⟨b2, off2 + k * 3, none⟩) (World.block_lt_of_cell? _ _ d0)).trans d0; have f1 := (hB.cell (p := ⟨b2, off2 + k * 3 + 1, none⟩) (World.block_lt_of_cell? _ _ d1)).trans d1; have f2 := (hB.cell (p := ⟨b2, off2 + k * 3 + 2, none⟩) (World.block_lt_of_cell? _ _ d2)).trans d2; have HB := Lib.hid (below_via HB.out hB); clear hB))
          go_wp2
          go_roundw
          case rel => exact ⟨k + 1, by omega, by go_num, HB⟩
          case measure => simp [intOf]; omega
    · go_wp2
      go_ret
      exact ⟨rfl, HW.out⟩
end Go.Proofs.YtdphganbnlmgcaaGreatDoor
namespace Go.Proofs.YtdphganbnlmgcaaGreatDoor
open Go.ChangeShapes Go.WideShapes Go.ChangeAt Go.RowKit
set_option linter.unusedVariables false
set_option maxRecDepth 100000

/-- The bytes of the first k texts. -/
def sumTo (l : Strs) : Nat → Nat
  | 0 => 0
  | k + 1 => sumTo l k + (strAt l k).size

/-- The end of the laws' measure of texts: below 0 (too much), or what is left. -/
def SizedStrs (len : Nat) (l : Strs) (left : Int) (w : World) (e : Ending) (w' : World) : Prop :=
  ∃ x : Int, -1 ≤ x ∧ x ≤ 1048576 ∧ e = .returned (.int .i64 x) ∧ w = w' ∧ (0 ≤ x → x = left - len - sumTo l len)

set_option maxHeartbeats 1000000 in
theorem szstrs_any (a : Option Addr) (len cap : Nat) (l : Strs) (left : Int) (w : World) (h : StrsAt w a len l) (h0 : 0 ≤ left) (h1 : left ≤ 1048576) :
    Calls Tryz.prog 14 #[.slice a len cap, .int .i64 left] w (SizedStrs len l left w) := by
  have hm := h.max
  unfold maxLen at hm
  have HR := Lib.hid h
  clear h
  by_cases hl : left < len
  · have g : left - (len : Int) < 0 := by omega
    go_enter Tryz.func14, Tryz.ntmps14
    go_wp2
    go_ret
    exact ⟨-1, by omega, by omega, rfl, rfl, fun h => by omega⟩
  · have g : ¬ left - (len : Int) < 0 := by omega
    go_enter Tryz.func14, Tryz.ntmps14
    go_wp2
    go_loop [1, 5] (fun t i => ∃ k : Nat, k ≤ len ∧ i = .int .i64 k ∧ (∃ L : Int, 0 ≤ L ∧ L ≤ 1048576 ∧ t = .int .i64 L ∧ Hid (L = left - len - sumTo l k))) (fun _ i => len - (intOf i).toNat)
    case atStart => exact ⟨0, Nat.zero_le _, rfl, _, by omega, by omega, rfl, Lib.hid (by simp [sumTo])⟩
    case round =>
      obtain ⟨k, hk, rfl, L, hL0, hL1, rfl, HL⟩ := hrel
      by_cases hlt : k < len
      · rcases HR.out.src with hz | ⟨b, off, rfl, hb, hc⟩
        · omega
        · have c0 := hc k hlt
          have HS := Lib.hid (HR.out.sizes k hlt)
          obtain ⟨s, hs⟩ : ∃ s, strAt l k = s := ⟨_, rfl⟩
          rw [hs] at c0 HS
          have HSK := Lib.hid (show sumTo l (k + 1) = sumTo l k + s.size by rw [← hs]; rfl)
          have hsm : s.size ≤ 9223372036854775807 := HS.out
          clear hc hb hs
          by_cases hneg : L < s.size
          · have g2 : L - (s.size : Int) < 0 := by omega
            go_wp2
            go_ret
            exact ⟨-1, by omega, by omega, rfl, rfl, fun h => by omega⟩
          · have g2 : ¬ L - (s.size : Int) < 0 := by omega
            go_wp2
            go_round
            case rel => exact ⟨k + 1, by omega, by go_num, _, by omega, by omega, rfl, Lib.hid (by have h1 := HSK.out; have h2 := HL.out; omega)⟩
            case measure => simp [intOf]; omega
      · obtain rfl : k = len := by omega
        go_wp2
        go_ret
        exact ⟨L, by omega, by omega, rfl, rfl, fun _ => HL.out⟩

/-- The first k texts of l lie at the head of the row. -/
def LaidS (cur : Array Value) (l : Strs) (k : Nat) : Prop := ∀ j, j < k → cur[j]? = some (.string (strAt l j))
theorem LaidS.step {cur : Array Value} {l : Strs} {k len : Nat} (h : LaidS cur l k) (hs : cur.size = len) (hk : k < len) :
    LaidS (cur.setIfInBounds k (.string (strAt l k))) l (k + 1) := by
  intro j hj
  rcases Nat.lt_or_ge j k with hlt | hge
  · rw [Array.getElem?_setIfInBounds_ne (by omega)]; exact h j hlt
  · obtain rfl : j = k := by omega
    have h1 : j < cur.size := by omega
    simp [h1]
theorem StrsAt.ofRow {w : World} {B len : Nat} {E : TypeId} {cur : Array Value} {l : Strs} (h : Row w B E cur) (hl : l.length = len) (hm : len ≤ maxLen) (hk : ∀ i, i < len → (strAt l i).size ≤ maxLen) (hlaid : LaidS cur l len) : StrsAt w (some ⟨B, 0, none⟩) len l := by
  refine ⟨hl, hm, hk, .inr ⟨B, 0, rfl, h.lt, fun i hi => ?_⟩⟩
  have e1 := hlaid i hi
  unfold Row at h
  simp [World.cell?, h, e1]

/-- The end of the laws' copy of texts: a new slice of the same texts. -/
def MadeStrs (len : Nat) (l : Strs) (w : World) (e : Ending) (w' : World) : Prop :=
  e = .returned (.slice (some ⟨w.heap.size, 0, none⟩) len len) ∧ StrsAt w' (some ⟨w.heap.size, 0, none⟩) len l ∧ Below w.heap.size w w' ∧ ∃ cur, Row w' w.heap.size 9 cur ∧ cur.size = len

set_option maxHeartbeats 1000000 in
theorem tostrs_any (a : Option Addr) (len cap : Nat) (l : Strs) (w : World) (h : StrsAt w a len l) (hfew : len ≤ 1048576) :
    Calls Tryz.prog 23 #[.slice a len cap] w (MadeStrs len l w) := by
  obtain ⟨i0, hi, hz0, hz1, hz2⟩ := info_parts infoStr
  have HR := Lib.hid h
  clear h
  go_enter Tryz.func23, Tryz.ntmps23
  go_wp2_with (at_make; refine wpList_make_full _ rfl _ _ 23 rfl w.heap.size 9 i0 _ 1 Tryz.underlying23 hi hz0 hz1 .i64 .i64 _ _ len rfl rfl rfl rfl (by rw [hz2]; omega) (by unfold maxLen; omega) (Nat.le_refl _) ?_; intro w1 hown hgrow)
  obtain ⟨cur0, hrow0, hsz0⟩ : ∃ cur, Row w1 w.heap.size 9 cur ∧ cur.size = len := by
    rcases hown.2 with ⟨h, _⟩ | ⟨g, cp, cur, hv, _, hh, _, _, hs, _⟩
    · simp at h
    · simp only [Value.slice.injEq, Option.some.injEq, Addr.mk.injEq, true_and, and_true] at hv
      obtain ⟨rfl, rfl⟩ := hv
      exact ⟨cur, hh, by omega⟩
  have HB0 := Lib.hid ((Below.refl w.heap.size w).grown hgrow (Nat.le_refl _) (by simp))
  have HR0 := Lib.hid hrow0
  have HS0 := Lib.hid hsz0
  clear hown hgrow hrow0 hsz0
  go_loopw [4] (fun i wr => ∃ k : Nat, k ≤ len ∧ i = .int .i64 k ∧ Hid (Below w.heap.size w wr ∧ ∃ cur, Row wr w.heap.size 9 cur ∧ cur.size = len ∧ LaidS cur l k)) (fun i _ => len - (intOf i).toNat)
  case atStart => exact ⟨0, Nat.zero_le _, rfl, HB0.out, cur0, HR0.out, HS0.out, fun j hj => by omega⟩
  case round =>
    obtain ⟨k, hk, rfl, HW⟩ := hrel
    clear HB0 HR0 HS0
    by_cases hlt : k < len
    · rcases HR.out.src with hz | ⟨b, off, rfl, hb, hc⟩
      · omega
      · have c0 := (HW.out.1.cell (p := ⟨b, off + k, none⟩) hb).trans (hc k hlt)
        have hbne : b ≠ w.heap.size := Nat.ne_of_lt hb
        clear hc hb
        obtain ⟨hb0, cur, hr, hs, hla⟩ := HW.out
        have hA0 := hr.cell (j := k) (by omega)
        have hf0 := hr.free k
        have HB := Lib.hid hb0
        have HR2 := Lib.hid hr
        have HS := Lib.hid hs
        have HL := Lib.hid hla
        generalize cur[k] = x0 at hA0
        have hi0 : (0 : Int) ≤ (k : Int) := by omega
        have hi1 : (k : Int) < (len : Int) := by omega
        clear hr hs hla hb0 HW
        go_wp2_with fail
        go_roundw
        case rel => exact ⟨k + 1, by omega, by go_num, HB.out.setCell (Nat.le_refl _) _, _, HR2.out.set _ _, by simpa using HS.out, HL.out.step HS.out hlt⟩
        case measure => simp [intOf]; omega
    · go_wp2
      go_ret
      obtain ⟨hb0, cur, hr, hs, hla⟩ := HW.out
      obtain rfl : k = len := by omega
      exact ⟨rfl, StrsAt.ofRow hr HR.out.length HR.out.max HR.out.sizes hla, hb0, cur, hr, hs⟩
theorem strs_of_is {w : World} {a : Option Addr} {len cap : Nat} {ss : List ByteArray}
    (h : (a = none ∧ len = 0 ∧ cap = 0 ∧ ss = []) ∨ ∃ x, a = some x ∧ len ≤ cap ∧ cap ≤ maxLen ∧ ss.length = cap ∧ (∀ i, i < ss.length → w.cell? (x.add i) = some (.string (ss.getD i ByteArray.empty))) ∧ ∀ s ∈ ss, s.size ≤ maxLen) : StrsAt w a len (ss.take len) := by
  rcases h with ⟨rfl, rfl, _, rfl⟩ | ⟨x, rfl, hl, hm, hz, hc, hw⟩
  · exact ⟨rfl, Nat.zero_le _, fun i hi => by omega, .inl rfl⟩
  · have hget : ∀ i, i < len → strAt (ss.take len) i = ss.getD i ByteArray.empty := by
      intro i hi
      unfold strAt
      rw [List.getD_eq_getElem?_getD, List.getD_eq_getElem?_getD, List.getElem?_take_of_lt hi]
    refine ⟨by simp; omega, by omega, fun i hi => ?_, ?_⟩
    · rw [hget i hi, List.getD_eq_getElem?_getD, List.getElem?_eq_getElem (by omega)]
      exact hw _ (List.getElem_mem _)
    · by_cases h0 : len = 0
      · exact .inl h0
      · obtain ⟨b, off, spot⟩ := x
        have hc0 := hc 0 (by omega)
        have hspot : spot = none := by simpa [Addr.add] using World.cell?_spot hc0
        subst hspot
        refine .inr ⟨b, off, rfl, ?_, fun i hi => ?_⟩
        · have := World.block_lt_of_cell? _ _ hc0
          simpa [Addr.add] using this
        · have h1 := hc i (by omega)
          rw [hget i hi]
          by_cases hi0 : i = 0
          · subst hi0
            simpa [Addr.add] using h1
          · simpa [Addr.add, hi0] using h1
end Go.Proofs.YtdphganbnlmgcaaGreatDoor
namespace Go.Proofs.YtdphganbnlmgcaaGreatDoor
open Go.ChangeShapes Go.WideShapes Go.ChangeAt Go.RowKit
set_option linter.unusedVariables false
set_option maxRecDepth 100000

theorem row_new (w : World) (cur : Array Value) (T : TypeId) : Row (w.alloc (.cells cur T)) w.heap.size T cur := by
  have := heap_alloc_new w (.cells cur T)
  simpa [Row] using this
theorem row_new1 (w : World) (o : Obj) (cur : Array Value) (T : TypeId) : Row ((w.alloc o).alloc (.cells cur T)) (w.heap.size + 1) T cur := by
  have := row_new (w.alloc o) cur T
  simpa using this
theorem Row.al {w : World} {B : Nat} {E : TypeId} {cur : Array Value} (h : Row w B E cur) (o : Obj) : Row (w.alloc o) B E cur := h.keep (below_alloc (Below.refl _ _) _)
theorem Row.put {w : World} {B : Nat} {E : TypeId} {cur : Array Value} (h : Row w B E cur) {X : Nat} (hne : B ≠ X) (j : Nat) (v : Value) : Row (w.setCell ⟨X, j, none⟩ v) B E cur := (Below.heap_setCell w ⟨X, j, none⟩ v B hne).trans h
theorem StrsAt.put {w : World} {a : Option Addr} {len : Nat} {l : Strs} (h : StrsAt w a len l) {X : Nat} (hne : ∀ b off, a = some ⟨b, off, none⟩ → b ≠ X) (j : Nat) (v : Value) : StrsAt (w.setCell ⟨X, j, none⟩ v) a len l := by
  refine ⟨h.length, h.max, h.sizes, ?_⟩
  rcases h.src with h0 | ⟨b, off, ha, hb, hc⟩
  · exact .inl h0
  · have e : ∀ o, (w.setCell ⟨X, j, none⟩ v).cell? ⟨b, o, none⟩ = w.cell? ⟨b, o, none⟩ := fun o => by
      simp only [World.cell?, Below.heap_setCell w ⟨X, j, none⟩ v b (hne b off ha)]
    exact .inr ⟨b, off, ha, by simpa [World.setCell] using hb, fun i hi => by simpa only [e] using hc i hi⟩
theorem sum_part (l : Strs) : ∀ {n i : Nat}, i < n → (strAt l i).size ≤ sumTo l n
  | n + 1, i, h => by
    show _ ≤ sumTo l n + (strAt l n).size
    by_cases h' : i = n
    · subst h'; omega
    · have := sum_part l (show i < n by omega); omega

/-- A job that may be read: its instructions and its splits. -/
structure JobAt (w : World) (p : Option Addr) (pl : Nat) (l : Instrs) (s : Option Addr) (sl : Nat) (m : Strs) : Prop where
  i : InstrsAt w p pl l
  t : StrsAt w s sl m
theorem JobAt.keep {w w1 : World} {p s : Option Addr} {pl sl : Nat} {l : Instrs} {m : Strs} (h : JobAt w p pl l s sl m) (hB : Below w.heap.size w w1) : JobAt w1 p pl l s sl m := ⟨h.i.keep hB, h.t.keep hB⟩
theorem JobAt.put {w : World} {p s : Option Addr} {pl sl : Nat} {l : Instrs} {m : Strs} (h : JobAt w p pl l s sl m) {X : Nat} (h1 : ∀ b off, p = some ⟨b, off, none⟩ → b ≠ X) (h2 : ∀ b off, s = some ⟨b, off, none⟩ → b ≠ X) (j : Nat) (v : Value) : JobAt (w.setCell ⟨X, j, none⟩ v) p pl l s sl m := ⟨h.i.put h1 j v, h.t.put h2 j v⟩

def JobSized (pl : Nat) (l : Instrs) (sl : Nat) (m : Strs) (w : World) (e : Ending) (w' : World) : Prop :=
  ∃ x : Int, -1 ≤ x ∧ x ≤ 1048576 ∧ e = .returned (.int .i64 x) ∧ Below w.heap.size w w' ∧ (0 ≤ x → pl ≤ 1048576 ∧ sl ≤ 1048576 ∧ ∀ i, i < sl → (strAt m i).size ≤ 1048576)

set_option maxHeartbeats 1000000 in
theorem szjob_any (p s : Option Addr) (pl pc sl sc : Nat) (e1 : Bool) (o1 n1 : Int) (l : Instrs) (m : Strs) (left : Int) (w : World) (h : JobAt w p pl l s sl m) (h0 : 0 ≤ left) (h1 : left ≤ 1048576) :
    Calls Tryz.prog 4 #[.agg #[.slice p pl pc, .bool e1, .int .i64 o1, .int .i64 n1, .slice s sl sc], .int .i64 left] w (JobSized pl l sl m w) := by
  have HB := Lib.hid (below_alloc (Below.refl w.heap.size w) (.cells #[.slice p pl pc, .bool e1, .int .i64 o1, .int .i64 n1, .slice s sl sc] 25))
  have HX := Lib.hid (row_new w #[.slice p pl pc, .bool e1, .int .i64 o1, .int .i64 n1, .slice s sl sc] 25)
  have HS := Lib.hid (h.keep HB.out)
  clear h
  go_enter Tryz.func4, Tryz.ntmps4
  go_wp2_with fail
  refine (szinss_any _ _ _ _ _ _ HS.out.i h0 h1).mono ?_
  rintro e w1 ⟨x, hx0, hx1, rfl, hB, hf⟩
  have HF := Lib.hid hf
  have HX := Lib.hid (HX.out.keep hB)
  have HS := Lib.hid (HS.out.keep hB)
  have HB := Lib.hid (below_via HB.out hB)
  have c4 := HX.out.cell (j := 4) (by simp)
  simp at c4
  clear hB hf
  by_cases hn : x < 0
  · go_wp2
    go_ret
    exact ⟨-1, by omega, by omega, rfl, HB.out, fun h => by omega⟩
  · go_wp2_with fail
    refine (szstrs_any _ _ _ _ _ _ HS.out.t (by omega) hx1).mono ?_
    rintro e w2 ⟨y, hy0, hy1, rfl, rfl, hf⟩
    have HF2 := Lib.hid hf
    clear hf
    by_cases hn2 : y < 0
    · go_wp2
      go_ret
      exact ⟨-1, by omega, by omega, rfl, HB.out, fun h => by omega⟩
    · go_wp2
      go_ret
      refine ⟨y, hy0, hy1, rfl, HB.out, fun h => ⟨(HF.out (by omega)).1, ?_, fun i hi => ?_⟩⟩
      · have := HF2.out (by omega); omega
      · have := HF2.out (by omega); have := sum_part m hi; omega

/-- The end of the laws' copy of a job. -/
def MadeJob (pl : Nat) (e1 : Bool) (o1 n1 : Int) (l : Instrs) (sl : Nat) (m : Strs) (w : World) (e : Ending) (w' : World) : Prop :=
  ∃ B C : Nat, e = .returned (.agg #[.slice (some ⟨B, 0, none⟩) pl pl, .bool e1, .int .i64 o1, .int .i64 n1, .slice (some ⟨C, 0, none⟩) sl sl]) ∧ JobAt w' (some ⟨B, 0, none⟩) pl l (some ⟨C, 0, none⟩) sl m ∧ Below w.heap.size w w' ∧ w.heap.size ≤ B ∧ B < C

set_option maxHeartbeats 4000000 in
theorem tojob_any (p s : Option Addr) (pl pc sl sc : Nat) (e1 : Bool) (o1 n1 : Int) (l : Instrs) (m : Strs) (w : World) (h : JobAt w p pl l s sl m) (hpl : pl ≤ 1048576) (hsl : sl ≤ 1048576) :
    Calls Tryz.prog 6 #[.agg #[.slice p pl pc, .bool e1, .int .i64 o1, .int .i64 n1, .slice s sl sc]] w (MadeJob pl e1 o1 n1 l sl m w) := by
  obtain ⟨bx, hbx⟩ : ∃ bx : Array Value, #[.slice p pl pc, .bool e1, .int .i64 o1, .int .i64 n1, .slice s sl sc] = bx := ⟨_, rfl⟩
  obtain ⟨z, hz⟩ : ∃ z : Array Value, #[.slice none 0 0, .bool false, .int .i64 0, .int .i64 0, .slice none 0 0] = z := ⟨_, rfl⟩
  obtain ⟨W0, hW0⟩ : ∃ W0, ((w.alloc (.cells bx 25)).alloc (.cells z 32)).alloc (.cells z 32) = W0 := ⟨_, rfl⟩
  have hB0 : Below w.heap.size w W0 := by rw [← hW0]; exact below_alloc (below_alloc (below_alloc (Below.refl w.heap.size w) _) _) _
  have hX0 : Row W0 w.heap.size 25 bx := by rw [← hW0]; exact ((row_new w bx _).al _).al _
  have hR0 : Row W0 (w.heap.size + 1) 32 z := by rw [← hW0]; exact (row_new1 w _ z _).al _
  have hO0 : Row W0 (w.heap.size + 1 + 1) 32 z := by
    have := row_new1 (w.alloc (.cells bx 25)) (.cells z 32) z 32
    rw [← hW0]
    simpa using this
  rw [← hbx] at hX0
  rw [← hz] at hR0 hO0
  rw [← hbx, ← hz] at hW0
  clear hbx hz bx z
  have HB := Lib.hid hB0
  have HX := Lib.hid hX0
  have HR := Lib.hid hR0
  have HO := Lib.hid hO0
  have HS := Lib.hid h
  have HW := Lib.hid hW0
  have HZ := Lib.hid (show w.heap.size + 1 + 1 < W0.heap.size from hO0.lt)
  clear h hB0 hX0 hR0 hO0 hW0
  go_enter Tryz.func6, Tryz.ntmps6
  go_wp2_with fail
  rw [HW.out]
  refine (toinss_any _ _ _ _ _ (HS.out.keep HB.out).i hpl).mono ?_
  rintro e w1 ⟨rfl, hO, hB, cur1, hr1, _⟩
  obtain ⟨B, hBe⟩ : ∃ B, W0.heap.size = B := ⟨_, rfl⟩
  rw [hBe] at hO hr1 ⊢
  have HBB := Lib.hid (show w.heap.size + 1 + 1 < B ∧ B < w1.heap.size from ⟨by rw [← hBe]; exact HZ.out, hr1.lt⟩)
  have HX := Lib.hid (HX.out.keep hB)
  have HO := Lib.hid (HO.out.keep hB)
  have HR := Lib.hid (HR.out.keep hB)
  have HB := Lib.hid (below_via HB.out hB)
  have HOO := Lib.hid hO
  have c1 := HX.out.cell (j := 1) (by simp)
  have c2 := HX.out.cell (j := 2) (by simp)
  have c3 := HX.out.cell (j := 3) (by simp)
  have c4 := HX.out.cell (j := 4) (by simp)
  have d0 := HO.out.cell (j := 0) (by simp)
  have d1 := HO.out.cell (j := 1) (by simp)
  have d2 := HO.out.cell (j := 2) (by simp)
  have d3 := HO.out.cell (j := 3) (by simp)
  have f0 := HO.out.free 0
  have f1 := HO.out.free 1
  have f2 := HO.out.free 2
  have f3 := HO.out.free 3
  simp at c1 c2 c3 c4 d0 d1 d2 d3
  clear hB hO hBe hr1
  go_wp2_with fail
  obtain ⟨P, hP⟩ : ∃ P : Value, .slice (some ⟨B, 0, none⟩) pl pl = P := ⟨_, rfl⟩
  have HP := Lib.hid hP
  obtain ⟨O, hOe⟩ : ∃ O, w.heap.size + 1 + 1 = O := ⟨_, rfl⟩
  have HOE := Lib.hid hOe
  rw [hOe] at HO d0 d1 d2 d3 f0 f1 f2 f3
  simp only [hP, hOe]
  have e1' : ∀ b off, (some (⟨B, 0, none⟩ : Addr)) = some ⟨b, off, none⟩ → b ≠ O := fun b off e => by simp only [Option.some.injEq, Addr.mk.injEq] at e; have := HBB.out.1; omega
  have hro : w.heap.size + 1 ≠ O := by omega
  have hbo : w.heap.size ≤ O := by omega
  have HI := Lib.hid ((((HOO.out.put e1' 0 P).put e1' 1 (.bool e1)).put e1' 2 (.int .i64 o1)).put e1' 3 (.int .i64 n1))
  have HR := Lib.hid ((((HR.out.put hro 0 P).put hro 1 (.bool e1)).put hro 2 (.int .i64 o1)).put hro 3 (.int .i64 n1))
  have HO := Lib.hid ((((HO.out.set 0 P).set 1 (.bool e1)).set 2 (.int .i64 o1)).set 3 (.int .i64 n1))
  have HB := Lib.hid ((((HB.out.setCell (p := ⟨O, 0, none⟩) hbo P).setCell (p := ⟨O, 1, none⟩) hbo (.bool e1)).setCell (p := ⟨O, 2, none⟩) hbo (.int .i64 o1)).setCell (p := ⟨O, 3, none⟩) hbo (.int .i64 n1))
  have hsz4 : ((((w1.setCell ⟨O, 0, none⟩ P).setCell ⟨O, 1, none⟩ (.bool e1)).setCell ⟨O, 2, none⟩ (.int .i64 o1)).setCell ⟨O, 3, none⟩ (.int .i64 n1)).heap.size = w1.heap.size := by simp [World.setCell]
  obtain ⟨W4, hW4⟩ : ∃ W4, (((w1.setCell ⟨O, 0, none⟩ P).setCell ⟨O, 1, none⟩ (.bool e1)).setCell ⟨O, 2, none⟩ (.int .i64 o1)).setCell ⟨O, 3, none⟩ (.int .i64 n1) = W4 := ⟨_, rfl⟩
  rw [hW4] at HI HR HO HB hsz4 ⊢
  have HBC := Lib.hid (show B < W4.heap.size by rw [hsz4]; exact HBB.out.2)
  clear hW4 hsz4 c1 c2 c3 c4 d0 d1 d2 d3 f0 f1 f2 f3 HOO
  refine (tostrs_any _ _ _ _ _ (HS.out.keep HB.out).t hsl).mono ?_
  rintro e w2 ⟨rfl, hG, hB, _⟩
  obtain ⟨C, hCe⟩ : ∃ C, W4.heap.size = C := ⟨_, rfl⟩
  rw [hCe] at hG HBC ⊢
  have HI := Lib.hid (HI.out.keep hB)
  have HR := Lib.hid (HR.out.keep hB)
  have HO := Lib.hid (HO.out.keep hB)
  have HB := Lib.hid (below_via HB.out hB)
  have HG := Lib.hid hG
  clear hB hG hCe
  have d0 := HO.out.cell (j := 0) (by simp)
  have d1 := HO.out.cell (j := 1) (by simp)
  have d2 := HO.out.cell (j := 2) (by simp)
  have d3 := HO.out.cell (j := 3) (by simp)
  have d4 := HO.out.cell (j := 4) (by simp)
  have f0 := HO.out.free 0
  have f1 := HO.out.free 1
  have f2 := HO.out.free 2
  have f3 := HO.out.free 3
  have f4 := HO.out.free 4
  have r0 := HR.out.cell (j := 0) (by simp)
  have r1 := HR.out.cell (j := 1) (by simp)
  have r2 := HR.out.cell (j := 2) (by simp)
  have r3 := HR.out.cell (j := 3) (by simp)
  have r4 := HR.out.cell (j := 4) (by simp)
  have s0 := HR.out.free 0
  have s1 := HR.out.free 1
  have s2 := HR.out.free 2
  have s3 := HR.out.free 3
  have s4 := HR.out.free 4
  simp at d0 d1 d2 d3 d4 r0 r1 r2 r3 r4
  obtain rfl := HP.out
  go_wp2_with fail
  have hoe : w.heap.size + 1 + 1 = O := HOE.out
  have hbb := HBB.out.1
  have hbc := HBC.out
  have hb := (((((HR.out.put (show w.heap.size + 1 ≠ O by omega) 4 (.slice (some ⟨C, 0, none⟩) sl sl)).set 0 (.slice (some ⟨B, 0, none⟩) pl pl)).set 1 (.bool e1)).set 2 (.int .i64 o1)).set 3 (.int .i64 n1)).set 4 (.slice (some ⟨C, 0, none⟩) sl sl)
  unfold Row at hb
  have q1 : ∀ b off, (some (⟨B, 0, none⟩ : Addr)) = some ⟨b, off, none⟩ → b ≠ O := fun b off e => by simp only [Option.some.injEq, Addr.mk.injEq] at e; omega
  have q2 : ∀ b off, (some (⟨B, 0, none⟩ : Addr)) = some ⟨b, off, none⟩ → b ≠ w.heap.size + 1 := fun b off e => by simp only [Option.some.injEq, Addr.mk.injEq] at e; omega
  have q3 : ∀ b off, (some (⟨C, 0, none⟩ : Addr)) = some ⟨b, off, none⟩ → b ≠ O := fun b off e => by simp only [Option.some.injEq, Addr.mk.injEq] at e; omega
  have q4 : ∀ b off, (some (⟨C, 0, none⟩ : Addr)) = some ⟨b, off, none⟩ → b ≠ w.heap.size + 1 := fun b off e => by simp only [Option.some.injEq, Addr.mk.injEq] at e; omega
  refine bodyPost_ret (v := .agg #[.slice (some ⟨B, 0, none⟩) pl pl, .bool e1, .int .i64 o1, .int .i64 n1, .slice (some ⟨C, 0, none⟩) sl sl]) (by simp [results, Tryz.results6, go_sem, World.cell?, hb]) rfl ⟨B, C, rfl, ⟨?_, ?_⟩, ?_, by omega, hbc⟩
  · exact (((((HI.out.put q1 _ _).put q2 _ _).put q2 _ _).put q2 _ _).put q2 _ _).put q2 _ _
  · exact (((((HG.out.put q3 _ _).put q4 _ _).put q4 _ _).put q4 _ _).put q4 _ _).put q4 _ _
  · have k1 : w.heap.size ≤ O := by omega
    have k2 : w.heap.size ≤ w.heap.size + 1 := by omega
    exact (((((HB.out.setCell (p := ⟨O, 4, none⟩) k1 _).setCell (p := ⟨w.heap.size + 1, 0, none⟩) k2 _).setCell (p := ⟨w.heap.size + 1, 1, none⟩) k2 _).setCell (p := ⟨w.heap.size + 1, 2, none⟩) k2 _).setCell (p := ⟨w.heap.size + 1, 3, none⟩) k2 _).setCell (p := ⟨w.heap.size + 1, 4, none⟩) k2 _

set_option maxHeartbeats 1000000 in
theorem eqjob_same (p1 s1 p2 s2 : Option Addr) (pl c1 c2 sl d1 d2 : Nat) (e1 : Bool) (o1 n1 : Int) (l : Instrs) (m : Strs) (w : World) (h1 : JobAt w p1 pl l s1 sl m) (h2 : JobAt w p2 pl l s2 sl m) :
    Calls Tryz.prog 9 #[.agg #[.slice p1 pl c1, .bool e1, .int .i64 o1, .int .i64 n1, .slice s1 sl d1], .agg #[.slice p2 pl c2, .bool e1, .int .i64 o1, .int .i64 n1, .slice s2 sl d2]] w (MadeBool true w) := by
  have hB1 := below_alloc (Below.refl w.heap.size w) (.cells #[.slice p1 pl c1, .bool e1, .int .i64 o1, .int .i64 n1, .slice s1 sl d1] 32)
  have HB := Lib.hid (below_alloc hB1 (.cells #[.slice p2 pl c2, .bool e1, .int .i64 o1, .int .i64 n1, .slice s2 sl d2] 32))
  have HX := Lib.hid ((row_new w #[.slice p1 pl c1, .bool e1, .int .i64 o1, .int .i64 n1, .slice s1 sl d1] 32).al (.cells #[.slice p2 pl c2, .bool e1, .int .i64 o1, .int .i64 n1, .slice s2 sl d2] 32))
  have HY := Lib.hid (row_new1 w (.cells #[.slice p1 pl c1, .bool e1, .int .i64 o1, .int .i64 n1, .slice s1 sl d1] 32) #[.slice p2 pl c2, .bool e1, .int .i64 o1, .int .i64 n1, .slice s2 sl d2] 32)
  have HS1 := Lib.hid (h1.keep HB.out)
  have HS2 := Lib.hid (h2.keep HB.out)
  clear h1 h2 hB1
  go_enter Tryz.func9, Tryz.ntmps9
  go_wp2_with fail
  refine (eqinss_same _ _ _ _ _ _ _ HS1.out.i HS2.out.i).mono ?_
  rintro e w1 ⟨rfl, hB⟩
  have HX := Lib.hid (HX.out.keep hB)
  have HY := Lib.hid (HY.out.keep hB)
  have HS1 := Lib.hid (HS1.out.keep hB)
  have HS2 := Lib.hid (HS2.out.keep hB)
  have HB := Lib.hid (below_via HB.out hB)
  have x1 := HX.out.cell (j := 1) (by simp)
  have x2 := HX.out.cell (j := 2) (by simp)
  have x3 := HX.out.cell (j := 3) (by simp)
  have x4 := HX.out.cell (j := 4) (by simp)
  have y1 := HY.out.cell (j := 1) (by simp)
  have y2 := HY.out.cell (j := 2) (by simp)
  have y3 := HY.out.cell (j := 3) (by simp)
  have y4 := HY.out.cell (j := 4) (by simp)
  simp at x1 x2 x3 x4 y1 y2 y3 y4
  clear hB
  go_wp2_with fail
  refine (eqstrs_same _ _ _ _ _ _ _ HS1.out.t HS2.out.t).mono ?_
  rintro e w2 ⟨rfl, hB⟩
  have HB := Lib.hid (below_via HB.out hB)
  clear hB
  go_wp2
  go_ret
  exact ⟨rfl, HB.out⟩
end Go.Proofs.YtdphganbnlmgcaaGreatDoor
