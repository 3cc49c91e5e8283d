/- Texts put together, as a claim holds at most sixty files. -/
import Derived.Test.YtbjlojmadellgaaGreatDoorMg1
import Derived.Test.YtbjlojmadellgaaGreatDoorMg0
import Derived.OwnWalk
import Derived.WalkKit
import Derived.ProofKit
import Derived.OpenShut
import Derived.WalkLawsBesides
import Derived.Deep.QuietTactic
import Derived.BigQuiet
import Derived.Deep.RegionHeld3
import Derived.Lib.Hide
import Derived.Outline
namespace Go.Proofs.YtbjlojmadellgaaGreatDoor
open Go.ChangeShapes Go.WideShapes Go.ChangeAt Go.RowKit
set_option linter.unusedVariables false
set_option maxRecDepth 100000

def takesB : Nat → ByteArray
  | 4 => ⟨#[84, 84]⟩ | 5 => ⟨#[84]⟩ | 6 => ⟨#[84]⟩ | 7 => ⟨#[78]⟩ | 8 => ⟨#[78, 78]⟩ | 9 => ⟨#[78, 78]⟩ | 10 => ⟨#[78, 78]⟩ | 11 => ⟨#[78, 78]⟩
  | 12 => ⟨#[84, 84]⟩ | 13 => ⟨#[84, 78]⟩ | 14 => ⟨#[84, 78, 78]⟩ | _ => ByteArray.empty
def givesB : Nat → ByteArray
  | 1 => ⟨#[84]⟩ | 2 => ⟨#[84]⟩ | 3 => ⟨#[78]⟩ | 4 => ⟨#[84]⟩ | 5 => ⟨#[78]⟩ | 6 => ⟨#[78]⟩ | 7 => ⟨#[84]⟩ | 8 => ⟨#[78]⟩ | 9 => ⟨#[78]⟩ | 10 => ⟨#[78]⟩ | 11 => ⟨#[78]⟩
  | 12 => ⟨#[78]⟩ | _ => ByteArray.empty
theorem takes_few (x : Nat) : (takesB x).size ≤ 3 := by
  unfold takesB; split <;> decide
theorem gives_few (x : Nat) : (givesB x).size ≤ 1 := by
  unfold givesB; split <;> decide

/-- The stack behind an instruction, or none. -/
def stepB (st tk gv : ByteArray) : Option ByteArray :=
  if tk.size ≤ st.size ∧ st.extract (st.size - tk.size) st.size = tk then some (st.extract 0 (st.size - tk.size) ++ gv) else none
def stk (l : Instrs) : Nat → Option ByteArray
  | 0 => some ByteArray.empty
  | k + 1 => match stk l k with
    | none => none
    | some st => if instrB (ins0 l k) (ins1 l k) (ins2 l k) = true then stepB st (takesB (ins0 l k).toNat) (givesB (ins0 l k).toNat) else none
def progB (l : Instrs) : Bool := decide (l.length ≤ 30) && decide (stk l l.length = some ByteArray.empty)

theorem stk_none {l : Instrs} {k n : Nat} (h : stk l k = none) (hk : k ≤ n) : stk l n = none := by
  induction n with
  | zero => obtain rfl : k = 0 := by omega
            exact h
  | succ n ih =>
    rcases Nat.lt_or_ge n k with h1 | h1
    · obtain rfl : k = n + 1 := by omega
      exact h
    · rw [stk, ih h1]
theorem prog_long {l : Instrs} (h : ¬ l.length ≤ 30) : progB l = false := by
  unfold progB; rw [decide_eq_false h]; rfl
theorem prog_bad {l : Instrs} {k : Nat} (hk : k ≤ l.length) (h : stk l k = none) : progB l = false := by
  unfold progB; rw [stk_none h hk]; simp
theorem prog_end {l : Instrs} {st : ByteArray} (h30 : l.length ≤ 30) (h : stk l l.length = some st) : progB l = decide (st.size = 0) := by
  unfold progB
  rw [h, decide_eq_true h30, Bool.true_and]
  by_cases hs : st.size = 0
  · have : st = ByteArray.empty := ByteArray.ext (Array.eq_empty_of_size_eq_zero hs)
    rw [this]; rfl
  · rw [decide_eq_false hs, decide_eq_false]
    intro he
    rw [Option.some.injEq] at he
    rw [he] at hs
    exact hs rfl
theorem stk_step {l : Instrs} {k : Nat} {st : ByteArray} (h : stk l k = some st) (hi : instrB (ins0 l k) (ins1 l k) (ins2 l k) = true) :
    stk l (k + 1) = stepB st (takesB (ins0 l k).toNat) (givesB (ins0 l k).toNat) := by
  rw [stk, h]; simp only [hi, if_pos]
theorem stk_wrong {l : Instrs} {k : Nat} (hi : instrB (ins0 l k) (ins1 l k) (ins2 l k) = false) : stk l (k + 1) = none := by
  rw [stk]
  split
  · rfl
  · rw [hi]; rfl
theorem step_short {st tk gv : ByteArray} (h : st.size < tk.size) : stepB st tk gv = none := by
  unfold stepB; rw [if_neg (by omega)]
theorem step_other {st tk gv : ByteArray} (h : st.extract (st.size - tk.size) st.size ≠ tk) : stepB st tk gv = none := by
  unfold stepB; rw [if_neg (fun h2 => h h2.2)]
theorem step_fits {st tk gv : ByteArray} (h0 : tk.size ≤ st.size) (h : st.extract (st.size - tk.size) st.size = tk) : stepB st tk gv = some (st.extract 0 (st.size - tk.size) ++ gv) := by
  unfold stepB; rw [if_pos ⟨h0, h⟩]
theorem step_size {st tk gv r : ByteArray} (h : stepB st tk gv = some r) (hg : gv.size ≤ 1) : r.size ≤ st.size + 1 := by
  unfold stepB at h
  split at h
  · rw [Option.some.injEq] at h
    rw [← h, ByteArray.size_append, ByteArray.size_extract]
    omega
  · cases h
theorem instr_op {op n : Int} {s : ByteArray} (h : instrB op n s = true) : 1 ≤ op ∧ op ≤ 14 := by
  unfold instrB at h
  split at h
  · omega
  · split at h
    · omega
    · split at h
      · omega
      · rw [Bool.and_eq_true, decide_eq_true_eq] at h
        omega
end Go.Proofs.YtbjlojmadellgaaGreatDoor
namespace Go.Proofs.YtbjlojmadellgaaGreatDoor
open Go.ChangeShapes Go.WideShapes Go.ChangeAt Go.RowKit
set_option linter.unusedVariables false
set_option maxRecDepth 100000

set_option maxHeartbeats 1000000 in
theorem eqins_same (x0 : Int) (x1 : Int) (x2 : ByteArray) (w : World) : Calls Tryz.prog 55 #[.agg #[.int .i64 x0, .int .i64 x1, .string x2], .agg #[.int .i64 x0, .int .i64 x1, .string x2]] w (MadeBool true w) := by
  go_enter Tryz.func55, Tryz.ntmps55
  go_wp2
  go_ret
  exact ⟨rfl, below_alloc (below_alloc (Below.refl _ _) _) _⟩

set_option maxHeartbeats 2000000 in
theorem eqinss_same (a1 a2 : Option Addr) (len cap1 cap2 : Nat) (l : Instrs) (w : World) (h1 : InstrsAt w a1 len l) (h2 : InstrsAt w a2 len l) :
    Calls Tryz.prog 31 #[.slice a1 len cap1, .slice a2 len cap2] w (MadeBool true w) := by
  have hm := h1.max
  unfold maxLen at hm
  have HR1 := Lib.hid h1
  have HR2 := Lib.hid h2
  clear h1 h2
  go_enter Tryz.func31, Tryz.ntmps31
  go_wp2
  go_loopw [5] (fun i wr => ∃ k : Nat, k ≤ len ∧ i = .int .i64 k ∧ Hid (Below w.heap.size w wr)) (fun i _ => len - (intOf i).toNat)
  case atStart => exact ⟨0, Nat.zero_le _, rfl, Below.refl _ _⟩
  case round =>
    obtain ⟨k, hk, rfl, HW⟩ := hrel
    by_cases hlt : k < len
    · rcases HR1.out.src with hz | ⟨b1, off1, rfl, hb1, hc1⟩
      · omega
      · rcases HR2.out.src with hz | ⟨b2, off2, rfl, hb2, hc2⟩
        · omega
        · have c0 := (HW.out.cell (p := ⟨b1, off1 + k * 3, none⟩) hb1).trans (hc1 k hlt).1
          have c1 := (HW.out.cell (p := ⟨b1, off1 + k * 3 + 1, none⟩) hb1).trans (hc1 k hlt).2.1
          have c2 := (HW.out.cell (p := ⟨b1, off1 + k * 3 + 2, none⟩) hb1).trans (hc1 k hlt).2.2
          have d0 := (HW.out.cell (p := ⟨b2, off2 + k * 3, none⟩) hb2).trans (hc2 k hlt).1
          have d1 := (HW.out.cell (p := ⟨b2, off2 + k * 3 + 1, none⟩) hb2).trans (hc2 k hlt).2.1
          have d2 := (HW.out.cell (p := ⟨b2, off2 + k * 3 + 2, none⟩) hb2).trans (hc2 k hlt).2.2
          have HB := Lib.hid HW.out.drew
          clear hc1 hc2 hb1 hb2
          go_wp2_with fail
          go_region_held3 (fun w' => Hid (Below w.heap.size w w') ∧ w'.cell? ⟨b1, off1 + k * 3, none⟩ = some (.int .i64 (ins0 l k)) ∧ w'.cell? ⟨b1, off1 + k * 3 + 1, none⟩ = some (.int .i64 (ins1 l k)) ∧ w'.cell? ⟨b1, off1 + k * 3 + 2, none⟩ = some (.string (ins2 l k)) ∧ w'.cell? ⟨b2, off2 + k * 3, none⟩ = some (.int .i64 (ins0 l k)) ∧ w'.cell? ⟨b2, off2 + k * 3 + 1, none⟩ = some (.int .i64 (ins1 l k)) ∧ w'.cell? ⟨b2, off2 + k * 3 + 2, none⟩ = some (.string (ins2 l k)))
            (first | exact ⟨HB, c0, c1, c2, d0, d1, d2⟩ | exact ⟨HB, e0, e1, e2, f0, f1, f2⟩)
            (first | (go_at_call 55; refine (eqins_same _ _ _ _).mono ?_; rintro e w2 ⟨rfl, hB⟩; have e0 := (hB.cell (p := ⟨b1, off1 + k * 3, none⟩) (World.block_lt_of_cell? _ _ c0)).trans c0; have e1 := (hB.cell (p := ⟨b1, off1 + k * 3 + 1, none⟩) (World.block_lt_of_cell? _ _ c1)).trans c1; have e2 := (hB.cell (p := ⟨b1, off1 + k * 3 + 2, none⟩) (World.block_lt_of_cell? _ _ c2)).trans c2; have f0 := (hB.cell (p := ⟨b2, off2 + k * 3, none⟩) (World.block_lt_of_cell? _ _ d0)).trans d0; have f1 := (hB.cell (p := ⟨b2, off2 + k * 3 + 1, none⟩) (World.block_lt_of_cell? _ _ d1)).trans d1; have f2 := (hB.cell (p := ⟨b2, off2 + k * 3 + 2, none⟩) (World.block_lt_of_cell? _ _ d2)).trans d2; have HB := Lib.hid (below_via HB.out hB); clear hB))
          go_wp2
          go_roundw
          case rel => exact ⟨k + 1, by omega, by go_num, HB⟩
          case measure => simp [intOf]; omega
    · go_wp2
      go_ret
      exact ⟨rfl, HW.out⟩
end Go.Proofs.YtbjlojmadellgaaGreatDoor
namespace Go.Proofs.YtbjlojmadellgaaGreatDoor
open Go.ChangeShapes Go.WideShapes Go.ChangeAt Go.RowKit
set_option linter.unusedVariables false
set_option maxRecDepth 100000

abbrev States := List (Int × Int × Int)
def bst0 (l : States) (i : Nat) : Int := (l.getD i (0, 0, 0)).1
def bst1 (l : States) (i : Nat) : Int := (l.getD i (0, 0, 0)).2.1
def bst2 (l : States) (i : Nat) : Int := (l.getD i (0, 0, 0)).2.2

/-- The slice (a, len, cap) holds the values l. -/
structure StatesAt (w : World) (a : Option Addr) (len : Nat) (l : States) : Prop where
  length : l.length = len
  max : len ≤ maxLen
  keys : ∀ i, i < len → True
  src : len = 0 ∨ ∃ b off, a = some ⟨b, off, none⟩ ∧ b < w.heap.size ∧ ∀ i, i < len → w.cell? ⟨b, off + i * 3, none⟩ = some (.int .i64 (bst0 l i)) ∧ w.cell? ⟨b, off + i * 3 + 1, none⟩ = some (.int .i64 (bst1 l i)) ∧ w.cell? ⟨b, off + i * 3 + 2, none⟩ = some (.int .i64 (bst2 l i))

theorem StatesAt.keep {w w1 : World} {a : Option Addr} {len : Nat} {l : States} (h : StatesAt w a len l) (hB : Below w.heap.size w w1) : StatesAt w1 a len l := by
  refine ⟨h.length, h.max, h.keys, ?_⟩
  rcases h.src with h0 | ⟨b, off, ha, hb, hc⟩
  · exact .inl h0
  · exact .inr ⟨b, off, ha, Nat.lt_of_lt_of_le hb hB.size, fun i hi => ⟨(hB.cell (p := ⟨b, off + i * 3, none⟩) hb).trans (hc i hi).1, (hB.cell (p := ⟨b, off + i * 3 + 1, none⟩) hb).trans (hc i hi).2.1, (hB.cell (p := ⟨b, off + i * 3 + 2, none⟩) hb).trans (hc i hi).2.2⟩⟩

theorem StatesAt.put {w : World} {a : Option Addr} {len : Nat} {l : States} (h : StatesAt w a len l) {X : Nat} (hne : ∀ b off, a = some ⟨b, off, none⟩ → b ≠ X) (j : Nat) (v : Value) : StatesAt (w.setCell ⟨X, j, none⟩ v) a len l := by
  refine ⟨h.length, h.max, h.keys, ?_⟩
  rcases h.src with h0 | ⟨b, off, ha, hb, hc⟩
  · exact .inl h0
  · have e : ∀ o, (w.setCell ⟨X, j, none⟩ v).cell? ⟨b, o, none⟩ = w.cell? ⟨b, o, none⟩ := fun o => by
      simp only [World.cell?, Below.heap_setCell w ⟨X, j, none⟩ v b (hne b off ha)]
    exact .inr ⟨b, off, ha, by simpa [World.setCell] using hb, fun i hi => by simpa only [e] using hc i hi⟩

def StateSized1 (left : Int)  (w : World) (e : Ending) (w' : World) : Prop :=
  ∃ x : Int, -1 ≤ x ∧ x ≤ left ∧ e = .returned (.int .i64 x) ∧ Below w.heap.size w w' ∧ (0 ≤ x → True)

def StateSized (len : Nat) (l : States) (w : World) (e : Ending) (w' : World) : Prop :=
  ∃ x : Int, -1 ≤ x ∧ x ≤ 1048576 ∧ e = .returned (.int .i64 x) ∧ Below w.heap.size w w' ∧ (0 ≤ x → len ≤ 1048576 ∧ ∀ i, i < len → True)

theorem infoState : (Tryz.prog.info? 77).map (fun i => (i.zero, i.size, i.bytes)) = some (some (.agg #[.int .i64 0, .int .i64 0, .int .i64 0]), 3, 24) := by kernel_rfl

def StateLaid (cur : Array Value) (l : States) (k : Nat) : Prop := ∀ j, j < k → cur[j * 3]? = some (.int .i64 (bst0 l j)) ∧ cur[j * 3 + 1]? = some (.int .i64 (bst1 l j)) ∧ cur[j * 3 + 2]? = some (.int .i64 (bst2 l j))
theorem StateLaid.step {cur : Array Value} {l : States} {k len : Nat} (h : StateLaid cur l k) (hs : cur.size = len * 3) (hk : k < len) :
    StateLaid (((cur.setIfInBounds (k * 3) (.int .i64 (bst0 l k))).setIfInBounds (k * 3 + 1) (.int .i64 (bst1 l k))).setIfInBounds (k * 3 + 2) (.int .i64 (bst2 l k))) l (k + 1) := by
  intro j hj
  rcases Nat.lt_or_ge j k with hlt | hge
  · obtain ⟨e0, e1, e2⟩ := h j hlt
    refine ⟨?_, ?_, ?_⟩
    · rw [Array.getElem?_setIfInBounds_ne (by omega), Array.getElem?_setIfInBounds_ne (by omega), Array.getElem?_setIfInBounds_ne (by omega)]; exact e0
    · rw [Array.getElem?_setIfInBounds_ne (by omega), Array.getElem?_setIfInBounds_ne (by omega), Array.getElem?_setIfInBounds_ne (by omega)]; exact e1
    · rw [Array.getElem?_setIfInBounds_ne (by omega), Array.getElem?_setIfInBounds_ne (by omega), Array.getElem?_setIfInBounds_ne (by omega)]; exact e2
  · obtain rfl : j = k := by omega
    refine ⟨?_, ?_, ?_⟩
    · rw [Array.getElem?_setIfInBounds_ne (by omega), Array.getElem?_setIfInBounds_ne (by omega)]; rw [Array.getElem?_setIfInBounds_self_of_lt (by first | omega | (simp only [Array.size_setIfInBounds]; omega))]
    · rw [Array.getElem?_setIfInBounds_ne (by omega)]; rw [Array.getElem?_setIfInBounds_self_of_lt (by first | omega | (simp only [Array.size_setIfInBounds]; omega))]
    · rw [Array.getElem?_setIfInBounds_self_of_lt (by first | omega | (simp only [Array.size_setIfInBounds]; omega))]

theorem StatesAt.ofRow {w : World} {B len : Nat} {E : TypeId} {cur : Array Value} {l : States} (h : Row w B E cur) (hl : l.length = len) (hm : len ≤ maxLen) (hk : ∀ i, i < len → True) (hlaid : StateLaid cur l len) : StatesAt w (some ⟨B, 0, none⟩) len l := by
  refine ⟨hl, hm, hk, .inr ⟨B, 0, rfl, h.lt, fun i hi => ?_⟩⟩
  obtain ⟨e0, e1, e2⟩ := hlaid i hi
  unfold Row at h
  simp [World.cell?, h, e0, e1, e2]

def MadeState (x0 : Int) (x1 : Int) (x2 : Int) (w : World) (e : Ending) (w' : World) : Prop := e = .returned (.agg #[.int .i64 x0, .int .i64 x1, .int .i64 x2]) ∧ Below w.heap.size w w'

/-- The end of the laws' copy: a new slice of the same values. -/
def MadeStates (len : Nat) (l : States) (w : World) (e : Ending) (w' : World) : Prop :=
  e = .returned (.slice (some ⟨w.heap.size, 0, none⟩) len len) ∧ StatesAt w' (some ⟨w.heap.size, 0, none⟩) len l ∧ Below w.heap.size w w' ∧ ∃ cur, Row w' w.heap.size 77 cur ∧ cur.size = len * 3

end Go.Proofs.YtbjlojmadellgaaGreatDoor
namespace Go.Proofs.YtbjlojmadellgaaGreatDoor
open Go.ChangeShapes Go.WideShapes Go.ChangeAt Go.RowKit
set_option linter.unusedVariables false
set_option maxRecDepth 100000

set_option maxHeartbeats 1000000 in
theorem eqbst_same (x0 : Int) (x1 : Int) (x2 : Int) (w : World) : Calls Tryz.prog 39 #[.agg #[.int .i64 x0, .int .i64 x1, .int .i64 x2], .agg #[.int .i64 x0, .int .i64 x1, .int .i64 x2]] w (MadeBool true w) := by
  go_enter Tryz.func39, Tryz.ntmps39
  go_wp2
  go_ret
  exact ⟨rfl, below_alloc (below_alloc (Below.refl _ _) _) _⟩

set_option maxHeartbeats 2000000 in
theorem eqbsts_same (a1 a2 : Option Addr) (len cap1 cap2 : Nat) (l : States) (w : World) (h1 : StatesAt w a1 len l) (h2 : StatesAt w a2 len l) :
    Calls Tryz.prog 15 #[.slice a1 len cap1, .slice a2 len cap2] w (MadeBool true w) := by
  have hm := h1.max
  unfold maxLen at hm
  have HR1 := Lib.hid h1
  have HR2 := Lib.hid h2
  clear h1 h2
  go_enter Tryz.func15, Tryz.ntmps15
  go_wp2
  go_loopw [5] (fun i wr => ∃ k : Nat, k ≤ len ∧ i = .int .i64 k ∧ Hid (Below w.heap.size w wr)) (fun i _ => len - (intOf i).toNat)
  case atStart => exact ⟨0, Nat.zero_le _, rfl, Below.refl _ _⟩
  case round =>
    obtain ⟨k, hk, rfl, HW⟩ := hrel
    by_cases hlt : k < len
    · rcases HR1.out.src with hz | ⟨b1, off1, rfl, hb1, hc1⟩
      · omega
      · rcases HR2.out.src with hz | ⟨b2, off2, rfl, hb2, hc2⟩
        · omega
        · have c0 := (HW.out.cell (p := ⟨b1, off1 + k * 3, none⟩) hb1).trans (hc1 k hlt).1
          have c1 := (HW.out.cell (p := ⟨b1, off1 + k * 3 + 1, none⟩) hb1).trans (hc1 k hlt).2.1
          have c2 := (HW.out.cell (p := ⟨b1, off1 + k * 3 + 2, none⟩) hb1).trans (hc1 k hlt).2.2
          have d0 := (HW.out.cell (p := ⟨b2, off2 + k * 3, none⟩) hb2).trans (hc2 k hlt).1
          have d1 := (HW.out.cell (p := ⟨b2, off2 + k * 3 + 1, none⟩) hb2).trans (hc2 k hlt).2.1
          have d2 := (HW.out.cell (p := ⟨b2, off2 + k * 3 + 2, none⟩) hb2).trans (hc2 k hlt).2.2
          have HB := Lib.hid HW.out.drew
          clear hc1 hc2 hb1 hb2
          go_wp2_with fail
          go_region_held3 (fun w' => Hid (Below w.heap.size w w') ∧ w'.cell? ⟨b1, off1 + k * 3, none⟩ = some (.int .i64 (bst0 l k)) ∧ w'.cell? ⟨b1, off1 + k * 3 + 1, none⟩ = some (.int .i64 (bst1 l k)) ∧ w'.cell? ⟨b1, off1 + k * 3 + 2, none⟩ = some (.int .i64 (bst2 l k)) ∧ w'.cell? ⟨b2, off2 + k * 3, none⟩ = some (.int .i64 (bst0 l k)) ∧ w'.cell? ⟨b2, off2 + k * 3 + 1, none⟩ = some (.int .i64 (bst1 l k)) ∧ w'.cell? ⟨b2, off2 + k * 3 + 2, none⟩ = some (.int .i64 (bst2 l k)))
            (first | exact ⟨HB, c0, c1, c2, d0, d1, d2⟩ | exact ⟨HB, e0, e1, e2, f0, f1, f2⟩)
            (first | (go_at_call 39; refine (eqbst_same _ _ _ _).mono ?_; rintro e w2 ⟨rfl, hB⟩; have e0 := (hB.cell (p := ⟨b1, off1 + k * 3, none⟩) (World.block_lt_of_cell? _ _ c0)).trans c0; have e1 := (hB.cell (p := ⟨b1, off1 + k * 3 + 1, none⟩) (World.block_lt_of_cell? _ _ c1)).trans c1; have e2 := (hB.cell (p := ⟨b1, off1 + k * 3 + 2, none⟩) (World.block_lt_of_cell? _ _ c2)).trans c2; have f0 := (hB.cell (p := ⟨b2, off2 + k * 3, none⟩) (World.block_lt_of_cell? _ _ d0)).trans d0; have f1 := (hB.cell (p := ⟨b2, off2 + k * 3 + 1, none⟩) (World.block_lt_of_cell? _ _ d1)).trans d1; have f2 := (hB.cell (p := ⟨b2, off2 + k * 3 + 2, none⟩) (World.block_lt_of_cell? _ _ d2)).trans d2; have HB := Lib.hid (below_via HB.out hB); clear hB))
          go_wp2
          go_roundw
          case rel => exact ⟨k + 1, by omega, by go_num, HB⟩
          case measure => simp [intOf]; omega
    · go_wp2
      go_ret
      exact ⟨rfl, HW.out⟩
end Go.Proofs.YtbjlojmadellgaaGreatDoor
