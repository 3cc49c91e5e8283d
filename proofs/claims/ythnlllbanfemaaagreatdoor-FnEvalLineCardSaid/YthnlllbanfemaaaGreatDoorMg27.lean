/- Texts put together, as a claim holds at most sixty files. -/
import Derived.Test.YthnlllbanfemaaaGreatDoorMg25
import Derived.Test.YthnlllbanfemaaaGreatDoorMg5
import Derived.Test.YthnlllbanfemaaaGreatDoorMg4
import Derived.StillTailTactics
import Derived.Deep.RegionLaw
import Derived.Lib.LazyBuf
import Derived.Deep.DeepCutAuto
import Derived.Test.YthnlllbanfemaaaGreatDoorRows
import Derived.WalkKit
import Derived.RegionTactic
import Derived.Deep.RegionHeld3
namespace Go.Proofs.YthnlllbanfemaaaGreatDoor
open Go.ChangeShapes Go.WideShapes Go.ChangeAt Go.RowKit
set_option linter.unusedVariables false
set_option maxRecDepth 100000

def cellsL (W : Recs) : List Value := W.flatMap fun r => [Value.string r.1, Value.int .i64 r.2]
theorem cellsL_nil : cellsL [] = [] := rfl
theorem cellsL_snoc (W : Recs) (s : ByteArray) (n : Int) : cellsL (W ++ [(s, n)]) = cellsL W ++ [.string s, .int .i64 n] := by simp [cellsL]
theorem cellsL_append (W V : Recs) : cellsL (W ++ V) = cellsL W ++ cellsL V := by simp [cellsL]
theorem cellsL_len : ∀ W : Recs, (cellsL W).length = W.length * 2
  | [] => rfl
  | r :: t => by
    have := cellsL_len t
    simp only [cellsL] at this
    simp [cellsL, List.flatMap_cons, this]; omega
theorem cellsL_get : ∀ (W : Recs) (j : Nat), j < W.length → (cellsL W)[j * 2]? = some (.string (keyAt W j)) ∧ (cellsL W)[j * 2 + 1]? = some (.int .i64 (numAt W j))
  | [], j, h => by simp at h
  | r :: t, 0, h => by simp [cellsL, keyAt, numAt]
  | r :: t, j + 1, h => by
    have := cellsL_get t j (by simpa using h)
    have e : (j + 1) * 2 = j * 2 + 1 + 1 := by omega
    simp only [cellsL] at this
    rw [e]
    simp only [cellsL, List.flatMap_cons, List.cons_append, List.nil_append, List.getElem?_cons_succ]
    simpa [keyAt, numAt] using this

theorem two_new (w : World) (x y : Value) (t : TypeId) : ∀ j u, [x, y][j]? = some u → (w.alloc (.cells #[x, y] t)).cell? ((⟨w.heap.size, 0, none⟩ : Addr).add j) = some u := by
  intro j u hj
  match j, hj with
  | 0, hj => simp at hj; subst hj; simp [Addr.add]
  | 1, hj => simp at hj; subst hj; simp [Addr.add]
theorem two_new1 (w : World) (o : Obj) (x y : Value) (t : TypeId) : ∀ j u, [x, y][j]? = some u → ((w.alloc o).alloc (.cells #[x, y] t)).cell? ((⟨w.heap.size + 1, 0, none⟩ : Addr).add j) = some u := by
  have h := two_new (w.alloc o) x y t
  have e : (w.alloc o).heap.size = w.heap.size + 1 := by simp
  rw [e] at h
  exact h
theorem two_cells (s : ByteArray) (n : Int) : ∀ u ∈ [Value.string s, Value.int .i64 n], u.oneCell' = true := by
  intro u hu
  simp at hu
  rcases hu with rfl | rfl
  · rfl
  · rfl

/-- The slice (q, length of W) holds the records W in a row from block 'base' on. -/
def Rs (base : Nat) (w : World) (q : Option Addr) (W : Recs) : Prop :=
  W.length = 0 ∨ ∃ g cur, q = some ⟨g, 0, none⟩ ∧ base ≤ g ∧ Row w g 54 cur ∧ W.length * 2 ≤ cur.size ∧ Laid cur W W.length

theorem rs_of_own {base : Nat} {w : World} {q : Option Addr} {cp : Nat} {W : Recs} (h : w.ownsRow base 54 2 (.slice q W.length cp) W.length (cellsL W)) : Rs base w q W := by
  rcases h.2 with ⟨h1, h2⟩ | ⟨g, cap, cur, hv, hb, hh, h1, _, h3, h4⟩
  · simp only [Value.slice.injEq] at h1; exact .inl h1.2.1
  · simp only [Value.slice.injEq, true_and] at hv
    obtain ⟨rfl, rfl⟩ := hv
    refine .inr ⟨g, cur, rfl, hb, hh, by omega, fun j hj => ?_⟩
    obtain ⟨e1, e2⟩ := cellsL_get W j hj
    rw [← h4, List.getElem?_take_of_lt (by omega)] at e1 e2
    exact ⟨by simpa using e1, by simpa using e2⟩
theorem rs_keep {base : Nat} {w w1 : World} {q : Option Addr} {W : Recs} (h : Rs base w q W) (hB : Below w.heap.size w w1) : Rs base w1 q W := by
  rcases h with h0 | ⟨g, cur, rfl, hb, hr, h1, h2⟩
  · exact .inl h0
  · exact .inr ⟨g, cur, rfl, hb, hr.keep hB, h1, h2⟩
theorem rs_lt {base : Nat} {w : World} {q : Option Addr} {W : Recs} (h : Rs base w q W) (hn : 0 < W.length) : ∀ g, q = some ⟨g, 0, none⟩ → base ≤ g ∧ g < w.heap.size := by
  intro g hg
  rcases h with h0 | ⟨g', cur, rfl, hb, hr, h1, h2⟩
  · omega
  · simp only [Option.some.injEq, Addr.mk.injEq, and_true] at hg
    rw [← hg]; exact ⟨hb, hr.lt⟩
theorem rs_grown {base g : Nat} {w w1 : World} {q : Option Addr} {W : Recs} (h : Rs base w q W) (hg : w.grownBy w1 (some g)) (hne : 0 < W.length → ∀ g', q = some ⟨g', 0, none⟩ → g' ≠ g) : Rs base w1 q W := by
  rcases h with h0 | ⟨g', cur, rfl, hb, hr, h1, h2⟩
  · exact .inl h0
  · by_cases h0 : W.length = 0
    · exact .inl h0
    · exact .inr ⟨g', cur, rfl, hb, (hg.block g' hr.lt (by simpa using hne (by omega) g' rfl)).trans hr, h1, h2⟩
theorem recs_of_rs {base n : Nat} {w : World} {q : Option Addr} {W : Recs} (h : Rs base w q W) (hn : W.length = n) (hm : n ≤ maxLen) (hs : ∀ i, i < n → (keyAt W i).size ≤ maxLen) : RecsAt w q n W := by
  subst hn
  refine ⟨rfl, hm, hs, ?_⟩
  rcases h with h0 | ⟨g, cur, rfl, _, hr, _, hc⟩
  · exact .inl h0
  · refine .inr ⟨g, 0, rfl, hr.lt, fun i hi => ?_⟩
    obtain ⟨e1, e2⟩ := hc i hi
    unfold Row at hr
    simp [World.cell?, hr, e1, e2]

/-- Row B holds the marks from number k0 on in its first n records. -/
def MarkedR (cur : Array Value) (k0 n : Nat) : Prop := ∀ j, j < n → cur[j * 2]? = some (.string (mtext (k0 + 2 * j))) ∧ cur[j * 2 + 1]? = some (.int .i64 ((k0 + 2 * j + 1 : Nat) : Int))
theorem MarkedR.step {cur : Array Value} {k0 k : Nat} (h : MarkedR cur k0 k) (hk : k * 2 + 1 < cur.size) (x : Int) (hx : x = ((k0 + 2 * k + 1 : Nat) : Int)) : MarkedR ((cur.setIfInBounds (k * 2) (.string (mtext (k0 + 2 * k)))).setIfInBounds (k * 2 + 1) (.int .i64 x)) k0 (k + 1) := by
  subst hx
  intro j hj
  have h1 : k * 2 < cur.size := by omega
  rcases Nat.lt_or_ge j k with hlt | hge
  · obtain ⟨e1, e2⟩ := h j hlt
    constructor
    · rw [Array.getElem?_setIfInBounds_ne (by omega), Array.getElem?_setIfInBounds_ne (by omega)]; exact e1
    · rw [Array.getElem?_setIfInBounds_ne (by omega), Array.getElem?_setIfInBounds_ne (by omega)]; exact e2
  · obtain rfl : j = k := by omega
    constructor
    · rw [Array.getElem?_setIfInBounds_ne (by omega)]; simp [h1]
    · simp [hk]

/-- The end of marking records. -/
def MadeMarksR (B : Nat) (E : TypeId) (k0 len : Nat) (w : World) (e : Ending) (w' : World) : Prop :=
  e = .returned (.int .i64 ((k0 + 2 * len : Nat) : Int)) ∧ w.grownBy w' (some B) ∧ ∃ cur, Row w' B E cur ∧ MarkedR cur k0 len

def MadeMarksN (B : Nat) (E : TypeId) (k0 len n : Nat) (w : World) (e : Ending) (w' : World) : Prop :=
  e = .returned (.int .i64 ((k0 + 2 * len : Nat) : Int)) ∧ w.grownBy w' (some B) ∧ ∃ cur, Row w' B E cur ∧ cur.size = n ∧ MarkedR cur k0 len

set_option maxHeartbeats 1000000 in
theorem markrN_any (B len cap k0 n : Nat) (E : TypeId) (cur0 : Array Value) (w : World) (h : Row w B E cur0) (hn : cur0.size = n) (hl : len * 2 ≤ n) (h1 : 1 ≤ k0) (h2 : k0 + 2 * len ≤ 1099511627776) :
    Calls Tryz.prog 22 #[.slice (some ⟨B, 0, none⟩) len cap, .int .i64 k0] w (MadeMarksN B E k0 len n w) := by
  have HR := Lib.hid h
  have HN := Lib.hid hn
  clear h hn
  go_enter Tryz.func22, Tryz.ntmps22
  go_wp2
  go_loopw [1, 5] (fun t i wr => ∃ k : Nat, k ≤ len ∧ i = .int .i64 k ∧ t = .int .i64 ((k0 + 2 * k : Nat) : Int) ∧ Hid (w.grownBy wr (some B) ∧ ∃ cur, Row wr B E cur ∧ cur.size = n ∧ MarkedR cur k0 k)) (fun _ i _ => len - (intOf i).toNat)
  case atStart => exact ⟨0, Nat.zero_le _, rfl, rfl, World.grownBy.refl _ _, cur0, HR.out, HN.out, fun j hj => by omega⟩
  case round =>
    obtain ⟨k, hk, rfl, rfl, HW⟩ := hrel
    clear HR HN
    by_cases hlt : k < len
    · obtain ⟨q, hq⟩ : ∃ q, k0 + 2 * k = q := ⟨_, rfl⟩
      rw [hq]
      have hq1 : 1 ≤ q := by omega
      have hq2 : q < 1099511627776 := by omega
      have HQ := Lib.hid hq
      clear hq
      go_wp2_with fail
      refine (marktext_any q _ hq1 (by omega)).mono ?_
      rintro e w2 ⟨rfl, hB⟩
      obtain ⟨hg, cur, hr, hs, hm⟩ := HW.out
      have hr2 := hr.keep hB
      have hA0 := hr2.cell (j := k * 2) (by omega)
      have hA1 := hr2.cell (j := k * 2 + 1) (by omega)
      have hf0 := hr2.free (k * 2)
      have hf1 := hr2.free (k * 2 + 1)
      have HG := Lib.hid (growB hg hB)
      have HR2 := Lib.hid hr2
      have HS := Lib.hid hs
      have HM := Lib.hid hm
      generalize cur[k * 2] = x0 at hA0
      generalize cur[k * 2 + 1] = x1 at hA1
      clear hB hg hr hr2 hs hm HW
      go_wp2
      go_roundw
      case rel => exact ⟨k + 1, by omega, by go_num, by have := HQ.out; go_num, growS (growS HG.out _ _) _ _, _, (HR2.out.set _ _).set _ _, by simpa using HS.out, by rw [← HQ.out]; exact HM.out.step (by have := HS.out; omega) _ (by omega)⟩
      case measure => simp [intOf]; omega
    · obtain rfl : k = len := by omega
      go_wp2
      go_ret
      obtain ⟨hg, cur, hr, hs, hm⟩ := HW.out
      exact ⟨rfl, hg, cur, hr, hs, hm⟩

theorem markr_any (B len cap k0 n : Nat) (E : TypeId) (cur0 : Array Value) (w : World) (h : Row w B E cur0) (hn : cur0.size = n) (hl : len * 2 ≤ n) (h1 : 1 ≤ k0) (h2 : k0 + 2 * len ≤ 1099511627776) :
    Calls Tryz.prog 22 #[.slice (some ⟨B, 0, none⟩) len cap, .int .i64 k0] w (MadeMarksR B E k0 len w) :=
  (markrN_any B len cap k0 n E cur0 w h hn hl h1 h2).mono fun _ _ ⟨he, hg, cur, hr, _, hm⟩ => ⟨he, hg, cur, hr, hm⟩

def HeldNumR (q : Nat) (w : World) (e : Ending) (w' : World) : Prop := e = .returned (.int .i64 (q : Int)) ∧ Below w.heap.size w w'

set_option maxHeartbeats 1000000 in
theorem heldr_any (B len cap k0 : Nat) (E : TypeId) (cur : Array Value) (w : World) (h : Row w B E cur) (hm : MarkedR cur k0 len) (h1 : 1 ≤ k0) (h2 : k0 + 2 * len ≤ 1099511627776) :
    Calls Tryz.prog 23 #[.slice (some ⟨B, 0, none⟩) len cap, .int .i64 k0] w (HeldNumR (k0 + 2 * len) w) := by
  have HC := Lib.hid (show ∀ j, j < len → w.cell? ⟨B, j * 2, none⟩ = some (.string (mtext (k0 + 2 * j))) ∧ w.cell? ⟨B, j * 2 + 1, none⟩ = some (.int .i64 ((k0 + 2 * j + 1 : Nat) : Int)) by
    intro j hj
    have := hm j hj
    unfold Row at h
    simp [World.cell?, h, this])
  have HLT := Lib.hid h.lt
  clear h hm
  go_enter Tryz.func23, Tryz.ntmps23
  go_wp2
  go_loopw [1, 5] (fun t i wr => ∃ k : Nat, k ≤ len ∧ i = .int .i64 k ∧ t = .int .i64 ((k0 + 2 * k : Nat) : Int) ∧ Hid (Below w.heap.size w wr)) (fun _ i _ => len - (intOf i).toNat)
  case atStart => exact ⟨0, Nat.zero_le _, rfl, rfl, Below.refl _ _⟩
  case round =>
    obtain ⟨k, hk, rfl, rfl, HW⟩ := hrel
    by_cases hlt : k < len
    · have c0 := (HW.out.cell (p := ⟨B, k * 2, none⟩) HLT.out).trans (HC.out k hlt).1
      have c1 := (HW.out.cell (p := ⟨B, k * 2 + 1, none⟩) HLT.out).trans (HC.out k hlt).2
      obtain ⟨q, hq⟩ : ∃ q, k0 + 2 * k = q := ⟨_, rfl⟩
      rw [hq] at c0 c1 ⊢
      have hq1 : 1 ≤ q := by omega
      have hq2 : q < 1099511627776 := by omega
      have HQ := Lib.hid hq
      have HB := Lib.hid HW.out.drew
      have hi1 : (k : Int) < (len : Int) := by omega
      have hi0 : (0 : Int) ≤ (k : Int) := by omega
      have c1' : wr.cell? ⟨B, k * 2 + 1, none⟩ = some (.int .i64 ((q : Int) + 1)) := by rw [c1]; simp
      clear hq c1
      go_wp2_with fail
      go_region_held3 (fun w' => Hid (Below w.heap.size w w') ∧ w'.cell? ⟨B, k * 2, none⟩ = some (.string (mtext q)) ∧ w'.cell? ⟨B, k * 2 + 1, none⟩ = some (.int .i64 ((q : Int) + 1)))
        (first | exact ⟨HB, c0, c1'⟩ | exact ⟨HB, e0, e1⟩)
        (first | (go_at_call 44; refine (marktext_any q _ hq1 (by omega)).mono ?_; rintro e w2 ⟨rfl, hB⟩; have e0 := (hB.cell (p := ⟨B, k * 2, none⟩) (World.block_lt_of_cell? _ _ c0)).trans c0; have e1 := (hB.cell (p := ⟨B, k * 2 + 1, none⟩) (World.block_lt_of_cell? _ _ c1')).trans c1'; have HB := Lib.hid (below_via HB.out hB); clear hB))
      go_wp2
      go_roundw
      case rel => exact ⟨k + 1, by omega, by go_num, by have := HQ.out; go_num, HB⟩
      case measure => simp [intOf]; omega
    · obtain rfl : k = len := by omega
      go_wp2
      go_ret
      exact ⟨rfl, HW.out⟩

theorem markr_none (q : Option Addr) (cap k0 : Nat) (w : World) : Calls Tryz.prog 22 #[.slice q 0 cap, .int .i64 k0] w fun e w' => e = .returned (.int .i64 k0) ∧ w = w' := by
  go_enter Tryz.func22, Tryz.ntmps22
  go_wp2
  go_loop [1, 5] (fun t i => t = .int .i64 k0 ∧ i = .int .i64 0) (fun _ _ => 0)
  case atStart => exact ⟨rfl, rfl⟩
  case round =>
    obtain ⟨rfl, rfl⟩ := hrel
    go_wp2
    go_ret
    exact ⟨rfl, rfl⟩

theorem heldr_none (q : Option Addr) (cap k0 : Nat) (w : World) : Calls Tryz.prog 23 #[.slice q 0 cap, .int .i64 k0] w fun e w' => e = .returned (.int .i64 k0) ∧ w = w' := by
  go_enter Tryz.func23, Tryz.ntmps23
  go_wp2
  go_loop [1, 5] (fun t i => t = .int .i64 k0 ∧ i = .int .i64 0) (fun _ _ => 0)
  case atStart => exact ⟨rfl, rfl⟩
  case round =>
    obtain ⟨rfl, rfl⟩ := hrel
    go_wp2
    go_ret
    exact ⟨rfl, rfl⟩
end Go.Proofs.YthnlllbanfemaaaGreatDoor
namespace Go.Proofs.YthnlllbanfemaaaGreatDoor
open Go.ChangeShapes Go.WideShapes Go.ChangeAt Go.RowKit
set_option linter.unusedVariables false
set_option maxRecDepth 100000

/-- Only blocks b and g have changed, and new ones are there. -/
structure Two (b g : Nat) (w w' : World) : Prop where
  os : w'.os = w.os
  tape : w'.tape = w.tape
  output : w'.output = w.output
  size : w.heap.size ≤ w'.heap.size
  block : ∀ k, k < w.heap.size → k ≠ b → k ≠ g → w'.heap[k]? = w.heap[k]?
theorem Two.refl (b g : Nat) (w : World) : Two b g w w := ⟨rfl, rfl, rfl, Nat.le_refl _, fun _ _ _ _ => rfl⟩
theorem Two.trans {b g : Nat} {w w1 w2 : World} (h : Two b g w w1) (k : Two b g w1 w2) : Two b g w w2 :=
  ⟨k.os.trans h.os, k.tape.trans h.tape, k.output.trans h.output, Nat.le_trans h.size k.size, fun i hi h1 h2 => (k.block i (Nat.lt_of_lt_of_le hi h.size) h1 h2).trans (h.block i hi h1 h2)⟩
theorem Two.below {b g : Nat} {w w1 w2 : World} (h : Two b g w w1) (k : Below w1.heap.size w1 w2) : Two b g w w2 :=
  ⟨k.os.trans h.os, k.tape.trans h.tape, k.output.trans h.output, Nat.le_trans h.size k.size, fun i hi h1 h2 => (k.block i (Nat.lt_of_lt_of_le hi h.size)).trans (h.block i hi h1 h2)⟩
theorem Two.setB {b g : Nat} {w w1 : World} (h : Two b g w w1) (j : Nat) (v : Value) : Two b g w (w1.setCell ⟨b, j, none⟩ v) :=
  ⟨h.os, h.tape, h.output, by have := h.size; simpa [World.setCell] using this, fun k hk h1 h2 => (Below.heap_setCell _ _ _ _ h1).trans (h.block k hk h1 h2)⟩
theorem Two.setG {b g : Nat} {w w1 : World} (h : Two b g w w1) (j : Nat) (v : Value) : Two b g w (w1.setCell ⟨g, j, none⟩ v) :=
  ⟨h.os, h.tape, h.output, by have := h.size; simpa [World.setCell] using this, fun k hk h1 h2 => (Below.heap_setCell _ _ _ _ h2).trans (h.block k hk h1 h2)⟩
theorem Two.setCells {b g : Nat} {w : World} : ∀ (vs : List Value) (o : Nat) (w1 : World), Two b g w w1 → Two b g w (w1.setCells g o vs)
  | [], _, _, h => h
  | v :: r, o, w1, h => Two.setCells r (o + 1) _ (h.setG o v)
theorem Two.toBelow {b g B : Nat} {w0 w w' : World} (h : Two b g w w') (hB : Below B w0 w) (h1 : B ≤ b) (h2 : B ≤ g) (h3 : B ≤ w.heap.size) : Below B w0 w' :=
  ⟨h.os.trans hB.os, h.tape.trans hB.tape, h.output.trans hB.output, Nat.le_trans hB.size h.size, fun k hk => (h.block k (Nat.lt_of_lt_of_le hk h3) (by omega) (by omega)).trans (hB.block k hk)⟩
theorem Row.two {w w1 : World} {B b g : Nat} {E : TypeId} {cur : Array Value} (h : Row w B E cur) (hT : Two b g w w1) (h1 : B ≠ b) (h2 : B ≠ g) : Row w1 B E cur := (hT.block B h.lt h1 h2).trans h

/-- The first cells of the row are the numbers X. -/
def Pre (cur : Array Value) (X : List Int) : Prop := ∀ i (h : i < X.length), cur[i]? = some (.int .u8 X[i])
theorem pre_set {cur : Array Value} {X : List Int} (h : Pre cur X) (hs : X.length < cur.size) (x : Int) : Pre (cur.setIfInBounds X.length (.int .u8 x)) (X ++ [x]) := by
  intro i hi
  simp at hi
  rcases Nat.lt_or_ge i X.length with hl | hl
  · rw [Array.getElem?_setIfInBounds_ne (by omega), h i hl, List.getElem_append_left hl]
  · obtain rfl : i = X.length := by omega
    simp [hs]
def putAll : List Value → Nat → Array Value → Array Value
  | [], _, cur => cur
  | v :: r, o, cur => putAll r (o + 1) (cur.setIfInBounds o v)
theorem putAll_size : ∀ (vs : List Value) (o : Nat) (cur : Array Value), (putAll vs o cur).size = cur.size
  | [], _, _ => rfl
  | v :: r, o, cur => by rw [putAll, putAll_size r]; simp
theorem row_setCells {E : TypeId} {g : Nat} : ∀ (vs : List Value) (o : Nat) (w : World) (cur : Array Value), Row w g E cur → Row (w.setCells g o vs) g E (putAll vs o cur)
  | [], _, _, _, h => h
  | v :: r, o, w, cur, h => row_setCells r (o + 1) _ _ (h.set o v)
theorem row_setCells_other {E : TypeId} {b g : Nat} (hne : b ≠ g) : ∀ (vs : List Value) (o : Nat) (w : World) (cur : Array Value), Row w b E cur → Row (w.setCells g o vs) b E cur
  | [], _, _, _, h => h
  | v :: r, o, w, cur, h => row_setCells_other hne r (o + 1) _ _ (h.other hne o v)
def ints (l : List UInt8) : List Int := l.map fun x => (x.toNat : Int)
theorem pre_putAll : ∀ (l : List UInt8) (cur : Array Value) (X : List Int), Pre cur X → X.length + l.length ≤ cur.size → Pre (putAll (l.map fun x => Value.int .u8 (x.toNat : Int)) X.length cur) (X ++ ints l)
  | [], cur, X, h, _ => by simpa [putAll, ints] using h
  | c :: l, cur, X, h, hs => by
    have h1 := pre_set h (by simp at hs; omega) (c.toNat : Int)
    have h2 := pre_putAll l _ _ h1 (by simp at hs ⊢; omega)
    simp only [List.map_cons, putAll, ints, List.length_append, List.length_cons, List.length_nil] at h2 ⊢
    simpa using h2

theorem row_cellP {w : World} {B : Nat} {E : TypeId} {cur : Array Value} {j : Nat} {v : Value} (h : Row w B E cur) (e : cur[j]? = some v) : w.cell? ⟨B, j, none⟩ = some v := by
  unfold Row at h; simp [World.cell?, h, e]
def wordK (n : Int) : Nat → Int
  | 0 => IntKind.u64.wrap n
  | k + 1 => wordK n k / 256
def bytesK (n : Int) : Nat → List Int
  | 0 => []
  | k + 1 => bytesK n k ++ [wordK n k % 256]
theorem bytesK_len (n : Int) : ∀ k, (bytesK n k).length = k
  | 0 => rfl
  | k + 1 => by simp [bytesK, bytesK_len n k]
/-- The bytes of a record. -/
def recN (s : ByteArray) (n : Int) : List Int := [(s.size : Int)] ++ ints s.data.toList ++ bytesK n 8
theorem recN_len (s : ByteArray) (n : Int) : (recN s n).length = s.size + 9 := by simp [recN, ints, bytesK_len]

end Go.Proofs.YthnlllbanfemaaaGreatDoor
namespace Go.Proofs.YthnlllbanfemaaaGreatDoor

section
variable {P : Program} {ops : Array Oper} {Q : Exit → Act → World → Prop} {md : Region.Mode}

theorem hand_take {i d : Nat} {oi : Oper} {v : Value} {fuel : Nat} {listed : Array Bool} {a : Act} {w : World} (hi : ops[i]? = some oi) (hd : oi.dst = some d)
    (hs : Region.noSelect ops = true) (hf : Region.free md ops listed i = true) (hr : (Region.ready md ops listed).contains i = true)
    (hw : Region.wanted oi (yielded ops a.tmps) = true) (hy : ∀ w, (execOp a.eval oi).run P w = .ok (.value v) w)
    (h : wpAny P md ops (NoPanic Q) fuel (listed.setIfInBounds i true) { a with tmps := a.tmps.setIfInBounds d v } w) : wpAny P md ops (NoPanic Q) (fuel + 1) listed a w :=
  wpAny_take hi hs hf hr (fun _ _ _ h => h) (Or.inl ⟨hw, hy⟩) (by rw [hd]; exact h)

theorem hand_skip {i d : Nat} {oi : Oper} {fuel : Nat} {listed : Array Bool} {a : Act} {w : World} (hi : ops[i]? = some oi) (hd : oi.dst = some d)
    (hs : Region.noSelect ops = true) (hf : Region.free md ops listed i = true) (hr : (Region.ready md ops listed).contains i = true)
    (hw : Region.wanted oi (yielded ops a.tmps) = false)
    (h : wpAny P md ops (NoPanic Q) fuel (listed.setIfInBounds i true) { a with tmps := a.tmps.setIfInBounds d undef } w) : wpAny P md ops (NoPanic Q) (fuel + 1) listed a w :=
  wpAny_take hi hs hf hr (fun _ _ _ h => h) (Or.inr ⟨hw, rfl⟩) (by rw [hd]; exact h)
end
end Go.Proofs.YthnlllbanfemaaaGreatDoor
