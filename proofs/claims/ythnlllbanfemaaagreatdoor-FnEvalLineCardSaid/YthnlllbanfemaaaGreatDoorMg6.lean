/- Texts put together, as a claim holds at most sixty files. -/
import Derived.Test.YthnlllbanfemaaaGreatDoorMg5
import Derived.Test.YthnlllbanfemaaaGreatDoorMg1
import Derived.Test.YthnlllbanfemaaaGreatDoorMg4
namespace Go.Proofs.YthnlllbanfemaaaGreatDoor
open Go.ChangeShapes Go.WideShapes Go.ChangeAt Go.RowKit
set_option linter.unusedVariables false
set_option maxRecDepth 100000

theorem marktextI_any (x : Int) (k0 : Nat) (w : World) (hx : x = (k0 : Int)) (h1 : 1 ≤ k0) (h2 : k0 ≤ 1099511627776) :
    Calls Tryz.prog 44 #[.int .i64 x] w (MadeStr (mtext k0) w) := by
  subst hx
  exact marktext_any k0 w h1 h2
theorem grown_belowI {w a b : World} {row : Option Nat} (hg : w.grownBy a row) (hB : Below a.heap.size a b) : w.grownBy b row :=
  ⟨hB.os.trans hg.os, hB.tape.trans hg.tape, hB.output.trans hg.output, Nat.le_trans hg.size hB.size, fun i hi hne => (hB.block i (Nat.lt_of_lt_of_le hi hg.size)).trans (hg.block i hi hne)⟩
theorem grown_setI {w a : World} {B : Nat} (hg : w.grownBy a (some B)) (j : Nat) (x : Value) : w.grownBy (a.setCell ⟨B, j, none⟩ x) (some B) :=
  ⟨hg.os, hg.tape, hg.output, by have := hg.size; simpa [World.setCell] using this, fun i hi hne => (Below.heap_setCell _ _ _ _ (fun e => hne (by rw [e]))).trans (hg.block i hi hne)⟩
end Go.Proofs.YthnlllbanfemaaaGreatDoor
namespace Go.Proofs.YthnlllbanfemaaaGreatDoor
open Go.ChangeShapes Go.WideShapes Go.ChangeAt Go.RowKit
set_option linter.unusedVariables false
set_option maxRecDepth 100000

/-- Row B holds the marks from number k0 on in its first n values. -/
def MarkedInstr (cur : Array Value) (k0 n : Nat) : Prop := ∀ j, j < n → cur[j * 3]? = some (.int .i64 ((k0 + 3 * j + 0 : Nat) : Int)) ∧ cur[j * 3 + 1]? = some (.int .i64 ((k0 + 3 * j + 1 : Nat) : Int)) ∧ cur[j * 3 + 2]? = some (.string (mtext (k0 + 3 * j + 2)))
theorem MarkedInstr.step {cur : Array Value} {k0 k : Nat} (h : MarkedInstr cur k0 k) (hk : k * 3 + 2 < cur.size) : MarkedInstr (((cur.setIfInBounds (k * 3) (.int .i64 ((k0 + 3 * k + 0 : Nat) : Int))).setIfInBounds (k * 3 + 1) (.int .i64 ((k0 + 3 * k + 1 : Nat) : Int))).setIfInBounds (k * 3 + 2) (.string (mtext (k0 + 3 * k + 2)))) k0 (k + 1) := by
  intro j hj
  rcases Nat.lt_or_ge j k with hlt | hge
  · obtain ⟨e0, e1, e2⟩ := h j hlt
    refine ⟨?_, ?_, ?_⟩
    · rw [Array.getElem?_setIfInBounds_ne (by omega), Array.getElem?_setIfInBounds_ne (by omega), Array.getElem?_setIfInBounds_ne (by omega)]; exact e0
    · rw [Array.getElem?_setIfInBounds_ne (by omega), Array.getElem?_setIfInBounds_ne (by omega), Array.getElem?_setIfInBounds_ne (by omega)]; exact e1
    · rw [Array.getElem?_setIfInBounds_ne (by omega), Array.getElem?_setIfInBounds_ne (by omega), Array.getElem?_setIfInBounds_ne (by omega)]; exact e2
  · obtain rfl : j = k := by omega
    refine ⟨?_, ?_, ?_⟩
    · rw [Array.getElem?_setIfInBounds_ne (by omega), Array.getElem?_setIfInBounds_ne (by omega)]; rw [Array.getElem?_setIfInBounds_self_of_lt (by first | omega | (simp only [Array.size_setIfInBounds]; omega))]
    · rw [Array.getElem?_setIfInBounds_ne (by omega)]; rw [Array.getElem?_setIfInBounds_self_of_lt (by first | omega | (simp only [Array.size_setIfInBounds]; omega))]
    · rw [Array.getElem?_setIfInBounds_self_of_lt (by first | omega | (simp only [Array.size_setIfInBounds]; omega))]
def MadeMarksInstr (B : Nat) (E : TypeId) (k0 len n : Nat) (w : World) (e : Ending) (w' : World) : Prop :=
  e = .returned (.int .i64 ((k0 + 3 * len : Nat) : Int)) ∧ w.grownBy w' (some B) ∧ ∃ cur, Row w' B E cur ∧ cur.size = n ∧ MarkedInstr cur k0 len

set_option maxHeartbeats 2000000 in
theorem markinss_any (B len cap k0 n : Nat) (E : TypeId) (cur0 : Array Value) (w : World) (h : Row w B E cur0) (hn : cur0.size = n) (hl : len * 3 ≤ n) (h1 : 1 ≤ k0) (h2 : k0 + 3 * len ≤ 1099511627776) :
    Calls Tryz.prog 20 #[.slice (some ⟨B, 0, none⟩) len cap, .int .i64 k0] w (MadeMarksInstr B E k0 len n w) := by
  have HR := Lib.hid h
  have HN := Lib.hid hn
  clear h hn
  go_enter Tryz.func20, Tryz.ntmps20
  go_wp2
  go_loopw [1, 5] (fun t i wr => ∃ k : Nat, k ≤ len ∧ i = .int .i64 k ∧ t = .int .i64 ((k0 + 3 * k : Nat) : Int) ∧ Hid (w.grownBy wr (some B) ∧ ∃ cur, Row wr B E cur ∧ cur.size = n ∧ MarkedInstr cur k0 k)) (fun _ i _ => len - (intOf i).toNat)
  case atStart => exact ⟨0, Nat.zero_le _, rfl, rfl, World.grownBy.refl _ _, cur0, HR.out, HN.out, fun j hj => by omega⟩
  case round =>
    obtain ⟨k, hk, rfl, rfl, HW⟩ := hrel
    clear HR HN
    by_cases hlt : k < len
    · obtain ⟨q, hq⟩ : ∃ q, k0 + 3 * k = q := ⟨_, rfl⟩
      rw [hq]
      have hq1 : 1 ≤ q := by omega
      have hq2 : q + 3 ≤ 1099511627776 := by omega
      have HQ := Lib.hid hq
      obtain ⟨hg, cur, hr, hs, hm⟩ := HW.out
      have HG := Lib.hid hg
      have HS := Lib.hid hs
      have HM := Lib.hid hm
      have HRW := Lib.hid hr
      have HKN := Lib.hid (show k * 3 + 2 < cur.size by rw [hs]; omega)
      clear hq hg hr hs hm HW
      obtain ⟨v0, hA0⟩ : ∃ v, wr.cell? ⟨B, k * 3, none⟩ = some v := ⟨_, HRW.out.cell (by have := HKN.out; omega)⟩
      have hf0 := HRW.out.free (k * 3)
      obtain ⟨v1, hA1⟩ : ∃ v, wr.cell? ⟨B, k * 3 + 1, none⟩ = some v := ⟨_, HRW.out.cell (by have := HKN.out; omega)⟩
      have hf1 := HRW.out.free (k * 3 + 1)
      go_wp2_with fail
      refine (marktextI_any _ (q + 2) _ (by omega) (by omega) (by omega)).mono ?_
      rintro e w4 ⟨rfl, hB⟩
      have HRW := Lib.hid (((HRW.out.set (k * 3) (.int .i64 ((q + 0 : Nat) : Int))).set (k * 3 + 1) (.int .i64 ((q + 1 : Nat) : Int))).keep hB)
      have HG := Lib.hid (grown_belowI (grown_setI (grown_setI HG.out (k * 3) (.int .i64 ((q + 0 : Nat) : Int))) (k * 3 + 1) (.int .i64 ((q + 1 : Nat) : Int))) hB)
      clear hB
      obtain ⟨v2, hA2⟩ : ∃ v, w4.cell? ⟨B, k * 3 + 2, none⟩ = some v := ⟨_, HRW.out.cell (by simp only [Array.size_setIfInBounds]; have := HKN.out; omega)⟩
      have hf2 := HRW.out.free (k * 3 + 2)
      go_wp2
      go_roundw
      case rel => exact ⟨k + 1, by omega, by go_num, by have := HQ.out; go_num, (grown_setI HG.out _ _), _, (HRW.out.set _ _), by simpa using HS.out, by have e := HM.out.step HKN.out; rw [HQ.out] at e; exact e⟩
      case measure => simp [intOf]; omega
    · obtain rfl : k = len := by omega
      go_wp2
      go_ret
      obtain ⟨hg, cur, hr, hs, hm⟩ := HW.out
      exact ⟨rfl, hg, cur, hr, hs, hm⟩

theorem markinss_none (q : Option Addr) (cap k0 : Nat) (w : World) : Calls Tryz.prog 20 #[.slice q 0 cap, .int .i64 k0] w fun e w' => e = .returned (.int .i64 k0) ∧ w = w' := by
  go_enter Tryz.func20, Tryz.ntmps20
  go_wp2
  go_loop [1, 5] (fun t i => t = .int .i64 k0 ∧ i = .int .i64 0) (fun _ _ => 0)
  case atStart => exact ⟨rfl, rfl⟩
  case round =>
    obtain ⟨rfl, rfl⟩ := hrel
    go_wp2
    go_ret
    exact ⟨rfl, rfl⟩
end Go.Proofs.YthnlllbanfemaaaGreatDoor
namespace Go.Proofs.YthnlllbanfemaaaGreatDoor
open Go.ChangeShapes Go.WideShapes Go.ChangeAt Go.RowKit
set_option linter.unusedVariables false
set_option maxRecDepth 100000

def cellsI : Instrs → List Value
  | [] => []
  | x :: t => .int .i64 x.1 :: .int .i64 x.2.1 :: .string x.2.2 :: cellsI t
theorem cellsI_len : ∀ l : Instrs, (cellsI l).length = l.length * 3
  | [] => rfl
  | x :: t => by simp [cellsI, cellsI_len t]; omega
theorem cellsI_snoc : ∀ (l : Instrs) (x : Int × Int × ByteArray), cellsI (l ++ [x]) = cellsI l ++ [.int .i64 x.1, .int .i64 x.2.1, .string x.2.2]
  | [], x => rfl
  | a :: t, x => by simp [cellsI, cellsI_snoc t x]
theorem cellsI_app : ∀ (l m : Instrs), cellsI (l ++ m) = cellsI l ++ cellsI m
  | [], m => rfl
  | a :: t, m => by simp [cellsI, cellsI_app t m]
theorem ins_cons (a : Int × Int × ByteArray) (t : Instrs) (k : Nat) : ins0 (a :: t) (k + 1) = ins0 t k ∧ ins1 (a :: t) (k + 1) = ins1 t k ∧ ins2 (a :: t) (k + 1) = ins2 t k := by
  simp [ins0, ins1, ins2]
theorem cellsI_get : ∀ (l : Instrs) (k : Nat), k < l.length → (cellsI l)[k * 3]? = some (.int .i64 (ins0 l k)) ∧ (cellsI l)[k * 3 + 1]? = some (.int .i64 (ins1 l k)) ∧ (cellsI l)[k * 3 + 2]? = some (.string (ins2 l k))
  | [], k, h => by simp at h
  | a :: t, 0, _ => ⟨rfl, rfl, rfl⟩
  | a :: t, k + 1, h => by
    obtain ⟨h0, h1, h2⟩ := cellsI_get t k (by simpa using h)
    obtain ⟨e0, e1, e2⟩ := ins_cons a t k
    rw [e0, e1, e2]
    have a0 : (k + 1) * 3 = k * 3 + 3 := by omega
    rw [a0]
    exact ⟨h0, h1, h2⟩
theorem three_new (w : World) (x y z : Value) (t : TypeId) : ∀ j u, [x, y, z][j]? = some u → (w.alloc (.cells #[x, y, z] t)).cell? ((⟨w.heap.size, 0, none⟩ : Addr).add j) = some u := by
  intro j u hj
  match j, hj with
  | 0, hj => simp at hj; subst hj; simp [Addr.add]
  | 1, hj => simp at hj; subst hj; simp [Addr.add]
  | 2, hj => simp at hj; subst hj; simp [Addr.add]
theorem three_new1 (w : World) (o : Obj) (x y z : Value) (t : TypeId) : ∀ j u, [x, y, z][j]? = some u → ((w.alloc o).alloc (.cells #[x, y, z] t)).cell? ((⟨w.heap.size + 1, 0, none⟩ : Addr).add j) = some u := by
  have h := three_new (w.alloc o) x y z t
  have e : (w.alloc o).heap.size = w.heap.size + 1 := by simp
  rw [e] at h
  exact h
theorem three_cells (a b : Int) (s : ByteArray) : ∀ u ∈ [Value.int .i64 a, Value.int .i64 b, Value.string s], u.oneCell' = true := by
  intro u hu
  simp at hu
  rcases hu with rfl | rfl | rfl <;> rfl
theorem own_inss {w : World} {base n cp : Nat} {q : Option Addr} {l : Instrs} (h : w.ownsRow base 52 3 (.slice q n cp) n (cellsI l)) (hn : l.length = n) (hm : n ≤ maxLen) (hk : ∀ i, i < n → (ins2 l i).size ≤ maxLen) : InstrsAt w q n l := by
  refine ⟨hn, hm, hk, ?_⟩
  rcases h.2 with ⟨h1, h2⟩ | ⟨g, cap, cur, hv, hb, hh, h1, _, h3, h4⟩
  · simp only [Value.slice.injEq] at h1; exact .inl h1.2.1
  · simp only [Value.slice.injEq, true_and] at hv
    obtain ⟨rfl, rfl⟩ := hv
    refine .inr ⟨g, 0, rfl, lt_of_block hh, fun i hi => ?_⟩
    obtain ⟨e0, e1, e2⟩ := cellsI_get l i (by omega)
    rw [← h4, List.getElem?_take_of_lt (by omega)] at e0 e1 e2
    simp [World.cell?, hh]
    exact ⟨by simpa using e0, by simpa using e1, by simpa using e2⟩
/-- The row itself, if there is an element. -/
theorem own_insrow {w : World} {base n cp : Nat} {q : Option Addr} {l : Instrs} (h : w.ownsRow base 52 3 (.slice q n cp) n (cellsI l)) (h0 : 0 < n) :
    ∃ g cur, q = some ⟨g, 0, none⟩ ∧ base ≤ g ∧ Row w g 52 cur ∧ n * 3 ≤ cur.size := by
  rcases h.2 with ⟨h1, h2⟩ | ⟨g, cap, cur, hv, hb, hh, h1, _, h3, h4⟩
  · omega
  · simp only [Value.slice.injEq] at hv
    obtain ⟨rfl, _, rfl⟩ := hv
    exact ⟨g, cur, rfl, hb, hh, by omega⟩
end Go.Proofs.YthnlllbanfemaaaGreatDoor
