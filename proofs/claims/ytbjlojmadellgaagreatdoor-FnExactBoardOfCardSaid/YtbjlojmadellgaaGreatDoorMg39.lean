/- Texts put together, as a claim holds at most sixty files. -/
import Derived.Test.YtbjlojmadellgaaGreatDoorMg33
import Derived.Test.YtbjlojmadellgaaGreatDoorMg13
import Derived.Test.YtbjlojmadellgaaGreatDoorMg27
namespace Go.Proofs.YtbjlojmadellgaaGreatDoor
open Go.ChangeShapes Go.WideShapes Go.ChangeAt Go.RowKit
set_option linter.unusedVariables false
set_option maxRecDepth 100000

/-- Blocks from lo to hi alone may have turned. -/
structure ButR (lo hi : Nat) (w w' : World) : Prop where
  os : w'.os = w.os
  tape : w'.tape = w.tape
  output : w'.output = w.output
  size : w.heap.size ≤ w'.heap.size
  block : ∀ k, k < w.heap.size → k < lo ∨ hi ≤ k → w'.heap[k]? = w.heap[k]?
theorem ButR.of {lo hi : Nat} {w w1 : World} (h : Below w.heap.size w w1) : ButR lo hi w w1 := ⟨h.os, h.tape, h.output, h.size, fun k hk _ => h.block k hk⟩
theorem ButR.step {lo hi g : Nat} {w w1 w2 : World} (h : ButR lo hi w w1) (k : w1.grownBy w2 (some g)) (h1 : lo ≤ g) (h2 : g < hi) : ButR lo hi w w2 :=
  ⟨k.os.trans h.os, k.tape.trans h.tape, k.output.trans h.output, Nat.le_trans h.size k.size, fun j hj ho => (k.block j (Nat.lt_of_lt_of_le hj h.size) (by simp; omega)).trans (h.block j hj ho)⟩
theorem ButR.row {lo hi B : Nat} {w w1 : World} {E : TypeId} {cur : Array Value} (h : ButR lo hi w w1) (r : Row w B E cur) (ho : B < lo ∨ hi ≤ B) : Row w1 B E cur := (h.block B r.lt ho).trans r
theorem ButR.ks {lo hi base : Nat} {w w1 : World} {q : Option Addr} {W : Strs} (h : ButR lo hi w w1) (r : Ks base w q W) (ho : 0 < W.length → ∀ g, q = some ⟨g, 0, none⟩ → g < lo ∨ hi ≤ g) : Ks base w1 q W := by
  rcases r with h0 | ⟨g, cur, rfl, hb, hr, h1, h2⟩
  · exact .inl h0
  · by_cases h0 : W.length = 0
    · exact .inl h0
    · exact .inr ⟨g, cur, rfl, hb, h.row hr (ho (by omega) g rfl), h1, h2⟩
theorem ButR.below {lo hi : Nat} {W w w1 : World} (h : ButR lo hi w w1) (hB : Below W.heap.size W w) (hl : W.heap.size ≤ lo) : Below W.heap.size W w1 :=
  ⟨h.os.trans hB.os, h.tape.trans hB.tape, h.output.trans hB.output, Nat.le_trans hB.size h.size, fun k hk => (h.block k (Nat.lt_of_lt_of_le hk hB.size) (.inl (by omega))).trans (hB.block k hk)⟩
theorem row_grown2 {w w1 : World} {B g : Nat} {E : TypeId} {cur : Array Value} (r : Row w B E cur) (h : w.grownBy w1 (some g)) (hne : B ≠ g) : Row w1 B E cur := (h.block B r.lt (by simpa using hne)).trans r

def MadeMS (B C : Nat) (w : World) (e : Ending) (w' : World) : Prop := ∃ r : Nat, e = .returned (.int .i64 r) ∧ ButR B (C + 1) w w'

set_option maxHeartbeats 2000000 in
theorem marksto_any (B C la lg : Nat) (curB curC : Array Value) (w : World) (hB : Row w B 79 curB) (hC : Row w C 103 curC) (hsB : curB.size = la * 3) (hsC : curC.size = lg * 2) (hBC : B < C) (hla : la ≤ 1048576) (hlg : lg ≤ 1048576) :
    Calls Tryz.prog 17 #[.agg #[.slice (some ⟨B, 0, none⟩) la la, .slice (some ⟨C, 0, none⟩) lg lg], .int .i64 1] w (MadeMS B C w) := by
  have HX := Lib.hid (row_new w #[.slice (some ⟨B, 0, none⟩) la la, .slice (some ⟨C, 0, none⟩) lg lg] 40)
  have HRB := Lib.hid (hB.al (.cells #[.slice (some ⟨B, 0, none⟩) la la, .slice (some ⟨C, 0, none⟩) lg lg] 40))
  have HRC := Lib.hid (hC.al (.cells #[.slice (some ⟨B, 0, none⟩) la la, .slice (some ⟨C, 0, none⟩) lg lg] 40))
  have HLT := Lib.hid (And.intro hB.lt hC.lt)
  have HSB := Lib.hid hsB
  have HSC := Lib.hid hsC
  have HBC := Lib.hid hBC
  have HBU := Lib.hid (ButR.of (lo := B) (hi := C + 1) (below_alloc (Below.refl w.heap.size w) (.cells #[.slice (some ⟨B, 0, none⟩) la la, .slice (some ⟨C, 0, none⟩) lg lg] 40)))
  clear hB hC hsB hsC hBC
  go_enter Tryz.func17, Tryz.ntmps17
  go_wp2_with fail
  refine (markobjs_any B la la 1 (la * 3) _ curB _ HRB.out HSB.out (Nat.le_refl _) (Nat.le_refl 1) (by omega)).mono ?_
  rintro e w1 ⟨rfl, hg, _⟩
  have HX := Lib.hid (row_grown2 HX.out hg (by have := HLT.out.1; omega))
  have HRC := Lib.hid (row_grown2 HRC.out hg (by have := HBC.out; omega))
  have HBU := Lib.hid (HBU.out.step hg (Nat.le_refl _) (by have := HBC.out; omega))
  have y0 := HX.out.cell (j := 0) (by simp)
  have y1 := HX.out.cell (j := 1) (by simp)
  simp at y0 y1
  clear hg
  go_wp2_with fail
  refine (markgones_any C lg lg (1 + 3 * la) (lg * 2) _ curC _ HRC.out HSC.out (Nat.le_refl _) (by omega) (by omega)).mono ?_
  rintro e w2 ⟨rfl, hg, _⟩
  have HBU := Lib.hid (HBU.out.step hg (by have := HBC.out; omega) (Nat.lt_succ_self _))
  clear hg y0 y1
  go_wp2
  go_ret
  exact ⟨_, rfl, HBU.out⟩
end Go.Proofs.YtbjlojmadellgaaGreatDoor
namespace Go.Proofs.YtbjlojmadellgaaGreatDoor
open Go.ChangeShapes Go.WideShapes Go.ChangeAt Go.RowKit
set_option linter.unusedVariables false
set_option maxRecDepth 100000

set_option maxHeartbeats 2000000 in
theorem markstok_any (B C la lg k0 : Nat) (curB curC : Array Value) (w : World) (hB : Row w B 79 curB) (hC : Row w C 103 curC) (hsB : curB.size = la * 3) (hsC : curC.size = lg * 2) (hBC : B < C) (hla : la ≤ 1048576) (hlg : lg ≤ 1048576) (hk1 : 1 ≤ k0) (hk2 : k0 ≤ 1000000000000) :
    Calls Tryz.prog 17 #[.agg #[.slice (some ⟨B, 0, none⟩) la la, .slice (some ⟨C, 0, none⟩) lg lg], .int .i64 (k0 : Int)] w (MadeMS B C w) := by
  have HX := Lib.hid (row_new w #[.slice (some ⟨B, 0, none⟩) la la, .slice (some ⟨C, 0, none⟩) lg lg] 40)
  have HRB := Lib.hid (hB.al (.cells #[.slice (some ⟨B, 0, none⟩) la la, .slice (some ⟨C, 0, none⟩) lg lg] 40))
  have HRC := Lib.hid (hC.al (.cells #[.slice (some ⟨B, 0, none⟩) la la, .slice (some ⟨C, 0, none⟩) lg lg] 40))
  have HLT := Lib.hid (And.intro hB.lt hC.lt)
  have HSB := Lib.hid hsB
  have HSC := Lib.hid hsC
  have HBC := Lib.hid hBC
  have HBU := Lib.hid (ButR.of (lo := B) (hi := C + 1) (below_alloc (Below.refl w.heap.size w) (.cells #[.slice (some ⟨B, 0, none⟩) la la, .slice (some ⟨C, 0, none⟩) lg lg] 40)))
  clear hB hC hsB hsC hBC
  go_enter Tryz.func17, Tryz.ntmps17
  go_wp2_with fail
  refine (markobjs_any B la la k0 (la * 3) _ curB _ HRB.out HSB.out (Nat.le_refl _) hk1 (by omega)).mono ?_
  rintro e w1 ⟨he, hg, _⟩
  obtain ⟨k1, hke⟩ : ∃ k1, k0 + 3 * la = k1 := ⟨_, rfl⟩
  rw [hke] at he
  subst he
  have hk3 : 1 ≤ k1 := by omega
  have hk4 : k1 ≤ 1000003145728 := by omega
  clear hke
  have HX := Lib.hid (row_grown2 HX.out hg (by have := HLT.out.1; omega))
  have HRC := Lib.hid (row_grown2 HRC.out hg (by have := HBC.out; omega))
  have HBU := Lib.hid (HBU.out.step hg (Nat.le_refl _) (by have := HBC.out; omega))
  have y0 := HX.out.cell (j := 0) (by simp)
  have y1 := HX.out.cell (j := 1) (by simp)
  simp at y0 y1
  clear hg
  go_wp2_with fail
  refine (markgones_any C lg lg k1 (lg * 2) _ curC _ HRC.out HSC.out (Nat.le_refl _) (by omega) (by omega)).mono ?_
  rintro e w2 ⟨he, hg, _⟩
  obtain ⟨k5, hke⟩ : ∃ k5, k1 + 2 * lg = k5 := ⟨_, rfl⟩
  rw [hke] at he
  subst he
  clear hke
  have HBU := Lib.hid (HBU.out.step hg (by have := HBC.out; omega) (Nat.lt_succ_self _))
  clear hg y0 y1
  go_wp2
  go_ret
  exact ⟨_, rfl, HBU.out⟩
end Go.Proofs.YtbjlojmadellgaaGreatDoor
