
/- A drawn op with two drawn numbers; and the law that numbers are combined in whatever order, walked. Only new blocks are made. -/
import Derived.Test.YtonipfhigkkhnaaRd3
import Derived.Test.YtonipfhigkkhnaaComb
namespace Go.Proofs.Ytonipfhigkkhnaa
open Go.ChangeShapes Go.WideShapes Go.ChangeAt Go.RowKit
set_option linter.unusedVariables false
set_option maxRecDepth 100000

set_option maxHeartbeats 1000000 in
theorem rcombine_any (w : World) (r : Nat) (a : Option Addr) (len cap : Nat) (h : Rdr w r a len cap) :
    Calls Try.prog 86 #[.pointer (some ⟨r, 0, none⟩)] w (RdWf .i64 w r a len cap) := by
  have H := Lib.hid h
  clear h
  go_enter Try.func86, Try.ntmps86
  go_wp2_with fail
  refine (once_any _ _ _ _ _ _ H.out (by decide) (by decide)).mono ?_
  rintro e w1 ⟨⟨x, rfl⟩, hw⟩
  have HW := Lib.hid hw
  clear hw H
  go_wp2_with fail
  · refine (off_any _ _ _ _ _ _ _ HW.out.rdr (by decide) (by decide) (by decide)).mono ?_
    rintro e w2 ⟨⟨y, hy, rfl⟩, hw⟩
    have HY := Lib.hid hy
    have HW := Lib.hid (HW.out.trans hw)
    clear hw hy
    go_wp2
    go_ret
    exact ⟨⟨_, HY.out, rfl⟩, HW.out⟩
  · refine (below_any _ _ _ _ _ _ HW.out.rdr (by decide) (by decide)).mono ?_
    rintro e w2 ⟨⟨y, hy1, hy2, rfl⟩, hw⟩
    have HW := Lib.hid (HW.out.trans hw)
    clear hw
    go_wp2
    go_ret
    exact ⟨⟨_, WalkArith.wf_i64 (by omega), rfl⟩, HW.out⟩

def DrewComb (w : World) (e : Ending) (w' : World) : Prop := ∃ op a b : Int, (Lit.int .i64 a).wf = true ∧ (Lit.int .i64 b).wf = true ∧ e = .returned (.tuple #[.int .i64 op, .int .i64 a, .int .i64 b]) ∧ Below w.heap.size w w'

set_option maxHeartbeats 1000000 in
theorem drawcomb_any (w : World) (a : Option Addr) (len cap : Nat) (h : Src w a len) :
    Calls Try.prog 56 #[.slice a len cap] w (DrewComb w) := by
  have H := Lib.hid h
  clear h
  go_enter Try.func56, Try.ntmps56
  go_wp2_with fail
  refine (open_any _ _ _ _ H.out).mono ?_
  rintro e w1 ⟨rfl, hb, hr⟩
  have HB := Lib.hid hb
  have HR := Lib.hid hr
  clear hb hr
  go_wp2_with fail
  refine (rcombine_any _ _ _ _ _ HR.out).mono ?_
  rintro e w2 ⟨⟨op, hop, rfl⟩, hw⟩
  have HW := Lib.hid hw
  clear hw hop
  go_wp2_with fail
  refine (num_any _ _ _ _ _ HW.out.rdr).mono ?_
  rintro e w3 ⟨⟨x, hx, rfl⟩, hw⟩
  have HX := Lib.hid hx
  have HW := Lib.hid (HW.out.trans hw)
  clear hw hx
  go_wp2_with fail
  refine (num_any _ _ _ _ _ HW.out.rdr).mono ?_
  rintro e w4 ⟨⟨y, hy, rfl⟩, hw⟩
  have HY := Lib.hid hy
  have HW := Lib.hid (HW.out.trans hw)
  clear hw hy
  go_wp2
  go_ret3
  exact ⟨op, x, y, HX.out, HY.out, rfl, HW.out.under HB.out (Nat.le_refl _) HB.out.size⟩

theorem comb_comm (op a b : Int) : combN op b a = combN op a b := by
  unfold combN
  split
  · rw [Int.add_comm]
  · split
    · split <;> split <;> omega
    · split
      · split <;> split <;> omega
      · rfl
theorem comb_assoc (op a b c : Int) : combN op (combN op a b) c = combN op a (combN op b c) := by
  unfold combN
  by_cases h1 : op = 1 ∨ op = 4
  · simp only [if_pos h1]; unfold wrap64; omega
  · simp only [if_neg h1]
    by_cases h2 : op = 2
    · simp only [if_pos h2]; repeat' split
      all_goals omega
    · simp only [if_neg h2]
      by_cases h3 : op = 3
      · simp only [if_pos h3]; repeat' split
        all_goals omega
      · simp only [if_neg h3]

theorem comb_val {op a b x : Int} (w : World) (h : combN op a b = x) : Calls Try.prog 55 #[.int .i64 op, .int .i64 a, .int .i64 b] w (Same x w) := h ▸ comb_any op a b w
theorem scomb_val {op a b x : Int} (w : World) (h : combN op a b = x) : Calls Try.prog 54 #[.int .i64 op, .int .i64 a, .int .i64 b] w (Same x w) := h ▸ scomb_any op a b w

set_option maxHeartbeats 2000000 in
theorem fnCombine_walk (w : World) (a1 : Option Addr) (len1 cap1 : Nat) (a2 : Option Addr) (len2 cap2 : Nat) (h1 : Src w a1 len1) (h2 : Src w a2 len2) :
    Calls Try.prog 13 #[.slice a1 len1 cap1, .slice a2 len2 cap2] w fun e w' => e = .returned (.bool true) ∧ Below w.heap.size w w' := by
  have S1 := Lib.hid h1
  have S2 := Lib.hid h2
  clear h1 h2
  by_cases hb : 1048576 < len1
  · go_enter Try.func13, Try.ntmps13
    go_wp2_with (go_at_call 15; refine (big_yes _ _ _ _ hb).mono ?_; rintro e w' ⟨rfl, rfl⟩)
    go_ret
    exact ⟨rfl, Below.refl _ _⟩
  · by_cases hb2 : 1048576 < len2
    · go_enter Try.func13, Try.ntmps13
      go_wp2_with (first | (go_at_call 15; (with_reducible refine (big_no a1 len1 cap1 _ hb).mono ?_); rintro e w' ⟨rfl, rfl⟩) | (go_at_call 15; (with_reducible refine (big_yes a2 len2 cap2 _ hb2).mono ?_); rintro e w' ⟨rfl, rfl⟩))
      go_ret
      exact ⟨rfl, Below.refl _ _⟩
    · go_enter Try.func13, Try.ntmps13
      go_wp2_with (first | (go_at_call 15; (with_reducible refine (big_no a1 len1 cap1 _ hb).mono ?_); rintro e w' ⟨rfl, rfl⟩) | (go_at_call 15; (with_reducible refine (big_no a2 len2 cap2 _ hb2).mono ?_); rintro e w' ⟨rfl, rfl⟩))
      refine (drawcomb_any _ _ _ _ S1.out).mono ?_
      rintro e w1 ⟨op, a, b, ha, hb1, rfl, hB⟩
      have HB := Lib.hid hB
      clear hB ha hb1
      go_wp2_with fail
      refine (drawcomb_any _ _ _ _ (S2.out.below HB.out)).mono ?_
      rintro e w2 ⟨op2, c, d, hc, hd, rfl, hB⟩
      have HB := Lib.hid (HB.out.trans (hB.mono HB.out.size))
      clear hB hc hd
      obtain ⟨x, hx⟩ : ∃ x, combN op a b = x := ⟨_, rfl⟩
      obtain ⟨y, hy⟩ : ∃ y, combN op b c = y := ⟨_, rfl⟩
      obtain ⟨z, hz⟩ : ∃ z, combN op x c = z := ⟨_, rfl⟩
      have hz2 : combN op a y = z := by rw [← hy, ← comb_assoc, hx, hz]
      have hx2 : combN op b a = x := by rw [comb_comm, hx]
      have HX := Lib.hid hx
      have HX2 := Lib.hid hx2
      have HY := Lib.hid hy
      have HZ := Lib.hid hz
      have HZ2 := Lib.hid hz2
      clear hx hy hz hz2 hx2
      go_wp2_with (first
        | (go_at_call 54; (with_reducible refine (scomb_val (op := op) (a := a) (b := b) (x := x) _ HX.out).mono ?_); rintro e w' ⟨rfl, rfl⟩)
        | (go_at_call 55; (with_reducible refine (comb_val (op := op) (a := a) (b := b) (x := x) _ HX.out).mono ?_); rintro e w' ⟨rfl, rfl⟩)
        | (go_at_call 55; (with_reducible refine (comb_val (op := op) (a := b) (b := a) (x := x) _ HX2.out).mono ?_); rintro e w' ⟨rfl, rfl⟩)
        | (go_at_call 55; (with_reducible refine (comb_val (op := op) (a := x) (b := c) (x := z) _ HZ.out).mono ?_); rintro e w' ⟨rfl, rfl⟩)
        | (go_at_call 55; (with_reducible refine (comb_val (op := op) (a := b) (b := c) (x := y) _ HY.out).mono ?_); rintro e w' ⟨rfl, rfl⟩)
        | (go_at_call 55; (with_reducible refine (comb_val (op := op) (a := a) (b := y) (x := z) _ HZ2.out).mono ?_); rintro e w' ⟨rfl, rfl⟩))
      go_ret
      exact ⟨rfl, HB.out⟩
end Go.Proofs.Ytonipfhigkkhnaa
