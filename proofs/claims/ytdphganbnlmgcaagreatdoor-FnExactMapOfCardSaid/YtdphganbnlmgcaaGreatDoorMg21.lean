/- Texts put together, as a claim holds at most sixty files. -/
import Derived.Test.YtdphganbnlmgcaaGreatDoorMg20
import Derived.Test.YtdphganbnlmgcaaGreatDoorMg18
import Derived.Test.YtdphganbnlmgcaaGreatDoorMg0
namespace Go.Proofs.YtdphganbnlmgcaaGreatDoor
open Go.ChangeShapes Go.WideShapes Go.ChangeAt Go.RowKit Go.MuLone
set_option linter.unusedVariables false
set_option maxRecDepth 100000

/-- A slice of records of the call's own. -/
def MadeRc (W : Recs) (w : World) (e : Ending) (w' : World) : Prop :=
  ∃ q cp, e = .returned (.slice q W.length cp) ∧ Below w.heap.size w w' ∧ RcK w.heap.size w' q W ∧ (q = none → cp = 0) ∧ W.length ≤ cp

set_option maxHeartbeats 8000000 in
theorem ofpart_any (a : Option Addr) (len cap : Nat) (V : Recs) (p n : Int) (w : World) (h : RecsAt w a len V) (h600 : len ≤ 600) :
    Calls Tryz.prog 51 #[.slice a len cap, .int .i64 p, .int .i64 n] w (MadeRc (partL V n p) w) := by
  have HL := Lib.hid h.length
  have HK := Lib.hid h.keys
  have HR := Lib.hid h
  have HS0 : Hid (w.ownsRow w.heap.size 50 2 (.slice none 0 0) 0 (cellsRc (partL (V.take 0) n p)) ∧ Below w.heap.size w w) := Lib.hid ⟨own_nilRc w _, Below.refl _ _⟩
  clear h
  go_enter Tryz.func51, Tryz.ntmps51
  go_wp2_with fail
  go_loopw [7, 12] (fun o i wr => ∃ (k no : Nat) (qo : Option Addr) (co : Nat), k ≤ len ∧ o = .slice qo no co ∧ i = .int .i64 k ∧ no ≤ k ∧ Hid ((partL (V.take k) n p).length = no) ∧ Hid (wr.ownsRow w.heap.size 50 2 (.slice qo no co) no (cellsRc (partL (V.take k) n p)) ∧ Below w.heap.size w wr)) (fun _ i _ => len - (intOf i).toNat)
  case atStart => exact ⟨0, 0, _, _, Nat.zero_le _, rfl, rfl, Nat.le_refl _, Lib.hid rfl, HS0⟩
  case round =>
    clear HS0
    obtain ⟨k, no, qo, co, hk, rfl, rfl, hno, HOL, HS⟩ := hrel
    by_cases hlt : k < len
    · rcases (HR.out.keep HS.out.2).src with hz | ⟨b, off, rfl, hb, hc⟩
      · omega
      obtain ⟨c0, c1⟩ := hc k hlt
      have hi0 : (0 : Int) ≤ (k : Int) := by omega
      have hi1 : (k : Int) < (len : Int) := by omega
      have HKY := Lib.hid (HK.out k hlt)
      have HKV := Lib.hid (show k < V.length by rw [HL.out]; exact hlt)
      obtain ⟨x, hx⟩ : ∃ x, keyAt V k = x := ⟨_, rfl⟩
      obtain ⟨y, hy⟩ : ∃ y, numAt V k = y := ⟨_, rfl⟩
      rw [hx] at c0 HKY
      rw [hy] at c1
      have HX := Lib.hid hx
      have HY := Lib.hid hy
      clear hc hb hx hy
      go_wp2_with fail
      refine (part_any x n _ HKY.out).mono ?_
      rintro e w5 ⟨rfl, rfl⟩
      have HB5 := Lib.hid (below_alloc HS.out.2 (.cells #[.string x, .int .i64 y] 50))
      have HO5 := Lib.hid (own_below HS.out.1 (below_alloc (Below.refl _ _) (.cells #[.string x, .int .i64 y] 50)))
      clear c0 c1
      obtain ⟨z, hz⟩ : ∃ z, partN x n = z := ⟨_, rfl⟩
      by_cases hp : z = p
      · have HNX := Lib.hid (partL_in HKV.out (n := n) (p := p) (by rw [HX.out, hz]; exact hp))
        rw [HX.out, HY.out] at HNX
        rw [hz]
        have hpp : ((z : Int) == p) = true := by rw [hp]; simp
        clear hz
        have HNEW := Lib.hid (show ∀ j u, [Value.string x, Value.int .i64 y][j]? = some u → ((wr.alloc (.cells #[.string x, .int .i64 y] 50)).alloc (.cells #[.string x, .int .i64 y] 50)).cell? ((⟨wr.heap.size + 1, 0, none⟩ : Addr).add j) = some u from by
          have h1 := rc_new (wr.alloc (.cells #[.string x, .int .i64 y] 50)) x y 50
          have e : (wr.alloc (.cells #[.string x, .int .i64 y] 50)).heap.size = wr.heap.size + 1 := by simp
          rw [e] at h1
          exact h1)
        go_wp2_with (at_builtin; go_loud (refine append1_rc rfl _ _ rfl w.heap.size (.slice qo no co) no _ rfl (own_below HO5.out (below_alloc (Below.refl _ _) _)) (wr.heap.size + 1) _ x y rfl HNEW.out (by omega) (Nat.le_trans HB5.out.size (by simp)) ?_); intro q6 c6 w6 hown hgrow; have HS6 := Lib.hid (show w6.ownsRow w.heap.size 50 2 (.slice q6 (no + 1) c6) (no + 1) (cellsRc (partL (V.take (k + 1)) n p)) ∧ Below w.heap.size w w6 from ⟨by rw [HNX.out]; exact hown, (below_alloc HB5.out _).grown hgrow (Nat.le_trans HB5.out.size (by simp)) (fun j hj => (HS.out.1.lt j hj).1)⟩); clear hown hgrow)
        go_roundw
        case rel => exact ⟨k + 1, no + 1, q6, c6, by omega, rfl, by go_num, by omega, Lib.hid (by rw [HNX.out, List.length_append, HOL.out]; rfl), HS6⟩
        case measure => simp [intOf]; omega
      · have HNX := Lib.hid (partL_out HKV.out (n := n) (p := p) (by rw [HX.out, hz]; exact hp))
        rw [hz]
        have hpp : ((z : Int) == p) = false := by rw [beq_eq_false_iff_ne]; exact hp
        clear hz
        go_wp2
        go_roundw
        case rel => exact ⟨k + 1, no, qo, co, by omega, rfl, by go_num, by omega, Lib.hid (by rw [HNX.out]; exact HOL.out), Lib.hid ⟨by rw [HNX.out]; exact HO5.out, HB5.out⟩⟩
        case measure => simp [intOf]; omega
    · obtain rfl : k = len := by omega
      have HALL := Lib.hid (show V.take k = V by rw [← HL.out]; exact List.take_length)
      go_wp2
      go_ret
      have h1 := HS.out.1
      rw [HALL.out] at h1
      have h2 := HOL.out
      rw [HALL.out] at h2
      exact ⟨qo, co, by rw [h2]; rfl, HS.out.2, rck_of_own (m := no) (cp := co) (by rw [h2]; exact h1), (own_qcap h1).1, by rw [h2]; exact (own_qcap h1).2⟩
end Go.Proofs.YtdphganbnlmgcaaGreatDoor
namespace Go.Proofs.YtdphganbnlmgcaaGreatDoor
open Go.ChangeShapes Go.WideShapes Go.ChangeAt Go.RowKit
set_option linter.unusedVariables false
set_option maxRecDepth 100000

def combN (op a b : Int) : Int := if op = 1 ∨ op = 4 then wrap64 (a + b) else if op = 2 then (if b < a then b else a) else if op = 3 then (if a < b then b else a) else 0

def Same (x : Int) (w : World) (e : Ending) (w' : World) : Prop := e = .returned (.int .i64 x) ∧ w = w'
theorem comb_sum (op a b : Int) (h : op = 1 ∨ op = 4) : wrap64 (a + b) = combN op a b := by unfold combN; rw [if_pos h]
theorem comb_lo (a b : Int) (h : b < a) : b = combN 2 a b := by unfold combN; rw [if_neg (by decide), if_pos rfl, if_pos h]
theorem comb_lo' (a b : Int) (h : ¬ b < a) : a = combN 2 a b := by unfold combN; rw [if_neg (by decide), if_pos rfl, if_neg h]
theorem comb_hi (a b : Int) (h : a < b) : b = combN 3 a b := by unfold combN; rw [if_neg (by decide), if_neg (by decide), if_pos rfl, if_pos h]
theorem comb_hi' (a b : Int) (h : ¬ a < b) : a = combN 3 a b := by unfold combN; rw [if_neg (by decide), if_neg (by decide), if_pos rfl, if_neg h]
theorem comb_no (op a b : Int) (h1 : op ≠ 1) (h2 : op ≠ 2) (h3 : op ≠ 3) (h4 : op ≠ 4) : 0 = combN op a b := by
  unfold combN; rw [if_neg (by omega), if_neg h2, if_neg h3]
theorem same_of {x y : Int} {w : World} (h : x = y) : Same y w (.returned (.int .i64 x)) w := ⟨by rw [h], rfl⟩

theorem scomb_1 (a b : Int) (w : World) : Calls Tryz.prog 43 #[.int .i64 1, .int .i64 a, .int .i64 b] w (Same (combN 1 a b) w) := by
  go_enter Tryz.func43, Tryz.ntmps43
  go_wp2
  go_ret
  exact same_of (comb_sum 1 a b (.inl rfl))
theorem scomb_4 (a b : Int) (w : World) : Calls Tryz.prog 43 #[.int .i64 4, .int .i64 a, .int .i64 b] w (Same (combN 4 a b) w) := by
  go_enter Tryz.func43, Tryz.ntmps43
  go_wp2
  go_ret
  exact same_of (comb_sum 4 a b (.inr rfl))
theorem scomb_2 (a b : Int) (w : World) : Calls Tryz.prog 43 #[.int .i64 2, .int .i64 a, .int .i64 b] w (Same (combN 2 a b) w) := by
  by_cases h : b < a
  · have H := Lib.hid (comb_lo a b h)
    go_enter Tryz.func43, Tryz.ntmps43
    go_wp2
    go_ret
    exact same_of H.out
  · have H := Lib.hid (comb_lo' a b h)
    go_enter Tryz.func43, Tryz.ntmps43
    go_wp2
    go_ret
    exact same_of H.out
theorem scomb_3 (a b : Int) (w : World) : Calls Tryz.prog 43 #[.int .i64 3, .int .i64 a, .int .i64 b] w (Same (combN 3 a b) w) := by
  by_cases h : a < b
  · have H := Lib.hid (comb_hi a b h)
    go_enter Tryz.func43, Tryz.ntmps43
    go_wp2
    go_ret
    exact same_of H.out
  · have H := Lib.hid (comb_hi' a b h)
    go_enter Tryz.func43, Tryz.ntmps43
    go_wp2
    go_ret
    exact same_of H.out
theorem scomb_0 (op a b : Int) (w : World) (h1 : op ≠ 1) (h2 : op ≠ 2) (h3 : op ≠ 3) (h4 : op ≠ 4) : Calls Tryz.prog 43 #[.int .i64 op, .int .i64 a, .int .i64 b] w (Same (combN op a b) w) := by
  have H := Lib.hid (comb_no op a b h1 h2 h3 h4)
  have g1 : (op == 1) = false := by simpa using h1
  have g2 : (op == 2) = false := by simpa using h2
  have g3 : (op == 3) = false := by simpa using h3
  have g4 : (op == 4) = false := by simpa using h4
  clear h1 h2 h3 h4
  go_enter Tryz.func43, Tryz.ntmps43
  go_wp2
  go_ret
  exact same_of H.out
theorem scomb_any (op a b : Int) (w : World) : Calls Tryz.prog 43 #[.int .i64 op, .int .i64 a, .int .i64 b] w (Same (combN op a b) w) := by
  by_cases h1 : op = 1
  · subst h1; exact scomb_1 a b w
  · by_cases h2 : op = 2
    · subst h2; exact scomb_2 a b w
    · by_cases h3 : op = 3
      · subst h3; exact scomb_3 a b w
      · by_cases h4 : op = 4
        · subst h4; exact scomb_4 a b w
        · exact scomb_0 op a b w h1 h2 h3 h4

end Go.Proofs.YtdphganbnlmgcaaGreatDoor
namespace Go.Proofs.YtdphganbnlmgcaaGreatDoor
open Go.ChangeShapes Go.WideShapes Go.ChangeAt Go.RowKit
set_option linter.unusedVariables false
set_option maxRecDepth 100000

def opOkB (op : Int) : Bool := decide (1 ≤ op) && decide (op ≤ 4)
/-- The end of combiner: a function, and whether the op is valid. -/
def MadeComb (b : Bool) (w : World) (e : Ending) (w' : World) : Prop := ∃ f : Value, e = .returned (.tuple #[f, .bool b]) ∧ w = w'
theorem op_ways {op : Int} (h : opOkB op = true) : op = 1 ∨ op = 2 ∨ op = 3 ∨ op = 4 := by
  unfold opOkB at h
  rw [Bool.and_eq_true, decide_eq_true_eq, decide_eq_true_eq] at h
  omega
theorem op_none {op : Int} (h : opOkB op = false) : op ≠ 1 ∧ op ≠ 2 ∧ op ≠ 3 ∧ op ≠ 4 := by
  refine ⟨?_, ?_, ?_, ?_⟩ <;> rintro rfl <;> simp [opOkB] at h
set_option maxHeartbeats 2000000 in
theorem combiner_any (op : Int) (w : World) : Calls Tryz.prog 45 #[.int .i64 op] w (MadeComb (opOkB op) w) := by
  cases h : opOkB op with
  | true =>
    rcases op_ways h with rfl | rfl | rfl | rfl
    all_goals (
      clear h
      go_enter Tryz.func45, Tryz.ntmps45
      go_wp2
      go_ret2
      exact ⟨_, rfl, rfl⟩)
  | false =>
    obtain ⟨h1, h2, h3, h4⟩ := op_none h
    have g1 : (op == 1) = false := by simpa using h1
    have g2 : (op == 2) = false := by simpa using h2
    have g3 : (op == 3) = false := by simpa using h3
    have g4 : (op == 4) = false := by simpa using h4
    clear h h1 h2 h3 h4
    go_enter Tryz.func45, Tryz.ntmps45
    go_wp2
    go_ret2
    exact ⟨_, rfl, rfl⟩
set_option maxHeartbeats 1000000 in
theorem l4op_any (op : Int) (w : World) : Calls Tryz.prog 35 #[.int .i64 op] w fun e w' => e = .returned (.bool (opOkB op)) ∧ w = w' := by
  by_cases h1 : 1 ≤ op
  · have e : opOkB op = decide (op ≤ 4) := by unfold opOkB; rw [decide_eq_true h1, Bool.true_and]
    rw [e]
    clear e
    go_enter Tryz.func35, Tryz.ntmps35
    go_wp2
    go_ret
    exact ⟨rfl, rfl⟩
  · have e : opOkB op = false := by unfold opOkB; rw [decide_eq_false h1, Bool.false_and]
    rw [e]
    clear e
    go_enter Tryz.func35, Tryz.ntmps35
    go_wp2
    go_ret
    exact ⟨rfl, rfl⟩
end Go.Proofs.YtdphganbnlmgcaaGreatDoor
