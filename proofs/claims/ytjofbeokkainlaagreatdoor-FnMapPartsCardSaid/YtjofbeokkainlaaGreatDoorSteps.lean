
/- The steps of a program: what each does to the machine. -/
import Derived.Test.YtjofbeokkainlaaGreatDoorMg26
import Derived.Test.YtjofbeokkainlaaGreatDoorMg9
import Derived.Test.YtjofbeokkainlaaGreatDoorMg10
namespace Go.Proofs.YtjofbeokkainlaaGreatDoor
open Go.ChangeShapes Go.WideShapes Go.ChangeAt Go.RowKit
set_option linter.unusedVariables false
set_option maxRecDepth 100000

/-- The function of an instruction's step, and what it has caught. -/
def capFn : Nat → FuncId
  | 1 => 128 | 2 => 131 | 3 => 132 | 4 => 156 | 5 => 136 | 6 => 138 | 7 => 140
  | 8 => 159 | 9 => 159 | 10 => 159 | 11 => 159 | 12 => 156 | 13 => 160 | _ => 162
def inFn : Nat → FuncId
  | 4 => 135 | 8 => 144 | 9 => 145 | 10 => 146 | 11 => 147 | _ => 149
/-- The value v is the step of an instruction: its box lies from block E on, below block D. -/
def StepV (E D : Nat) (w : World) (op : Nat) (n : Int) (s : ByteArray) (v : Value) : Prop :=
  if op ≤ 3 then ∃ b, (E ≤ b ∧ b < D) ∧ v = .func (.func (capFn op)) #[] #[.pointer (some ⟨b, 0, none⟩)] ∧ Row w b 89 #[.int .i64 op, .int .i64 n, .string s]
  else if op = 4 ∨ op = 12 then ∃ b, (E ≤ b ∧ b < D) ∧ v = .func (.func (capFn op)) #[] #[.pointer (some ⟨b, 0, none⟩)] ∧ Row w b 175 #[.func (.func (inFn op)) #[] #[]]
  else if 8 ≤ op ∧ op ≤ 11 then ∃ b, (E ≤ b ∧ b < D) ∧ v = .func (.func (capFn op)) #[] #[.pointer (some ⟨b, 0, none⟩)] ∧ Row w b 50 #[.func (.func (inFn op)) #[] #[]]
  else v = .func (.func (capFn op)) #[] #[]
theorem StepV.keep {E D : Nat} {w w1 : World} {op : Nat} {n : Int} {s : ByteArray} {v : Value} (h : StepV E D w op n s v) (hB : Below D w w1) : StepV E D w1 op n s v := by
  unfold StepV at h ⊢
  split
  · rename_i h1
    rw [if_pos h1] at h
    obtain ⟨b, hb, hv, hr⟩ := h
    exact ⟨b, hb, hv, (hB.block b hb.2).trans hr⟩
  · rename_i h1
    rw [if_neg h1] at h
    split
    · rename_i h2
      rw [if_pos h2] at h
      obtain ⟨b, hb, hv, hr⟩ := h
      exact ⟨b, hb, hv, (hB.block b hb.2).trans hr⟩
    · rename_i h2
      rw [if_neg h2] at h
      split
      · rename_i h3
        rw [if_pos h3] at h
        obtain ⟨b, hb, hv, hr⟩ := h
        exact ⟨b, hb, hv, (hB.block b hb.2).trans hr⟩
      · rename_i h3
        rw [if_neg h3] at h
        exact h
theorem StepV.wide {E D E2 D2 : Nat} {w : World} {op : Nat} {n : Int} {s : ByteArray} {v : Value} (h : StepV E D w op n s v) (hE : E2 ≤ E) (hD : D ≤ D2) : StepV E2 D2 w op n s v := by
  unfold StepV at h ⊢
  split
  · rename_i h1
    rw [if_pos h1] at h
    obtain ⟨b, hb, hv, hr⟩ := h
    exact ⟨b, ⟨Nat.le_trans hE hb.1, Nat.lt_of_lt_of_le hb.2 hD⟩, hv, hr⟩
  · rename_i h1
    rw [if_neg h1] at h
    split
    · rename_i h2
      rw [if_pos h2] at h
      obtain ⟨b, hb, hv, hr⟩ := h
      exact ⟨b, ⟨Nat.le_trans hE hb.1, Nat.lt_of_lt_of_le hb.2 hD⟩, hv, hr⟩
    · rename_i h2
      rw [if_neg h2] at h
      split
      · rename_i h3
        rw [if_pos h3] at h
        obtain ⟨b, hb, hv, hr⟩ := h
        exact ⟨b, ⟨Nat.le_trans hE hb.1, Nat.lt_of_lt_of_le hb.2 hD⟩, hv, hr⟩
      · rename_i h3
        rw [if_neg h3] at h
        exact h
theorem StepV.put {E D : Nat} {w : World} {op : Nat} {n : Int} {s : ByteArray} {v : Value} (h : StepV E D w op n s v) {G : Nat} (hG : G < E) (j : Nat) (x : Value) : StepV E D (w.setCell ⟨G, j, none⟩ x) op n s v := by
  unfold StepV at h ⊢
  split
  · rename_i h1
    rw [if_pos h1] at h
    obtain ⟨b, hb, hv, hr⟩ := h
    exact ⟨b, hb, hv, hr.otPut (by omega) j x⟩
  · rename_i h1
    rw [if_neg h1] at h
    split
    · rename_i h2
      rw [if_pos h2] at h
      obtain ⟨b, hb, hv, hr⟩ := h
      exact ⟨b, hb, hv, hr.otPut (by omega) j x⟩
    · rename_i h2
      rw [if_neg h2] at h
      split
      · rename_i h3
        rw [if_pos h3] at h
        obtain ⟨b, hb, hv, hr⟩ := h
        exact ⟨b, hb, hv, hr.otPut (by omega) j x⟩
      · rename_i h3
        rw [if_neg h3] at h
        exact h
theorem StepV.grownT {E D bo : Nat} {e : TypeId} {size m : Nat} {v2 : Value} {xs : List Value} {w w1 : World} {op : Nat} {n : Int} {s : ByteArray} {v : Value} (h : StepV E D w op n s v) (ho : w.ownsRow bo e size v2 m xs) (h1 : 89 ≠ e) (h2 : 175 ≠ e) (h3 : 50 ≠ e) (hg : w.grownBy w1 v2.ownBlock) : StepV E D w1 op n s v := by
  unfold StepV at h ⊢
  split
  · rename_i g1
    rw [if_pos g1] at h
    obtain ⟨b, hb, hv, hr⟩ := h
    exact ⟨b, hb, hv, ot_row_grownT hr ho h1 hg⟩
  · rename_i g1
    rw [if_neg g1] at h
    split
    · rename_i g2
      rw [if_pos g2] at h
      obtain ⟨b, hb, hv, hr⟩ := h
      exact ⟨b, hb, hv, ot_row_grownT hr ho h2 hg⟩
    · rename_i g2
      rw [if_neg g2] at h
      split
      · rename_i g3
        rw [if_pos g3] at h
        obtain ⟨b, hb, hv, hr⟩ := h
        exact ⟨b, hb, hv, ot_row_grownT hr ho h3 hg⟩
      · rename_i g3
        rw [if_neg g3] at h
        exact h
theorem bnum_any (b : Bool) (w : World) : Calls Tryz.prog 148 #[.bool b] w fun e w' => e = .returned (.int .i64 (truthI b)) ∧ w' = w := by
  cases b
  · go_enter Tryz.func148, Tryz.ntmps148
    go_wp2
    go_ret
    exact ⟨rfl, rfl⟩
  · go_enter Tryz.func148, Tryz.ntmps148
    go_wp2
    go_ret
    exact ⟨rfl, rfl⟩
theorem MEnd.via {B M : Nat} {wv v : Value} {T : Strs} {N : List Int} {O : Recs} {w w1 : World} {e : Ending} {w' : World} (hB : Below B w w1) (h : MEnd B M wv v T N O w1 e w') : MEnd B M wv v T N O w e w' := ⟨h.1, h.2.1, hB.trans h.2.2⟩

set_option maxHeartbeats 2000000 in
theorem step1_any (B M : Nat) (wq : Option Addr) (wn wc : Nat) (ws : Strs) (w : World) (T : Strs) (N : List Int) (O : Recs) (b : Nat) (n : Int) (s : ByteArray) (h : MAt B M (.slice wq wn wc) w T N O) (hr : Row w b 89 #[.int .i64 1, .int .i64 n, .string s]) (hw : StrsAt w wq wn ws) (hn : 0 ≤ n) (hf : T.length < 100) :
    Calls Tryz.prog 128 #[.pointer (some ⟨M, 0, none⟩), .pointer (some ⟨b, 0, none⟩)] w (MEnd B M (.slice wq wn wc) (.tuple #[]) (T ++ [wordAt ws n]) N O w) := by
  have k0 := hr.cell (j := 0) (by simp)
  have k1 := hr.cell (j := 1) (by simp)
  have k2 := hr.cell (j := 2) (by simp)
  simp at k0 k1 k2
  go_enter Tryz.func128, Tryz.ntmps128
  go_wp2_with fail
  refine (mword_any B M wq wn wc ws _ T N O n h hw hn).mono ?_
  rintro e w1 ⟨rfl, hw1⟩
  subst hw1
  obtain ⟨x, hx⟩ : ∃ x, wordAt ws n = x := ⟨_, rfl⟩
  rw [hx]
  go_wp2_with fail
  refine (pushText_any B M _ _ T N O x h hf).mono ?_
  rintro e w1 ⟨rfl, hM1, hB1⟩
  go_wp2
  go_end0
  exact ⟨rfl, hx ▸ hM1, hB1⟩

set_option maxHeartbeats 2000000 in
theorem step2_any (B M : Nat) (wv : Value) (w : World) (T : Strs) (N : List Int) (O : Recs) (b : Nat) (n : Int) (s : ByteArray) (h : MAt B M wv w T N O) (hr : Row w b 89 #[.int .i64 2, .int .i64 n, .string s]) (hf : T.length < 100)
    : Calls Tryz.prog 131 #[.pointer (some ⟨M, 0, none⟩), .pointer (some ⟨b, 0, none⟩)] w (MEnd B M wv (.tuple #[]) (T ++ [s]) N O w) := by
  have k0 := hr.cell (j := 0) (by simp)
  have k1 := hr.cell (j := 1) (by simp)
  have k2 := hr.cell (j := 2) (by simp)
  simp at k0 k1 k2
  go_enter Tryz.func131, Tryz.ntmps131
  go_wp2_with fail
  refine (pushText_any B M _ _ T N O s h hf).mono ?_
  rintro e w1 ⟨rfl, hM1, hB1⟩
  go_wp2
  go_end0
  exact ⟨rfl, hM1, hB1⟩

set_option maxHeartbeats 2000000 in
theorem step3_any (B M : Nat) (wv : Value) (w : World) (T : Strs) (N : List Int) (O : Recs) (b : Nat) (n : Int) (s : ByteArray) (h : MAt B M wv w T N O) (hr : Row w b 89 #[.int .i64 3, .int .i64 n, .string s]) (hf : N.length < 100)
    : Calls Tryz.prog 132 #[.pointer (some ⟨M, 0, none⟩), .pointer (some ⟨b, 0, none⟩)] w (MEnd B M wv (.tuple #[]) T (N ++ [n]) O w) := by
  have k0 := hr.cell (j := 0) (by simp)
  have k1 := hr.cell (j := 1) (by simp)
  have k2 := hr.cell (j := 2) (by simp)
  simp at k0 k1 k2
  go_enter Tryz.func132, Tryz.ntmps132
  go_wp2_with fail
  refine (pushNum_any B M _ _ T N O n h hf).mono ?_
  rintro e w1 ⟨rfl, hM1, hB1⟩
  go_wp2
  go_end0
  exact ⟨rfl, hM1, hB1⟩

set_option maxHeartbeats 2000000 in
theorem in4_any (B M : Nat) (wv : Value) (w : World) (T : Strs) (N : List Int) (O : Recs) (x y : ByteArray) (h : MAt B M wv w T N O) (hx : x.size ≤ 40) (hy : y.size ≤ 40) (hf : T.length < 100)
    : Calls Tryz.prog 135 #[.pointer (some ⟨M, 0, none⟩), .string x, .string y] w (MEnd B M wv (.tuple #[]) (T ++ [x ++ y]) N O w) := by
  go_enter Tryz.func135, Tryz.ntmps135
  go_wp2_with fail
  refine (pushText_any B M _ _ T N O (x ++ y) h hf).mono ?_
  rintro e w1 ⟨rfl, hM1, hB1⟩
  go_wp2
  go_end0
  exact ⟨rfl, hM1, hB1⟩

set_option maxHeartbeats 2000000 in
theorem in12_any (B M : Nat) (wv : Value) (w : World) (T : Strs) (N : List Int) (O : Recs) (x y : ByteArray) (h : MAt B M wv w T N O) (hf : N.length < 100)
    : Calls Tryz.prog 149 #[.pointer (some ⟨M, 0, none⟩), .string x, .string y] w (MEnd B M wv (.tuple #[]) T (N ++ [truthI (decide (x = y))]) O w) := by
  obtain ⟨z, hz⟩ : ∃ z, decide (x = y) = z := ⟨_, rfl⟩
  have HZ := Lib.hid hz
  have hq : (x.toList == y.toList) = z := by
    rw [← hz]
    by_cases he : x = y
    · rw [decide_eq_true he]; exact ba_eqv he
    · rw [decide_eq_false he]; exact ba_nev he
  rw [hz]
  clear hz
  go_enter Tryz.func149, Tryz.ntmps149
  go_wp2_with fail
  refine (bnum_any z _).mono ?_
  rintro e w2 ⟨rfl, hw2⟩
  subst hw2
  go_wp2_with fail
  refine (pushNum_any B M _ _ T N O (truthI z) h hf).mono ?_
  rintro e w1 ⟨rfl, hM1, hB1⟩
  go_wp2
  go_end0
  exact ⟨rfl, hM1, hB1⟩

theorem in8_any (x y : Int) (w : World) : Calls Tryz.prog 144 #[.int .i64 x, .int .i64 y] w fun e w' => e = .returned (.int .i64 (wrap64 (x + y))) ∧ w' = w := by
  go_enter Tryz.func144, Tryz.ntmps144
  go_wp2
  go_ret
  exact ⟨rfl, rfl⟩

theorem in9_any (x y : Int) (w : World) : Calls Tryz.prog 145 #[.int .i64 x, .int .i64 y] w fun e w' => e = .returned (.int .i64 (wrap64 (x - y))) ∧ w' = w := by
  go_enter Tryz.func145, Tryz.ntmps145
  go_wp2
  go_ret
  exact ⟨rfl, rfl⟩

theorem in10_any (x y : Int) (w : World) : Calls Tryz.prog 146 #[.int .i64 x, .int .i64 y] w fun e w' => e = .returned (.int .i64 (wrap64 (x * y))) ∧ w' = w := by
  go_enter Tryz.func146, Tryz.ntmps146
  go_wp2
  go_ret
  exact ⟨rfl, rfl⟩

theorem in11_any (x y : Int) (w : World) : Calls Tryz.prog 147 #[.int .i64 x, .int .i64 y] w fun e w' => e = .returned (.int .i64 (truthI (decide (x < y)))) ∧ w' = w := by
  obtain ⟨z, hz⟩ : ∃ z, decide (x < y) = z := ⟨_, rfl⟩
  rw [hz]
  go_enter Tryz.func147, Tryz.ntmps147
  go_wp2_with fail
  try rw [hz]
  refine (bnum_any z _).mono ?_
  rintro e w2 ⟨rfl, hw2⟩
  subst hw2
  go_wp2
  go_ret
  exact ⟨rfl, rfl⟩

set_option maxHeartbeats 2000000 in
theorem step4_any (B M : Nat) (wv : Value) (w : World) (T : Strs) (N : List Int) (O : Recs) (b : Nat) (x y : ByteArray) (h : MAt B M wv w (T ++ [x] ++ [y]) N O) (hc : w.cell? ⟨b, 0, none⟩ = some (.func (.func 135) #[] #[])) (hb : b < B) (hx : x.size ≤ 40) (hy : y.size ≤ 40) (hf : T.length < 90 ∧ N.length < 90)
    : Calls Tryz.prog 156 #[.pointer (some ⟨M, 0, none⟩), .pointer (some ⟨b, 0, none⟩)] w (MEnd B M wv (.tuple #[]) (T ++ [x ++ y]) N O w) := by
  go_enter Tryz.func156, Tryz.ntmps156
  go_wp2_with fail
  refine (popText_any B M _ _ _ N O (T ++ [x]) y h rfl).mono ?_
  rintro e w1 ⟨rfl, hM1, hB1⟩
  go_wp2_with fail
  refine (popText_any B M _ _ _ N O T x hM1 rfl).mono ?_
  rintro e w2 ⟨rfl, hM2, hB2⟩
  have k2 := (hB2.cell (p := ⟨b, 0, none⟩) hb).trans ((hB1.cell (p := ⟨b, 0, none⟩) hb).trans hc)
  go_wp2_with fail
  refine (in4_any B M _ _ T N O x y hM2 hx hy (by omega)).mono ?_
  rintro e w3 ⟨rfl, hM3, hB3⟩
  go_wp2
  go_end0
  exact ⟨rfl, hM3, ((hB1.trans hB2).trans hB3)⟩

set_option maxHeartbeats 2000000 in
theorem step12_any (B M : Nat) (wv : Value) (w : World) (T : Strs) (N : List Int) (O : Recs) (b : Nat) (x y : ByteArray) (h : MAt B M wv w (T ++ [x] ++ [y]) N O) (hc : w.cell? ⟨b, 0, none⟩ = some (.func (.func 149) #[] #[])) (hb : b < B) (hx : x.size ≤ 40) (hy : y.size ≤ 40) (hf : T.length < 90 ∧ N.length < 90)
    : Calls Tryz.prog 156 #[.pointer (some ⟨M, 0, none⟩), .pointer (some ⟨b, 0, none⟩)] w (MEnd B M wv (.tuple #[]) T (N ++ [truthI (decide (x = y))]) O w) := by
  go_enter Tryz.func156, Tryz.ntmps156
  go_wp2_with fail
  refine (popText_any B M _ _ _ N O (T ++ [x]) y h rfl).mono ?_
  rintro e w1 ⟨rfl, hM1, hB1⟩
  go_wp2_with fail
  refine (popText_any B M _ _ _ N O T x hM1 rfl).mono ?_
  rintro e w2 ⟨rfl, hM2, hB2⟩
  have k2 := (hB2.cell (p := ⟨b, 0, none⟩) hb).trans ((hB1.cell (p := ⟨b, 0, none⟩) hb).trans hc)
  go_wp2_with fail
  refine (in12_any B M _ _ T N O x y hM2 (by omega)).mono ?_
  rintro e w3 ⟨rfl, hM3, hB3⟩
  go_wp2
  go_end0
  exact ⟨rfl, hM3, ((hB1.trans hB2).trans hB3)⟩

set_option maxHeartbeats 2000000 in
theorem step5_any (B M : Nat) (wv : Value) (w : World) (T : Strs) (N : List Int) (O : Recs) (x : ByteArray) (h : MAt B M wv w (T ++ [x]) N O) (hx : x.size ≤ 40) (hf : N.length < 90)
    : Calls Tryz.prog 136 #[.pointer (some ⟨M, 0, none⟩)] w (MEnd B M wv (.tuple #[]) T (N ++ [(x.size : Int)]) O w) := by
  go_enter Tryz.func136, Tryz.ntmps136
  go_wp2_with fail
  refine (popText_any B M _ _ _ N O T x h rfl).mono ?_
  rintro e w1 ⟨rfl, hM1, hB1⟩
  go_wp2_with fail
  refine (pushNum_any B M _ _ T N O _ hM1 (by omega)).mono ?_
  rintro e w2 ⟨rfl, hM2, hB2⟩
  go_wp2
  go_end0
  exact ⟨rfl, hM2, (hB1.trans hB2)⟩

set_option maxHeartbeats 2000000 in
theorem step6_any (B M : Nat) (wv : Value) (w : World) (T : Strs) (N : List Int) (O : Recs) (x : ByteArray) (w0 : World) (h : MAt B M wv w (T ++ [x]) N O) (hx : x.size ≤ 40) (hf : N.length < 90) (hT : TabsR w0) (h0 : Below w0.heap.size w0 w) (hB0 : w0.heap.size ≤ B)
    : Calls Tryz.prog 138 #[.pointer (some ⟨M, 0, none⟩)] w (MEnd B M wv (.tuple #[]) T (N ++ [numI x]) O w) := by
  obtain ⟨z, hz⟩ : ∃ z, numI x = z := ⟨_, rfl⟩
  have HZ := Lib.hid (show (numD x.data.toList).getD 0 = z from hz)
  rw [hz]
  clear hz
  go_enter Tryz.func138, Tryz.ntmps138
  go_wp2_with fail
  refine (popText_any B M _ _ _ N O T x h rfl).mono ?_
  rintro e w1 ⟨rfl, hM1, hB1⟩
  go_wp2_with fail
  refine (decimalof_any x _ (by omega) (hT.keep (h0.trans (hB1.mono hB0)))).mono ?_
  rintro e w2 ⟨rfl, hB2⟩
  rw [HZ.out]
  have hM2 := hM1.keep hB2
  have hB2 : Below B w1 w2 := hB2.mono (by obtain ⟨_, _, _, _, _, _, _, _, _, hq⟩ := hM1; exact hq.lts)
  clear hM1
  go_wp2_with fail
  refine (pushNum_any B M _ _ T N O _ hM2 (by omega)).mono ?_
  rintro e w3 ⟨rfl, hM3, hB3⟩
  go_wp2
  go_end0
  exact ⟨rfl, hM3, ((hB1.trans hB2).trans hB3)⟩

set_option maxHeartbeats 2000000 in
theorem step7_any (B M : Nat) (wv : Value) (w : World) (T : Strs) (N : List Int) (O : Recs) (x : Int) (w0 : World) (h : MAt B M wv w T (N ++ [x]) O) (hx : In64 x) (hf : T.length < 90) (hT : TabsR w0) (h0 : Below w0.heap.size w0 w) (hB0 : w0.heap.size ≤ B)
    : Calls Tryz.prog 140 #[.pointer (some ⟨M, 0, none⟩)] w (MEnd B M wv (.tuple #[]) (T ++ [decB x]) N O w) := by
  obtain ⟨z, hz⟩ : ∃ z, decB x = z := ⟨_, rfl⟩
  have HZ := Lib.hid hz
  rw [hz]
  clear hz
  go_enter Tryz.func140, Tryz.ntmps140
  go_wp2_with fail
  refine (popNum_any B M _ _ T _ O N x h rfl).mono ?_
  rintro e w1 ⟨rfl, hM1, hB1⟩
  go_wp2_with fail
  refine (fmt_any x hx _ (hT.keep (h0.trans (hB1.mono hB0))).pow).mono ?_
  rintro e w2 ⟨rfl, hB2⟩
  rw [HZ.out]
  have hM2 := hM1.keep hB2
  have hB2 : Below B w1 w2 := hB2.mono (by obtain ⟨_, _, _, _, _, _, _, _, _, hq⟩ := hM1; exact hq.lts)
  clear hM1
  go_wp2_with fail
  refine (pushText_any B M _ _ T N O _ hM2 (by omega)).mono ?_
  rintro e w3 ⟨rfl, hM3, hB3⟩
  go_wp2
  go_end0
  exact ⟨rfl, hM3, ((hB1.trans hB2).trans hB3)⟩

set_option maxHeartbeats 2000000 in
theorem step8_any (B M : Nat) (wv : Value) (w : World) (T : Strs) (N : List Int) (O : Recs) (b : Nat) (x y : Int) (h : MAt B M wv w T (N ++ [x] ++ [y]) O) (hc : w.cell? ⟨b, 0, none⟩ = some (.func (.func 144) #[] #[])) (hb : b < B) (hf : N.length < 90)
    : Calls Tryz.prog 159 #[.pointer (some ⟨M, 0, none⟩), .pointer (some ⟨b, 0, none⟩)] w (MEnd B M wv (.tuple #[]) T (N ++ [wrap64 (x + y)]) O w) := by
  obtain ⟨z, hz⟩ : ∃ z, wrap64 (x + y) = z := ⟨_, rfl⟩
  have HI := Lib.hid (show ∀ w, Calls Tryz.prog 144 #[.int .i64 x, .int .i64 y] w (fun e w' => e = .returned (.int .i64 z) ∧ w' = w) from fun w => by have := in8_any x y w; rw [hz] at this; exact this)
  rw [hz]
  clear hz
  go_enter Tryz.func159, Tryz.ntmps159
  go_wp2_with fail
  refine (popNum_any B M _ _ T _ O (N ++ [x]) y h rfl).mono ?_
  rintro e w1 ⟨rfl, hM1, hB1⟩
  go_wp2_with fail
  refine (popNum_any B M _ _ T _ O N x hM1 rfl).mono ?_
  rintro e w2 ⟨rfl, hM2, hB2⟩
  have k2 := (hB2.cell (p := ⟨b, 0, none⟩) hb).trans ((hB1.cell (p := ⟨b, 0, none⟩) hb).trans hc)
  go_wp2_with fail
  refine (HI.out _).mono ?_
  rintro e w3 ⟨rfl, hw3⟩
  subst hw3
  go_wp2_with fail
  refine (pushNum_any B M _ _ T N O z hM2 (by omega)).mono ?_
  rintro e w3 ⟨rfl, hM3, hB3⟩
  go_wp2
  go_end0
  exact ⟨rfl, hM3, ((hB1.trans hB2).trans hB3)⟩

set_option maxHeartbeats 2000000 in
theorem step9_any (B M : Nat) (wv : Value) (w : World) (T : Strs) (N : List Int) (O : Recs) (b : Nat) (x y : Int) (h : MAt B M wv w T (N ++ [x] ++ [y]) O) (hc : w.cell? ⟨b, 0, none⟩ = some (.func (.func 145) #[] #[])) (hb : b < B) (hf : N.length < 90)
    : Calls Tryz.prog 159 #[.pointer (some ⟨M, 0, none⟩), .pointer (some ⟨b, 0, none⟩)] w (MEnd B M wv (.tuple #[]) T (N ++ [wrap64 (x - y)]) O w) := by
  obtain ⟨z, hz⟩ : ∃ z, wrap64 (x - y) = z := ⟨_, rfl⟩
  have HI := Lib.hid (show ∀ w, Calls Tryz.prog 145 #[.int .i64 x, .int .i64 y] w (fun e w' => e = .returned (.int .i64 z) ∧ w' = w) from fun w => by have := in9_any x y w; rw [hz] at this; exact this)
  rw [hz]
  clear hz
  go_enter Tryz.func159, Tryz.ntmps159
  go_wp2_with fail
  refine (popNum_any B M _ _ T _ O (N ++ [x]) y h rfl).mono ?_
  rintro e w1 ⟨rfl, hM1, hB1⟩
  go_wp2_with fail
  refine (popNum_any B M _ _ T _ O N x hM1 rfl).mono ?_
  rintro e w2 ⟨rfl, hM2, hB2⟩
  have k2 := (hB2.cell (p := ⟨b, 0, none⟩) hb).trans ((hB1.cell (p := ⟨b, 0, none⟩) hb).trans hc)
  go_wp2_with fail
  refine (HI.out _).mono ?_
  rintro e w3 ⟨rfl, hw3⟩
  subst hw3
  go_wp2_with fail
  refine (pushNum_any B M _ _ T N O z hM2 (by omega)).mono ?_
  rintro e w3 ⟨rfl, hM3, hB3⟩
  go_wp2
  go_end0
  exact ⟨rfl, hM3, ((hB1.trans hB2).trans hB3)⟩

set_option maxHeartbeats 2000000 in
theorem step10_any (B M : Nat) (wv : Value) (w : World) (T : Strs) (N : List Int) (O : Recs) (b : Nat) (x y : Int) (h : MAt B M wv w T (N ++ [x] ++ [y]) O) (hc : w.cell? ⟨b, 0, none⟩ = some (.func (.func 146) #[] #[])) (hb : b < B) (hf : N.length < 90)
    : Calls Tryz.prog 159 #[.pointer (some ⟨M, 0, none⟩), .pointer (some ⟨b, 0, none⟩)] w (MEnd B M wv (.tuple #[]) T (N ++ [wrap64 (x * y)]) O w) := by
  obtain ⟨z, hz⟩ : ∃ z, wrap64 (x * y) = z := ⟨_, rfl⟩
  have HI := Lib.hid (show ∀ w, Calls Tryz.prog 146 #[.int .i64 x, .int .i64 y] w (fun e w' => e = .returned (.int .i64 z) ∧ w' = w) from fun w => by have := in10_any x y w; rw [hz] at this; exact this)
  rw [hz]
  clear hz
  go_enter Tryz.func159, Tryz.ntmps159
  go_wp2_with fail
  refine (popNum_any B M _ _ T _ O (N ++ [x]) y h rfl).mono ?_
  rintro e w1 ⟨rfl, hM1, hB1⟩
  go_wp2_with fail
  refine (popNum_any B M _ _ T _ O N x hM1 rfl).mono ?_
  rintro e w2 ⟨rfl, hM2, hB2⟩
  have k2 := (hB2.cell (p := ⟨b, 0, none⟩) hb).trans ((hB1.cell (p := ⟨b, 0, none⟩) hb).trans hc)
  go_wp2_with fail
  refine (HI.out _).mono ?_
  rintro e w3 ⟨rfl, hw3⟩
  subst hw3
  go_wp2_with fail
  refine (pushNum_any B M _ _ T N O z hM2 (by omega)).mono ?_
  rintro e w3 ⟨rfl, hM3, hB3⟩
  go_wp2
  go_end0
  exact ⟨rfl, hM3, ((hB1.trans hB2).trans hB3)⟩

set_option maxHeartbeats 2000000 in
theorem step11_any (B M : Nat) (wv : Value) (w : World) (T : Strs) (N : List Int) (O : Recs) (b : Nat) (x y : Int) (h : MAt B M wv w T (N ++ [x] ++ [y]) O) (hc : w.cell? ⟨b, 0, none⟩ = some (.func (.func 147) #[] #[])) (hb : b < B) (hf : N.length < 90)
    : Calls Tryz.prog 159 #[.pointer (some ⟨M, 0, none⟩), .pointer (some ⟨b, 0, none⟩)] w (MEnd B M wv (.tuple #[]) T (N ++ [truthI (decide (x < y))]) O w) := by
  obtain ⟨z, hz⟩ : ∃ z, truthI (decide (x < y)) = z := ⟨_, rfl⟩
  have HI := Lib.hid (show ∀ w, Calls Tryz.prog 147 #[.int .i64 x, .int .i64 y] w (fun e w' => e = .returned (.int .i64 z) ∧ w' = w) from fun w => by have := in11_any x y w; rw [hz] at this; exact this)
  rw [hz]
  clear hz
  go_enter Tryz.func159, Tryz.ntmps159
  go_wp2_with fail
  refine (popNum_any B M _ _ T _ O (N ++ [x]) y h rfl).mono ?_
  rintro e w1 ⟨rfl, hM1, hB1⟩
  go_wp2_with fail
  refine (popNum_any B M _ _ T _ O N x hM1 rfl).mono ?_
  rintro e w2 ⟨rfl, hM2, hB2⟩
  have k2 := (hB2.cell (p := ⟨b, 0, none⟩) hb).trans ((hB1.cell (p := ⟨b, 0, none⟩) hb).trans hc)
  go_wp2_with fail
  refine (HI.out _).mono ?_
  rintro e w3 ⟨rfl, hw3⟩
  subst hw3
  go_wp2_with fail
  refine (pushNum_any B M _ _ T N O z hM2 (by omega)).mono ?_
  rintro e w3 ⟨rfl, hM3, hB3⟩
  go_wp2
  go_end0
  exact ⟨rfl, hM3, ((hB1.trans hB2).trans hB3)⟩

set_option maxHeartbeats 2000000 in
theorem step13_any (B M : Nat) (wv : Value) (w : World) (T : Strs) (N : List Int) (O : Recs) (x : ByteArray) (m : Int) (h : MAt B M wv w (T ++ [x]) (N ++ [m]) O) (hf : O.length < 90)
    : Calls Tryz.prog 160 #[.pointer (some ⟨M, 0, none⟩)] w (MEnd B M wv (.tuple #[]) T N (O ++ [(x, m)]) w) := by
  go_enter Tryz.func160, Tryz.ntmps160
  go_wp2_with fail
  refine (popText_any B M _ _ _ _ O T x h rfl).mono ?_
  rintro e w1 ⟨rfl, hM1, hB1⟩
  go_wp2_with fail
  refine (popNum_any B M _ _ T _ O N m hM1 rfl).mono ?_
  rintro e w2 ⟨rfl, hM2, hB2⟩
  go_wp2_with fail
  refine (emit_any B M _ _ T N O x m hM2 (by omega)).mono ?_
  rintro e w3 ⟨rfl, hM3, hB3⟩
  go_wp2
  go_end0
  exact ⟨rfl, hM3, ((hB1.trans hB2).trans hB3)⟩

set_option maxHeartbeats 2000000 in
theorem step14yes_any (B M : Nat) (wv : Value) (w : World) (T : Strs) (N : List Int) (O : Recs) (x : ByteArray) (m m2 : Int) (h : MAt B M wv w (T ++ [x]) (N ++ [m] ++ [m2]) O) (hz : m2 ≠ 0) (hf : O.length < 90)
    : Calls Tryz.prog 162 #[.pointer (some ⟨M, 0, none⟩)] w (MEnd B M wv (.tuple #[]) T N (O ++ [(x, m)]) w) := by
  have hz2 : (m2 == (0 : Int)) = false := by rw [beq_eq_false_iff_ne]; exact hz
  have hz3 : (m2 != (0 : Int)) = true := by rw [bne_iff_ne]; exact hz
  clear hz
  go_enter Tryz.func162, Tryz.ntmps162
  go_wp2_with fail
  refine (popNum_any B M _ _ _ _ O (N ++ [m]) m2 h rfl).mono ?_
  rintro e w1 ⟨rfl, hM1, hB1⟩
  go_wp2_with fail
  refine (popNum_any B M _ _ _ _ O N m hM1 rfl).mono ?_
  rintro e w2 ⟨rfl, hM2, hB2⟩
  go_wp2_with fail
  refine (popText_any B M _ _ _ N O T x hM2 rfl).mono ?_
  rintro e w3 ⟨rfl, hM3, hB3⟩
  go_wp2_with fail
  refine (emit_any B M _ _ T N O x m hM3 (by omega)).mono ?_
  rintro e w4 ⟨rfl, hM4, hB4⟩
  go_wp2
  go_end0
  exact ⟨rfl, hM4, (((hB1.trans hB2).trans hB3).trans hB4)⟩

set_option maxHeartbeats 2000000 in
theorem step14no_any (B M : Nat) (wv : Value) (w : World) (T : Strs) (N : List Int) (O : Recs) (x : ByteArray) (m m2 : Int) (h : MAt B M wv w (T ++ [x]) (N ++ [m] ++ [m2]) O) (hz : m2 = 0) (hf : O.length < 90)
    : Calls Tryz.prog 162 #[.pointer (some ⟨M, 0, none⟩)] w (MEnd B M wv (.tuple #[]) T N O w) := by
  subst hz
  go_enter Tryz.func162, Tryz.ntmps162
  go_wp2_with fail
  refine (popNum_any B M _ _ _ _ O (N ++ [m]) 0 h rfl).mono ?_
  rintro e w1 ⟨rfl, hM1, hB1⟩
  go_wp2_with fail
  refine (popNum_any B M _ _ _ _ O N m hM1 rfl).mono ?_
  rintro e w2 ⟨rfl, hM2, hB2⟩
  go_wp2_with fail
  refine (popText_any B M _ _ _ N O T x hM2 rfl).mono ?_
  rintro e w3 ⟨rfl, hM3, hB3⟩
  go_wp2
  go_end0
  exact ⟨rfl, hM3, ((hB1.trans hB2).trans hB3)⟩
end Go.Proofs.YtjofbeokkainlaaGreatDoor
