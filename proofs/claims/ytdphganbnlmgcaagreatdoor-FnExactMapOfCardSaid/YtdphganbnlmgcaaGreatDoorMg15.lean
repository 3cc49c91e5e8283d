/- Texts put together, as a claim holds at most sixty files. -/
import Derived.Test.YtdphganbnlmgcaaGreatDoorMg10
import Derived.Test.YtdphganbnlmgcaaGreatDoorMg4
import Derived.Test.YtdphganbnlmgcaaGreatDoorMg2
import Derived.Test.YtdphganbnlmgcaaGreatDoorMg14
import Derived.Test.YtdphganbnlmgcaaGreatDoorMg5
import Derived.Conc.MuLone
namespace Go.Proofs.YtdphganbnlmgcaaGreatDoor
open Go.ChangeShapes Go.WideShapes Go.ChangeAt Go.RowKit
set_option linter.unusedVariables false
set_option maxRecDepth 100000

theorem numD_err {l : List UInt8} (h : ∀ v, Lib.parseIntB 64 l ≠ .ok v) : numD l = none := by
  unfold numD
  cases hp : Lib.parseIntB 64 l with
  | ok v => exact absurd hp (h v)
  | _ => rfl
theorem decB_eq_iff {v : Int} {s : ByteArray} : Lib.itoa v = s.data.toList ↔ decB v = s := by
  constructor
  · intro h; exact ba_eq (by rw [decB_list]; exact h)
  · rintro rfl; exact (decB_list v).symm
theorem numD_ok {s : ByteArray} {v : Int} (h : Lib.parseIntB 64 s.data.toList = .ok v) (h2 : decB v = s) : numD s.data.toList = some v := by
  unfold numD
  rw [h]
  simp only
  rw [if_pos (decB_eq_iff.2 h2)]
theorem numD_other {s : ByteArray} {v : Int} (h : Lib.parseIntB 64 s.data.toList = .ok v) (h2 : ¬ decB v = s) : numD s.data.toList = none := by
  unfold numD
  rw [h]
  simp only
  rw [if_neg (fun e => h2 (decB_eq_iff.1 e))]
theorem ba_ne {a b : ByteArray} (h : ¬ a = b) : (a.toList == b.toList) = false := by
  rw [beq_eq_false_iff_ne]
  intro e
  rw [ByteArray.toList_eq, ByteArray.toList_eq] at e
  exact h (ba_eq e)

set_option maxHeartbeats 2000000 in
theorem decimalof_any (s : ByteArray) (w : World) (hs : s.size ≤ 1048576) (hT : TabsR w) : Calls Tryz.prog 130 #[.string s] w (MadeNum (numD s.data.toList) w) := by
  have HT := Lib.hid hT
  obtain ⟨te, pe, hsyn⟩ := hT.syn
  obtain ⟨tf, pf, hrng⟩ := hT.rng
  have HSYN := Lib.hid hsyn
  have HRNG := Lib.hid hrng
  clear hT hsyn hrng
  by_cases hok : ∃ v, Lib.parseIntB 64 s.data.toList = .ok v
  · obtain ⟨v, hp⟩ := hok
    have hb := Lib.parseIntB_bounds hp
    have hv : In64 v := by
      unfold In64
      simp at hb
      omega
    have HP := Lib.hid hp
    have HV := Lib.hid hv
    by_cases hd : decB v = s
    · have HR := Lib.hid (numD_ok hp hd)
      have hd2 : ((decB v).toList == s.toList) = true := by rw [hd]; simp
      clear hb hp hv hd
      go_enter Tryz.func130, Tryz.ntmps130
      go_wp2_with fail
      refine (Tryz.strconv_ParseInt_10_at64_ok s (by omega) v HP.out _).mono ?_
      rintro e w1 ⟨rfl, hW⟩
      have HB := Lib.hid (show Below w.heap.size w w1 by
        rcases hW with rfl | ⟨t, rfl⟩
        · exact Below.refl _ _
        · exact Lib.bytesWorld_below _ _ _)
      clear hW
      go_wp2_with fail
      refine (fmt_any v HV.out _ (HT.out.pow.keep HB.out)).mono ?_
      rintro e w2 ⟨rfl, hB⟩
      have HB := Lib.hid (below_via HB.out hB)
      clear hB
      go_wp2
      go_ret2
      exact num_good HR.out HB.out
    · have HR := Lib.hid (numD_other hp hd)
      have hd2 := ba_ne hd
      clear hb hp hv hd
      go_enter Tryz.func130, Tryz.ntmps130
      go_wp2_with fail
      refine (Tryz.strconv_ParseInt_10_at64_ok s (by omega) v HP.out _).mono ?_
      rintro e w1 ⟨rfl, hW⟩
      have HB := Lib.hid (show Below w.heap.size w w1 by
        rcases hW with rfl | ⟨t, rfl⟩
        · exact Below.refl _ _
        · exact Lib.bytesWorld_below _ _ _)
      clear hW
      go_wp2_with fail
      refine (fmt_any v HV.out _ (HT.out.pow.keep HB.out)).mono ?_
      rintro e w2 ⟨rfl, hB⟩
      have HB := Lib.hid (below_via HB.out hB)
      clear hB
      go_wp2
      go_ret2
      exact num_fail HR.out HB.out
  by_cases hp : Lib.parseIntB 64 s.data.toList = .range
  · clear hok
    have HR := Lib.hid (numD_err (l := s.data.toList) (fun v e => by rw [hp] at e; cases e))
    have HP := Lib.hid hp
    clear hp
    go_enter Tryz.func130, Tryz.ntmps130
    go_wp2_with fail
    refine (Tryz.strconv_ParseInt_10_at64_range s (by omega) HP.out _ _ HRNG.out (.inr ⟨_, _, rfl⟩)).mono ?_
    rintro e w1 ⟨N, rfl, _, _, hB⟩
    have HB := Lib.hid hB
    clear hB
    obtain ⟨x, hx⟩ : ∃ x, Lib.intSat 64 s.data.toList = x := ⟨_, rfl⟩
    rw [hx]
    clear hx
    go_wp2
    go_ret2
    exact num_fail HR.out HB.out
  · have hok2 := hok
    clear hok2
    have HR := Lib.hid (numD_err (l := s.data.toList) (fun v e => hok ⟨v, e⟩))
    have HP := Lib.hid (show (∀ v, Lib.parseIntB 64 s.data.toList ≠ .ok v) ∧ Lib.parseIntB 64 s.data.toList ≠ .range from ⟨fun v e => hok ⟨v, e⟩, hp⟩)
    clear hp hok
    go_enter Tryz.func130, Tryz.ntmps130
    go_wp2_with fail
    refine (Tryz.strconv_ParseInt_10_at64_bad s (by omega) HP.out.1 HP.out.2 _ _ HSYN.out (.inr ⟨_, _, rfl⟩)).mono ?_
    rintro e w1 ⟨N, rfl, _, _, hB⟩
    have HB := Lib.hid hB
    clear hB
    go_wp2
    go_ret2
    exact num_fail HR.out HB.out
end Go.Proofs.YtdphganbnlmgcaaGreatDoor
namespace Go.Proofs.YtdphganbnlmgcaaGreatDoor
open Go.ChangeShapes Go.WideShapes Go.ChangeAt Go.RowKit
set_option linter.unusedVariables false
set_option maxRecDepth 100000

/-- The function of an instruction's step, and what it has caught. -/
def capFn : Nat → FuncId
  | 1 => 119 | 2 => 122 | 3 => 123 | 4 => 153 | 5 => 127 | 6 => 129 | 7 => 131
  | 8 => 156 | 9 => 156 | 10 => 156 | 11 => 156 | 12 => 153 | 13 => 157 | _ => 159
def inFn : Nat → FuncId
  | 4 => 126 | 8 => 135 | 9 => 136 | 10 => 137 | 11 => 138 | _ => 140
/-- The value v is the step of an instruction: its box lies from block E on, below block D. -/
def StepV (E D : Nat) (w : World) (op : Nat) (n : Int) (s : ByteArray) (v : Value) : Prop :=
  if op ≤ 3 then ∃ b, (E ≤ b ∧ b < D) ∧ v = .func (.func (capFn op)) #[] #[.pointer (some ⟨b, 0, none⟩)] ∧ Row w b 90 #[.int .i64 op, .int .i64 n, .string s]
  else if op = 4 ∨ op = 12 then ∃ b, (E ≤ b ∧ b < D) ∧ v = .func (.func (capFn op)) #[] #[.pointer (some ⟨b, 0, none⟩)] ∧ Row w b 171 #[.func (.func (inFn op)) #[] #[]]
  else if 8 ≤ op ∧ op ≤ 11 then ∃ b, (E ≤ b ∧ b < D) ∧ v = .func (.func (capFn op)) #[] #[.pointer (some ⟨b, 0, none⟩)] ∧ Row w b 92 #[.func (.func (inFn op)) #[] #[]]
  else v = .func (.func (capFn op)) #[] #[]
theorem StepV.keep {E D : Nat} {w w1 : World} {op : Nat} {n : Int} {s : ByteArray} {v : Value} (h : StepV E D w op n s v) (hB : Below D w w1) : StepV E D w1 op n s v := by
  unfold StepV at h ⊢
  split
  · rename_i h1
    rw [if_pos h1] at h
    obtain ⟨b, hb, hv, hr⟩ := h
    exact ⟨b, hb, hv, (hB.block b hb.2).trans hr⟩
  · rename_i h1
    rw [if_neg h1] at h
    split
    · rename_i h2
      rw [if_pos h2] at h
      obtain ⟨b, hb, hv, hr⟩ := h
      exact ⟨b, hb, hv, (hB.block b hb.2).trans hr⟩
    · rename_i h2
      rw [if_neg h2] at h
      split
      · rename_i h3
        rw [if_pos h3] at h
        obtain ⟨b, hb, hv, hr⟩ := h
        exact ⟨b, hb, hv, (hB.block b hb.2).trans hr⟩
      · rename_i h3
        rw [if_neg h3] at h
        exact h
theorem StepV.wide {E D E2 D2 : Nat} {w : World} {op : Nat} {n : Int} {s : ByteArray} {v : Value} (h : StepV E D w op n s v) (hE : E2 ≤ E) (hD : D ≤ D2) : StepV E2 D2 w op n s v := by
  unfold StepV at h ⊢
  split
  · rename_i h1
    rw [if_pos h1] at h
    obtain ⟨b, hb, hv, hr⟩ := h
    exact ⟨b, ⟨Nat.le_trans hE hb.1, Nat.lt_of_lt_of_le hb.2 hD⟩, hv, hr⟩
  · rename_i h1
    rw [if_neg h1] at h
    split
    · rename_i h2
      rw [if_pos h2] at h
      obtain ⟨b, hb, hv, hr⟩ := h
      exact ⟨b, ⟨Nat.le_trans hE hb.1, Nat.lt_of_lt_of_le hb.2 hD⟩, hv, hr⟩
    · rename_i h2
      rw [if_neg h2] at h
      split
      · rename_i h3
        rw [if_pos h3] at h
        obtain ⟨b, hb, hv, hr⟩ := h
        exact ⟨b, ⟨Nat.le_trans hE hb.1, Nat.lt_of_lt_of_le hb.2 hD⟩, hv, hr⟩
      · rename_i h3
        rw [if_neg h3] at h
        exact h
theorem StepV.put {E D : Nat} {w : World} {op : Nat} {n : Int} {s : ByteArray} {v : Value} (h : StepV E D w op n s v) {G : Nat} (hG : G < E) (j : Nat) (x : Value) : StepV E D (w.setCell ⟨G, j, none⟩ x) op n s v := by
  unfold StepV at h ⊢
  split
  · rename_i h1
    rw [if_pos h1] at h
    obtain ⟨b, hb, hv, hr⟩ := h
    exact ⟨b, hb, hv, hr.otPut (by omega) j x⟩
  · rename_i h1
    rw [if_neg h1] at h
    split
    · rename_i h2
      rw [if_pos h2] at h
      obtain ⟨b, hb, hv, hr⟩ := h
      exact ⟨b, hb, hv, hr.otPut (by omega) j x⟩
    · rename_i h2
      rw [if_neg h2] at h
      split
      · rename_i h3
        rw [if_pos h3] at h
        obtain ⟨b, hb, hv, hr⟩ := h
        exact ⟨b, hb, hv, hr.otPut (by omega) j x⟩
      · rename_i h3
        rw [if_neg h3] at h
        exact h
theorem StepV.grownT {E D bo : Nat} {e : TypeId} {size m : Nat} {v2 : Value} {xs : List Value} {w w1 : World} {op : Nat} {n : Int} {s : ByteArray} {v : Value} (h : StepV E D w op n s v) (ho : w.ownsRow bo e size v2 m xs) (h1 : 90 ≠ e) (h2 : 171 ≠ e) (h3 : 92 ≠ e) (hg : w.grownBy w1 v2.ownBlock) : StepV E D w1 op n s v := by
  unfold StepV at h ⊢
  split
  · rename_i g1
    rw [if_pos g1] at h
    obtain ⟨b, hb, hv, hr⟩ := h
    exact ⟨b, hb, hv, ot_row_grownT hr ho h1 hg⟩
  · rename_i g1
    rw [if_neg g1] at h
    split
    · rename_i g2
      rw [if_pos g2] at h
      obtain ⟨b, hb, hv, hr⟩ := h
      exact ⟨b, hb, hv, ot_row_grownT hr ho h2 hg⟩
    · rename_i g2
      rw [if_neg g2] at h
      split
      · rename_i g3
        rw [if_pos g3] at h
        obtain ⟨b, hb, hv, hr⟩ := h
        exact ⟨b, hb, hv, ot_row_grownT hr ho h3 hg⟩
      · rename_i g3
        rw [if_neg g3] at h
        exact h
theorem bnum_any (b : Bool) (w : World) : Calls Tryz.prog 139 #[.bool b] w fun e w' => e = .returned (.int .i64 (truthI b)) ∧ w' = w := by
  cases b
  · go_enter Tryz.func139, Tryz.ntmps139
    go_wp2
    go_ret
    exact ⟨rfl, rfl⟩
  · go_enter Tryz.func139, Tryz.ntmps139
    go_wp2
    go_ret
    exact ⟨rfl, rfl⟩
theorem MEnd.via {B M : Nat} {wv v : Value} {T : Strs} {N : List Int} {O : Recs} {w w1 : World} {e : Ending} {w' : World} (hB : Below B w w1) (h : MEnd B M wv v T N O w1 e w') : MEnd B M wv v T N O w e w' := ⟨h.1, h.2.1, hB.trans h.2.2⟩

set_option maxHeartbeats 2000000 in
theorem step1_any (B M : Nat) (wq : Option Addr) (wn wc : Nat) (ws : Strs) (w : World) (T : Strs) (N : List Int) (O : Recs) (b : Nat) (n : Int) (s : ByteArray) (h : MAt B M (.slice wq wn wc) w T N O) (hr : Row w b 90 #[.int .i64 1, .int .i64 n, .string s]) (hw : StrsAt w wq wn ws) (hn : 0 ≤ n) (hf : T.length < 100) :
    Calls Tryz.prog 119 #[.pointer (some ⟨M, 0, none⟩), .pointer (some ⟨b, 0, none⟩)] w (MEnd B M (.slice wq wn wc) (.tuple #[]) (T ++ [wordAt ws n]) N O w) := by
  have k0 := hr.cell (j := 0) (by simp)
  have k1 := hr.cell (j := 1) (by simp)
  have k2 := hr.cell (j := 2) (by simp)
  simp at k0 k1 k2
  go_enter Tryz.func119, Tryz.ntmps119
  go_wp2_with fail
  refine (mword_any B M wq wn wc ws _ T N O n h hw hn).mono ?_
  rintro e w1 ⟨rfl, hw1⟩
  subst hw1
  obtain ⟨x, hx⟩ : ∃ x, wordAt ws n = x := ⟨_, rfl⟩
  rw [hx]
  go_wp2_with fail
  refine (pushText_any B M _ _ T N O x h hf).mono ?_
  rintro e w1 ⟨rfl, hM1, hB1⟩
  go_wp2
  go_end0
  exact ⟨rfl, hx ▸ hM1, hB1⟩

set_option maxHeartbeats 2000000 in
theorem step2_any (B M : Nat) (wv : Value) (w : World) (T : Strs) (N : List Int) (O : Recs) (b : Nat) (n : Int) (s : ByteArray) (h : MAt B M wv w T N O) (hr : Row w b 90 #[.int .i64 2, .int .i64 n, .string s]) (hf : T.length < 100)
    : Calls Tryz.prog 122 #[.pointer (some ⟨M, 0, none⟩), .pointer (some ⟨b, 0, none⟩)] w (MEnd B M wv (.tuple #[]) (T ++ [s]) N O w) := by
  have k0 := hr.cell (j := 0) (by simp)
  have k1 := hr.cell (j := 1) (by simp)
  have k2 := hr.cell (j := 2) (by simp)
  simp at k0 k1 k2
  go_enter Tryz.func122, Tryz.ntmps122
  go_wp2_with fail
  refine (pushText_any B M _ _ T N O s h hf).mono ?_
  rintro e w1 ⟨rfl, hM1, hB1⟩
  go_wp2
  go_end0
  exact ⟨rfl, hM1, hB1⟩

set_option maxHeartbeats 2000000 in
theorem step3_any (B M : Nat) (wv : Value) (w : World) (T : Strs) (N : List Int) (O : Recs) (b : Nat) (n : Int) (s : ByteArray) (h : MAt B M wv w T N O) (hr : Row w b 90 #[.int .i64 3, .int .i64 n, .string s]) (hf : N.length < 100)
    : Calls Tryz.prog 123 #[.pointer (some ⟨M, 0, none⟩), .pointer (some ⟨b, 0, none⟩)] w (MEnd B M wv (.tuple #[]) T (N ++ [n]) O w) := by
  have k0 := hr.cell (j := 0) (by simp)
  have k1 := hr.cell (j := 1) (by simp)
  have k2 := hr.cell (j := 2) (by simp)
  simp at k0 k1 k2
  go_enter Tryz.func123, Tryz.ntmps123
  go_wp2_with fail
  refine (pushNum_any B M _ _ T N O n h hf).mono ?_
  rintro e w1 ⟨rfl, hM1, hB1⟩
  go_wp2
  go_end0
  exact ⟨rfl, hM1, hB1⟩

set_option maxHeartbeats 2000000 in
theorem in4_any (B M : Nat) (wv : Value) (w : World) (T : Strs) (N : List Int) (O : Recs) (x y : ByteArray) (h : MAt B M wv w T N O) (hx : x.size ≤ 40) (hy : y.size ≤ 40) (hf : T.length < 100)
    : Calls Tryz.prog 126 #[.pointer (some ⟨M, 0, none⟩), .string x, .string y] w (MEnd B M wv (.tuple #[]) (T ++ [x ++ y]) N O w) := by
  go_enter Tryz.func126, Tryz.ntmps126
  go_wp2_with fail
  refine (pushText_any B M _ _ T N O (x ++ y) h hf).mono ?_
  rintro e w1 ⟨rfl, hM1, hB1⟩
  go_wp2
  go_end0
  exact ⟨rfl, hM1, hB1⟩

set_option maxHeartbeats 2000000 in
theorem in12_any (B M : Nat) (wv : Value) (w : World) (T : Strs) (N : List Int) (O : Recs) (x y : ByteArray) (h : MAt B M wv w T N O) (hf : N.length < 100)
    : Calls Tryz.prog 140 #[.pointer (some ⟨M, 0, none⟩), .string x, .string y] w (MEnd B M wv (.tuple #[]) T (N ++ [truthI (decide (x = y))]) O w) := by
  obtain ⟨z, hz⟩ : ∃ z, decide (x = y) = z := ⟨_, rfl⟩
  have HZ := Lib.hid hz
  have hq : (x.toList == y.toList) = z := by
    rw [← hz]
    by_cases he : x = y
    · rw [decide_eq_true he]; exact ba_eqv he
    · rw [decide_eq_false he]; exact ba_nev he
  rw [hz]
  clear hz
  go_enter Tryz.func140, Tryz.ntmps140
  go_wp2_with fail
  refine (bnum_any z _).mono ?_
  rintro e w2 ⟨rfl, hw2⟩
  subst hw2
  go_wp2_with fail
  refine (pushNum_any B M _ _ T N O (truthI z) h hf).mono ?_
  rintro e w1 ⟨rfl, hM1, hB1⟩
  go_wp2
  go_end0
  exact ⟨rfl, hM1, hB1⟩

theorem in8_any (x y : Int) (w : World) : Calls Tryz.prog 135 #[.int .i64 x, .int .i64 y] w fun e w' => e = .returned (.int .i64 (wrap64 (x + y))) ∧ w' = w := by
  go_enter Tryz.func135, Tryz.ntmps135
  go_wp2
  go_ret
  exact ⟨rfl, rfl⟩

theorem in9_any (x y : Int) (w : World) : Calls Tryz.prog 136 #[.int .i64 x, .int .i64 y] w fun e w' => e = .returned (.int .i64 (wrap64 (x - y))) ∧ w' = w := by
  go_enter Tryz.func136, Tryz.ntmps136
  go_wp2
  go_ret
  exact ⟨rfl, rfl⟩

theorem in10_any (x y : Int) (w : World) : Calls Tryz.prog 137 #[.int .i64 x, .int .i64 y] w fun e w' => e = .returned (.int .i64 (wrap64 (x * y))) ∧ w' = w := by
  go_enter Tryz.func137, Tryz.ntmps137
  go_wp2
  go_ret
  exact ⟨rfl, rfl⟩

theorem in11_any (x y : Int) (w : World) : Calls Tryz.prog 138 #[.int .i64 x, .int .i64 y] w fun e w' => e = .returned (.int .i64 (truthI (decide (x < y)))) ∧ w' = w := by
  obtain ⟨z, hz⟩ : ∃ z, decide (x < y) = z := ⟨_, rfl⟩
  rw [hz]
  go_enter Tryz.func138, Tryz.ntmps138
  go_wp2_with fail
  try rw [hz]
  refine (bnum_any z _).mono ?_
  rintro e w2 ⟨rfl, hw2⟩
  subst hw2
  go_wp2
  go_ret
  exact ⟨rfl, rfl⟩

set_option maxHeartbeats 2000000 in
theorem step4_any (B M : Nat) (wv : Value) (w : World) (T : Strs) (N : List Int) (O : Recs) (b : Nat) (x y : ByteArray) (h : MAt B M wv w (T ++ [x] ++ [y]) N O) (hc : w.cell? ⟨b, 0, none⟩ = some (.func (.func 126) #[] #[])) (hb : b < B) (hx : x.size ≤ 40) (hy : y.size ≤ 40) (hf : T.length < 90 ∧ N.length < 90)
    : Calls Tryz.prog 153 #[.pointer (some ⟨M, 0, none⟩), .pointer (some ⟨b, 0, none⟩)] w (MEnd B M wv (.tuple #[]) (T ++ [x ++ y]) N O w) := by
  go_enter Tryz.func153, Tryz.ntmps153
  go_wp2_with fail
  refine (popText_any B M _ _ _ N O (T ++ [x]) y h rfl).mono ?_
  rintro e w1 ⟨rfl, hM1, hB1⟩
  go_wp2_with fail
  refine (popText_any B M _ _ _ N O T x hM1 rfl).mono ?_
  rintro e w2 ⟨rfl, hM2, hB2⟩
  have k2 := (hB2.cell (p := ⟨b, 0, none⟩) hb).trans ((hB1.cell (p := ⟨b, 0, none⟩) hb).trans hc)
  go_wp2_with fail
  refine (in4_any B M _ _ T N O x y hM2 hx hy (by omega)).mono ?_
  rintro e w3 ⟨rfl, hM3, hB3⟩
  go_wp2
  go_end0
  exact ⟨rfl, hM3, ((hB1.trans hB2).trans hB3)⟩

set_option maxHeartbeats 2000000 in
theorem step12_any (B M : Nat) (wv : Value) (w : World) (T : Strs) (N : List Int) (O : Recs) (b : Nat) (x y : ByteArray) (h : MAt B M wv w (T ++ [x] ++ [y]) N O) (hc : w.cell? ⟨b, 0, none⟩ = some (.func (.func 140) #[] #[])) (hb : b < B) (hx : x.size ≤ 40) (hy : y.size ≤ 40) (hf : T.length < 90 ∧ N.length < 90)
    : Calls Tryz.prog 153 #[.pointer (some ⟨M, 0, none⟩), .pointer (some ⟨b, 0, none⟩)] w (MEnd B M wv (.tuple #[]) T (N ++ [truthI (decide (x = y))]) O w) := by
  go_enter Tryz.func153, Tryz.ntmps153
  go_wp2_with fail
  refine (popText_any B M _ _ _ N O (T ++ [x]) y h rfl).mono ?_
  rintro e w1 ⟨rfl, hM1, hB1⟩
  go_wp2_with fail
  refine (popText_any B M _ _ _ N O T x hM1 rfl).mono ?_
  rintro e w2 ⟨rfl, hM2, hB2⟩
  have k2 := (hB2.cell (p := ⟨b, 0, none⟩) hb).trans ((hB1.cell (p := ⟨b, 0, none⟩) hb).trans hc)
  go_wp2_with fail
  refine (in12_any B M _ _ T N O x y hM2 (by omega)).mono ?_
  rintro e w3 ⟨rfl, hM3, hB3⟩
  go_wp2
  go_end0
  exact ⟨rfl, hM3, ((hB1.trans hB2).trans hB3)⟩

set_option maxHeartbeats 2000000 in
theorem step5_any (B M : Nat) (wv : Value) (w : World) (T : Strs) (N : List Int) (O : Recs) (x : ByteArray) (h : MAt B M wv w (T ++ [x]) N O) (hx : x.size ≤ 40) (hf : N.length < 90)
    : Calls Tryz.prog 127 #[.pointer (some ⟨M, 0, none⟩)] w (MEnd B M wv (.tuple #[]) T (N ++ [(x.size : Int)]) O w) := by
  go_enter Tryz.func127, Tryz.ntmps127
  go_wp2_with fail
  refine (popText_any B M _ _ _ N O T x h rfl).mono ?_
  rintro e w1 ⟨rfl, hM1, hB1⟩
  go_wp2_with fail
  refine (pushNum_any B M _ _ T N O _ hM1 (by omega)).mono ?_
  rintro e w2 ⟨rfl, hM2, hB2⟩
  go_wp2
  go_end0
  exact ⟨rfl, hM2, (hB1.trans hB2)⟩

set_option maxHeartbeats 2000000 in
theorem step6_any (B M : Nat) (wv : Value) (w : World) (T : Strs) (N : List Int) (O : Recs) (x : ByteArray) (w0 : World) (h : MAt B M wv w (T ++ [x]) N O) (hx : x.size ≤ 40) (hf : N.length < 90) (hT : TabsR w0) (h0 : Below w0.heap.size w0 w) (hB0 : w0.heap.size ≤ B)
    : Calls Tryz.prog 129 #[.pointer (some ⟨M, 0, none⟩)] w (MEnd B M wv (.tuple #[]) T (N ++ [numI x]) O w) := by
  obtain ⟨z, hz⟩ : ∃ z, numI x = z := ⟨_, rfl⟩
  have HZ := Lib.hid (show (numD x.data.toList).getD 0 = z from hz)
  rw [hz]
  clear hz
  go_enter Tryz.func129, Tryz.ntmps129
  go_wp2_with fail
  refine (popText_any B M _ _ _ N O T x h rfl).mono ?_
  rintro e w1 ⟨rfl, hM1, hB1⟩
  go_wp2_with fail
  refine (decimalof_any x _ (by omega) (hT.keep (h0.trans (hB1.mono hB0)))).mono ?_
  rintro e w2 ⟨rfl, hB2⟩
  rw [HZ.out]
  have hM2 := hM1.keep hB2
  have hB2 : Below B w1 w2 := hB2.mono (by obtain ⟨_, _, _, _, _, _, _, _, _, hq⟩ := hM1; exact hq.lts)
  clear hM1
  go_wp2_with fail
  refine (pushNum_any B M _ _ T N O _ hM2 (by omega)).mono ?_
  rintro e w3 ⟨rfl, hM3, hB3⟩
  go_wp2
  go_end0
  exact ⟨rfl, hM3, ((hB1.trans hB2).trans hB3)⟩

set_option maxHeartbeats 2000000 in
theorem step7_any (B M : Nat) (wv : Value) (w : World) (T : Strs) (N : List Int) (O : Recs) (x : Int) (w0 : World) (h : MAt B M wv w T (N ++ [x]) O) (hx : In64 x) (hf : T.length < 90) (hT : TabsR w0) (h0 : Below w0.heap.size w0 w) (hB0 : w0.heap.size ≤ B)
    : Calls Tryz.prog 131 #[.pointer (some ⟨M, 0, none⟩)] w (MEnd B M wv (.tuple #[]) (T ++ [decB x]) N O w) := by
  obtain ⟨z, hz⟩ : ∃ z, decB x = z := ⟨_, rfl⟩
  have HZ := Lib.hid hz
  rw [hz]
  clear hz
  go_enter Tryz.func131, Tryz.ntmps131
  go_wp2_with fail
  refine (popNum_any B M _ _ T _ O N x h rfl).mono ?_
  rintro e w1 ⟨rfl, hM1, hB1⟩
  go_wp2_with fail
  refine (fmt_any x hx _ (hT.keep (h0.trans (hB1.mono hB0))).pow).mono ?_
  rintro e w2 ⟨rfl, hB2⟩
  rw [HZ.out]
  have hM2 := hM1.keep hB2
  have hB2 : Below B w1 w2 := hB2.mono (by obtain ⟨_, _, _, _, _, _, _, _, _, hq⟩ := hM1; exact hq.lts)
  clear hM1
  go_wp2_with fail
  refine (pushText_any B M _ _ T N O _ hM2 (by omega)).mono ?_
  rintro e w3 ⟨rfl, hM3, hB3⟩
  go_wp2
  go_end0
  exact ⟨rfl, hM3, ((hB1.trans hB2).trans hB3)⟩

set_option maxHeartbeats 2000000 in
theorem step8_any (B M : Nat) (wv : Value) (w : World) (T : Strs) (N : List Int) (O : Recs) (b : Nat) (x y : Int) (h : MAt B M wv w T (N ++ [x] ++ [y]) O) (hc : w.cell? ⟨b, 0, none⟩ = some (.func (.func 135) #[] #[])) (hb : b < B) (hf : N.length < 90)
    : Calls Tryz.prog 156 #[.pointer (some ⟨M, 0, none⟩), .pointer (some ⟨b, 0, none⟩)] w (MEnd B M wv (.tuple #[]) T (N ++ [wrap64 (x + y)]) O w) := by
  obtain ⟨z, hz⟩ : ∃ z, wrap64 (x + y) = z := ⟨_, rfl⟩
  have HI := Lib.hid (show ∀ w, Calls Tryz.prog 135 #[.int .i64 x, .int .i64 y] w (fun e w' => e = .returned (.int .i64 z) ∧ w' = w) from fun w => by have := in8_any x y w; rw [hz] at this; exact this)
  rw [hz]
  clear hz
  go_enter Tryz.func156, Tryz.ntmps156
  go_wp2_with fail
  refine (popNum_any B M _ _ T _ O (N ++ [x]) y h rfl).mono ?_
  rintro e w1 ⟨rfl, hM1, hB1⟩
  go_wp2_with fail
  refine (popNum_any B M _ _ T _ O N x hM1 rfl).mono ?_
  rintro e w2 ⟨rfl, hM2, hB2⟩
  have k2 := (hB2.cell (p := ⟨b, 0, none⟩) hb).trans ((hB1.cell (p := ⟨b, 0, none⟩) hb).trans hc)
  go_wp2_with fail
  refine (HI.out _).mono ?_
  rintro e w3 ⟨rfl, hw3⟩
  subst hw3
  go_wp2_with fail
  refine (pushNum_any B M _ _ T N O z hM2 (by omega)).mono ?_
  rintro e w3 ⟨rfl, hM3, hB3⟩
  go_wp2
  go_end0
  exact ⟨rfl, hM3, ((hB1.trans hB2).trans hB3)⟩

set_option maxHeartbeats 2000000 in
theorem step9_any (B M : Nat) (wv : Value) (w : World) (T : Strs) (N : List Int) (O : Recs) (b : Nat) (x y : Int) (h : MAt B M wv w T (N ++ [x] ++ [y]) O) (hc : w.cell? ⟨b, 0, none⟩ = some (.func (.func 136) #[] #[])) (hb : b < B) (hf : N.length < 90)
    : Calls Tryz.prog 156 #[.pointer (some ⟨M, 0, none⟩), .pointer (some ⟨b, 0, none⟩)] w (MEnd B M wv (.tuple #[]) T (N ++ [wrap64 (x - y)]) O w) := by
  obtain ⟨z, hz⟩ : ∃ z, wrap64 (x - y) = z := ⟨_, rfl⟩
  have HI := Lib.hid (show ∀ w, Calls Tryz.prog 136 #[.int .i64 x, .int .i64 y] w (fun e w' => e = .returned (.int .i64 z) ∧ w' = w) from fun w => by have := in9_any x y w; rw [hz] at this; exact this)
  rw [hz]
  clear hz
  go_enter Tryz.func156, Tryz.ntmps156
  go_wp2_with fail
  refine (popNum_any B M _ _ T _ O (N ++ [x]) y h rfl).mono ?_
  rintro e w1 ⟨rfl, hM1, hB1⟩
  go_wp2_with fail
  refine (popNum_any B M _ _ T _ O N x hM1 rfl).mono ?_
  rintro e w2 ⟨rfl, hM2, hB2⟩
  have k2 := (hB2.cell (p := ⟨b, 0, none⟩) hb).trans ((hB1.cell (p := ⟨b, 0, none⟩) hb).trans hc)
  go_wp2_with fail
  refine (HI.out _).mono ?_
  rintro e w3 ⟨rfl, hw3⟩
  subst hw3
  go_wp2_with fail
  refine (pushNum_any B M _ _ T N O z hM2 (by omega)).mono ?_
  rintro e w3 ⟨rfl, hM3, hB3⟩
  go_wp2
  go_end0
  exact ⟨rfl, hM3, ((hB1.trans hB2).trans hB3)⟩

set_option maxHeartbeats 2000000 in
theorem step10_any (B M : Nat) (wv : Value) (w : World) (T : Strs) (N : List Int) (O : Recs) (b : Nat) (x y : Int) (h : MAt B M wv w T (N ++ [x] ++ [y]) O) (hc : w.cell? ⟨b, 0, none⟩ = some (.func (.func 137) #[] #[])) (hb : b < B) (hf : N.length < 90)
    : Calls Tryz.prog 156 #[.pointer (some ⟨M, 0, none⟩), .pointer (some ⟨b, 0, none⟩)] w (MEnd B M wv (.tuple #[]) T (N ++ [wrap64 (x * y)]) O w) := by
  obtain ⟨z, hz⟩ : ∃ z, wrap64 (x * y) = z := ⟨_, rfl⟩
  have HI := Lib.hid (show ∀ w, Calls Tryz.prog 137 #[.int .i64 x, .int .i64 y] w (fun e w' => e = .returned (.int .i64 z) ∧ w' = w) from fun w => by have := in10_any x y w; rw [hz] at this; exact this)
  rw [hz]
  clear hz
  go_enter Tryz.func156, Tryz.ntmps156
  go_wp2_with fail
  refine (popNum_any B M _ _ T _ O (N ++ [x]) y h rfl).mono ?_
  rintro e w1 ⟨rfl, hM1, hB1⟩
  go_wp2_with fail
  refine (popNum_any B M _ _ T _ O N x hM1 rfl).mono ?_
  rintro e w2 ⟨rfl, hM2, hB2⟩
  have k2 := (hB2.cell (p := ⟨b, 0, none⟩) hb).trans ((hB1.cell (p := ⟨b, 0, none⟩) hb).trans hc)
  go_wp2_with fail
  refine (HI.out _).mono ?_
  rintro e w3 ⟨rfl, hw3⟩
  subst hw3
  go_wp2_with fail
  refine (pushNum_any B M _ _ T N O z hM2 (by omega)).mono ?_
  rintro e w3 ⟨rfl, hM3, hB3⟩
  go_wp2
  go_end0
  exact ⟨rfl, hM3, ((hB1.trans hB2).trans hB3)⟩

set_option maxHeartbeats 2000000 in
theorem step11_any (B M : Nat) (wv : Value) (w : World) (T : Strs) (N : List Int) (O : Recs) (b : Nat) (x y : Int) (h : MAt B M wv w T (N ++ [x] ++ [y]) O) (hc : w.cell? ⟨b, 0, none⟩ = some (.func (.func 138) #[] #[])) (hb : b < B) (hf : N.length < 90)
    : Calls Tryz.prog 156 #[.pointer (some ⟨M, 0, none⟩), .pointer (some ⟨b, 0, none⟩)] w (MEnd B M wv (.tuple #[]) T (N ++ [truthI (decide (x < y))]) O w) := by
  obtain ⟨z, hz⟩ : ∃ z, truthI (decide (x < y)) = z := ⟨_, rfl⟩
  have HI := Lib.hid (show ∀ w, Calls Tryz.prog 138 #[.int .i64 x, .int .i64 y] w (fun e w' => e = .returned (.int .i64 z) ∧ w' = w) from fun w => by have := in11_any x y w; rw [hz] at this; exact this)
  rw [hz]
  clear hz
  go_enter Tryz.func156, Tryz.ntmps156
  go_wp2_with fail
  refine (popNum_any B M _ _ T _ O (N ++ [x]) y h rfl).mono ?_
  rintro e w1 ⟨rfl, hM1, hB1⟩
  go_wp2_with fail
  refine (popNum_any B M _ _ T _ O N x hM1 rfl).mono ?_
  rintro e w2 ⟨rfl, hM2, hB2⟩
  have k2 := (hB2.cell (p := ⟨b, 0, none⟩) hb).trans ((hB1.cell (p := ⟨b, 0, none⟩) hb).trans hc)
  go_wp2_with fail
  refine (HI.out _).mono ?_
  rintro e w3 ⟨rfl, hw3⟩
  subst hw3
  go_wp2_with fail
  refine (pushNum_any B M _ _ T N O z hM2 (by omega)).mono ?_
  rintro e w3 ⟨rfl, hM3, hB3⟩
  go_wp2
  go_end0
  exact ⟨rfl, hM3, ((hB1.trans hB2).trans hB3)⟩

set_option maxHeartbeats 2000000 in
theorem step13_any (B M : Nat) (wv : Value) (w : World) (T : Strs) (N : List Int) (O : Recs) (x : ByteArray) (m : Int) (h : MAt B M wv w (T ++ [x]) (N ++ [m]) O) (hf : O.length < 90)
    : Calls Tryz.prog 157 #[.pointer (some ⟨M, 0, none⟩)] w (MEnd B M wv (.tuple #[]) T N (O ++ [(x, m)]) w) := by
  go_enter Tryz.func157, Tryz.ntmps157
  go_wp2_with fail
  refine (popText_any B M _ _ _ _ O T x h rfl).mono ?_
  rintro e w1 ⟨rfl, hM1, hB1⟩
  go_wp2_with fail
  refine (popNum_any B M _ _ T _ O N m hM1 rfl).mono ?_
  rintro e w2 ⟨rfl, hM2, hB2⟩
  go_wp2_with fail
  refine (emit_any B M _ _ T N O x m hM2 (by omega)).mono ?_
  rintro e w3 ⟨rfl, hM3, hB3⟩
  go_wp2
  go_end0
  exact ⟨rfl, hM3, ((hB1.trans hB2).trans hB3)⟩

set_option maxHeartbeats 2000000 in
theorem step14yes_any (B M : Nat) (wv : Value) (w : World) (T : Strs) (N : List Int) (O : Recs) (x : ByteArray) (m m2 : Int) (h : MAt B M wv w (T ++ [x]) (N ++ [m] ++ [m2]) O) (hz : m2 ≠ 0) (hf : O.length < 90)
    : Calls Tryz.prog 159 #[.pointer (some ⟨M, 0, none⟩)] w (MEnd B M wv (.tuple #[]) T N (O ++ [(x, m)]) w) := by
  have hz2 : (m2 == (0 : Int)) = false := by rw [beq_eq_false_iff_ne]; exact hz
  have hz3 : (m2 != (0 : Int)) = true := by rw [bne_iff_ne]; exact hz
  clear hz
  go_enter Tryz.func159, Tryz.ntmps159
  go_wp2_with fail
  refine (popNum_any B M _ _ _ _ O (N ++ [m]) m2 h rfl).mono ?_
  rintro e w1 ⟨rfl, hM1, hB1⟩
  go_wp2_with fail
  refine (popNum_any B M _ _ _ _ O N m hM1 rfl).mono ?_
  rintro e w2 ⟨rfl, hM2, hB2⟩
  go_wp2_with fail
  refine (popText_any B M _ _ _ N O T x hM2 rfl).mono ?_
  rintro e w3 ⟨rfl, hM3, hB3⟩
  go_wp2_with fail
  refine (emit_any B M _ _ T N O x m hM3 (by omega)).mono ?_
  rintro e w4 ⟨rfl, hM4, hB4⟩
  go_wp2
  go_end0
  exact ⟨rfl, hM4, (((hB1.trans hB2).trans hB3).trans hB4)⟩

set_option maxHeartbeats 2000000 in
theorem step14no_any (B M : Nat) (wv : Value) (w : World) (T : Strs) (N : List Int) (O : Recs) (x : ByteArray) (m m2 : Int) (h : MAt B M wv w (T ++ [x]) (N ++ [m] ++ [m2]) O) (hz : m2 = 0) (hf : O.length < 90)
    : Calls Tryz.prog 159 #[.pointer (some ⟨M, 0, none⟩)] w (MEnd B M wv (.tuple #[]) T N O w) := by
  subst hz
  go_enter Tryz.func159, Tryz.ntmps159
  go_wp2_with fail
  refine (popNum_any B M _ _ _ _ O (N ++ [m]) 0 h rfl).mono ?_
  rintro e w1 ⟨rfl, hM1, hB1⟩
  go_wp2_with fail
  refine (popNum_any B M _ _ _ _ O N m hM1 rfl).mono ?_
  rintro e w2 ⟨rfl, hM2, hB2⟩
  go_wp2_with fail
  refine (popText_any B M _ _ _ N O T x hM2 rfl).mono ?_
  rintro e w3 ⟨rfl, hM3, hB3⟩
  go_wp2
  go_end0
  exact ⟨rfl, hM3, ((hB1.trans hB2).trans hB3)⟩
end Go.Proofs.YtdphganbnlmgcaaGreatDoor
namespace Go.Proofs.YtdphganbnlmgcaaGreatDoor
open Go.ChangeShapes Go.WideShapes Go.ChangeAt Go.RowKit
set_option linter.unusedVariables false
set_option maxRecDepth 100000

theorem len1 {α : Type} {l : List α} (h : l.length = 1) : ∃ a, l = [a] := by
  match l, h with
  | [a], _ => exact ⟨a, rfl⟩
theorem len2 {α : Type} {l : List α} (h : l.length = 2) : ∃ a b, l = [a, b] := by
  match l, h with
  | [a, b], _ => exact ⟨a, b, rfl⟩
theorem len3 {α : Type} {l : List α} (h : l.length = 3) : ∃ a b c, l = [a, b, c] := by
  match l, h with
  | [a, b, c], _ => exact ⟨a, b, c, rfl⟩
theorem len0 {α : Type} {l : List α} (h : l.length = 0) : l = [] := List.eq_nil_of_length_eq_zero h
/-- Texts, numbers and records behind an instruction. -/
def stT (op : Nat) (n : Int) (s : ByteArray) (ws : Strs) (av : EVs) (T0 : Strs) : Strs := if (givesB op).size = 0 then T0 else T0 ++ txs (givesB op).data.toList [putV op n s av ws]
def stN (op : Nat) (n : Int) (s : ByteArray) (ws : Strs) (av : EVs) (N0 : List Int) : List Int := if (givesB op).size = 0 then N0 else N0 ++ nms (givesB op).data.toList [putV op n s av ws]
def stO (op : Nat) (av : EVs) (O : Recs) : Recs := if (givesB op).size = 0 then (if op = 13 ∨ (evAt av 2).2 ≠ 0 then O ++ [((evAt av 0).1, (evAt av 1).2)] else O) else O
/-- A call of the function F goes into it. -/
def Enters (F : FuncId) : Prop := ∀ (args : Array Value) (w : World), (callFunc F args).run Tryz.prog w = .ok (.enter F args) w
theorem ent_emitStepOf_1 : Enters 157 := fun args w => Go.MuLone.run_callFunc_enter Tryz.func157 (by kernel_rfl) rfl args w
theorem ent_emitStepOf_2 : Enters 159 := fun args w => Go.MuLone.run_callFunc_enter Tryz.func159 (by kernel_rfl) rfl args w
theorem ent_onNums_1 : Enters 156 := fun args w => Go.MuLone.run_callFunc_enter Tryz.func156 (by kernel_rfl) rfl args w
theorem ent_onTexts_1 : Enters 153 := fun args w => Go.MuLone.run_callFunc_enter Tryz.func153 (by kernel_rfl) rfl args w
theorem ent_stepOf_1 : Enters 119 := fun args w => Go.MuLone.run_callFunc_enter Tryz.func119 (by kernel_rfl) rfl args w
theorem ent_stepOf_2 : Enters 122 := fun args w => Go.MuLone.run_callFunc_enter Tryz.func122 (by kernel_rfl) rfl args w
theorem ent_stepOf_3 : Enters 123 := fun args w => Go.MuLone.run_callFunc_enter Tryz.func123 (by kernel_rfl) rfl args w
theorem ent_stepOf_5 : Enters 127 := fun args w => Go.MuLone.run_callFunc_enter Tryz.func127 (by kernel_rfl) rfl args w
theorem ent_stepOf_6 : Enters 129 := fun args w => Go.MuLone.run_callFunc_enter Tryz.func129 (by kernel_rfl) rfl args w
theorem ent_stepOf_7 : Enters 131 := fun args w => Go.MuLone.run_callFunc_enter Tryz.func131 (by kernel_rfl) rfl args w
def StepCall (B M : Nat) (wv : Value) (v : Value) (w : World) (T : Strs) (N : List Int) (O : Recs) : Prop :=
  (∃ F, v = .func (.func F) #[] #[] ∧ Enters F ∧ Calls Tryz.prog F #[.pointer (some ⟨M, 0, none⟩)] w (MEnd B M wv (.tuple #[]) T N O w)) ∨
  (∃ F b, v = .func (.func F) #[] #[.pointer (some ⟨b, 0, none⟩)] ∧ Enters F ∧ Calls Tryz.prog F #[.pointer (some ⟨M, 0, none⟩), .pointer (some ⟨b, 0, none⟩)] w (MEnd B M wv (.tuple #[]) T N O w))

theorem step_call (E D B M : Nat) (wq : Option Addr) (wn wc : Nat) (ws : Strs) (w0 w : World) (op : Nat) (n : Int) (s : ByteArray) (v : Value) (av : EVs) (T0 : Strs) (N0 : List Int) (O : Recs)
    (h1 : 1 ≤ op) (h2 : op ≤ 14) (hv : StepV E D w op n s v) (hD : D ≤ B) (hal : av.length = (takesB op).size) (hav : ∀ x ∈ av, x.1.size ≤ 40 ∧ In64 x.2)
    (h : MAt B M (.slice wq wn wc) w (T0 ++ txs (takesB op).data.toList av) (N0 ++ nms (takesB op).data.toList av) O) (hf : T0.length < 80 ∧ N0.length < 80 ∧ O.length < 80)
    (hw : StrsAt w wq wn ws) (hn : op = 1 → 0 ≤ n) (hT : TabsR w0) (h0 : Below w0.heap.size w0 w) (hB0 : w0.heap.size ≤ B) :
    StepCall B M (.slice wq wn wc) v w (stT op n s ws av T0) (stN op n s ws av N0) (stO op av O) := by
  obtain rfl | rfl | rfl | rfl | rfl | rfl | rfl | rfl | rfl | rfl | rfl | rfl | rfl | rfl : op = 1 ∨ op = 2 ∨ op = 3 ∨ op = 4 ∨ op = 5 ∨ op = 6 ∨ op = 7 ∨ op = 8 ∨ op = 9 ∨ op = 10 ∨ op = 11 ∨ op = 12 ∨ op = 13 ∨ op = 14 := by omega
  · obtain ⟨b, hb, rfl, hr⟩ := hv
    obtain rfl := len0 hal
    have eT0 : T0 ++ txs (takesB 1).data.toList [] = T0 := by
      show T0 ++ [] = _
      simp
    have eN0 : N0 ++ nms (takesB 1).data.toList [] = N0 := by
      show N0 ++ [] = _
      simp
    rw [eT0, eN0] at h
    have eT : stT 1 n s ws [] T0 = T0 ++ [wordAt ws n] := by first | rfl | exact List.append_nil _
    have eN : stN 1 n s ws [] N0 = N0 := by first | rfl | exact List.append_nil _
    have eO : stO 1 [] O = O := rfl
    rw [eT, eN, eO]
    exact .inr ⟨_, b, rfl, ent_stepOf_1, step1_any B M wq wn wc ws w T0 N0 O b n s h hr hw (hn rfl) (by omega)⟩
  · obtain ⟨b, hb, rfl, hr⟩ := hv
    obtain rfl := len0 hal
    have eT0 : T0 ++ txs (takesB 2).data.toList [] = T0 := by
      show T0 ++ [] = _
      simp
    have eN0 : N0 ++ nms (takesB 2).data.toList [] = N0 := by
      show N0 ++ [] = _
      simp
    rw [eT0, eN0] at h
    have eT : stT 2 n s ws [] T0 = T0 ++ [s] := by first | rfl | exact List.append_nil _
    have eN : stN 2 n s ws [] N0 = N0 := by first | rfl | exact List.append_nil _
    have eO : stO 2 [] O = O := rfl
    rw [eT, eN, eO]
    exact .inr ⟨_, b, rfl, ent_stepOf_2, step2_any B M (.slice wq wn wc) w T0 N0 O b n s h hr (by omega)⟩
  · obtain ⟨b, hb, rfl, hr⟩ := hv
    obtain rfl := len0 hal
    have eT0 : T0 ++ txs (takesB 3).data.toList [] = T0 := by
      show T0 ++ [] = _
      simp
    have eN0 : N0 ++ nms (takesB 3).data.toList [] = N0 := by
      show N0 ++ [] = _
      simp
    rw [eT0, eN0] at h
    have eT : stT 3 n s ws [] T0 = T0 := by first | rfl | exact List.append_nil _
    have eN : stN 3 n s ws [] N0 = N0 ++ [n] := by first | rfl | exact List.append_nil _
    have eO : stO 3 [] O = O := rfl
    rw [eT, eN, eO]
    exact .inr ⟨_, b, rfl, ent_stepOf_3, step3_any B M (.slice wq wn wc) w T0 N0 O b n s h hr (by omega)⟩
  · obtain ⟨b, hb, rfl, hrow⟩ := hv
    have hc : w.cell? ⟨b, 0, none⟩ = some (.func (.func (inFn 4)) #[] #[]) := by have := hrow.cell (j := 0) (by simp); simpa using this
    obtain ⟨a, c, rfl⟩ := len2 hal
    have eT0 : T0 ++ txs (takesB 4).data.toList [a, c] = T0 ++ [a.1] ++ [c.1] := by
      show T0 ++ [a.1, c.1] = _
      simp
    have eN0 : N0 ++ nms (takesB 4).data.toList [a, c] = N0 := by
      show N0 ++ [] = _
      simp
    rw [eT0, eN0] at h
    have q0 := hav a (by simp)
    have q1 := hav c (by simp)
    have eT : stT 4 n s ws [a, c] T0 = T0 ++ [a.1 ++ c.1] := by first | rfl | exact List.append_nil _
    have eN : stN 4 n s ws [a, c] N0 = N0 := by first | rfl | exact List.append_nil _
    have eO : stO 4 [a, c] O = O := rfl
    rw [eT, eN, eO]
    exact .inr ⟨_, b, rfl, ent_onTexts_1, step4_any B M (.slice wq wn wc) w T0 N0 O b a.1 c.1 h hc (by omega) q0.1 q1.1 (by omega)⟩
  · obtain rfl := hv
    obtain ⟨a, rfl⟩ := len1 hal
    have eT0 : T0 ++ txs (takesB 5).data.toList [a] = T0 ++ [a.1] := by
      show T0 ++ [a.1] = _
      simp
    have eN0 : N0 ++ nms (takesB 5).data.toList [a] = N0 := by
      show N0 ++ [] = _
      simp
    rw [eT0, eN0] at h
    have q0 := hav a (by simp)
    have eT : stT 5 n s ws [a] T0 = T0 := by first | rfl | exact List.append_nil _
    have eN : stN 5 n s ws [a] N0 = N0 ++ [(a.1.size : Int)] := by first | rfl | exact List.append_nil _
    have eO : stO 5 [a] O = O := rfl
    rw [eT, eN, eO]
    exact .inl ⟨_, rfl, ent_stepOf_5, step5_any B M (.slice wq wn wc) w T0 N0 O a.1 h q0.1 (by omega)⟩
  · obtain rfl := hv
    obtain ⟨a, rfl⟩ := len1 hal
    have eT0 : T0 ++ txs (takesB 6).data.toList [a] = T0 ++ [a.1] := by
      show T0 ++ [a.1] = _
      simp
    have eN0 : N0 ++ nms (takesB 6).data.toList [a] = N0 := by
      show N0 ++ [] = _
      simp
    rw [eT0, eN0] at h
    have q0 := hav a (by simp)
    have eT : stT 6 n s ws [a] T0 = T0 := by first | rfl | exact List.append_nil _
    have eN : stN 6 n s ws [a] N0 = N0 ++ [numI a.1] := by first | rfl | exact List.append_nil _
    have eO : stO 6 [a] O = O := rfl
    rw [eT, eN, eO]
    exact .inl ⟨_, rfl, ent_stepOf_6, step6_any B M (.slice wq wn wc) w T0 N0 O a.1 w0 h q0.1 (by omega) hT h0 hB0⟩
  · obtain rfl := hv
    obtain ⟨a, rfl⟩ := len1 hal
    have eT0 : T0 ++ txs (takesB 7).data.toList [a] = T0 := by
      show T0 ++ [] = _
      simp
    have eN0 : N0 ++ nms (takesB 7).data.toList [a] = N0 ++ [a.2] := by
      show N0 ++ [a.2] = _
      simp
    rw [eT0, eN0] at h
    have q0 := hav a (by simp)
    have eT : stT 7 n s ws [a] T0 = T0 ++ [decB a.2] := by first | rfl | exact List.append_nil _
    have eN : stN 7 n s ws [a] N0 = N0 := by first | rfl | exact List.append_nil _
    have eO : stO 7 [a] O = O := rfl
    rw [eT, eN, eO]
    exact .inl ⟨_, rfl, ent_stepOf_7, step7_any B M (.slice wq wn wc) w T0 N0 O a.2 w0 h q0.2 (by omega) hT h0 hB0⟩
  · obtain ⟨b, hb, rfl, hrow⟩ := hv
    have hc : w.cell? ⟨b, 0, none⟩ = some (.func (.func (inFn 8)) #[] #[]) := by have := hrow.cell (j := 0) (by simp); simpa using this
    obtain ⟨a, c, rfl⟩ := len2 hal
    have eT0 : T0 ++ txs (takesB 8).data.toList [a, c] = T0 := by
      show T0 ++ [] = _
      simp
    have eN0 : N0 ++ nms (takesB 8).data.toList [a, c] = N0 ++ [a.2] ++ [c.2] := by
      show N0 ++ [a.2, c.2] = _
      simp
    rw [eT0, eN0] at h
    have q0 := hav a (by simp)
    have q1 := hav c (by simp)
    have eT : stT 8 n s ws [a, c] T0 = T0 := by first | rfl | exact List.append_nil _
    have eN : stN 8 n s ws [a, c] N0 = N0 ++ [wrap64 (a.2 + c.2)] := by first | rfl | exact List.append_nil _
    have eO : stO 8 [a, c] O = O := rfl
    rw [eT, eN, eO]
    exact .inr ⟨_, b, rfl, ent_onNums_1, step8_any B M (.slice wq wn wc) w T0 N0 O b a.2 c.2 h hc (by omega) (by omega)⟩
  · obtain ⟨b, hb, rfl, hrow⟩ := hv
    have hc : w.cell? ⟨b, 0, none⟩ = some (.func (.func (inFn 9)) #[] #[]) := by have := hrow.cell (j := 0) (by simp); simpa using this
    obtain ⟨a, c, rfl⟩ := len2 hal
    have eT0 : T0 ++ txs (takesB 9).data.toList [a, c] = T0 := by
      show T0 ++ [] = _
      simp
    have eN0 : N0 ++ nms (takesB 9).data.toList [a, c] = N0 ++ [a.2] ++ [c.2] := by
      show N0 ++ [a.2, c.2] = _
      simp
    rw [eT0, eN0] at h
    have q0 := hav a (by simp)
    have q1 := hav c (by simp)
    have eT : stT 9 n s ws [a, c] T0 = T0 := by first | rfl | exact List.append_nil _
    have eN : stN 9 n s ws [a, c] N0 = N0 ++ [wrap64 (a.2 - c.2)] := by first | rfl | exact List.append_nil _
    have eO : stO 9 [a, c] O = O := rfl
    rw [eT, eN, eO]
    exact .inr ⟨_, b, rfl, ent_onNums_1, step9_any B M (.slice wq wn wc) w T0 N0 O b a.2 c.2 h hc (by omega) (by omega)⟩
  · obtain ⟨b, hb, rfl, hrow⟩ := hv
    have hc : w.cell? ⟨b, 0, none⟩ = some (.func (.func (inFn 10)) #[] #[]) := by have := hrow.cell (j := 0) (by simp); simpa using this
    obtain ⟨a, c, rfl⟩ := len2 hal
    have eT0 : T0 ++ txs (takesB 10).data.toList [a, c] = T0 := by
      show T0 ++ [] = _
      simp
    have eN0 : N0 ++ nms (takesB 10).data.toList [a, c] = N0 ++ [a.2] ++ [c.2] := by
      show N0 ++ [a.2, c.2] = _
      simp
    rw [eT0, eN0] at h
    have q0 := hav a (by simp)
    have q1 := hav c (by simp)
    have eT : stT 10 n s ws [a, c] T0 = T0 := by first | rfl | exact List.append_nil _
    have eN : stN 10 n s ws [a, c] N0 = N0 ++ [wrap64 (a.2 * c.2)] := by first | rfl | exact List.append_nil _
    have eO : stO 10 [a, c] O = O := rfl
    rw [eT, eN, eO]
    exact .inr ⟨_, b, rfl, ent_onNums_1, step10_any B M (.slice wq wn wc) w T0 N0 O b a.2 c.2 h hc (by omega) (by omega)⟩
  · obtain ⟨b, hb, rfl, hrow⟩ := hv
    have hc : w.cell? ⟨b, 0, none⟩ = some (.func (.func (inFn 11)) #[] #[]) := by have := hrow.cell (j := 0) (by simp); simpa using this
    obtain ⟨a, c, rfl⟩ := len2 hal
    have eT0 : T0 ++ txs (takesB 11).data.toList [a, c] = T0 := by
      show T0 ++ [] = _
      simp
    have eN0 : N0 ++ nms (takesB 11).data.toList [a, c] = N0 ++ [a.2] ++ [c.2] := by
      show N0 ++ [a.2, c.2] = _
      simp
    rw [eT0, eN0] at h
    have q0 := hav a (by simp)
    have q1 := hav c (by simp)
    have eT : stT 11 n s ws [a, c] T0 = T0 := by first | rfl | exact List.append_nil _
    have eN : stN 11 n s ws [a, c] N0 = N0 ++ [truthI (decide (a.2 < c.2))] := by first | rfl | exact List.append_nil _
    have eO : stO 11 [a, c] O = O := rfl
    rw [eT, eN, eO]
    exact .inr ⟨_, b, rfl, ent_onNums_1, step11_any B M (.slice wq wn wc) w T0 N0 O b a.2 c.2 h hc (by omega) (by omega)⟩
  · obtain ⟨b, hb, rfl, hrow⟩ := hv
    have hc : w.cell? ⟨b, 0, none⟩ = some (.func (.func (inFn 12)) #[] #[]) := by have := hrow.cell (j := 0) (by simp); simpa using this
    obtain ⟨a, c, rfl⟩ := len2 hal
    have eT0 : T0 ++ txs (takesB 12).data.toList [a, c] = T0 ++ [a.1] ++ [c.1] := by
      show T0 ++ [a.1, c.1] = _
      simp
    have eN0 : N0 ++ nms (takesB 12).data.toList [a, c] = N0 := by
      show N0 ++ [] = _
      simp
    rw [eT0, eN0] at h
    have q0 := hav a (by simp)
    have q1 := hav c (by simp)
    have eT : stT 12 n s ws [a, c] T0 = T0 := by first | rfl | exact List.append_nil _
    have eN : stN 12 n s ws [a, c] N0 = N0 ++ [truthI (decide (a.1 = c.1))] := by first | rfl | exact List.append_nil _
    have eO : stO 12 [a, c] O = O := rfl
    rw [eT, eN, eO]
    exact .inr ⟨_, b, rfl, ent_onTexts_1, step12_any B M (.slice wq wn wc) w T0 N0 O b a.1 c.1 h hc (by omega) q0.1 q1.1 (by omega)⟩
  · obtain rfl := hv
    obtain ⟨a, c, rfl⟩ := len2 hal
    have eT0 : T0 ++ txs (takesB 13).data.toList [a, c] = T0 ++ [a.1] := by
      show T0 ++ [a.1] = _
      simp
    have eN0 : N0 ++ nms (takesB 13).data.toList [a, c] = N0 ++ [c.2] := by
      show N0 ++ [c.2] = _
      simp
    rw [eT0, eN0] at h
    have q0 := hav a (by simp)
    have q1 := hav c (by simp)
    have eT : stT 13 n s ws [a, c] T0 = T0 := rfl
    have eN : stN 13 n s ws [a, c] N0 = N0 := rfl
    have eO : stO 13 [a, c] O = O ++ [(a.1, c.2)] := rfl
    rw [eT, eN, eO]
    exact .inl ⟨_, rfl, ent_emitStepOf_1, step13_any B M (.slice wq wn wc) w T0 N0 O a.1 c.2 h (by omega)⟩
  · obtain rfl := hv
    obtain ⟨a, c, d, rfl⟩ := len3 hal
    have eT0 : T0 ++ txs (takesB 14).data.toList [a, c, d] = T0 ++ [a.1] := by
      show T0 ++ [a.1] = _
      simp
    have eN0 : N0 ++ nms (takesB 14).data.toList [a, c, d] = N0 ++ [c.2] ++ [d.2] := by
      show N0 ++ [c.2, d.2] = _
      simp
    rw [eT0, eN0] at h
    have q0 := hav a (by simp)
    have q1 := hav c (by simp)
    have q2 := hav d (by simp)
    have eT : stT 14 n s ws [a, c, d] T0 = T0 := rfl
    have eN : stN 14 n s ws [a, c, d] N0 = N0 := rfl
    rw [eT, eN]
    by_cases hz : d.2 = 0
    · have eO : stO 14 [a, c, d] O = O := by
        show (if (14 : Nat) = 13 ∨ d.2 ≠ 0 then _ else _) = _
        rw [if_neg (fun h => h.elim (fun h => absurd h (by decide)) (fun h => h hz))]
      rw [eO]
      exact .inl ⟨_, rfl, ent_emitStepOf_2, step14no_any B M (.slice wq wn wc) w T0 N0 O a.1 c.2 d.2 h hz (by omega)⟩
    · have eO : stO 14 [a, c, d] O = O ++ [(a.1, c.2)] := by
        show (if (14 : Nat) = 13 ∨ d.2 ≠ 0 then _ else _) = _
        rw [if_pos (.inr hz)]
        rfl
      rw [eO]
      exact .inl ⟨_, rfl, ent_emitStepOf_2, step14yes_any B M (.slice wq wn wc) w T0 N0 O a.1 c.2 d.2 h hz (by omega)⟩
end Go.Proofs.YtdphganbnlmgcaaGreatDoor
