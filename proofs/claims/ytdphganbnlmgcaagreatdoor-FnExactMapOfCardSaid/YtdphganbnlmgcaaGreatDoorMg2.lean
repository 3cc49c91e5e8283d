/- Texts put together, as a claim holds at most sixty files. -/
import Derived.Test.YtdphganbnlmgcaaGreatDoorMg1
import Derived.Test.YtdphganbnlmgcaaGreatDoorMg0
import Derived.Test.YtdphganbnlmgcaaGreatDoorMg9
import Derived.Lib.Strings
import Derived.Test.YtdphganbnlmgcaaGreatDoorRows
import Derived.WalkKit
import Derived.RegionTactic
import Derived.Deep.RegionHeld3
namespace Go.Proofs.YtdphganbnlmgcaaGreatDoor
open Go.ChangeShapes Go.WideShapes Go.ChangeAt Go.RowKit
set_option linter.unusedVariables false
set_option maxRecDepth 100000

def takesB : Nat → ByteArray
  | 4 => ⟨#[84, 84]⟩ | 5 => ⟨#[84]⟩ | 6 => ⟨#[84]⟩ | 7 => ⟨#[78]⟩ | 8 => ⟨#[78, 78]⟩ | 9 => ⟨#[78, 78]⟩ | 10 => ⟨#[78, 78]⟩ | 11 => ⟨#[78, 78]⟩
  | 12 => ⟨#[84, 84]⟩ | 13 => ⟨#[84, 78]⟩ | 14 => ⟨#[84, 78, 78]⟩ | _ => ByteArray.empty
def givesB : Nat → ByteArray
  | 1 => ⟨#[84]⟩ | 2 => ⟨#[84]⟩ | 3 => ⟨#[78]⟩ | 4 => ⟨#[84]⟩ | 5 => ⟨#[78]⟩ | 6 => ⟨#[78]⟩ | 7 => ⟨#[84]⟩ | 8 => ⟨#[78]⟩ | 9 => ⟨#[78]⟩ | 10 => ⟨#[78]⟩ | 11 => ⟨#[78]⟩
  | 12 => ⟨#[78]⟩ | _ => ByteArray.empty
theorem takes_few (x : Nat) : (takesB x).size ≤ 3 := by
  unfold takesB; split <;> decide
theorem gives_few (x : Nat) : (givesB x).size ≤ 1 := by
  unfold givesB; split <;> decide

/-- The stack behind an instruction, or none. -/
def stepB (st tk gv : ByteArray) : Option ByteArray :=
  if tk.size ≤ st.size ∧ st.extract (st.size - tk.size) st.size = tk then some (st.extract 0 (st.size - tk.size) ++ gv) else none
def stk (l : Instrs) : Nat → Option ByteArray
  | 0 => some ByteArray.empty
  | k + 1 => match stk l k with
    | none => none
    | some st => if instrB (ins0 l k) (ins1 l k) (ins2 l k) = true then stepB st (takesB (ins0 l k).toNat) (givesB (ins0 l k).toNat) else none
def progB (l : Instrs) : Bool := decide (l.length ≤ 30) && decide (stk l l.length = some ByteArray.empty)

theorem stk_none {l : Instrs} {k n : Nat} (h : stk l k = none) (hk : k ≤ n) : stk l n = none := by
  induction n with
  | zero => obtain rfl : k = 0 := by omega
            exact h
  | succ n ih =>
    rcases Nat.lt_or_ge n k with h1 | h1
    · obtain rfl : k = n + 1 := by omega
      exact h
    · rw [stk, ih h1]
theorem prog_long {l : Instrs} (h : ¬ l.length ≤ 30) : progB l = false := by
  unfold progB; rw [decide_eq_false h]; rfl
theorem prog_bad {l : Instrs} {k : Nat} (hk : k ≤ l.length) (h : stk l k = none) : progB l = false := by
  unfold progB; rw [stk_none h hk]; simp
theorem prog_end {l : Instrs} {st : ByteArray} (h30 : l.length ≤ 30) (h : stk l l.length = some st) : progB l = decide (st.size = 0) := by
  unfold progB
  rw [h, decide_eq_true h30, Bool.true_and]
  by_cases hs : st.size = 0
  · have : st = ByteArray.empty := ByteArray.ext (Array.eq_empty_of_size_eq_zero hs)
    rw [this]; rfl
  · rw [decide_eq_false hs, decide_eq_false]
    intro he
    rw [Option.some.injEq] at he
    rw [he] at hs
    exact hs rfl
theorem stk_step {l : Instrs} {k : Nat} {st : ByteArray} (h : stk l k = some st) (hi : instrB (ins0 l k) (ins1 l k) (ins2 l k) = true) :
    stk l (k + 1) = stepB st (takesB (ins0 l k).toNat) (givesB (ins0 l k).toNat) := by
  rw [stk, h]; simp only [hi, if_pos]
theorem stk_wrong {l : Instrs} {k : Nat} (hi : instrB (ins0 l k) (ins1 l k) (ins2 l k) = false) : stk l (k + 1) = none := by
  rw [stk]
  split
  · rfl
  · rw [hi]; rfl
theorem step_short {st tk gv : ByteArray} (h : st.size < tk.size) : stepB st tk gv = none := by
  unfold stepB; rw [if_neg (by omega)]
theorem step_other {st tk gv : ByteArray} (h : st.extract (st.size - tk.size) st.size ≠ tk) : stepB st tk gv = none := by
  unfold stepB; rw [if_neg (fun h2 => h h2.2)]
theorem step_fits {st tk gv : ByteArray} (h0 : tk.size ≤ st.size) (h : st.extract (st.size - tk.size) st.size = tk) : stepB st tk gv = some (st.extract 0 (st.size - tk.size) ++ gv) := by
  unfold stepB; rw [if_pos ⟨h0, h⟩]
theorem step_size {st tk gv r : ByteArray} (h : stepB st tk gv = some r) (hg : gv.size ≤ 1) : r.size ≤ st.size + 1 := by
  unfold stepB at h
  split at h
  · rw [Option.some.injEq] at h
    rw [← h, ByteArray.size_append, ByteArray.size_extract]
    omega
  · cases h
theorem instr_op {op n : Int} {s : ByteArray} (h : instrB op n s = true) : 1 ≤ op ∧ op ≤ 14 := by
  unfold instrB at h
  split at h
  · omega
  · split at h
    · omega
    · split at h
      · omega
      · rw [Bool.and_eq_true, decide_eq_true_eq] at h
        omega
end Go.Proofs.YtdphganbnlmgcaaGreatDoor
namespace Go.Proofs.YtdphganbnlmgcaaGreatDoor
open Go.ChangeShapes Go.WideShapes Go.ChangeAt Go.RowKit
set_option linter.unusedVariables false
set_option maxRecDepth 100000

/-- The words so far, in a row that the call made itself. -/
structure WordsSt (L : List UInt8) (w wr : World) (v : Value) (W : List (List UInt8)) (st j : Nat) : Prop where
  own : wr.ownsRow w.heap.size 9 1 v W.length (W.map encS)
  below : Below w.heap.size w wr
  rest : W ++ wordsL (L.drop st) = wordsL L
  no : j ≤ L.length → noC 32 (piece L st j)
  past : L.length < j → st = j

/-- The end of WordsOf: the first 20 words in a row of its own. -/
def MadeWords (W : List (List UInt8)) (w : World) (e : Ending) (w' : World) : Prop :=
  ∃ v, e = .returned v ∧ w'.ownsRow w.heap.size 9 1 v W.length (W.map encS) ∧ Below w.heap.size w w'

theorem wordsSt_skip {L : List UInt8} {w wr : World} {v : Value} {W : List (List UInt8)} {st j : Nat} (h : WordsSt L w wr v W st j) (hs : st ≤ j) (hj : j < L.length) (hc : L[j] ≠ 32) : WordsSt L w wr v W st (j + 1) where
  own := h.own
  below := h.below
  rest := h.rest
  no := fun _ => by rw [piece_snoc L st j hs hj]; exact noC_snoc (h.no (by omega)) hc
  past := fun h => by omega

theorem wordsSt_none {L : List UInt8} {w wr : World} {v : Value} {W : List (List UInt8)} {j : Nat} (h : WordsSt L w wr v W j j) (hj : j ≤ L.length) (hc : ∀ hlt : j < L.length, L[j] = 32) : WordsSt L w wr v W (j + 1) (j + 1) where
  own := h.own
  below := h.below
  rest := by
    rw [← h.rest]
    rcases Nat.lt_or_ge j L.length with hlt | hge
    · rw [words_step L j j (Nat.le_refl _) hlt (by rw [piece_empty]; exact noC_nil) (hc hlt), if_pos rfl, List.nil_append]
    · have e1 : L.drop j = [] := List.drop_eq_nil_of_le hge
      have e2 : L.drop (j + 1) = [] := List.drop_eq_nil_of_le (by omega)
      rw [e1, e2]
  no := fun _ => by rw [piece_empty]; exact noC_nil
  past := fun _ => rfl

theorem wordsSt_word {L : List UInt8} {w wr w1 : World} {v v' : Value} {W : List (List UInt8)} {st j : Nat} (h : WordsSt L w wr v W st j) (hs : st < j) (hj : j ≤ L.length) (hc : ∀ hlt : j < L.length, L[j] = 32)
    (hown : w1.ownsRow w.heap.size 9 1 v' (W.length + 1) (W.map encS ++ [encS (piece L st j)])) (hb : Below w.heap.size w w1) : WordsSt L w w1 v' (W ++ [piece L st j]) (j + 1) (j + 1) where
  own := by simpa using hown
  below := hb
  rest := by
    rw [← h.rest, List.append_assoc]
    congr 1
    rcases Nat.lt_or_ge j L.length with hlt | hge
    · rw [words_step L st j (by omega) hlt (h.no hj) (hc hlt), if_neg (by omega)]
    · obtain rfl : j = L.length := by omega
      have e2 : L.drop (L.length + 1) = [] := List.drop_eq_nil_of_le (by omega)
      rw [words_end L st (by omega) (h.no hj), if_neg (by omega), e2, wordsL_nil]; rfl
  no := fun _ => by rw [piece_empty]; exact noC_nil
  past := fun _ => rfl

theorem wordsSt_done {L : List UInt8} {w wr : World} {v : Value} {W : List (List UInt8)} {st j : Nat} (h : WordsSt L w wr v W st j) (h20 : W.length ≤ 20) (hend : L.length < j ∨ W.length = 20) : W = (wordsL L).take 20 := by
  rw [← h.rest]
  rcases hend with hj | hl
  · have e : L.drop st = [] := List.drop_eq_nil_of_le (by rw [h.past hj]; omega)
    rw [e, wordsL_nil, List.append_nil, List.take_of_length_le h20]
  · rw [List.take_append_of_le_length (by omega), List.take_of_length_le (by omega)]

set_option maxHeartbeats 2000000 in
theorem words_any (s : ByteArray) (w : World) (hs : s.size ≤ 1048576) :
    Calls Tryz.prog 84 #[.string s] w (MadeWords ((wordsL s.data.toList).take 20) w) := by
  obtain ⟨i0, hi, hz0, hz1, hz2⟩ := info_parts infoStr
  obtain ⟨L, hL⟩ : ∃ L, s.data.toList = L := ⟨_, rfl⟩
  have hlen : L.length = s.size := by rw [← hL]; simp
  have HL := Lib.hid hL
  have HLEN := Lib.hid hlen
  rw [hL]
  clear hL hlen
  go_enter Tryz.func84, Tryz.ntmps84
  go_wp2
  go_loopw [3, 4, 5] (fun v t i wr => ∃ (j st : Nat) (W : List (List UInt8)) (q : Option Addr) (cp : Nat), v = .slice q W.length cp ∧ t = .int .i64 st ∧ i = .int .i64 j ∧ st ≤ j ∧ j ≤ s.size + 1 ∧ W.length ≤ 20 ∧ Hid (WordsSt L w wr v W st j)) (fun _ _ i _ => s.size + 1 - (intOf i).toNat)
  case atStart => exact ⟨0, 0, [], none, 0, rfl, rfl, rfl, Nat.le_refl _, Nat.zero_le _, by simp, ⟨World.ownsRow_nil _ _ _ _, Below.refl _ _, rfl, fun _ => by rw [piece_empty]; exact noC_nil, fun h => by omega⟩⟩
  case round =>
    obtain ⟨j, st, W, q, cp, rfl, rfl, rfl, hsj, hj, hW, HS⟩ := hrel
    obtain ⟨wl, hwl⟩ : ∃ wl, W.length = wl := ⟨_, rfl⟩
    rw [hwl] at hW HS ⊢
    have HWL := Lib.hid hwl
    clear hwl
    by_cases hjn : j ≤ s.size
    · by_cases h20 : wl < 20
      · by_cases hlt : j < s.size
        · by_cases hc : s[j] = 32
          · have hb0 : (((s[j]).toNat : Int) == 32) = true := by rw [hc]; rfl
            have hb1 : (((s[j]).toNat : Int) != 32) = false := by rw [bne, hb0]; rfl
            have HC := Lib.hid (show ∀ h : j < L.length, L[j] = 32 from fun h => (byte_at HL.out j hlt h).trans hc)
            clear hc
            by_cases hst : st < j
            · have hown : wr.ownsRow w.heap.size 9 1 (.slice q wl cp) wl (W.map encS) := by
                have := HS.out.own
                rw [HWL.out] at this
                exact this
              have hst2 : (st : Int) < (j : Int) := by omega
              have HO := Lib.hid hown
              clear hown
              go_wp2_with (at_builtin; (refine wpList_append_own _ rfl _ _ 23 rfl w.heap.size 9 i0 _ 1 16 Tryz.underlying23 hi hz0 hz1 hz2 rfl (by decide) _ _ _ rfl (HO.out.alloc _) ⟨wr.heap.size, 0, none⟩ 1 1 [.string (s.extract st j)] rfl rfl (one_new _ _ _) (fun u hu => by simp at hu; subst hu; rfl) (by unfold maxLen; omega) (by omega) (Nat.le_trans HS.out.below.size (by simp)) ?_); intro v' w1 hown1 hgrow hnil; have HO1 := Lib.hid hown1; have HG := Lib.hid hgrow; clear hown1 hgrow hnil)
              obtain ⟨q1, cp1, rfl⟩ := own_form HO1.out
              go_roundw
              case rel =>
                have hb : Below w.heap.size w w1 := (HS.out.below.alloc HS.out.below.size _).grown HG.out (Nat.le_trans HS.out.below.size (by simp)) (fun k hk => (HO.out.lt k hk).1)
                have ho := HO1.out
                rw [← HWL.out, extract_piece, HL.out] at ho
                have hnew := wordsSt_word HS.out hst (by rw [HLEN.out]; exact hjn) HC.out ho hb
                rw [HWL.out] at hnew
                exact ⟨j + 1, j + 1, W ++ [piece L st j], q1, cp1, by rw [← HWL.out]; simp, by go_num, by go_num, by omega, by omega, by simp; have := HWL.out; omega, hnew⟩
              case measure => simp [intOf]; omega
            · obtain rfl : st = j := by omega
              go_wp2
              go_roundw
              case rel => exact ⟨st + 1, st + 1, W, q, cp, by rw [HWL.out], by go_num, by go_num, by omega, by omega, by rw [HWL.out]; omega, wordsSt_none HS.out (by rw [HLEN.out]; exact hjn) HC.out⟩
              case measure => simp [intOf]; omega
          · have hb0 : (((s[j]).toNat : Int) == 32) = false := by
              simp only [beq_eq_false_iff_ne]
              intro h
              exact hc (UInt8.toNat_inj.1 (by have : (s[j]).toNat = 32 := by omega
                                              rw [this]; rfl))
            have hb1 : (((s[j]).toNat : Int) != 32) = true := by rw [bne, hb0]; rfl
            have HC := Lib.hid hc
            clear hc
            go_wp2
            go_roundw
            case rel =>
              have hjl : j < L.length := by rw [HLEN.out]; exact hlt
              exact ⟨j + 1, st, W, q, cp, by rw [HWL.out], rfl, by go_num, by omega, by omega, by rw [HWL.out]; omega, wordsSt_skip HS.out hsj hjl (by rw [byte_at HL.out j hlt hjl]; exact HC.out)⟩
            case measure => simp [intOf]; omega
        · have hje : ¬ (j : Int) < (s.size : Int) := by omega
          have HC := Lib.hid (show ∀ h : j < L.length, L[j] = 32 from fun h => by rw [HLEN.out] at h; omega)
          by_cases hst : st < j
          · have hown : wr.ownsRow w.heap.size 9 1 (.slice q wl cp) wl (W.map encS) := by
              have := HS.out.own
              rw [HWL.out] at this
              exact this
            have hst2 : (st : Int) < (j : Int) := by omega
            have HO := Lib.hid hown
            clear hown
            go_wp2_with (at_builtin; (refine wpList_append_own _ rfl _ _ 23 rfl w.heap.size 9 i0 _ 1 16 Tryz.underlying23 hi hz0 hz1 hz2 rfl (by decide) _ _ _ rfl (HO.out.alloc _) ⟨wr.heap.size, 0, none⟩ 1 1 [.string (s.extract st j)] rfl rfl (one_new _ _ _) (fun u hu => by simp at hu; subst hu; rfl) (by unfold maxLen; omega) (by omega) (Nat.le_trans HS.out.below.size (by simp)) ?_); intro v' w1 hown1 hgrow hnil; have HO1 := Lib.hid hown1; have HG := Lib.hid hgrow; clear hown1 hgrow hnil)
            obtain ⟨q1, cp1, rfl⟩ := own_form HO1.out
            go_roundw
            case rel =>
              have hb : Below w.heap.size w w1 := (HS.out.below.alloc HS.out.below.size _).grown HG.out (Nat.le_trans HS.out.below.size (by simp)) (fun k hk => (HO.out.lt k hk).1)
              have ho := HO1.out
              rw [← HWL.out, extract_piece, HL.out] at ho
              have hnew := wordsSt_word HS.out hst (by rw [HLEN.out]; exact hjn) HC.out ho hb
              rw [HWL.out] at hnew
              exact ⟨j + 1, j + 1, W ++ [piece L st j], q1, cp1, by rw [← HWL.out]; simp, by go_num, by go_num, by omega, by omega, by simp; have := HWL.out; omega, hnew⟩
            case measure => simp [intOf]; omega
          · obtain rfl : st = j := by omega
            go_wp2
            go_roundw
            case rel => exact ⟨st + 1, st + 1, W, q, cp, by rw [HWL.out], by go_num, by go_num, by omega, by omega, by rw [HWL.out]; omega, wordsSt_none HS.out (by rw [HLEN.out]; exact hjn) HC.out⟩
            case measure => simp [intOf]; omega
      · have h20' : ¬ (wl : Int) < 20 := by omega
        have HD := Lib.hid (wordsSt_done HS.out (by rw [HWL.out]; exact hW) (.inr (by rw [HWL.out]; omega)))
        go_wp2
        go_ret
        exact ⟨_, rfl, by rw [← HD.out]; have := HS.out.own; exact this, HS.out.below⟩
    · have HD := Lib.hid (wordsSt_done HS.out (by rw [HWL.out]; exact hW) (.inl (by rw [HLEN.out]; omega)))
      go_wp2
      go_ret
      exact ⟨_, rfl, by rw [← HD.out]; have := HS.out.own; exact this, HS.out.below⟩
end Go.Proofs.YtdphganbnlmgcaaGreatDoor
namespace Go.Proofs.YtdphganbnlmgcaaGreatDoor
open Go.ChangeShapes Go.WideShapes Go.ChangeAt Go.RowKit
set_option linter.unusedVariables false
set_option maxRecDepth 100000

/-- The slice (q, length of W) holds the words W in a row from block 'base' on. -/
def Ws (base : Nat) (w : World) (q : Option Addr) (W : List (List UInt8)) : Prop :=
  W.length = 0 ∨ ∃ g cur, q = some ⟨g, 0, none⟩ ∧ base ≤ g ∧ Row w g 9 cur ∧ W.length ≤ cur.size ∧ ∀ j (h : j < W.length), cur[j]? = some (encS W[j])

theorem ws_of_own {base : Nat} {w : World} {q : Option Addr} {cp : Nat} {W V : List (List UInt8)} (h : w.ownsRow base 9 1 (.slice q W.length cp) W.length (W.map encS)) (hV : V = W.take V.length) : Ws base w q V := by
  have hle : V.length ≤ W.length := by have := congrArg List.length hV; simp at this; omega
  rcases h.2 with ⟨_, h2⟩ | ⟨g, cap, cur, hv, hb, hh, h1, _, h3, h4⟩
  · exact .inl (by omega)
  · simp only [Value.slice.injEq, true_and] at hv
    obtain ⟨rfl, rfl⟩ := hv
    refine .inr ⟨g, cur, rfl, hb, hh, by omega, fun j hj => ?_⟩
    have e : (cur.toList.take (W.length * 1))[j]? = (W.map encS)[j]? := by rw [h4]
    rw [List.getElem?_take_of_lt (by omega)] at e
    have e2 : cur[j]? = cur.toList[j]? := by simp
    rw [e2, e]
    have hVj : V[j] = W[j]'(by omega) := by
      have : V[j]? = (W.take V.length)[j]? := by rw [← hV]
      rw [List.getElem?_take_of_lt hj, List.getElem?_eq_getElem hj, List.getElem?_eq_getElem (by omega)] at this
      simpa using this
    rw [hVj]
    simp [show j < W.length by omega]

def strsOf (W : List (List UInt8)) : Strs := W.map fun b => ⟨b.toArray⟩
theorem strAt_of (W : List (List UInt8)) (j : Nat) (h : j < W.length) : strAt (strsOf W) j = ⟨W[j].toArray⟩ := by
  unfold strAt strsOf
  rw [List.getD_eq_getElem?_getD, List.getElem?_map, List.getElem?_eq_getElem h]; rfl

/-- Every word is short. -/
def Short (W : List (List UInt8)) : Prop := W.length ≤ 20 ∧ ∀ j (h : j < W.length), W[j].length ≤ maxLen

theorem strs_of_ws {base : Nat} {w : World} {q : Option Addr} {W : List (List UInt8)} (h : Ws base w q W) (hs : Short W) : StrsAt w q W.length (strsOf W) := by
  refine ⟨by simp [strsOf], by have := hs.1; unfold maxLen; omega, fun i hi => by rw [strAt_of W i hi]; exact hs.2 i hi, ?_⟩
  rcases h with h0 | ⟨g, cur, rfl, _, hr, _, hc⟩
  · exact .inl h0
  · refine .inr ⟨g, 0, rfl, hr.lt, fun i hi => ?_⟩
    rw [strAt_of W i hi]
    have := hc i hi
    unfold Row at hr
    simp [World.cell?, hr, this, encS]

theorem ws_keep {base : Nat} {w w1 : World} {q : Option Addr} {W : List (List UInt8)} (h : Ws base w q W) (hB : Below w.heap.size w w1) : Ws base w1 q W := by
  rcases h with h0 | ⟨g, cur, rfl, hb, hr, h1, h2⟩
  · exact .inl h0
  · exact .inr ⟨g, cur, rfl, hb, hr.keep hB, h1, h2⟩

theorem ws_lt {base : Nat} {w : World} {q : Option Addr} {W : List (List UInt8)} (h : Ws base w q W) (hn : 0 < W.length) : ∀ g, q = some ⟨g, 0, none⟩ → g < w.heap.size := by
  intro g hg
  rcases h with h0 | ⟨g', cur, rfl, hb, hr, h1, h2⟩
  · omega
  · simp only [Option.some.injEq, Addr.mk.injEq, and_true] at hg
    rw [← hg]; exact hr.lt

theorem ws_grown {base g : Nat} {w w1 : World} {q : Option Addr} {W : List (List UInt8)} (h : Ws base w q W) (hg : w.grownBy w1 (some g)) (hne : ∀ g', q = some ⟨g', 0, none⟩ → g' ≠ g) : Ws base w1 q W := by
  rcases h with h0 | ⟨g', cur, rfl, hb, hr, h1, h2⟩
  · exact .inl h0
  · exact .inr ⟨g', cur, rfl, hb, (hg.block g' hr.lt (by simpa using hne g' rfl)).trans hr, h1, h2⟩

theorem strs_of {base n : Nat} {w : World} {q : Option Addr} {W : List (List UInt8)} (h : Ws base w q W) (hs : Short W) (hn : W.length = n) : StrsAt w q n (strsOf W) := by
  subst hn; exact strs_of_ws h hs
end Go.Proofs.YtdphganbnlmgcaaGreatDoor
namespace Go.Proofs.YtdphganbnlmgcaaGreatDoor

section
variable {P : Program} {ops : Array Oper} {Q : Exit → Act → World → Prop} {md : Region.Mode}

theorem hand_take {i d : Nat} {oi : Oper} {v : Value} {fuel : Nat} {listed : Array Bool} {a : Act} {w : World} (hi : ops[i]? = some oi) (hd : oi.dst = some d)
    (hs : Region.noSelect ops = true) (hf : Region.free md ops listed i = true) (hr : (Region.ready md ops listed).contains i = true)
    (hw : Region.wanted oi (yielded ops a.tmps) = true) (hy : ∀ w, (execOp a.eval oi).run P w = .ok (.value v) w)
    (h : wpAny P md ops (NoPanic Q) fuel (listed.setIfInBounds i true) { a with tmps := a.tmps.setIfInBounds d v } w) : wpAny P md ops (NoPanic Q) (fuel + 1) listed a w :=
  wpAny_take hi hs hf hr (fun _ _ _ h => h) (Or.inl ⟨hw, hy⟩) (by rw [hd]; exact h)

theorem hand_skip {i d : Nat} {oi : Oper} {fuel : Nat} {listed : Array Bool} {a : Act} {w : World} (hi : ops[i]? = some oi) (hd : oi.dst = some d)
    (hs : Region.noSelect ops = true) (hf : Region.free md ops listed i = true) (hr : (Region.ready md ops listed).contains i = true)
    (hw : Region.wanted oi (yielded ops a.tmps) = false)
    (h : wpAny P md ops (NoPanic Q) fuel (listed.setIfInBounds i true) { a with tmps := a.tmps.setIfInBounds d undef } w) : wpAny P md ops (NoPanic Q) (fuel + 1) listed a w :=
  wpAny_take hi hs hf hr (fun _ _ _ h => h) (Or.inr ⟨hw, rfl⟩) (by rw [hd]; exact h)
end
end Go.Proofs.YtdphganbnlmgcaaGreatDoor
namespace Go.Proofs.YtdphganbnlmgcaaGreatDoor
open Go.ChangeShapes Go.WideShapes Go.ChangeAt Go.RowKit
set_option linter.unusedVariables false
set_option maxRecDepth 100000

set_option maxHeartbeats 1000000 in
theorem eqins_same (x0 : Int) (x1 : Int) (x2 : ByteArray) (w : World) : Calls Tryz.prog 53 #[.agg #[.int .i64 x0, .int .i64 x1, .string x2], .agg #[.int .i64 x0, .int .i64 x1, .string x2]] w (MadeBool true w) := by
  go_enter Tryz.func53, Tryz.ntmps53
  go_wp2
  go_ret
  exact ⟨rfl, below_alloc (below_alloc (Below.refl _ _) _) _⟩

set_option maxHeartbeats 2000000 in
theorem eqinss_same (a1 a2 : Option Addr) (len cap1 cap2 : Nat) (l : Instrs) (w : World) (h1 : InstrsAt w a1 len l) (h2 : InstrsAt w a2 len l) :
    Calls Tryz.prog 27 #[.slice a1 len cap1, .slice a2 len cap2] w (MadeBool true w) := by
  have hm := h1.max
  unfold maxLen at hm
  have HR1 := Lib.hid h1
  have HR2 := Lib.hid h2
  clear h1 h2
  go_enter Tryz.func27, Tryz.ntmps27
  go_wp2
  go_loopw [5] (fun i wr => ∃ k : Nat, k ≤ len ∧ i = .int .i64 k ∧ Hid (Below w.heap.size w wr)) (fun i _ => len - (intOf i).toNat)
  case atStart => exact ⟨0, Nat.zero_le _, rfl, Below.refl _ _⟩
  case round =>
    obtain ⟨k, hk, rfl, HW⟩ := hrel
    by_cases hlt : k < len
    · rcases HR1.out.src with hz | ⟨b1, off1, rfl, hb1, hc1⟩
      · omega
      · rcases HR2.out.src with hz | ⟨b2, off2, rfl, hb2, hc2⟩
        · omega
        · have c0 := (HW.out.cell (p := ⟨b1, off1 + k * 3, none⟩) hb1).trans (hc1 k hlt).1
          have c1 := (HW.out.cell (p := ⟨b1, off1 + k * 3 + 1, none⟩) hb1).trans (hc1 k hlt).2.1
          have c2 := (HW.out.cell (p := ⟨b1, off1 + k * 3 + 2, none⟩) hb1).trans (hc1 k hlt).2.2
          have d0 := (HW.out.cell (p := ⟨b2, off2 + k * 3, none⟩) hb2).trans (hc2 k hlt).1
          have d1 := (HW.out.cell (p := ⟨b2, off2 + k * 3 + 1, none⟩) hb2).trans (hc2 k hlt).2.1
          have d2 := (HW.out.cell (p := ⟨b2, off2 + k * 3 + 2, none⟩) hb2).trans (hc2 k hlt).2.2
          have HB := Lib.hid HW.out.drew
          clear hc1 hc2 hb1 hb2
          go_wp2_with fail
          go_region_held3 (fun w' => Hid (Below w.heap.size w w') ∧ w'.cell? ⟨b1, off1 + k * 3, none⟩ = some (.int .i64 (ins0 l k)) ∧ w'.cell? ⟨b1, off1 + k * 3 + 1, none⟩ = some (.int .i64 (ins1 l k)) ∧ w'.cell? ⟨b1, off1 + k * 3 + 2, none⟩ = some (.string (ins2 l k)) ∧ w'.cell? ⟨b2, off2 + k * 3, none⟩ = some (.int .i64 (ins0 l k)) ∧ w'.cell? ⟨b2, off2 + k * 3 + 1, none⟩ = some (.int .i64 (ins1 l k)) ∧ w'.cell? ⟨b2, off2 + k * 3 + 2, none⟩ = some (.string (ins2 l k)))
            (first | exact ⟨HB, c0, c1, c2, d0, d1, d2⟩ | exact ⟨HB, e0, e1, e2, f0, f1, f2⟩)
            (first | (go_at_call 53; refine (eqins_same _ _ _ _).mono ?_; rintro e w2 ⟨rfl, hB⟩; have e0 := (hB.cell (p := ⟨b1, off1 + k * 3, none⟩) (World.block_lt_of_cell? _ _ c0)).trans c0; have e1 := (hB.cell (p := ⟨b1, off1 + k * 3 + 1, none⟩) (World.block_lt_of_cell? _ _ c1)).trans c1; have e2 := (hB.cell (p := ⟨b1, off1 + k * 3 + 2, none⟩) (World.block_lt_of_cell? _ _ c2)).trans c2; have f0 := (hB.cell (p := ⟨b2, off2 + k * 3, none⟩) (World.block_lt_of_cell? _ _ d0)).trans d0; have f1 := (hB.cell (p := ⟨b2, off2 + k * 3 + 1, none⟩) (World.block_lt_of_cell? _ _ d1)).trans d1; have f2 := (hB.cell (p := ⟨b2, off2 + k * 3 + 2, none⟩) (World.block_lt_of_cell? _ _ d2)).trans d2; have HB := Lib.hid (below_via HB.out hB); clear hB))
          go_wp2
          go_roundw
          case rel => exact ⟨k + 1, by omega, by go_num, HB⟩
          case measure => simp [intOf]; omega
    · go_wp2
      go_ret
      exact ⟨rfl, HW.out⟩
end Go.Proofs.YtdphganbnlmgcaaGreatDoor
namespace Go.Proofs.YtdphganbnlmgcaaGreatDoor
open Go.ChangeShapes Go.WideShapes Go.ChangeAt Go.RowKit
set_option linter.unusedVariables false

theorem row_new (w : World) (cur : Array Value) (T : TypeId) : Row (w.alloc (.cells cur T)) w.heap.size T cur := by
  have := heap_alloc_new w (.cells cur T)
  simpa [Row] using this
theorem row_new1 (w : World) (o : Obj) (cur : Array Value) (T : TypeId) : Row ((w.alloc o).alloc (.cells cur T)) (w.heap.size + 1) T cur := by
  have := row_new (w.alloc o) cur T
  simpa using this
theorem Row.al {w : World} {B : Nat} {E : TypeId} {cur : Array Value} (h : Row w B E cur) (o : Obj) : Row (w.alloc o) B E cur := h.keep (below_alloc (Below.refl _ _) _)
theorem Row.put {w : World} {B : Nat} {E : TypeId} {cur : Array Value} (h : Row w B E cur) {X : Nat} (hne : B ≠ X) (j : Nat) (v : Value) : Row (w.setCell ⟨X, j, none⟩ v) B E cur := (Below.heap_setCell w ⟨X, j, none⟩ v B hne).trans h
end Go.Proofs.YtdphganbnlmgcaaGreatDoor
