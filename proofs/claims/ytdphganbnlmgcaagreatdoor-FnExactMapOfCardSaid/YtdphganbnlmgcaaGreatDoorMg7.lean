/- Texts put together, as a claim holds at most sixty files. -/
import Derived.Test.YtdphganbnlmgcaaGreatDoorMg6
import Derived.Test.YtdphganbnlmgcaaGreatDoorMg5
import Derived.Lib.Strings
namespace Go.Proofs.YtdphganbnlmgcaaGreatDoor
open Go.ChangeShapes Go.WideShapes Go.ChangeAt Go.RowKit
set_option linter.unusedVariables false
set_option maxRecDepth 100000

/-- The pieces so far. -/
structure SplitSt (L : List UInt8) (n : Nat) (w wr : World) (v : Value) (W : List (List UInt8)) (cur : ByteArray) (more : Bool) : Prop where
  own : wr.ownsRow w.heap.size 9 1 v W.length (W.map encS)
  below : Below w.heap.size w wr
  going : more = true → W ++ splitL 32 cur.data.toList = splitL 32 L ∧ W.length + cur.size ≤ n
  over : more = false → W = splitL 32 L ∧ W.length ≤ n + 1

/-- The end of a function that returns pieces in a row of its own. -/
def MadePieces (W : List (List UInt8)) (n : Nat) (w : World) (e : Ending) (w' : World) : Prop :=
  ∃ v, e = .returned v ∧ w'.ownsRow w.heap.size 9 1 v W.length (W.map encS) ∧ Below w.heap.size w w' ∧ W.length ≤ n + 1

theorem split_go {L : List UInt8} {n : Nat} {w wr w1 : World} {v v' : Value} {W : List (List UInt8)} {cur a r : ByteArray} {b : Bool} (h : SplitSt L n w wr v W cur true)
    (hn : noC 32 a.data.toList) (hb : b = true → cur.data.toList = a.data.toList ++ 32 :: r.data.toList) (hf : b = false → a = cur ∧ r.size = 0)
    (hown : w1.ownsRow w.heap.size 9 1 v' (W.length + 1) (W.map encS ++ [.string a])) (hbl : Below w.heap.size w w1) : SplitSt L n w w1 v' (W ++ [a.data.toList]) r b where
  own := by
    have e : encS a.data.toList = .string a := rfl
    rw [← e] at hown
    simpa using hown
  below := hbl
  going := fun hbt => by
    obtain ⟨g1, g2⟩ := h.going rfl
    have hc := hb hbt
    rw [hc, splitL_at 32 _ _ hn] at g1
    have hs : cur.size = a.size + 1 + r.size := by
      have := congrArg List.length hc
      simp at this
      omega
    exact ⟨by rw [← g1]; simp, by simp; omega⟩
  over := fun hbf => by
    obtain ⟨g1, g2⟩ := h.going rfl
    obtain ⟨rfl, _⟩ := hf hbf
    rw [splitL_no 32 _ hn] at g1
    exact ⟨g1, by simp; omega⟩

set_option maxHeartbeats 2000000 in
theorem split_any (s : ByteArray) (w : World) (hs : s.size ≤ 1048576) :
    Calls Tryz.prog 75 #[.string s] w (MadePieces (splitL 32 s.data.toList) s.size w) := by
  obtain ⟨i0, hi, hz0, hz1, hz2⟩ := info_parts infoStr
  obtain ⟨L, hL⟩ : ∃ L, s.data.toList = L := ⟨_, rfl⟩
  obtain ⟨n, hn⟩ : ∃ n, s.size = n := ⟨_, rfl⟩
  have HL := Lib.hid hL
  have HN := Lib.hid hn
  rw [hL, hn]
  rw [hn] at hs
  clear hL hn
  go_enter Tryz.func75, Tryz.ntmps75
  go_wp2
  go_loopw [0, 3, 4] (fun t v m wr => ∃ (cur : ByteArray) (W : List (List UInt8)) (q : Option Addr) (cp : Nat) (more : Bool), t = .string cur ∧ v = .slice q W.length cp ∧ m = .bool more ∧ cur.size ≤ n ∧ W.length ≤ n + 1 ∧ Hid (SplitSt L n w wr v W cur more)) (fun t _ m _ => if yes m then lenOf t + 1 else 0)
  case atStart =>
    refine ⟨s, [], _, _, true, rfl, rfl, rfl, by rw [HN.out]; exact Nat.le_refl _, by simp, ?_, (Below.refl _ _).alloc (Nat.le_refl _) _, fun _ => ⟨by rw [HL.out]; rfl, by rw [HN.out]; simp⟩, (fun h => by cases h)⟩
    exact World.ownsRow_lit w #[] 0 (Nat.le_refl _) (Nat.zero_le _) rfl
  case round =>
    obtain ⟨cur, W, q, cp, more, rfl, rfl, rfl, hcur, hW, HS⟩ := hrel
    obtain ⟨wl, hwl⟩ : ∃ wl, W.length = wl := ⟨_, rfl⟩
    rw [hwl] at hW HS ⊢
    have HWL := Lib.hid hwl
    clear hwl
    cases more with
    | false =>
      obtain ⟨g1, g2⟩ := HS.out.over rfl
      have HG1 := Lib.hid g1
      have HG2 := Lib.hid g2
      clear g1 g2
      go_wp2
      go_ret
      exact ⟨_, rfl, by rw [← HG1.out]; have := HS.out.own; exact this, HS.out.below, by rw [← HG1.out]; exact HG2.out⟩
    | true =>
      have hcm : cur.size ≤ maxLen := by unfold maxLen; omega
      have hW2 : wl ≤ n := by have := (HS.out.going rfl).2; rw [HWL.out] at this; omega
      have hown : wr.ownsRow w.heap.size 9 1 (.slice q wl cp) wl (W.map encS) := by
        have := HS.out.own
        rw [HWL.out] at this
        exact this
      have HO := Lib.hid hown
      clear hown
      go_wp2_with fail
      refine (cut_any cur 32 _ hcm).mono ?_
      rintro e w1 ⟨a, r, b, rfl, hB, hr, hno, hyes, hnot⟩
      have HNO := Lib.hid hno
      have HYES := Lib.hid hyes
      have HNOT := Lib.hid hnot
      have HB := Lib.hid (below_via HS.out.below hB)
      have HO := Lib.hid (own_below HO.out hB)
      have HR := Lib.hid hr
      clear hB hr hno hyes hnot
      go_wp2_with (at_builtin; (refine wpList_append_own _ rfl _ _ 23 rfl w.heap.size 9 i0 _ 1 16 Tryz.underlying23 hi hz0 hz1 hz2 rfl (by decide) _ _ _ rfl (HO.out.alloc _) ⟨w1.heap.size, 0, none⟩ 1 1 [.string a] rfl rfl (one_new _ _ _) (fun u hu => by simp at hu; subst hu; rfl) (by unfold maxLen; omega) (by omega) (Nat.le_trans HB.out.size (by simp)) ?_); intro v' w2 hown1 hgrow hnil; have HO1 := Lib.hid hown1; have HG := Lib.hid hgrow; clear hown1 hgrow hnil)
      obtain ⟨q1, cp1, rfl⟩ := own_form HO1.out
      go_roundw
      case rel =>
        have hb : Below w.heap.size w w2 := (HB.out.alloc HB.out.size _).grown HG.out (Nat.le_trans HB.out.size (by simp)) (fun k hk => (HO.out.lt k hk).1)
        have ho := HO1.out
        rw [← HWL.out] at ho
        have hnew := split_go HS.out HNO.out HYES.out HNOT.out ho hb
        rw [HWL.out] at hnew
        exact ⟨r, W ++ [a.data.toList], q1, cp1, b, rfl, by rw [← HWL.out]; simp, rfl, by have := HR.out; omega, by simp; have := HWL.out; omega, hnew⟩
      case measure =>
        have h1 := HR.out
        cases b with
        | false => simp [yes, lenOf]
        | true =>
          have hc := HYES.out rfl
          have := congrArg List.length hc
          simp at this
          simp [yes, lenOf]
          omega
end Go.Proofs.YtdphganbnlmgcaaGreatDoor
namespace Go.Proofs.YtdphganbnlmgcaaGreatDoor
open Go.ChangeShapes Go.WideShapes Go.ChangeAt Go.RowKit
set_option linter.unusedVariables false
set_option maxRecDepth 100000

def HeldNum (q : Nat) (w : World) (e : Ending) (w' : World) : Prop := e = .returned (.int .i64 (q : Int)) ∧ Below w.heap.size w w'

end Go.Proofs.YtdphganbnlmgcaaGreatDoor
namespace Go.Proofs.YtdphganbnlmgcaaGreatDoor
open Go.ChangeShapes Go.WideShapes Go.ChangeAt Go.RowKit
set_option linter.unusedVariables false
set_option maxRecDepth 100000

/-- The words so far, in a row that the call made itself. -/
structure WordsSt (L : List UInt8) (w wr : World) (v : Value) (W : List (List UInt8)) (st j : Nat) : Prop where
  own : wr.ownsRow w.heap.size 9 1 v W.length (W.map encS)
  below : Below w.heap.size w wr
  rest : W ++ wordsL (L.drop st) = wordsL L
  no : j ≤ L.length → noC 32 (piece L st j)
  past : L.length < j → st = j

/-- The end of WordsOf: the first 20 words in a row of its own. -/
def MadeWords (W : List (List UInt8)) (w : World) (e : Ending) (w' : World) : Prop :=
  ∃ v, e = .returned v ∧ w'.ownsRow w.heap.size 9 1 v W.length (W.map encS) ∧ Below w.heap.size w w'

theorem wordsSt_skip {L : List UInt8} {w wr : World} {v : Value} {W : List (List UInt8)} {st j : Nat} (h : WordsSt L w wr v W st j) (hs : st ≤ j) (hj : j < L.length) (hc : L[j] ≠ 32) : WordsSt L w wr v W st (j + 1) where
  own := h.own
  below := h.below
  rest := h.rest
  no := fun _ => by rw [piece_snoc L st j hs hj]; exact noC_snoc (h.no (by omega)) hc
  past := fun h => by omega

theorem wordsSt_none {L : List UInt8} {w wr : World} {v : Value} {W : List (List UInt8)} {j : Nat} (h : WordsSt L w wr v W j j) (hj : j ≤ L.length) (hc : ∀ hlt : j < L.length, L[j] = 32) : WordsSt L w wr v W (j + 1) (j + 1) where
  own := h.own
  below := h.below
  rest := by
    rw [← h.rest]
    rcases Nat.lt_or_ge j L.length with hlt | hge
    · rw [words_step L j j (Nat.le_refl _) hlt (by rw [piece_empty]; exact noC_nil) (hc hlt), if_pos rfl, List.nil_append]
    · have e1 : L.drop j = [] := List.drop_eq_nil_of_le hge
      have e2 : L.drop (j + 1) = [] := List.drop_eq_nil_of_le (by omega)
      rw [e1, e2]
  no := fun _ => by rw [piece_empty]; exact noC_nil
  past := fun _ => rfl

theorem wordsSt_word {L : List UInt8} {w wr w1 : World} {v v' : Value} {W : List (List UInt8)} {st j : Nat} (h : WordsSt L w wr v W st j) (hs : st < j) (hj : j ≤ L.length) (hc : ∀ hlt : j < L.length, L[j] = 32)
    (hown : w1.ownsRow w.heap.size 9 1 v' (W.length + 1) (W.map encS ++ [encS (piece L st j)])) (hb : Below w.heap.size w w1) : WordsSt L w w1 v' (W ++ [piece L st j]) (j + 1) (j + 1) where
  own := by simpa using hown
  below := hb
  rest := by
    rw [← h.rest, List.append_assoc]
    congr 1
    rcases Nat.lt_or_ge j L.length with hlt | hge
    · rw [words_step L st j (by omega) hlt (h.no hj) (hc hlt), if_neg (by omega)]
    · obtain rfl : j = L.length := by omega
      have e2 : L.drop (L.length + 1) = [] := List.drop_eq_nil_of_le (by omega)
      rw [words_end L st (by omega) (h.no hj), if_neg (by omega), e2, wordsL_nil]; rfl
  no := fun _ => by rw [piece_empty]; exact noC_nil
  past := fun _ => rfl

theorem wordsSt_done {L : List UInt8} {w wr : World} {v : Value} {W : List (List UInt8)} {st j : Nat} (h : WordsSt L w wr v W st j) (h20 : W.length ≤ 20) (hend : L.length < j ∨ W.length = 20) : W = (wordsL L).take 20 := by
  rw [← h.rest]
  rcases hend with hj | hl
  · have e : L.drop st = [] := List.drop_eq_nil_of_le (by rw [h.past hj]; omega)
    rw [e, wordsL_nil, List.append_nil, List.take_of_length_le h20]
  · rw [List.take_append_of_le_length (by omega), List.take_of_length_le (by omega)]

set_option maxHeartbeats 2000000 in
theorem words_any (s : ByteArray) (w : World) (hs : s.size ≤ 1048576) :
    Calls Tryz.prog 84 #[.string s] w (MadeWords ((wordsL s.data.toList).take 20) w) := by
  obtain ⟨i0, hi, hz0, hz1, hz2⟩ := info_parts infoStr
  obtain ⟨L, hL⟩ : ∃ L, s.data.toList = L := ⟨_, rfl⟩
  have hlen : L.length = s.size := by rw [← hL]; simp
  have HL := Lib.hid hL
  have HLEN := Lib.hid hlen
  rw [hL]
  clear hL hlen
  go_enter Tryz.func84, Tryz.ntmps84
  go_wp2
  go_loopw [3, 4, 5] (fun v t i wr => ∃ (j st : Nat) (W : List (List UInt8)) (q : Option Addr) (cp : Nat), v = .slice q W.length cp ∧ t = .int .i64 st ∧ i = .int .i64 j ∧ st ≤ j ∧ j ≤ s.size + 1 ∧ W.length ≤ 20 ∧ Hid (WordsSt L w wr v W st j)) (fun _ _ i _ => s.size + 1 - (intOf i).toNat)
  case atStart => exact ⟨0, 0, [], none, 0, rfl, rfl, rfl, Nat.le_refl _, Nat.zero_le _, by simp, ⟨World.ownsRow_nil _ _ _ _, Below.refl _ _, rfl, fun _ => by rw [piece_empty]; exact noC_nil, fun h => by omega⟩⟩
  case round =>
    obtain ⟨j, st, W, q, cp, rfl, rfl, rfl, hsj, hj, hW, HS⟩ := hrel
    obtain ⟨wl, hwl⟩ : ∃ wl, W.length = wl := ⟨_, rfl⟩
    rw [hwl] at hW HS ⊢
    have HWL := Lib.hid hwl
    clear hwl
    by_cases hjn : j ≤ s.size
    · by_cases h20 : wl < 20
      · by_cases hlt : j < s.size
        · by_cases hc : s[j] = 32
          · have hb0 : (((s[j]).toNat : Int) == 32) = true := by rw [hc]; rfl
            have hb1 : (((s[j]).toNat : Int) != 32) = false := by rw [bne, hb0]; rfl
            have HC := Lib.hid (show ∀ h : j < L.length, L[j] = 32 from fun h => (byte_at HL.out j hlt h).trans hc)
            clear hc
            by_cases hst : st < j
            · have hown : wr.ownsRow w.heap.size 9 1 (.slice q wl cp) wl (W.map encS) := by
                have := HS.out.own
                rw [HWL.out] at this
                exact this
              have hst2 : (st : Int) < (j : Int) := by omega
              have HO := Lib.hid hown
              clear hown
              go_wp2_with (at_builtin; (refine wpList_append_own _ rfl _ _ 23 rfl w.heap.size 9 i0 _ 1 16 Tryz.underlying23 hi hz0 hz1 hz2 rfl (by decide) _ _ _ rfl (HO.out.alloc _) ⟨wr.heap.size, 0, none⟩ 1 1 [.string (s.extract st j)] rfl rfl (one_new _ _ _) (fun u hu => by simp at hu; subst hu; rfl) (by unfold maxLen; omega) (by omega) (Nat.le_trans HS.out.below.size (by simp)) ?_); intro v' w1 hown1 hgrow hnil; have HO1 := Lib.hid hown1; have HG := Lib.hid hgrow; clear hown1 hgrow hnil)
              obtain ⟨q1, cp1, rfl⟩ := own_form HO1.out
              go_roundw
              case rel =>
                have hb : Below w.heap.size w w1 := (HS.out.below.alloc HS.out.below.size _).grown HG.out (Nat.le_trans HS.out.below.size (by simp)) (fun k hk => (HO.out.lt k hk).1)
                have ho := HO1.out
                rw [← HWL.out, extract_piece, HL.out] at ho
                have hnew := wordsSt_word HS.out hst (by rw [HLEN.out]; exact hjn) HC.out ho hb
                rw [HWL.out] at hnew
                exact ⟨j + 1, j + 1, W ++ [piece L st j], q1, cp1, by rw [← HWL.out]; simp, by go_num, by go_num, by omega, by omega, by simp; have := HWL.out; omega, hnew⟩
              case measure => simp [intOf]; omega
            · obtain rfl : st = j := by omega
              go_wp2
              go_roundw
              case rel => exact ⟨st + 1, st + 1, W, q, cp, by rw [HWL.out], by go_num, by go_num, by omega, by omega, by rw [HWL.out]; omega, wordsSt_none HS.out (by rw [HLEN.out]; exact hjn) HC.out⟩
              case measure => simp [intOf]; omega
          · have hb0 : (((s[j]).toNat : Int) == 32) = false := by
              simp only [beq_eq_false_iff_ne]
              intro h
              exact hc (UInt8.toNat_inj.1 (by have : (s[j]).toNat = 32 := by omega
                                              rw [this]; rfl))
            have hb1 : (((s[j]).toNat : Int) != 32) = true := by rw [bne, hb0]; rfl
            have HC := Lib.hid hc
            clear hc
            go_wp2
            go_roundw
            case rel =>
              have hjl : j < L.length := by rw [HLEN.out]; exact hlt
              exact ⟨j + 1, st, W, q, cp, by rw [HWL.out], rfl, by go_num, by omega, by omega, by rw [HWL.out]; omega, wordsSt_skip HS.out hsj hjl (by rw [byte_at HL.out j hlt hjl]; exact HC.out)⟩
            case measure => simp [intOf]; omega
        · have hje : ¬ (j : Int) < (s.size : Int) := by omega
          have HC := Lib.hid (show ∀ h : j < L.length, L[j] = 32 from fun h => by rw [HLEN.out] at h; omega)
          by_cases hst : st < j
          · have hown : wr.ownsRow w.heap.size 9 1 (.slice q wl cp) wl (W.map encS) := by
              have := HS.out.own
              rw [HWL.out] at this
              exact this
            have hst2 : (st : Int) < (j : Int) := by omega
            have HO := Lib.hid hown
            clear hown
            go_wp2_with (at_builtin; (refine wpList_append_own _ rfl _ _ 23 rfl w.heap.size 9 i0 _ 1 16 Tryz.underlying23 hi hz0 hz1 hz2 rfl (by decide) _ _ _ rfl (HO.out.alloc _) ⟨wr.heap.size, 0, none⟩ 1 1 [.string (s.extract st j)] rfl rfl (one_new _ _ _) (fun u hu => by simp at hu; subst hu; rfl) (by unfold maxLen; omega) (by omega) (Nat.le_trans HS.out.below.size (by simp)) ?_); intro v' w1 hown1 hgrow hnil; have HO1 := Lib.hid hown1; have HG := Lib.hid hgrow; clear hown1 hgrow hnil)
            obtain ⟨q1, cp1, rfl⟩ := own_form HO1.out
            go_roundw
            case rel =>
              have hb : Below w.heap.size w w1 := (HS.out.below.alloc HS.out.below.size _).grown HG.out (Nat.le_trans HS.out.below.size (by simp)) (fun k hk => (HO.out.lt k hk).1)
              have ho := HO1.out
              rw [← HWL.out, extract_piece, HL.out] at ho
              have hnew := wordsSt_word HS.out hst (by rw [HLEN.out]; exact hjn) HC.out ho hb
              rw [HWL.out] at hnew
              exact ⟨j + 1, j + 1, W ++ [piece L st j], q1, cp1, by rw [← HWL.out]; simp, by go_num, by go_num, by omega, by omega, by simp; have := HWL.out; omega, hnew⟩
            case measure => simp [intOf]; omega
          · obtain rfl : st = j := by omega
            go_wp2
            go_roundw
            case rel => exact ⟨st + 1, st + 1, W, q, cp, by rw [HWL.out], by go_num, by go_num, by omega, by omega, by rw [HWL.out]; omega, wordsSt_none HS.out (by rw [HLEN.out]; exact hjn) HC.out⟩
            case measure => simp [intOf]; omega
      · have h20' : ¬ (wl : Int) < 20 := by omega
        have HD := Lib.hid (wordsSt_done HS.out (by rw [HWL.out]; exact hW) (.inr (by rw [HWL.out]; omega)))
        go_wp2
        go_ret
        exact ⟨_, rfl, by rw [← HD.out]; have := HS.out.own; exact this, HS.out.below⟩
    · have HD := Lib.hid (wordsSt_done HS.out (by rw [HWL.out]; exact hW) (.inl (by rw [HLEN.out]; omega)))
      go_wp2
      go_ret
      exact ⟨_, rfl, by rw [← HD.out]; have := HS.out.own; exact this, HS.out.below⟩
end Go.Proofs.YtdphganbnlmgcaaGreatDoor
