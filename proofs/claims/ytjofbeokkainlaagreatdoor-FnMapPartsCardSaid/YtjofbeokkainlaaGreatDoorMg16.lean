/- Texts put together, as a claim holds at most sixty files. -/
import Derived.Test.YtjofbeokkainlaaGreatDoorMg9
import Derived.Test.YtjofbeokkainlaaGreatDoorMg7
import Derived.Test.YtjofbeokkainlaaGreatDoorMg2
import Derived.Test.YtjofbeokkainlaaGreatDoorMg11
import Derived.Test.YtjofbeokkainlaaGreatDoorMg10
import Derived.Test.YtjofbeokkainlaaGreatDoorMg12
import Derived.Test.YtjofbeokkainlaaGreatDoorMg1
namespace Go.Proofs.YtjofbeokkainlaaGreatDoor
open Go.ChangeShapes Go.WideShapes Go.ChangeAt Go.RowKit
set_option linter.unusedVariables false
set_option maxRecDepth 100000

/-- The lines so far. -/
structure LinesSt (L : List UInt8) (w wr : World) (v : Value) (W : List (List UInt8)) (cur : ByteArray) : Prop where
  own : wr.ownsRow w.heap.size 9 1 v W.length (W.map encS)
  below : Below w.heap.size w wr
  rest : W ++ splitL 10 cur.data.toList = splitL 10 L
  few : W.length ≤ 10
  short : ∀ x ∈ W, x.length ≤ 200

/-- The end of a function that returns texts in a row of its own, and a bool. -/
def MadeWsB (W : List (List UInt8)) (b : Bool) (w : World) (e : Ending) (w' : World) : Prop :=
  ∃ q cp, e = .returned (.tuple #[.slice q W.length cp, .bool b]) ∧ Ws w.heap.size w' q W ∧ Below w.heap.size w w'

theorem madews_none {L : List UInt8} {w w' : World} (h : linesB L = none) (hB : Below w.heap.size w w') : MadeWsB (linesW L) (linesK L) w (.returned (.tuple #[.slice none 0 0, .bool false])) w' := by
  obtain ⟨h1, h2⟩ := lines_none h
  rw [h1, h2]
  exact ⟨none, 0, rfl, .inl rfl, hB⟩

theorem lines_end {L : List UInt8} {w wr : World} {q : Option Addr} {n cp : Nat} {W : List (List UInt8)} {cur : ByteArray} (h : LinesSt L w wr (.slice q n cp) W cur) (hn : W.length = n) (h0 : cur.size = 0) :
    MadeWsB (linesW L) (linesK L) w (.returned (.tuple #[.slice q n cp, .bool true])) wr := by
  subst hn
  have hc : cur.data.toList = [] := by
    apply List.eq_nil_of_length_eq_zero
    simpa using h0
  have hr := h.rest
  rw [hc] at hr
  have hs : linesB L = some W := by
    unfold linesB
    rw [← hr]
    exact linesP_done W h.few h.short
  obtain ⟨h1, h2⟩ := lines_some hs
  rw [h1, h2]
  exact ⟨q, cp, rfl, ws_of_own h.own (List.take_length).symm, h.below⟩

theorem lines_stop {L : List UInt8} {w wr : World} {v : Value} {W : List (List UInt8)} {cur a r : ByteArray} {b : Bool} (h : LinesSt L w wr v W cur) (h0 : cur.size ≠ 0)
    (hn : noC 10 a.data.toList) (hb : b = true → cur.data.toList = a.data.toList ++ 10 :: r.data.toList) (hf : b = false → a = cur ∧ r.size = 0)
    (hbad : b = false ∨ ¬ a.size ≤ 200 ∨ W.length = 10) : linesB L = none := by
  have hr := h.rest
  unfold linesB
  cases b with
  | false =>
    obtain ⟨rfl, _⟩ := hf rfl
    rw [splitL_no 10 _ hn] at hr
    rw [← hr]
    refine linesP_open W _ fun e => h0 ?_
    have := congrArg List.length e
    simpa using this
  | true =>
    rw [hb rfl, splitL_at 10 _ _ hn] at hr
    rw [← hr]
    rcases hbad with h1 | h1 | h1
    · cases h1
    · exact linesP_long W _ _ (splitL_ne 10 _) (by simpa using h1)
    · exact linesP_many W _ _ (splitL_ne 10 _) h1

theorem lines_add {L : List UInt8} {w wr w1 : World} {v v' : Value} {W : List (List UInt8)} {cur a r : ByteArray} (h : LinesSt L w wr v W cur)
    (hn : noC 10 a.data.toList) (hb : cur.data.toList = a.data.toList ++ 10 :: r.data.toList) (h1 : a.size ≤ 200) (h2 : W.length < 10)
    (hown : w1.ownsRow w.heap.size 9 1 v' (W.length + 1) (W.map encS ++ [.string a])) (hbl : Below w.heap.size w w1) : LinesSt L w w1 v' (W ++ [a.data.toList]) r where
  own := by
    have e : encS a.data.toList = .string a := rfl
    rw [← e] at hown
    simpa using hown
  below := hbl
  rest := by
    have hr := h.rest
    rw [hb, splitL_at 10 _ _ hn] at hr
    rw [← hr]; simp
  few := by simp; omega
  short := fun x hx => by
    rcases List.mem_append.1 hx with hx | hx
    · exact h.short x hx
    · simp at hx; subst hx; simpa using h1

set_option maxHeartbeats 2000000 in
theorem linesof_any (s : ByteArray) (w : World) (hs : s.size ≤ 1048576) :
    Calls Tryz.prog 10 #[.string s] w (MadeWsB (linesW s.data.toList) (linesK s.data.toList) w) := by
  obtain ⟨i0, hi, hz0, hz1, hz2⟩ := info_parts infoStr
  obtain ⟨L, hL⟩ : ∃ L, s.data.toList = L := ⟨_, rfl⟩
  obtain ⟨n, hn⟩ : ∃ n, s.size = n := ⟨_, rfl⟩
  have HL := Lib.hid hL
  have HN := Lib.hid hn
  rw [hL]
  rw [hn] at hs
  clear hL hn
  go_enter Tryz.func10, Tryz.ntmps10
  go_wp2
  go_loopw [0, 4] (fun t v wr => ∃ (cur : ByteArray) (W : List (List UInt8)) (q : Option Addr) (cp : Nat), t = .string cur ∧ v = .slice q W.length cp ∧ cur.size ≤ n ∧ Hid (LinesSt L w wr v W cur)) (fun t _ _ => lenOf t)
  case atStart =>
    refine ⟨s, [], _, _, rfl, rfl, by rw [HN.out]; exact Nat.le_refl _, World.ownsRow_nil _ _ _ _, Below.refl _ _, by rw [HL.out]; rfl, Nat.zero_le _, by simp⟩
  case round =>
    obtain ⟨cur, W, q, cp, rfl, rfl, hcur, HS⟩ := hrel
    obtain ⟨wl, hwl⟩ : ∃ wl, W.length = wl := ⟨_, rfl⟩
    have hfew : wl ≤ 10 := by rw [← hwl]; exact HS.out.few
    rw [hwl] at HS ⊢
    have HWL := Lib.hid hwl
    clear hwl
    by_cases h0 : cur.size = 0
    · have HE := Lib.hid (lines_end HS.out HWL.out h0)
      have he : cur.toList = [] := by
        rw [ByteArray.toList_eq]
        apply List.eq_nil_of_length_eq_zero
        simpa using h0
      have he2 : cur.toList.isEmpty = true := by rw [he]; rfl
      go_wp2
      go_ret2
      exact HE.out
    · have hcm : cur.size ≤ maxLen := by unfold maxLen; omega
      have he2 : cur.toList.isEmpty = false := by
        rw [ByteArray.toList_eq, ← Bool.not_eq_true, List.isEmpty_iff]
        intro e
        have := congrArg List.length e
        simp at this
        exact h0 (by rw [this]; rfl)
      have he3 : (!cur.toList.isEmpty) = true := by rw [he2]; rfl
      have H0 := Lib.hid h0
      clear h0
      go_wp2_with fail
      refine (stdcut_any cur 10 _ hcm).mono ?_
      rintro e w1 ⟨a, r, b, rfl, hB, hr, hno, hyes, hnot⟩
      have HB := Lib.hid (below_via HS.out.below hB)
      have HNO := Lib.hid hno
      have HYES := Lib.hid hyes
      have HNOT := Lib.hid hnot
      have HO := Lib.hid (own_below (by have := HS.out.own; rw [HWL.out] at this; exact this) hB)
      have HR := Lib.hid hr
      clear hB hr hno hyes hnot
      cases b with
      | false =>
        have HQ := Lib.hid (madews_none (lines_stop HS.out H0.out HNO.out HYES.out HNOT.out (.inl rfl)) HB.out)
        go_wp2
        go_ret2
        exact HQ.out
      | true =>
        by_cases h1 : a.size ≤ 200
        · have g1 : ¬ (200 : Int) < (a.size : Int) := by omega
          by_cases h2 : wl = 10
          · have g2 : (((wl : Nat) : Int) == 10) = true := by simp; omega
            have HQ := Lib.hid (madews_none (lines_stop HS.out H0.out HNO.out HYES.out HNOT.out (.inr (.inr (by rw [HWL.out]; exact h2)))) HB.out)
            clear h2
            go_wp2
            go_ret2
            exact HQ.out
          · have g2 : (((wl : Nat) : Int) == 10) = false := by simp; omega
            go_wp2_with (at_builtin; (refine wpList_append_own _ rfl _ _ 25 rfl w.heap.size 9 i0 _ 1 16 Tryz.underlying25 hi hz0 hz1 hz2 rfl (by decide) _ _ _ rfl (HO.out.alloc _) ⟨w1.heap.size, 0, none⟩ 1 1 [.string a] rfl rfl (one_new _ _ _) (fun u hu => by simp at hu; subst hu; rfl) (by unfold maxLen; omega) (by omega) (Nat.le_trans HB.out.size (by simp)) ?_); intro v' w2 hown1 hgrow hnil; have HO1 := Lib.hid hown1; have HG := Lib.hid hgrow; clear hown1 hgrow hnil)
            obtain ⟨q1, cp1, rfl⟩ := own_form HO1.out
            go_roundw
            case rel =>
              have hb : Below w.heap.size w w2 := (HB.out.alloc HB.out.size _).grown HG.out (Nat.le_trans HB.out.size (by simp)) (fun k hk => (HO.out.lt k hk).1)
              have ho := HO1.out
              rw [← HWL.out] at ho
              have hnew := lines_add HS.out HNO.out (HYES.out trivial) h1 (by rw [HWL.out]; omega) ho hb
              rw [HWL.out] at hnew
              exact ⟨r, W ++ [a.data.toList], q1, cp1, rfl, by rw [← HWL.out]; simp, by have := HR.out; omega, hnew⟩
            case measure =>
              have hc := HYES.out trivial
              have := congrArg List.length hc
              simp at this
              simp [lenOf]
              omega
        · have g1 : (200 : Int) < (a.size : Int) := by omega
          have HQ := Lib.hid (madews_none (lines_stop HS.out H0.out HNO.out HYES.out HNOT.out (.inr (.inl h1))) HB.out)
          clear h1
          go_wp2
          go_ret2
          exact HQ.out
end Go.Proofs.YtjofbeokkainlaaGreatDoor
namespace Go.Proofs.YtjofbeokkainlaaGreatDoor
open Go.ChangeShapes Go.WideShapes Go.ChangeAt Go.RowKit
set_option linter.unusedVariables false
set_option maxRecDepth 100000

/-- The lines so far, in the model. -/
structure LinesSt2 (L : List UInt8) (n : Nat) (w wr : World) (v : Value) (W : List (List UInt8)) (cur : ByteArray) : Prop where
  own : wr.ownsRow w.heap.size 9 1 v W.length (W.map encS)
  below : Below w.heap.size w wr
  rest : W ++ splitL 10 cur.data.toList = splitL 10 L
  few : W.length + cur.size ≤ n

/-- The end of l1Lines. -/
def MadeLines2 (L : List UInt8) (n : Nat) (w : World) (e : Ending) (w' : World) : Prop :=
  ∃ (v : Value) (W : List (List UInt8)) (b : Bool), e = .returned (.tuple #[v, .bool b]) ∧ w'.ownsRow w.heap.size 9 1 v W.length (W.map encS) ∧ Below w.heap.size w w' ∧ W.length ≤ n + 1 ∧
    (b = true → splitL 10 L = W ++ [[]]) ∧ (b = false → linesB L = none)

theorem lines2_end {L : List UInt8} {n : Nat} {w wr : World} {v : Value} {W : List (List UInt8)} {cur : ByteArray} (h : LinesSt2 L n w wr v W cur) (h0 : cur.size = 0) :
    MadeLines2 L n w (.returned (.tuple #[v, .bool true])) wr := by
  have hc : cur.data.toList = [] := by
    apply List.eq_nil_of_length_eq_zero
    simpa using h0
  have hr := h.rest
  rw [hc] at hr
  exact ⟨v, W, true, rfl, h.own, h.below, by have := h.few; omega, fun _ => hr.symm, (fun h => by cases h)⟩

theorem lines2_open {L : List UInt8} {n : Nat} {w wr w1 : World} {v v' : Value} {W : List (List UInt8)} {cur a r : ByteArray} (h : LinesSt2 L n w wr v W cur) (h0 : cur.size ≠ 0)
    (hn : noC 10 a.data.toList) (hf : a = cur ∧ r.size = 0)
    (hown : w1.ownsRow w.heap.size 9 1 v' (W.length + 1) (W.map encS ++ [.string a])) (hbl : Below w.heap.size w w1) : MadeLines2 L n w (.returned (.tuple #[v', .bool false])) w1 := by
  refine ⟨v', W ++ [a.data.toList], false, rfl, ?_, hbl, by simp; have := h.few; omega, (fun h => by cases h), fun _ => ?_⟩
  · have e : encS a.data.toList = .string a := rfl
    rw [← e] at hown
    simpa using hown
  · have hr := h.rest
    unfold linesB
    obtain ⟨rfl, _⟩ := hf
    rw [splitL_no 10 _ hn] at hr
    rw [← hr]
    refine linesP_open W _ fun e => h0 ?_
    have := congrArg List.length e
    simpa using this

theorem lines2_add {L : List UInt8} {n : Nat} {w wr w1 : World} {v v' : Value} {W : List (List UInt8)} {cur a r : ByteArray} (h : LinesSt2 L n w wr v W cur)
    (hn : noC 10 a.data.toList) (hb : cur.data.toList = a.data.toList ++ 10 :: r.data.toList)
    (hown : w1.ownsRow w.heap.size 9 1 v' (W.length + 1) (W.map encS ++ [.string a])) (hbl : Below w.heap.size w w1) : LinesSt2 L n w w1 v' (W ++ [a.data.toList]) r where
  own := by
    have e : encS a.data.toList = .string a := rfl
    rw [← e] at hown
    simpa using hown
  below := hbl
  rest := by
    have hr := h.rest
    rw [hb, splitL_at 10 _ _ hn] at hr
    rw [← hr]; simp
  few := by
    have := h.few
    have hs := congrArg List.length hb
    simp at hs
    simp; omega

set_option maxHeartbeats 2000000 in
theorem l1lines_any (s : ByteArray) (w : World) (hs : s.size ≤ 1048576) :
    Calls Tryz.prog 53 #[.string s] w (MadeLines2 s.data.toList s.size w) := by
  obtain ⟨i0, hi, hz0, hz1, hz2⟩ := info_parts infoStr
  obtain ⟨L, hL⟩ : ∃ L, s.data.toList = L := ⟨_, rfl⟩
  obtain ⟨n, hn⟩ : ∃ n, s.size = n := ⟨_, rfl⟩
  have HL := Lib.hid hL
  have HN := Lib.hid hn
  rw [hL, hn]
  rw [hn] at hs
  clear hL hn
  go_enter Tryz.func53, Tryz.ntmps53
  go_wp2
  go_loopw [0, 4] (fun t v wr => ∃ (cur : ByteArray) (W : List (List UInt8)) (q : Option Addr) (cp : Nat), t = .string cur ∧ v = .slice q W.length cp ∧ W.length + cur.size ≤ n ∧ Hid (LinesSt2 L n w wr v W cur)) (fun t _ _ => lenOf t)
  case atStart =>
    refine ⟨s, [], _, _, rfl, rfl, by rw [HN.out]; simp, ?_, (Below.refl _ _).alloc (Nat.le_refl _) _, by rw [HL.out]; rfl, by rw [HN.out]; simp⟩
    exact World.ownsRow_lit w #[] 0 (Nat.le_refl _) (Nat.zero_le _) rfl
  case round =>
    obtain ⟨cur, W, q, cp, rfl, rfl, hcur, HS⟩ := hrel
    obtain ⟨wl, hwl⟩ : ∃ wl, W.length = wl := ⟨_, rfl⟩
    rw [hwl] at HS hcur ⊢
    have HWL := Lib.hid hwl
    clear hwl
    by_cases h0 : cur.size = 0
    · have HE := Lib.hid (lines2_end HS.out h0)
      have he : cur.toList = [] := by
        rw [ByteArray.toList_eq]
        apply List.eq_nil_of_length_eq_zero
        simpa using h0
      have he2 : cur.toList.isEmpty = true := by rw [he]; rfl
      go_wp2
      go_ret2
      exact HE.out
    · have hcm : cur.size ≤ maxLen := by unfold maxLen; omega
      have he2 : cur.toList.isEmpty = false := by
        rw [ByteArray.toList_eq, ← Bool.not_eq_true, List.isEmpty_iff]
        intro e
        have := congrArg List.length e
        simp at this
        exact h0 (by rw [this]; rfl)
      have he3 : (!cur.toList.isEmpty) = true := by rw [he2]; rfl
      have H0 := Lib.hid h0
      clear h0
      go_wp2_with fail
      refine (cut_any cur 10 _ hcm).mono ?_
      rintro e w1 ⟨a, r, b, rfl, hB, hr, hno, hyes, hnot⟩
      have HB := Lib.hid (below_via HS.out.below hB)
      have HNO := Lib.hid hno
      have HYES := Lib.hid hyes
      have HNOT := Lib.hid hnot
      have HO := Lib.hid (own_below (by have := HS.out.own; rw [HWL.out] at this; exact this) hB)
      have HR := Lib.hid hr
      clear hB hr hno hyes hnot
      cases b with
      | false =>
        go_wp2_with (at_builtin; (refine wpList_append_own _ rfl _ _ 25 rfl w.heap.size 9 i0 _ 1 16 Tryz.underlying25 hi hz0 hz1 hz2 rfl (by decide) _ _ _ rfl (HO.out.alloc _) ⟨w1.heap.size, 0, none⟩ 1 1 [.string a] rfl rfl (one_new _ _ _) (fun u hu => by simp at hu; subst hu; rfl) (by unfold maxLen; omega) (by omega) (Nat.le_trans HB.out.size (by simp)) ?_); intro v' w2 hown1 hgrow hnil; have HO1 := Lib.hid hown1; have HG := Lib.hid hgrow; clear hown1 hgrow hnil)
        have hb : Below w.heap.size w w2 := (HB.out.alloc HB.out.size _).grown HG.out (Nat.le_trans HB.out.size (by simp)) (fun k hk => (HO.out.lt k hk).1)
        have ho := HO1.out
        rw [← HWL.out] at ho
        have HQ := Lib.hid (lines2_open HS.out H0.out HNO.out (HNOT.out trivial) ho hb)
        clear hb ho
        go_wp2
        go_ret2
        exact HQ.out
      | true =>
        go_wp2_with (at_builtin; (refine wpList_append_own _ rfl _ _ 25 rfl w.heap.size 9 i0 _ 1 16 Tryz.underlying25 hi hz0 hz1 hz2 rfl (by decide) _ _ _ rfl (HO.out.alloc _) ⟨w1.heap.size, 0, none⟩ 1 1 [.string a] rfl rfl (one_new _ _ _) (fun u hu => by simp at hu; subst hu; rfl) (by unfold maxLen; omega) (by omega) (Nat.le_trans HB.out.size (by simp)) ?_); intro v' w2 hown1 hgrow hnil; have HO1 := Lib.hid hown1; have HG := Lib.hid hgrow; clear hown1 hgrow hnil)
        obtain ⟨q1, cp1, rfl⟩ := own_form HO1.out
        go_roundw
        case rel =>
          have hb : Below w.heap.size w w2 := (HB.out.alloc HB.out.size _).grown HG.out (Nat.le_trans HB.out.size (by simp)) (fun k hk => (HO.out.lt k hk).1)
          have ho := HO1.out
          rw [← HWL.out] at ho
          have hnew := lines2_add HS.out HNO.out (HYES.out trivial) ho hb
          have hfew := hnew.few
          rw [HWL.out] at hnew
          exact ⟨r, W ++ [a.data.toList], q1, cp1, rfl, by rw [← HWL.out]; simp, hfew, hnew⟩
        case measure =>
          have hc := HYES.out trivial
          have := congrArg List.length hc
          simp at this
          simp [lenOf]
          omega

def rightB (l : Strs) : Bool := rightL (l.map fun s => s.data.toList)
theorem right_bad {l : Strs} {k : Nat} (hk : k < l.length) (h : ¬ ((strAt l k).size ≤ 200 ∧ noC 10 (strAt l k).data.toList)) : rightB l = false := by
  rw [← Bool.not_eq_true]
  intro hr
  obtain ⟨_, h2⟩ := (rightL_iff _).1 hr
  refine h ?_
  have := h2 (strAt l k).data.toList (by
    refine List.mem_map.2 ⟨strAt l k, ?_, rfl⟩
    unfold strAt
    rw [List.getD_eq_getElem?_getD, List.getElem?_eq_getElem hk]
    exact List.getElem_mem hk)
  exact ⟨by simpa using this.1, this.2⟩
theorem right_good {l : Strs} (h : ∀ k, k < l.length → (strAt l k).size ≤ 200 ∧ noC 10 (strAt l k).data.toList) : rightB l = decide (l.length ≤ 10) := by
  by_cases h10 : l.length ≤ 10
  · rw [decide_eq_true h10]
    refine (rightL_iff _).2 ⟨by simpa using h10, fun x hx => ?_⟩
    obtain ⟨s, hs, rfl⟩ := List.mem_map.1 hx
    obtain ⟨k, hk, rfl⟩ := List.getElem_of_mem hs
    have := h k hk
    unfold strAt at this
    rw [List.getD_eq_getElem?_getD, List.getElem?_eq_getElem hk] at this
    exact ⟨by simpa using this.1, this.2⟩
  · rw [decide_eq_false h10, ← Bool.not_eq_true]
    intro hr
    have := ((rightL_iff _).1 hr).1
    simp at this
    exact h10 this

set_option maxHeartbeats 2000000 in
theorem l1right_any (a : Option Addr) (len cap : Nat) (l : Strs) (w : World) (h : StrsAt w a len l) :
    Calls Tryz.prog 54 #[.slice a len cap] w (MadeBool (rightB l) w) := by
  have hm := h.max
  unfold maxLen at hm
  have HR := Lib.hid h
  have HL := Lib.hid h.length
  clear h
  go_enter Tryz.func54, Tryz.ntmps54
  go_wp2
  go_loop [3] (fun i => ∃ k : Nat, k ≤ len ∧ i = .int .i64 k ∧ Hid (∀ j, j < k → (strAt l j).size ≤ 200 ∧ noC 10 (strAt l j).data.toList)) (fun i => len - (intOf i).toNat)
  case atStart => exact ⟨0, Nat.zero_le _, rfl, fun j hj => by omega⟩
  case round =>
    obtain ⟨k, hk, rfl, HW⟩ := hrel
    by_cases hlt : k < len
    · rcases HR.out.src with hz | ⟨b, off, rfl, hb, hc⟩
      · omega
      · have c0 := hc k hlt
        have HS := Lib.hid (HR.out.sizes k hlt)
        obtain ⟨s, hs⟩ : ∃ s, strAt l k = s := ⟨_, rfl⟩
        rw [hs] at c0 HS
        have HSK := Lib.hid hs
        have hsm : s.size ≤ 9223372036854775807 := HS.out
        clear hc hb hs
        by_cases h200 : s.size ≤ 200
        · have g1 : ¬ (200 : Int) < (s.size : Int) := by omega
          go_wp2
          go_loop [4] (fun i => ∃ m : Nat, m ≤ s.size ∧ i = .int .i64 m ∧ Hid (noC 10 (piece s.data.toList 0 m))) (fun i => s.size - (intOf i).toNat)
          case atStart => exact ⟨0, Nat.zero_le _, rfl, by rw [piece_empty]; exact noC_nil⟩
          case round =>
            obtain ⟨m, hm1, rfl, HN⟩ := hrel
            by_cases hml : m < s.size
            · have hkl : m < s.data.toList.length := by simpa using hml
              by_cases hc10 : s[m] = 10
              · have hb0 : (((s[m]).toNat : Int) == 10) = true := by rw [hc10]; rfl
                have HQ := Lib.hid (right_bad (l := l) (k := k) (by rw [HL.out]; exact hlt) (by rw [HSK.out]; exact fun h => h.2 10 (by rw [← hc10, ← byte_at rfl m hml hkl]; exact List.getElem_mem hkl) rfl))
                clear hc10
                go_wp2
                go_ret
                exact ⟨ret_bool HQ.out.symm, Below.refl _ _⟩
              · have hb0 : (((s[m]).toNat : Int) == 10) = false := by
                  simp only [beq_eq_false_iff_ne]
                  intro h
                  exact hc10 (UInt8.toNat_inj.1 (by show (s[m]).toNat = 10; omega))
                have HC := Lib.hid hc10
                clear hc10
                go_wp2
                go_round
                case rel => exact ⟨m + 1, by omega, by go_num, by rw [piece_snoc _ 0 m (Nat.zero_le _) hkl]; exact noC_snoc HN.out (by rw [byte_at rfl m hml hkl]; exact HC.out)⟩
                case measure => simp [intOf]; omega
            · obtain rfl : m = s.size := by omega
              have HN2 := Lib.hid (show noC 10 s.data.toList by
                have := HN.out
                rw [show s.size = s.data.toList.length by simp, piece_end] at this
                simpa using this)
              go_wp2
              go_round
              case rel => exact ⟨k + 1, by omega, by go_num, fun j hj => by
                rcases Nat.lt_or_ge j k with h | h
                · exact HW.out j h
                · obtain rfl : j = k := by omega
                  rw [HSK.out]; exact ⟨h200, HN2.out⟩⟩
              case measure => simp [intOf]; omega
        · have g1 : (200 : Int) < (s.size : Int) := by omega
          have HQ := Lib.hid (right_bad (l := l) (k := k) (by rw [HL.out]; exact hlt) (by rw [HSK.out]; exact fun h => h200 h.1))
          clear h200
          go_wp2
          go_ret
          exact ⟨ret_bool HQ.out.symm, Below.refl _ _⟩
    · obtain rfl : k = len := by omega
      have HQ := Lib.hid (right_good (l := l) (by rw [HL.out]; exact HW.out))
      have HD := Lib.hid (show decide (l.length ≤ 10) = decide ((k : Int) ≤ 10) by rw [HL.out]; exact decide_eq_decide.2 (by omega))
      go_wp2
      go_ret
      exact ⟨ret_bool (HQ.out.trans HD.out).symm, Below.refl _ _⟩

set_option maxHeartbeats 1000000 in
theorem slinesof_any (s : ByteArray) (w : World) (hs : s.size ≤ 1048576) :
    Calls Tryz.prog 26 #[.string s] w (MadeWsB (linesW s.data.toList) (linesK s.data.toList) w) := by
  obtain ⟨L, hL⟩ : ∃ L, s.data.toList = L := ⟨_, rfl⟩
  have HL := Lib.hid hL
  rw [hL]
  clear hL
  go_enter Tryz.func26, Tryz.ntmps26
  go_wp2_with fail
  refine (l1lines_any s _ hs).mono ?_
  rw [HL.out]
  rintro e w1 ⟨v, W, b, rfl, hown, hB, hlen, hyes, hno⟩
  obtain ⟨q, cp, rfl⟩ := own_form hown
  have HB := Lib.hid hB
  cases b with
  | false =>
    have HQ := Lib.hid (madews_none (hno rfl) hB)
    clear hown hB hlen hyes hno
    go_wp2
    go_ret2
    exact HQ.out
  | true =>
    have HS := Lib.hid (hyes rfl)
    have hW : Ws w.heap.size w1 q W := ws_of_own hown (List.take_length).symm
    have HW := Lib.hid hW
    have hsz : ∀ x ∈ W, x.length ≤ s.size := fun x hx => by
      have := split_short 10 s.data.toList x (by rw [HL.out, HS.out]; simp [hx])
      simpa using this
    have hst : StrsAt w1 q W.length (strsOf W) := by
      refine ⟨by simp [strsOf], by unfold maxLen; omega, fun i hi => by
        rw [strAt_of W i hi]
        have := hsz W[i] (List.getElem_mem hi)
        show W[i].length ≤ maxLen
        unfold maxLen; omega, ?_⟩
      rcases hW with h0 | ⟨g, cur, rfl, _, hr, _, hc⟩
      · exact .inl h0
      · refine .inr ⟨g, 0, rfl, hr.lt, fun i hi => ?_⟩
        rw [strAt_of W i hi]
        have := hc i hi
        unfold Row at hr
        simp [World.cell?, hr, this, encS]
    have HST := Lib.hid hst
    have hrb : rightB (strsOf W) = rightL W := by
      unfold rightB strsOf
      simp [List.map_map, Function.comp_def]
    obtain ⟨wl, hwl⟩ : ∃ wl, W.length = wl := ⟨_, rfl⟩
    rw [hwl] at HST ⊢
    have HWL := Lib.hid hwl
    have HRB := Lib.hid hrb
    have hlb := linesB_of_split HS.out
    cases hr : rightL W with
    | false =>
      rw [hr] at hlb
      have HQ := fun (w2 : World) (h : Below w.heap.size w w2) => madews_none (L := L) hlb h
      have HQ := Lib.hid HQ
      have HRR := Lib.hid hr
      clear hown hB hlen hyes hno hW hsz hst hrb hwl hlb hr
      go_wp2_with fail
      refine (l1right_any q wl cp (strsOf W) _ HST.out).mono ?_
      rw [HRB.out, HRR.out]
      rintro e w2 ⟨rfl, hB⟩
      have HB := Lib.hid (below_via HB.out hB)
      clear hB
      go_wp2
      go_ret2
      exact HQ.out _ HB.out
    | true =>
      rw [hr] at hlb
      have HLB := Lib.hid (lines_some hlb)
      have HRR := Lib.hid hr
      clear hown hB hlen hyes hno hW hsz hst hrb hwl hlb hr
      go_wp2_with fail
      refine (l1right_any q wl cp (strsOf W) _ HST.out).mono ?_
      rw [HRB.out, HRR.out]
      rintro e w2 ⟨rfl, hB⟩
      have HW := Lib.hid (ws_keep HW.out hB)
      have HB := Lib.hid (below_via HB.out hB)
      clear hB
      go_wp2
      go_ret2
      rw [HLB.out.1, HLB.out.2]
      exact ⟨q, cp, by rw [HWL.out]; rfl, HW.out, HB.out⟩
end Go.Proofs.YtjofbeokkainlaaGreatDoor
namespace Go.Proofs.YtjofbeokkainlaaGreatDoor
open Go.ChangeShapes Go.WideShapes Go.ChangeAt Go.RowKit
set_option linter.unusedVariables false
set_option maxRecDepth 100000

def bytesOf (l : Strs) : List (List UInt8) := l.map fun s => s.data.toList
def textTo (l : Strs) (k : Nat) : List UInt8 := joinN (bytesOf (l.take k))
theorem textTo_zero (l : Strs) : textTo l 0 = [] := by simp [textTo, bytesOf, joinN]
theorem textTo_step {l : Strs} {k : Nat} (h : k < l.length) : textTo l (k + 1) = textTo l k ++ (strAt l k).data.toList ++ [10] := by
  unfold textTo bytesOf strAt
  rw [List.take_succ_eq_append_getElem h, List.map_append, List.map_singleton, joinN_snoc, List.getD_eq_getElem?_getD, List.getElem?_eq_getElem h]
  rfl
/-- The text of all lines. -/
def linesTx (l : Strs) : ByteArray := ⟨(textTo l l.length).toArray⟩
theorem text_is {T : ByteArray} {X : List UInt8} (h : T.data.toList = X) : T = ⟨X.toArray⟩ := by
  subst h
  obtain ⟨⟨l⟩⟩ := T
  rfl
theorem text_of {l : Strs} {T : ByteArray} (h : T.data.toList = textTo l l.length) : T = linesTx l := text_is h

theorem snoc_list (T s : ByteArray) : (T ++ (s ++ ⟨#[10]⟩)).data.toList = T.data.toList ++ s.data.toList ++ [10] := by simp
theorem snoc_list' (T s : ByteArray) : (T ++ s ++ ⟨#[10]⟩).data.toList = T.data.toList ++ s.data.toList ++ [10] := by simp

def SameStr (s : ByteArray) (w : World) (e : Ending) (w' : World) : Prop := e = .returned (.string s) ∧ w = w'

set_option maxHeartbeats 2000000 in
theorem l1text_any (a : Option Addr) (len cap m : Nat) (l : Strs) (w : World) (h : StrsAt w a len l) (hs : ∀ i, i < len → (strAt l i).size ≤ m) (hm2 : len * (m + 1) ≤ 1099511627776) (hm1 : m ≤ 1099511627776) :
    Calls Tryz.prog 75 #[.slice a len cap] w (SameStr (linesTx l) w) := by
  have hm := h.max
  unfold maxLen at hm
  have HR := Lib.hid h
  have HL := Lib.hid h.length
  have HM := Lib.hid hs
  clear h hs
  go_enter Tryz.func75, Tryz.ntmps75
  go_wp2
  go_loop [3, 4] (fun t i => ∃ (k : Nat) (T : ByteArray), k ≤ len ∧ i = .int .i64 k ∧ t = .string T ∧ T.size ≤ k * (m + 1) ∧ Hid (T.data.toList = textTo l k)) (fun _ i => len - (intOf i).toNat)
  case atStart => exact ⟨0, ByteArray.empty, Nat.zero_le _, rfl, rfl, by simp, Lib.hid (by rw [textTo_zero]; rfl)⟩
  case round =>
    obtain ⟨k, T, hk, rfl, rfl, hT, HT⟩ := hrel
    by_cases hlt : k < len
    · rcases HR.out.src with hz | ⟨b, off, rfl, hb, hc⟩
      · omega
      · have c0 := hc k hlt
        obtain ⟨s, hs⟩ : ∃ s, strAt l k = s := ⟨_, rfl⟩
        have hsm : s.size ≤ m := by rw [← hs]; exact HM.out k hlt
        rw [hs] at c0
        have HS := Lib.hid (show textTo l (k + 1) = textTo l k ++ s.data.toList ++ [10] by rw [← hs]; exact textTo_step (by rw [HL.out]; exact hlt))
        have hle : (k + 1) * (m + 1) ≤ len * (m + 1) := Nat.mul_le_mul_right _ hlt
        have hex : (k + 1) * (m + 1) = k * (m + 1) + (m + 1) := by rw [Nat.add_mul, Nat.one_mul]
        generalize hQ : (k + 1) * (m + 1) = Q at hle hex
        generalize hR : k * (m + 1) = R at hT hex
        generalize len * (m + 1) = Z at hm2 hle
        have HQ := Lib.hid hQ
        clear hc hb hs hQ hR
        have hts : (T ++ s).size ≤ T.size + s.size := by rw [ByteArray.size_append]; exact Nat.le_refl _
        go_wp2
        go_round
        case rel => exact ⟨k + 1, _, by omega, by go_num, rfl, by rw [HQ.out, ByteArray.size_append, ByteArray.size_append]; show T.size + s.size + 1 ≤ Q; omega, Lib.hid (by rw [snoc_list', HT.out, HS.out])⟩
        case measure => simp [intOf]; omega
    · obtain rfl : k = len := by omega
      have HE := Lib.hid (text_of (l := l) (by rw [HL.out]; exact HT.out))
      go_wp2
      go_ret
      exact ⟨congrArg (fun s => Ending.returned (.string s)) HE.out, rfl⟩

/-- The end of LinesText. -/
def MadeText (l : Strs) (w : World) (e : Ending) (w' : World) : Prop :=
  e = .returned (.tuple #[.string (if rightB l then linesTx l else ByteArray.empty), .bool (rightB l)]) ∧ Below w.heap.size w w'
theorem madetext_no {l : Strs} {w w' : World} (h : rightB l = false) (hB : Below w.heap.size w w') : MadeText l w (.returned (.tuple #[.string ⟨#[]⟩, .bool false])) w' := by
  unfold MadeText; rw [h]; exact ⟨rfl, hB⟩
theorem madetext_yes {l : Strs} {T : ByteArray} {w w' : World} (h : rightB l = true) (hT : T = linesTx l) (hB : Below w.heap.size w w') : MadeText l w (.returned (.tuple #[.string T, .bool true])) w' := by
  unfold MadeText; rw [h, hT]; exact ⟨rfl, hB⟩
theorem right_parts {l : Strs} (h : rightB l = true) : l.length ≤ 10 ∧ ∀ k, k < l.length → (strAt l k).size ≤ 200 ∧ hasC 10 (strAt l k) = false := by
  obtain ⟨h1, h2⟩ := (rightL_iff _).1 h
  refine ⟨by simpa using h1, fun k hk => ?_⟩
  have := h2 (strAt l k).data.toList (by
    refine List.mem_map.2 ⟨strAt l k, ?_, rfl⟩
    unfold strAt
    rw [List.getD_eq_getElem?_getD, List.getElem?_eq_getElem hk]
    exact List.getElem_mem hk)
  refine ⟨by simpa using this.1, ?_⟩
  unfold hasC
  rw [Bool.not_eq_false', List.all_eq_true]
  intro x hx
  simpa using this.2 x hx

set_option maxHeartbeats 1000000 in
theorem slinestext_any (a : Option Addr) (len cap : Nat) (l : Strs) (w : World) (h : StrsAt w a len l) :
    Calls Tryz.prog 44 #[.slice a len cap] w (MadeText l w) := by
  have HR := Lib.hid h
  have HL := Lib.hid h.length
  clear h
  cases hr : rightB l with
  | false =>
    have HRR := Lib.hid hr
    clear hr
    go_enter Tryz.func44, Tryz.ntmps44
    go_wp2_with (go_at_call 54; refine (l1right_any _ _ _ _ _ HR.out).mono ?_; rw [HRR.out]; rintro e w1 ⟨rfl, hB⟩; have HB := Lib.hid hB; clear hB)
    go_ret2
    exact madetext_no HRR.out HB.out
  | true =>
    have HRR := Lib.hid hr
    have HP := Lib.hid (right_parts hr)
    have h10 : len ≤ 10 := by rw [← HL.out]; exact HP.out.1
    clear hr
    go_enter Tryz.func44, Tryz.ntmps44
    go_wp2_with (first | (go_at_call 54; refine (l1right_any _ _ _ _ _ HR.out).mono ?_; rw [HRR.out]; rintro e w1 ⟨rfl, hB⟩; have HB := Lib.hid hB; clear hB) | (go_at_call 75; refine (l1text_any _ _ _ 200 _ _ (HR.out.keep HB.out) (fun i hi => (HP.out.2 i (by rw [HL.out]; exact hi)).1) (by omega) (by decide)).mono ?_; rintro e w2 ⟨rfl, rfl⟩))
    go_ret2
    exact madetext_yes HRR.out rfl HB.out

theorem right_badlen {l : Strs} (h : ¬ l.length ≤ 10) : rightB l = false := by
  rw [← Bool.not_eq_true]
  intro hr
  exact h (right_parts hr).1
theorem right_badhas {l : Strs} {k : Nat} (hk : k < l.length) (h : (200 < (strAt l k).size) ∨ hasC 10 (strAt l k) = true) : rightB l = false := by
  rw [← Bool.not_eq_true]
  intro hr
  obtain ⟨h1, h2⟩ := (right_parts hr).2 k hk
  rcases h with h | h
  · omega
  · rw [h2] at h; cases h
theorem right_goodhas {l : Strs} (h0 : l.length ≤ 10) (h : ∀ k, k < l.length → (strAt l k).size ≤ 200 ∧ hasC 10 (strAt l k) = false) : rightB l = true := by
  rw [right_good (fun k hk => ?_), decide_eq_true h0]
  obtain ⟨h1, h2⟩ := h k hk
  refine ⟨h1, fun x hx hxc => ?_⟩
  unfold hasC at h2
  rw [Bool.not_eq_false', List.all_eq_true] at h2
  have := h2 x hx
  simp [hxc] at this

end Go.Proofs.YtjofbeokkainlaaGreatDoor
namespace Go.Proofs.YtjofbeokkainlaaGreatDoor
open Go.ChangeShapes Go.WideShapes Go.ChangeAt Go.RowKit
set_option linter.unusedVariables false
set_option maxRecDepth 100000

theorem strs_of_own {w : World} {base n : Nat} {q : Option Addr} {cp : Nat} {W : Strs} (h : w.ownsRow base 9 1 (.slice q n cp) n (W.map Value.string)) (hn : W.length = n) (hm : n ≤ maxLen) (hs : ∀ x ∈ W, x.size ≤ maxLen) : StrsAt w q n W := by
  refine ⟨hn, hm, fun i hi => ?_, ?_⟩
  · unfold strAt
    rw [List.getD_eq_getElem?_getD, List.getElem?_eq_getElem (by omega)]
    exact hs _ (List.getElem_mem _)
  · by_cases h0 : n = 0
    · exact .inl h0
    · rcases h.2 with ⟨h1, h2⟩ | ⟨g, cap, cur, hv, _, hh, _⟩
      · simp only [Value.slice.injEq] at h1; omega
      · simp only [Value.slice.injEq, true_and] at hv
        obtain ⟨rfl, rfl⟩ := hv
        refine .inr ⟨g, 0, rfl, lt_of_block hh, fun i hi => ?_⟩
        have hiW : i < W.length := by omega
        rw [Nat.zero_add, h.cellAt i (by omega)]
        unfold strAt
        rw [List.getD_eq_getElem?_getD]
        simp [hiW]

structure DrawnL (w wr : World) (r : Nat) (a : Option Addr) (len cap : Nat) (v : Value) (W : Strs) : Prop where
  own : wr.ownsRow w.heap.size 9 1 v W.length (W.map Value.string)
  went : Went w r a len cap wr
  short : ∀ x ∈ W, x.size ≤ 400

theorem DrawnL.trans {w wr w1 : World} {r : Nat} {a : Option Addr} {len cap : Nat} {v : Value} {W : Strs} (h : DrawnL w wr r a len cap v W) (hr : r < w.heap.size) (hw : Went wr r a len cap w1) : DrawnL w w1 r a len cap v W :=
  ⟨own_went h.own hw hr, h.went.trans hw, h.short⟩
theorem DrawnL.add {w wr w1 : World} {r : Nat} {a : Option Addr} {len cap : Nat} {v v' : Value} {W : Strs} {s : ByteArray} {o : Obj} (h : DrawnL w wr r a len cap v W) (hr : r < w.heap.size) (hs : s.size ≤ 400)
    (hown : w1.ownsRow w.heap.size 9 1 v' (W.length + 1) (W.map Value.string ++ [.string s])) (hg : (wr.alloc o).grownBy w1 v.ownBlock) : DrawnL w w1 r a len cap v' (W ++ [s]) :=
  ⟨by simpa using hown, (h.went.alloc o).more hg hr (fun k hk => (h.own.lt k hk).1), fun x hx => by
    rcases List.mem_append.1 hx with hx | hx
    · exact h.short x hx
    · simp at hx; subst hx; exact hs⟩

def sliceLen : Value → Nat | .slice _ n _ => n | _ => 0
/-- The end of a method that draws at most n texts of at most 400 bytes. -/
def RdLines (n : Nat) (w : World) (r : Nat) (a : Option Addr) (len cap : Nat) (e : Ending) (w' : World) : Prop :=
  ∃ (q : Option Addr) (cp : Nat) (W : Strs), e = .returned (.slice q W.length cp) ∧ W.length ≤ n ∧ DrawnL w w' r a len cap (.slice q W.length cp) W

set_option maxHeartbeats 4000000 in
theorem linesofd_any (w : World) (r : Nat) (a : Option Addr) (len cap : Nat) (h : Rdr w r a len cap) :
    Calls Tryz.prog 45 #[.pointer (some ⟨r, 0, none⟩)] w (RdLines 12 w r a len cap) := by
  obtain ⟨i0, hi, hz0, hz1, hz2⟩ := info_parts infoStr
  have HRL := Lib.hid h.lt
  have hlm := h.max
  unfold maxLen at hlm
  have H0 := Lib.hid (show DrawnL w (w.alloc (.cells #[] 9)) r a len cap (.slice (some ⟨w.heap.size, 0, none⟩) 0 0) [] from ⟨World.ownsRow_lit w #[] 0 (Nat.le_refl _) (Nat.zero_le _) rfl, (Went.refl h).alloc _, by simp⟩)
  clear h
  go_enter Tryz.func45, Tryz.ntmps45
  go_wp2_with fail
  refine (below_any _ _ _ _ _ _ H0.out.went.rdr (by decide) (by decide)).mono ?_
  rintro e w1 ⟨⟨x, hx1, hx2, rfl⟩, hw⟩
  have HD := Lib.hid (H0.out.trans HRL.out hw)
  clear hw H0
  go_wp2_with fail
  go_loopw [3, 4] (fun v i wr => ∃ (k : Nat) (q : Option Addr) (cp : Nat) (W : Strs), i = .int .i64 k ∧ v = .slice q W.length cp ∧ W.length + k ≤ 4 ∧ Hid (DrawnL w wr r a len cap v W)) (fun _ i _ => (intOf i).toNat)
  case atStart => exact ⟨x.toNat, _, _, [], by rw [Int.toNat_of_nonneg hx1], rfl, by simp; omega, HD.out⟩
  case round =>
    obtain ⟨k, q, cp, W, rfl, rfl, hk4, HS⟩ := hrel
    clear HD
    obtain ⟨wl, hwl⟩ : ∃ wl, W.length = wl := ⟨_, rfl⟩
    rw [hwl] at HS hk4 ⊢
    have HWL := Lib.hid hwl
    clear hwl
    by_cases hk : 0 < k
    · go_wp2_with fail
      refine (lineof_any _ _ _ _ _ HS.out.went.rdr).mono ?_
      rintro e w2 ⟨⟨u, hu, rfl⟩, hw⟩
      have HS2 := Lib.hid (HS.out.trans HRL.out hw)
      have HU := Lib.hid hu
      have HO := Lib.hid (by have := HS2.out.own; rw [HWL.out] at this; exact this)
      clear hw hu HS
      obtain ⟨m, rfl⟩ : ∃ m, k = m + 1 := ⟨k - 1, by omega⟩
      go_wp2_with (at_builtin; (refine wpList_append_own _ rfl _ _ 25 rfl w.heap.size 9 i0 _ 1 16 Tryz.underlying25 hi hz0 hz1 hz2 rfl (by decide) _ _ _ rfl (HO.out.alloc _) ⟨w2.heap.size, 0, none⟩ 1 1 [.string u] rfl rfl (one_new _ _ _) (fun u hu => by simp at hu; subst hu; rfl) (by unfold maxLen; omega) (by omega) (Nat.le_trans HS2.out.went.size (by simp)) ?_); intro v' w3 hown1 hgrow hnil; have HO1 := Lib.hid hown1; have HG := Lib.hid hgrow; clear hown1 hgrow hnil)
      obtain ⟨q1, cp1, rfl⟩ := own_form HO1.out
      go_roundw
      case rel =>
        have ho := HO1.out
        rw [← HWL.out] at ho
        have hnew := HS2.out.add HRL.out HU.out ho HG.out
        rw [HWL.out] at hnew
        exact ⟨m, q1, cp1, W ++ [u], by go_num, by rw [← HWL.out]; simp, by rw [List.length_append, HWL.out]; simp; omega, hnew⟩
      case measure => simp [intOf]
    · obtain rfl : k = 0 := by omega
      have hw4 : wl ≤ 4 := by omega
      go_wp2_with fail
      refine (below_any _ _ _ _ _ _ HS.out.went.rdr (by decide) (by decide)).mono ?_
      rintro e w2 ⟨⟨y, hy1, hy2, rfl⟩, hw⟩
      have HS := Lib.hid (HS.out.trans HRL.out hw)
      have HO := Lib.hid (by have := HS.out.own; rw [HWL.out] at this; exact this)
      clear hw
      obtain ⟨j0, hj, hy0, hyy1, hyy2⟩ := info_parts infoByte
      go_wp2_with (at_builtin; (refine wpList_append_own _ rfl _ _ 25 rfl w.heap.size 9 i0 _ 1 16 Tryz.underlying25 hi hz0 hz1 hz2 rfl (by decide) _ _ _ rfl (HO.out.alloc _) ⟨w2.heap.size, 0, none⟩ 1 1 [.string ⟨#[97, 10, 98]⟩] rfl rfl (one_new _ _ _) (fun u hu => by simp at hu; subst hu; rfl) (by unfold maxLen; omega) (by omega) (Nat.le_trans HS.out.went.size (by simp)) ?_); intro v' w3 hown1 hgrow hnil; have HO1 := Lib.hid hown1; have HG := Lib.hid hgrow; clear hown1 hgrow hnil)
      · refine (below_any _ _ _ _ _ _ HS.out.went.rdr (by decide) (by decide)).mono ?_
        rintro e w3 ⟨⟨z, hz3, hz4, rfl⟩, hw⟩
        have HS := Lib.hid (HS.out.trans HRL.out hw)
        have HO := Lib.hid (by have := HS.out.own; rw [HWL.out] at this; exact this)
        clear hw
        obtain ⟨n, hn⟩ : ∃ n : Nat, 199 + z = (n : Int) := ⟨(199 + z).toNat, by omega⟩
        have hn49 : n ≤ 201 := by omega
        go_wp2_with (first
          | (at_make; (refine wpList_make_full _ rfl _ _ 22 rfl w3.heap.size 5 j0 _ 1 Tryz.underlying22 hj hy0 hyy1 .i64 .i64 _ _ n rfl rfl rfl rfl (by rw [hyy2]; omega) (by unfold maxLen; omega) (Nat.le_refl _) ?_); intro w4 hown hgrow; have hzt := zeros_text hown; have hzs : (strOfNums (List.replicate n 0)).size ≤ 201 := (by simp [strOfNums, ByteArray.size]; omega); have HS4 := Lib.hid (DrawnL.mk (HS.out.own.kept hgrow (by by_cases hv : (Value.slice q wl cp).ownBlock = none; exact .inl hv; exact .inr hv)) (HS.out.went.more hgrow HRL.out (fun k hk => by cases hk)) HS.out.short : DrawnL w w4 r a len cap (.slice q wl cp) W); have HO4 := Lib.hid (show w4.ownsRow w.heap.size 9 1 (.slice q wl cp) wl (W.map Value.string) from HWL.out ▸ HS4.out.own); clear hown hgrow)
          | (at_builtin; (refine wpList_append_own _ rfl _ _ 25 rfl w.heap.size 9 i0 _ 1 16 Tryz.underlying25 hi hz0 hz1 hz2 rfl (by decide) _ _ _ rfl (HO4.out.alloc _) ⟨w4.heap.size, 0, none⟩ 1 1 [.string (strOfNums (List.replicate n 0))] rfl rfl (one_new _ _ _) (fun u hu => by simp at hu; subst hu; rfl) (by unfold maxLen; omega) (by omega) (Nat.le_trans HS4.out.went.size (by simp)) ?_); intro v' w5 hown1 hgrow hnil; have HO1 := Lib.hid hown1; have HG := Lib.hid hgrow; clear hown1 hgrow hnil))
        obtain ⟨q1, cp1, rfl⟩ := own_form HO1.out
        have ho := HO1.out
        rw [← HWL.out] at ho
        have hnew := HS4.out.add HRL.out (by omega) ho HG.out
        have HNEW := Lib.hid hnew
        clear ho hnew
        go_ret
        exact ⟨q1, cp1, W ++ [strOfNums (List.replicate n 0)], by rw [List.length_append, HWL.out]; rfl, by rw [List.length_append, HWL.out]; simp; omega, by have := HNEW.out; rw [List.length_append, HWL.out]; rw [HWL.out] at this; exact this⟩
      · obtain ⟨q1, cp1, rfl⟩ := own_form HO1.out
        have ho := HO1.out
        rw [← HWL.out] at ho
        have hnew := HS.out.add HRL.out (by decide) ho HG.out
        have HNEW := Lib.hid hnew
        clear ho hnew
        go_ret
        exact ⟨q1, cp1, W ++ [⟨#[97, 10, 98]⟩], by rw [List.length_append, HWL.out]; rfl, by rw [List.length_append, HWL.out]; simp; omega, by have := HNEW.out; rw [List.length_append, HWL.out]; rw [HWL.out] at this; exact this⟩
      · have hy2 : y = 2 := by have : (y == 2) = true := by assumption
                               simpa using this
        subst hy2
        go_loopw [3] (fun v wr => ∃ (q : Option Addr) (cp : Nat) (W : Strs), v = .slice q W.length cp ∧ W.length ≤ 12 ∧ Hid (DrawnL w wr r a len cap v W)) (fun v _ => 12 - sliceLen v)
        case atStart => exact ⟨q, cp, W, by rw [HWL.out], by rw [HWL.out]; omega, HS.out⟩
        case round =>
          obtain ⟨q, cp, W, rfl, hW12, HS⟩ := hrel
          obtain ⟨wl, hwl⟩ : ∃ wl, W.length = wl := ⟨_, rfl⟩
          rw [hwl] at HS hW12 ⊢
          have HWL := Lib.hid hwl
          clear hwl
          have hcode := HS.out.went.rdr.code
          have HO := Lib.hid (by have := HS.out.own; rw [HWL.out] at this; exact this)
          by_cases hlt : (wl : Int) < 9 + (len : Int) % 3
          · have hlt12 : wl < 12 := by omega
            go_wp2_with (at_builtin; (refine wpList_append_own _ rfl _ _ 25 rfl w.heap.size 9 i0 _ 1 16 Tryz.underlying25 hi hz0 hz1 hz2 rfl (by decide) _ _ _ rfl (HO.out.alloc _) ⟨_, 0, none⟩ 1 1 [.string ⟨#[120]⟩] rfl rfl (one_new _ _ _) (fun u hu => by simp at hu; subst hu; rfl) (by unfold maxLen; omega) (by omega) (Nat.le_trans HS.out.went.size (by simp)) ?_); intro v' w3 hown1 hgrow hnil; have HO1 := Lib.hid hown1; have HG := Lib.hid hgrow; clear hown1 hgrow hnil)
            obtain ⟨q1, cp1, rfl⟩ := own_form HO1.out
            go_roundw
            case rel =>
              have ho := HO1.out
              rw [← HWL.out] at ho
              have hnew := HS.out.add HRL.out (by decide) ho HG.out
              rw [HWL.out] at hnew
              (repeat apply Exists.intro)
              refine ⟨?_, rfl⟩
              exact ⟨q1, cp1, W ++ [(⟨#[120]⟩ : ByteArray)], by rw [← HWL.out]; simp, by rw [List.length_append, HWL.out]; simp; omega, Lib.hid hnew⟩
            case measure => simp [sliceLen]; omega
          · go_wp2
            go_ret
            exact ⟨q, cp, W, by rw [HWL.out]; rfl, by rw [HWL.out]; exact hW12, by rw [HWL.out]; exact HS.out⟩
      · go_ret
        exact ⟨q, cp, W, by rw [HWL.out]; rfl, by rw [HWL.out]; omega, by rw [HWL.out]; exact HS.out⟩

/-- What is drawn: at most 12 texts of at most 400 bytes. -/
def DrewLines (w : World) (e : Ending) (w' : World) : Prop := ∃ (q : Option Addr) (cp : Nat) (W : Strs), e = .returned (.slice q W.length cp) ∧ W.length ≤ 12 ∧ (∀ x ∈ W, x.size ≤ 400) ∧ StrsAt w' q W.length W ∧ Below w.heap.size w w'

theorem DrawnL.strs {w wr : World} {r : Nat} {a : Option Addr} {len cap : Nat} {q : Option Addr} {cp : Nat} {W : Strs} (h : DrawnL w wr r a len cap (.slice q W.length cp) W) (h12 : W.length ≤ 12) : StrsAt wr q W.length W :=
  strs_of_own h.own rfl (by unfold maxLen; omega) (fun x hx => by have := h.short x hx; unfold maxLen; omega)

theorem linesTx_size {l : Strs} (h : l.length ≤ 12) (hs : ∀ x ∈ l, x.size ≤ 400) : (linesTx l).size ≤ 4812 := by
  unfold linesTx textTo
  rw [List.take_length]
  have := joinN_len (bytesOf l) 400 (fun x hx => by
    obtain ⟨s, hs', rfl⟩ := List.mem_map.1 hx
    simpa using hs s hs')
  have hl : (bytesOf l).length = l.length := by simp [bytesOf]
  show (joinN (bytesOf l)).length ≤ 4812
  rw [hl] at this
  omega

end Go.Proofs.YtjofbeokkainlaaGreatDoor
namespace Go.Proofs.YtjofbeokkainlaaGreatDoor
open Go.ChangeShapes Go.WideShapes Go.ChangeAt Go.RowKit
set_option linter.unusedVariables false
set_option maxRecDepth 100000

theorem lines_short (s : ByteArray) : Short (linesW s.data.toList) := by
  obtain ⟨h1, h2⟩ := linesW_few s.data.toList
  refine ⟨by omega, fun j h => ?_⟩
  have := h2 _ (List.getElem_mem h)
  unfold maxLen; omega

end Go.Proofs.YtjofbeokkainlaaGreatDoor
