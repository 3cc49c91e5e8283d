
/- What LinesOf computes in the program: the lines of a text in a row of its own. Only new blocks are made. -/
import Derived.Test.YtgijalecpeabjaaDoorLCut
import Derived.Test.YtgijalecpeabjaaDoorLinesM
import Derived.Test.YtgijalecpeabjaaDoorWs
namespace Go.Proofs.YtgijalecpeabjaaDoor
open Go.ChangeShapes Go.WideShapes Go.ChangeAt Go.RowKit
set_option linter.unusedVariables false
set_option maxRecDepth 100000

/-- The lines so far. -/
structure LinesSt (L : List UInt8) (w wr : World) (v : Value) (W : List (List UInt8)) (cur : ByteArray) : Prop where
  own : wr.ownsRow w.heap.size 9 1 v W.length (W.map encS)
  below : Below w.heap.size w wr
  rest : W ++ splitL 10 cur.data.toList = splitL 10 L
  few : W.length ≤ 10
  short : ∀ x ∈ W, x.length ≤ 200

/-- The end of a function that returns texts in a row of its own, and a bool. -/
def MadeWsB (W : List (List UInt8)) (b : Bool) (w : World) (e : Ending) (w' : World) : Prop :=
  ∃ q cp, e = .returned (.tuple #[.slice q W.length cp, .bool b]) ∧ Ws w.heap.size w' q W ∧ Below w.heap.size w w'

theorem madews_none {L : List UInt8} {w w' : World} (h : linesB L = none) (hB : Below w.heap.size w w') : MadeWsB (linesW L) (linesK L) w (.returned (.tuple #[.slice none 0 0, .bool false])) w' := by
  obtain ⟨h1, h2⟩ := lines_none h
  rw [h1, h2]
  exact ⟨none, 0, rfl, .inl rfl, hB⟩

theorem lines_end {L : List UInt8} {w wr : World} {q : Option Addr} {n cp : Nat} {W : List (List UInt8)} {cur : ByteArray} (h : LinesSt L w wr (.slice q n cp) W cur) (hn : W.length = n) (h0 : cur.size = 0) :
    MadeWsB (linesW L) (linesK L) w (.returned (.tuple #[.slice q n cp, .bool true])) wr := by
  subst hn
  have hc : cur.data.toList = [] := by
    apply List.eq_nil_of_length_eq_zero
    simpa using h0
  have hr := h.rest
  rw [hc] at hr
  have hs : linesB L = some W := by
    unfold linesB
    rw [← hr]
    exact linesP_done W h.few h.short
  obtain ⟨h1, h2⟩ := lines_some hs
  rw [h1, h2]
  exact ⟨q, cp, rfl, ws_of_own h.own (List.take_length).symm, h.below⟩

theorem lines_stop {L : List UInt8} {w wr : World} {v : Value} {W : List (List UInt8)} {cur a r : ByteArray} {b : Bool} (h : LinesSt L w wr v W cur) (h0 : cur.size ≠ 0)
    (hn : noC 10 a.data.toList) (hb : b = true → cur.data.toList = a.data.toList ++ 10 :: r.data.toList) (hf : b = false → a = cur ∧ r.size = 0)
    (hbad : b = false ∨ ¬ a.size ≤ 200 ∨ W.length = 10) : linesB L = none := by
  have hr := h.rest
  unfold linesB
  cases b with
  | false =>
    obtain ⟨rfl, _⟩ := hf rfl
    rw [splitL_no 10 _ hn] at hr
    rw [← hr]
    refine linesP_open W _ fun e => h0 ?_
    have := congrArg List.length e
    simpa using this
  | true =>
    rw [hb rfl, splitL_at 10 _ _ hn] at hr
    rw [← hr]
    rcases hbad with h1 | h1 | h1
    · cases h1
    · exact linesP_long W _ _ (splitL_ne 10 _) (by simpa using h1)
    · exact linesP_many W _ _ (splitL_ne 10 _) h1

theorem lines_add {L : List UInt8} {w wr w1 : World} {v v' : Value} {W : List (List UInt8)} {cur a r : ByteArray} (h : LinesSt L w wr v W cur)
    (hn : noC 10 a.data.toList) (hb : cur.data.toList = a.data.toList ++ 10 :: r.data.toList) (h1 : a.size ≤ 200) (h2 : W.length < 10)
    (hown : w1.ownsRow w.heap.size 9 1 v' (W.length + 1) (W.map encS ++ [.string a])) (hbl : Below w.heap.size w w1) : LinesSt L w w1 v' (W ++ [a.data.toList]) r where
  own := by
    have e : encS a.data.toList = .string a := rfl
    rw [← e] at hown
    simpa using hown
  below := hbl
  rest := by
    have hr := h.rest
    rw [hb, splitL_at 10 _ _ hn] at hr
    rw [← hr]; simp
  few := by simp; omega
  short := fun x hx => by
    rcases List.mem_append.1 hx with hx | hx
    · exact h.short x hx
    · simp at hx; subst hx; simpa using h1

set_option maxHeartbeats 2000000 in
theorem linesof_any (s : ByteArray) (w : World) (hs : s.size ≤ 1048576) :
    Calls Tryd.prog 92 #[.string s] w (MadeWsB (linesW s.data.toList) (linesK s.data.toList) w) := by
  obtain ⟨i0, hi, hz0, hz1, hz2⟩ := info_parts infoStr
  obtain ⟨L, hL⟩ : ∃ L, s.data.toList = L := ⟨_, rfl⟩
  obtain ⟨n, hn⟩ : ∃ n, s.size = n := ⟨_, rfl⟩
  have HL := Lib.hid hL
  have HN := Lib.hid hn
  rw [hL]
  rw [hn] at hs
  clear hL hn
  go_enter Tryd.func92, Tryd.ntmps92
  go_wp2
  go_loopw [0, 4] (fun t v wr => ∃ (cur : ByteArray) (W : List (List UInt8)) (q : Option Addr) (cp : Nat), t = .string cur ∧ v = .slice q W.length cp ∧ cur.size ≤ n ∧ Hid (LinesSt L w wr v W cur)) (fun t _ _ => lenOf t)
  case atStart =>
    refine ⟨s, [], _, _, rfl, rfl, by rw [HN.out]; exact Nat.le_refl _, World.ownsRow_nil _ _ _ _, Below.refl _ _, by rw [HL.out]; rfl, Nat.zero_le _, by simp⟩
  case round =>
    obtain ⟨cur, W, q, cp, rfl, rfl, hcur, HS⟩ := hrel
    obtain ⟨wl, hwl⟩ : ∃ wl, W.length = wl := ⟨_, rfl⟩
    have hfew : wl ≤ 10 := by rw [← hwl]; exact HS.out.few
    rw [hwl] at HS ⊢
    have HWL := Lib.hid hwl
    clear hwl
    by_cases h0 : cur.size = 0
    · have HE := Lib.hid (lines_end HS.out HWL.out h0)
      have he : cur.toList = [] := by
        rw [ByteArray.toList_eq]
        apply List.eq_nil_of_length_eq_zero
        simpa using h0
      have he2 : cur.toList.isEmpty = true := by rw [he]; rfl
      go_wp2
      go_ret2
      exact HE.out
    · have hcm : cur.size ≤ maxLen := by unfold maxLen; omega
      have he2 : cur.toList.isEmpty = false := by
        rw [ByteArray.toList_eq, ← Bool.not_eq_true, List.isEmpty_iff]
        intro e
        have := congrArg List.length e
        simp at this
        exact h0 (by rw [this]; rfl)
      have he3 : (!cur.toList.isEmpty) = true := by rw [he2]; rfl
      have H0 := Lib.hid h0
      clear h0
      go_wp2_with fail
      refine (stdcut_any cur 10 _ hcm).mono ?_
      rintro e w1 ⟨a, r, b, rfl, hB, hr, hno, hyes, hnot⟩
      have HB := Lib.hid (below_via HS.out.below hB)
      have HNO := Lib.hid hno
      have HYES := Lib.hid hyes
      have HNOT := Lib.hid hnot
      have HO := Lib.hid (own_below (by have := HS.out.own; rw [HWL.out] at this; exact this) hB)
      have HR := Lib.hid hr
      clear hB hr hno hyes hnot
      cases b with
      | false =>
        have HQ := Lib.hid (madews_none (lines_stop HS.out H0.out HNO.out HYES.out HNOT.out (.inl rfl)) HB.out)
        go_wp2
        go_ret2
        exact HQ.out
      | true =>
        by_cases h1 : a.size ≤ 200
        · have g1 : ¬ (200 : Int) < (a.size : Int) := by omega
          by_cases h2 : wl = 10
          · have g2 : (((wl : Nat) : Int) == 10) = true := by simp; omega
            have HQ := Lib.hid (madews_none (lines_stop HS.out H0.out HNO.out HYES.out HNOT.out (.inr (.inr (by rw [HWL.out]; exact h2)))) HB.out)
            clear h2
            go_wp2
            go_ret2
            exact HQ.out
          · have g2 : (((wl : Nat) : Int) == 10) = false := by simp; omega
            go_wp2_with (at_builtin; (refine wpList_append_own _ rfl _ _ 38 rfl w.heap.size 9 i0 _ 1 16 Tryd.underlying38 hi hz0 hz1 hz2 rfl (by decide) _ _ _ rfl (HO.out.alloc _) ⟨w1.heap.size, 0, none⟩ 1 1 [.string a] rfl rfl (one_new _ _ _) (fun u hu => by simp at hu; subst hu; rfl) (by unfold maxLen; omega) (by omega) (Nat.le_trans HB.out.size (by simp)) ?_); intro v' w2 hown1 hgrow hnil; have HO1 := Lib.hid hown1; have HG := Lib.hid hgrow; clear hown1 hgrow hnil)
            obtain ⟨q1, cp1, rfl⟩ := own_form HO1.out
            go_roundw
            case rel =>
              have hb : Below w.heap.size w w2 := (HB.out.alloc HB.out.size _).grown HG.out (Nat.le_trans HB.out.size (by simp)) (fun k hk => (HO.out.lt k hk).1)
              have ho := HO1.out
              rw [← HWL.out] at ho
              have hnew := lines_add HS.out HNO.out (HYES.out trivial) h1 (by rw [HWL.out]; omega) ho hb
              rw [HWL.out] at hnew
              exact ⟨r, W ++ [a.data.toList], q1, cp1, rfl, by rw [← HWL.out]; simp, by have := HR.out; omega, hnew⟩
            case measure =>
              have hc := HYES.out trivial
              have := congrArg List.length hc
              simp at this
              simp [lenOf]
              omega
        · have g1 : (200 : Int) < (a.size : Int) := by omega
          have HQ := Lib.hid (madews_none (lines_stop HS.out H0.out HNO.out HYES.out HNOT.out (.inr (.inl h1))) HB.out)
          clear h1
          go_wp2
          go_ret2
          exact HQ.out
end Go.Proofs.YtgijalecpeabjaaDoor
