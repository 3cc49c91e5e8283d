/- Texts put together, as a claim holds at most sixty files. -/
import Derived.Test.YtjofbeokkainlaaDoorLCut
import Derived.Test.YtjofbeokkainlaaDoorMg0
import Derived.Test.YtjofbeokkainlaaDoorMg3
namespace Go.Proofs.YtjofbeokkainlaaDoor
open Go.ChangeShapes Go.WideShapes Go.ChangeAt Go.RowKit
set_option linter.unusedVariables false
set_option maxRecDepth 100000

/-- The lines so far. -/
structure LinesSt (L : List UInt8) (w wr : World) (v : Value) (W : List (List UInt8)) (cur : ByteArray) : Prop where
  own : wr.ownsRow w.heap.size 9 1 v W.length (W.map encS)
  below : Below w.heap.size w wr
  rest : W ++ splitL 10 cur.data.toList = splitL 10 L
  few : W.length ≤ 10
  short : ∀ x ∈ W, x.length ≤ 200

/-- The end of a function that returns texts in a row of its own, and a bool. -/
def MadeWsB (W : List (List UInt8)) (b : Bool) (w : World) (e : Ending) (w' : World) : Prop :=
  ∃ q cp, e = .returned (.tuple #[.slice q W.length cp, .bool b]) ∧ Ws w.heap.size w' q W ∧ Below w.heap.size w w'

theorem madews_none {L : List UInt8} {w w' : World} (h : linesB L = none) (hB : Below w.heap.size w w') : MadeWsB (linesW L) (linesK L) w (.returned (.tuple #[.slice none 0 0, .bool false])) w' := by
  obtain ⟨h1, h2⟩ := lines_none h
  rw [h1, h2]
  exact ⟨none, 0, rfl, .inl rfl, hB⟩

theorem lines_end {L : List UInt8} {w wr : World} {q : Option Addr} {n cp : Nat} {W : List (List UInt8)} {cur : ByteArray} (h : LinesSt L w wr (.slice q n cp) W cur) (hn : W.length = n) (h0 : cur.size = 0) :
    MadeWsB (linesW L) (linesK L) w (.returned (.tuple #[.slice q n cp, .bool true])) wr := by
  subst hn
  have hc : cur.data.toList = [] := by
    apply List.eq_nil_of_length_eq_zero
    simpa using h0
  have hr := h.rest
  rw [hc] at hr
  have hs : linesB L = some W := by
    unfold linesB
    rw [← hr]
    exact linesP_done W h.few h.short
  obtain ⟨h1, h2⟩ := lines_some hs
  rw [h1, h2]
  exact ⟨q, cp, rfl, ws_of_own h.own (List.take_length).symm, h.below⟩

theorem lines_stop {L : List UInt8} {w wr : World} {v : Value} {W : List (List UInt8)} {cur a r : ByteArray} {b : Bool} (h : LinesSt L w wr v W cur) (h0 : cur.size ≠ 0)
    (hn : noC 10 a.data.toList) (hb : b = true → cur.data.toList = a.data.toList ++ 10 :: r.data.toList) (hf : b = false → a = cur ∧ r.size = 0)
    (hbad : b = false ∨ ¬ a.size ≤ 200 ∨ W.length = 10) : linesB L = none := by
  have hr := h.rest
  unfold linesB
  cases b with
  | false =>
    obtain ⟨rfl, _⟩ := hf rfl
    rw [splitL_no 10 _ hn] at hr
    rw [← hr]
    refine linesP_open W _ fun e => h0 ?_
    have := congrArg List.length e
    simpa using this
  | true =>
    rw [hb rfl, splitL_at 10 _ _ hn] at hr
    rw [← hr]
    rcases hbad with h1 | h1 | h1
    · cases h1
    · exact linesP_long W _ _ (splitL_ne 10 _) (by simpa using h1)
    · exact linesP_many W _ _ (splitL_ne 10 _) h1

theorem lines_add {L : List UInt8} {w wr w1 : World} {v v' : Value} {W : List (List UInt8)} {cur a r : ByteArray} (h : LinesSt L w wr v W cur)
    (hn : noC 10 a.data.toList) (hb : cur.data.toList = a.data.toList ++ 10 :: r.data.toList) (h1 : a.size ≤ 200) (h2 : W.length < 10)
    (hown : w1.ownsRow w.heap.size 9 1 v' (W.length + 1) (W.map encS ++ [.string a])) (hbl : Below w.heap.size w w1) : LinesSt L w w1 v' (W ++ [a.data.toList]) r where
  own := by
    have e : encS a.data.toList = .string a := rfl
    rw [← e] at hown
    simpa using hown
  below := hbl
  rest := by
    have hr := h.rest
    rw [hb, splitL_at 10 _ _ hn] at hr
    rw [← hr]; simp
  few := by simp; omega
  short := fun x hx => by
    rcases List.mem_append.1 hx with hx | hx
    · exact h.short x hx
    · simp at hx; subst hx; simpa using h1

end Go.Proofs.YtjofbeokkainlaaDoor
namespace Go.Proofs.YtjofbeokkainlaaDoor
open Go.ChangeShapes Go.WideShapes Go.ChangeAt Go.RowKit
set_option linter.unusedVariables false
set_option maxRecDepth 100000

/-- The lines so far, in the model. -/
structure LinesSt2 (L : List UInt8) (n : Nat) (w wr : World) (v : Value) (W : List (List UInt8)) (cur : ByteArray) : Prop where
  own : wr.ownsRow w.heap.size 9 1 v W.length (W.map encS)
  below : Below w.heap.size w wr
  rest : W ++ splitL 10 cur.data.toList = splitL 10 L
  few : W.length + cur.size ≤ n

/-- The end of l1Lines. -/
def MadeLines2 (L : List UInt8) (n : Nat) (w : World) (e : Ending) (w' : World) : Prop :=
  ∃ (v : Value) (W : List (List UInt8)) (b : Bool), e = .returned (.tuple #[v, .bool b]) ∧ w'.ownsRow w.heap.size 9 1 v W.length (W.map encS) ∧ Below w.heap.size w w' ∧ W.length ≤ n + 1 ∧
    (b = true → splitL 10 L = W ++ [[]]) ∧ (b = false → linesB L = none)

theorem lines2_end {L : List UInt8} {n : Nat} {w wr : World} {v : Value} {W : List (List UInt8)} {cur : ByteArray} (h : LinesSt2 L n w wr v W cur) (h0 : cur.size = 0) :
    MadeLines2 L n w (.returned (.tuple #[v, .bool true])) wr := by
  have hc : cur.data.toList = [] := by
    apply List.eq_nil_of_length_eq_zero
    simpa using h0
  have hr := h.rest
  rw [hc] at hr
  exact ⟨v, W, true, rfl, h.own, h.below, by have := h.few; omega, fun _ => hr.symm, (fun h => by cases h)⟩

theorem lines2_open {L : List UInt8} {n : Nat} {w wr w1 : World} {v v' : Value} {W : List (List UInt8)} {cur a r : ByteArray} (h : LinesSt2 L n w wr v W cur) (h0 : cur.size ≠ 0)
    (hn : noC 10 a.data.toList) (hf : a = cur ∧ r.size = 0)
    (hown : w1.ownsRow w.heap.size 9 1 v' (W.length + 1) (W.map encS ++ [.string a])) (hbl : Below w.heap.size w w1) : MadeLines2 L n w (.returned (.tuple #[v', .bool false])) w1 := by
  refine ⟨v', W ++ [a.data.toList], false, rfl, ?_, hbl, by simp; have := h.few; omega, (fun h => by cases h), fun _ => ?_⟩
  · have e : encS a.data.toList = .string a := rfl
    rw [← e] at hown
    simpa using hown
  · have hr := h.rest
    unfold linesB
    obtain ⟨rfl, _⟩ := hf
    rw [splitL_no 10 _ hn] at hr
    rw [← hr]
    refine linesP_open W _ fun e => h0 ?_
    have := congrArg List.length e
    simpa using this

theorem lines2_add {L : List UInt8} {n : Nat} {w wr w1 : World} {v v' : Value} {W : List (List UInt8)} {cur a r : ByteArray} (h : LinesSt2 L n w wr v W cur)
    (hn : noC 10 a.data.toList) (hb : cur.data.toList = a.data.toList ++ 10 :: r.data.toList)
    (hown : w1.ownsRow w.heap.size 9 1 v' (W.length + 1) (W.map encS ++ [.string a])) (hbl : Below w.heap.size w w1) : LinesSt2 L n w w1 v' (W ++ [a.data.toList]) r where
  own := by
    have e : encS a.data.toList = .string a := rfl
    rw [← e] at hown
    simpa using hown
  below := hbl
  rest := by
    have hr := h.rest
    rw [hb, splitL_at 10 _ _ hn] at hr
    rw [← hr]; simp
  few := by
    have := h.few
    have hs := congrArg List.length hb
    simp at hs
    simp; omega

set_option maxHeartbeats 2000000 in
theorem l1lines_any (s : ByteArray) (w : World) (hs : s.size ≤ 1048576) :
    Calls Tryd.prog 44 #[.string s] w (MadeLines2 s.data.toList s.size w) := by
  obtain ⟨i0, hi, hz0, hz1, hz2⟩ := info_parts infoStr
  obtain ⟨L, hL⟩ : ∃ L, s.data.toList = L := ⟨_, rfl⟩
  obtain ⟨n, hn⟩ : ∃ n, s.size = n := ⟨_, rfl⟩
  have HL := Lib.hid hL
  have HN := Lib.hid hn
  rw [hL, hn]
  rw [hn] at hs
  clear hL hn
  go_enter Tryd.func44, Tryd.ntmps44
  go_wp2
  go_loopw [0, 4] (fun t v wr => ∃ (cur : ByteArray) (W : List (List UInt8)) (q : Option Addr) (cp : Nat), t = .string cur ∧ v = .slice q W.length cp ∧ W.length + cur.size ≤ n ∧ Hid (LinesSt2 L n w wr v W cur)) (fun t _ _ => lenOf t)
  case atStart =>
    refine ⟨s, [], _, _, rfl, rfl, by rw [HN.out]; simp, ?_, (Below.refl _ _).alloc (Nat.le_refl _) _, by rw [HL.out]; rfl, by rw [HN.out]; simp⟩
    exact World.ownsRow_lit w #[] 0 (Nat.le_refl _) (Nat.zero_le _) rfl
  case round =>
    obtain ⟨cur, W, q, cp, rfl, rfl, hcur, HS⟩ := hrel
    obtain ⟨wl, hwl⟩ : ∃ wl, W.length = wl := ⟨_, rfl⟩
    rw [hwl] at HS hcur ⊢
    have HWL := Lib.hid hwl
    clear hwl
    by_cases h0 : cur.size = 0
    · have HE := Lib.hid (lines2_end HS.out h0)
      have he : cur.toList = [] := by
        rw [ByteArray.toList_eq]
        apply List.eq_nil_of_length_eq_zero
        simpa using h0
      have he2 : cur.toList.isEmpty = true := by rw [he]; rfl
      go_wp2
      go_ret2
      exact HE.out
    · have hcm : cur.size ≤ maxLen := by unfold maxLen; omega
      have he2 : cur.toList.isEmpty = false := by
        rw [ByteArray.toList_eq, ← Bool.not_eq_true, List.isEmpty_iff]
        intro e
        have := congrArg List.length e
        simp at this
        exact h0 (by rw [this]; rfl)
      have he3 : (!cur.toList.isEmpty) = true := by rw [he2]; rfl
      have H0 := Lib.hid h0
      clear h0
      go_wp2_with fail
      refine (cut_any cur 10 _ hcm).mono ?_
      rintro e w1 ⟨a, r, b, rfl, hB, hr, hno, hyes, hnot⟩
      have HB := Lib.hid (below_via HS.out.below hB)
      have HNO := Lib.hid hno
      have HYES := Lib.hid hyes
      have HNOT := Lib.hid hnot
      have HO := Lib.hid (own_below (by have := HS.out.own; rw [HWL.out] at this; exact this) hB)
      have HR := Lib.hid hr
      clear hB hr hno hyes hnot
      cases b with
      | false =>
        go_wp2_with (at_builtin; (refine wpList_append_own _ rfl _ _ 36 rfl w.heap.size 9 i0 _ 1 16 Tryd.underlying36 hi hz0 hz1 hz2 rfl (by decide) _ _ _ rfl (HO.out.alloc _) ⟨w1.heap.size, 0, none⟩ 1 1 [.string a] rfl rfl (one_new _ _ _) (fun u hu => by simp at hu; subst hu; rfl) (by unfold maxLen; omega) (by omega) (Nat.le_trans HB.out.size (by simp)) ?_); intro v' w2 hown1 hgrow hnil; have HO1 := Lib.hid hown1; have HG := Lib.hid hgrow; clear hown1 hgrow hnil)
        have hb : Below w.heap.size w w2 := (HB.out.alloc HB.out.size _).grown HG.out (Nat.le_trans HB.out.size (by simp)) (fun k hk => (HO.out.lt k hk).1)
        have ho := HO1.out
        rw [← HWL.out] at ho
        have HQ := Lib.hid (lines2_open HS.out H0.out HNO.out (HNOT.out trivial) ho hb)
        clear hb ho
        go_wp2
        go_ret2
        exact HQ.out
      | true =>
        go_wp2_with (at_builtin; (refine wpList_append_own _ rfl _ _ 36 rfl w.heap.size 9 i0 _ 1 16 Tryd.underlying36 hi hz0 hz1 hz2 rfl (by decide) _ _ _ rfl (HO.out.alloc _) ⟨w1.heap.size, 0, none⟩ 1 1 [.string a] rfl rfl (one_new _ _ _) (fun u hu => by simp at hu; subst hu; rfl) (by unfold maxLen; omega) (by omega) (Nat.le_trans HB.out.size (by simp)) ?_); intro v' w2 hown1 hgrow hnil; have HO1 := Lib.hid hown1; have HG := Lib.hid hgrow; clear hown1 hgrow hnil)
        obtain ⟨q1, cp1, rfl⟩ := own_form HO1.out
        go_roundw
        case rel =>
          have hb : Below w.heap.size w w2 := (HB.out.alloc HB.out.size _).grown HG.out (Nat.le_trans HB.out.size (by simp)) (fun k hk => (HO.out.lt k hk).1)
          have ho := HO1.out
          rw [← HWL.out] at ho
          have hnew := lines2_add HS.out HNO.out (HYES.out trivial) ho hb
          have hfew := hnew.few
          rw [HWL.out] at hnew
          exact ⟨r, W ++ [a.data.toList], q1, cp1, rfl, by rw [← HWL.out]; simp, hfew, hnew⟩
        case measure =>
          have hc := HYES.out trivial
          have := congrArg List.length hc
          simp at this
          simp [lenOf]
          omega

def rightB (l : Strs) : Bool := rightL (l.map fun s => s.data.toList)
theorem right_bad {l : Strs} {k : Nat} (hk : k < l.length) (h : ¬ ((strAt l k).size ≤ 200 ∧ noC 10 (strAt l k).data.toList)) : rightB l = false := by
  rw [← Bool.not_eq_true]
  intro hr
  obtain ⟨_, h2⟩ := (rightL_iff _).1 hr
  refine h ?_
  have := h2 (strAt l k).data.toList (by
    refine List.mem_map.2 ⟨strAt l k, ?_, rfl⟩
    unfold strAt
    rw [List.getD_eq_getElem?_getD, List.getElem?_eq_getElem hk]
    exact List.getElem_mem hk)
  exact ⟨by simpa using this.1, this.2⟩
theorem right_good {l : Strs} (h : ∀ k, k < l.length → (strAt l k).size ≤ 200 ∧ noC 10 (strAt l k).data.toList) : rightB l = decide (l.length ≤ 10) := by
  by_cases h10 : l.length ≤ 10
  · rw [decide_eq_true h10]
    refine (rightL_iff _).2 ⟨by simpa using h10, fun x hx => ?_⟩
    obtain ⟨s, hs, rfl⟩ := List.mem_map.1 hx
    obtain ⟨k, hk, rfl⟩ := List.getElem_of_mem hs
    have := h k hk
    unfold strAt at this
    rw [List.getD_eq_getElem?_getD, List.getElem?_eq_getElem hk] at this
    exact ⟨by simpa using this.1, this.2⟩
  · rw [decide_eq_false h10, ← Bool.not_eq_true]
    intro hr
    have := ((rightL_iff _).1 hr).1
    simp at this
    exact h10 this

set_option maxHeartbeats 2000000 in
theorem l1right_any (a : Option Addr) (len cap : Nat) (l : Strs) (w : World) (h : StrsAt w a len l) :
    Calls Tryd.prog 38 #[.slice a len cap] w (MadeBool (rightB l) w) := by
  have hm := h.max
  unfold maxLen at hm
  have HR := Lib.hid h
  have HL := Lib.hid h.length
  clear h
  go_enter Tryd.func38, Tryd.ntmps38
  go_wp2
  go_loop [3] (fun i => ∃ k : Nat, k ≤ len ∧ i = .int .i64 k ∧ Hid (∀ j, j < k → (strAt l j).size ≤ 200 ∧ noC 10 (strAt l j).data.toList)) (fun i => len - (intOf i).toNat)
  case atStart => exact ⟨0, Nat.zero_le _, rfl, fun j hj => by omega⟩
  case round =>
    obtain ⟨k, hk, rfl, HW⟩ := hrel
    by_cases hlt : k < len
    · rcases HR.out.src with hz | ⟨b, off, rfl, hb, hc⟩
      · omega
      · have c0 := hc k hlt
        have HS := Lib.hid (HR.out.sizes k hlt)
        obtain ⟨s, hs⟩ : ∃ s, strAt l k = s := ⟨_, rfl⟩
        rw [hs] at c0 HS
        have HSK := Lib.hid hs
        have hsm : s.size ≤ 9223372036854775807 := HS.out
        clear hc hb hs
        by_cases h200 : s.size ≤ 200
        · have g1 : ¬ (200 : Int) < (s.size : Int) := by omega
          go_wp2
          go_loop [4] (fun i => ∃ m : Nat, m ≤ s.size ∧ i = .int .i64 m ∧ Hid (noC 10 (piece s.data.toList 0 m))) (fun i => s.size - (intOf i).toNat)
          case atStart => exact ⟨0, Nat.zero_le _, rfl, by rw [piece_empty]; exact noC_nil⟩
          case round =>
            obtain ⟨m, hm1, rfl, HN⟩ := hrel
            by_cases hml : m < s.size
            · have hkl : m < s.data.toList.length := by simpa using hml
              by_cases hc10 : s[m] = 10
              · have hb0 : (((s[m]).toNat : Int) == 10) = true := by rw [hc10]; rfl
                have HQ := Lib.hid (right_bad (l := l) (k := k) (by rw [HL.out]; exact hlt) (by rw [HSK.out]; exact fun h => h.2 10 (by rw [← hc10, ← byte_at rfl m hml hkl]; exact List.getElem_mem hkl) rfl))
                clear hc10
                go_wp2
                go_ret
                exact ⟨ret_bool HQ.out.symm, Below.refl _ _⟩
              · have hb0 : (((s[m]).toNat : Int) == 10) = false := by
                  simp only [beq_eq_false_iff_ne]
                  intro h
                  exact hc10 (UInt8.toNat_inj.1 (by show (s[m]).toNat = 10; omega))
                have HC := Lib.hid hc10
                clear hc10
                go_wp2
                go_round
                case rel => exact ⟨m + 1, by omega, by go_num, by rw [piece_snoc _ 0 m (Nat.zero_le _) hkl]; exact noC_snoc HN.out (by rw [byte_at rfl m hml hkl]; exact HC.out)⟩
                case measure => simp [intOf]; omega
            · obtain rfl : m = s.size := by omega
              have HN2 := Lib.hid (show noC 10 s.data.toList by
                have := HN.out
                rw [show s.size = s.data.toList.length by simp, piece_end] at this
                simpa using this)
              go_wp2
              go_round
              case rel => exact ⟨k + 1, by omega, by go_num, fun j hj => by
                rcases Nat.lt_or_ge j k with h | h
                · exact HW.out j h
                · obtain rfl : j = k := by omega
                  rw [HSK.out]; exact ⟨h200, HN2.out⟩⟩
              case measure => simp [intOf]; omega
        · have g1 : (200 : Int) < (s.size : Int) := by omega
          have HQ := Lib.hid (right_bad (l := l) (k := k) (by rw [HL.out]; exact hlt) (by rw [HSK.out]; exact fun h => h200 h.1))
          clear h200
          go_wp2
          go_ret
          exact ⟨ret_bool HQ.out.symm, Below.refl _ _⟩
    · obtain rfl : k = len := by omega
      have HQ := Lib.hid (right_good (l := l) (by rw [HL.out]; exact HW.out))
      have HD := Lib.hid (show decide (l.length ≤ 10) = decide ((k : Int) ≤ 10) by rw [HL.out]; exact decide_eq_decide.2 (by omega))
      go_wp2
      go_ret
      exact ⟨ret_bool (HQ.out.trans HD.out).symm, Below.refl _ _⟩

set_option maxHeartbeats 1000000 in
theorem slinesof_any (s : ByteArray) (w : World) (hs : s.size ≤ 1048576) :
    Calls Tryd.prog 27 #[.string s] w (MadeWsB (linesW s.data.toList) (linesK s.data.toList) w) := by
  obtain ⟨L, hL⟩ : ∃ L, s.data.toList = L := ⟨_, rfl⟩
  have HL := Lib.hid hL
  rw [hL]
  clear hL
  go_enter Tryd.func27, Tryd.ntmps27
  go_wp2_with fail
  refine (l1lines_any s _ hs).mono ?_
  rw [HL.out]
  rintro e w1 ⟨v, W, b, rfl, hown, hB, hlen, hyes, hno⟩
  obtain ⟨q, cp, rfl⟩ := own_form hown
  have HB := Lib.hid hB
  cases b with
  | false =>
    have HQ := Lib.hid (madews_none (hno rfl) hB)
    clear hown hB hlen hyes hno
    go_wp2
    go_ret2
    exact HQ.out
  | true =>
    have HS := Lib.hid (hyes rfl)
    have hW : Ws w.heap.size w1 q W := ws_of_own hown (List.take_length).symm
    have HW := Lib.hid hW
    have hsz : ∀ x ∈ W, x.length ≤ s.size := fun x hx => by
      have := split_short 10 s.data.toList x (by rw [HL.out, HS.out]; simp [hx])
      simpa using this
    have hst : StrsAt w1 q W.length (strsOf W) := by
      refine ⟨by simp [strsOf], by unfold maxLen; omega, fun i hi => by
        rw [strAt_of W i hi]
        have := hsz W[i] (List.getElem_mem hi)
        show W[i].length ≤ maxLen
        unfold maxLen; omega, ?_⟩
      rcases hW with h0 | ⟨g, cur, rfl, _, hr, _, hc⟩
      · exact .inl h0
      · refine .inr ⟨g, 0, rfl, hr.lt, fun i hi => ?_⟩
        rw [strAt_of W i hi]
        have := hc i hi
        unfold Row at hr
        simp [World.cell?, hr, this, encS]
    have HST := Lib.hid hst
    have hrb : rightB (strsOf W) = rightL W := by
      unfold rightB strsOf
      simp [List.map_map, Function.comp_def]
    obtain ⟨wl, hwl⟩ : ∃ wl, W.length = wl := ⟨_, rfl⟩
    rw [hwl] at HST ⊢
    have HWL := Lib.hid hwl
    have HRB := Lib.hid hrb
    have hlb := linesB_of_split HS.out
    cases hr : rightL W with
    | false =>
      rw [hr] at hlb
      have HQ := fun (w2 : World) (h : Below w.heap.size w w2) => madews_none (L := L) hlb h
      have HQ := Lib.hid HQ
      have HRR := Lib.hid hr
      clear hown hB hlen hyes hno hW hsz hst hrb hwl hlb hr
      go_wp2_with fail
      refine (l1right_any q wl cp (strsOf W) _ HST.out).mono ?_
      rw [HRB.out, HRR.out]
      rintro e w2 ⟨rfl, hB⟩
      have HB := Lib.hid (below_via HB.out hB)
      clear hB
      go_wp2
      go_ret2
      exact HQ.out _ HB.out
    | true =>
      rw [hr] at hlb
      have HLB := Lib.hid (lines_some hlb)
      have HRR := Lib.hid hr
      clear hown hB hlen hyes hno hW hsz hst hrb hwl hlb hr
      go_wp2_with fail
      refine (l1right_any q wl cp (strsOf W) _ HST.out).mono ?_
      rw [HRB.out, HRR.out]
      rintro e w2 ⟨rfl, hB⟩
      have HW := Lib.hid (ws_keep HW.out hB)
      have HB := Lib.hid (below_via HB.out hB)
      clear hB
      go_wp2
      go_ret2
      rw [HLB.out.1, HLB.out.2]
      exact ⟨q, cp, by rw [HWL.out]; rfl, HW.out, HB.out⟩
end Go.Proofs.YtjofbeokkainlaaDoor
namespace Go.Proofs.YtjofbeokkainlaaDoor
open Go.ChangeShapes Go.WideShapes Go.ChangeAt Go.RowKit
set_option linter.unusedVariables false
set_option maxRecDepth 100000

theorem lines_short (s : ByteArray) : Short (linesW s.data.toList) := by
  obtain ⟨h1, h2⟩ := linesW_few s.data.toList
  refine ⟨by omega, fun j h => ?_⟩
  have := h2 _ (List.getElem_mem h)
  unfold maxLen; omega

end Go.Proofs.YtjofbeokkainlaaDoor
