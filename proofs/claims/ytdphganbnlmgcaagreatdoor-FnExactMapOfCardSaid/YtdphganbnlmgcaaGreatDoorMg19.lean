/- Texts put together, as a claim holds at most sixty files. -/
import Derived.Test.YtdphganbnlmgcaaGreatDoorMg10
import Derived.Test.YtdphganbnlmgcaaGreatDoorMg18
import Derived.Test.YtdphganbnlmgcaaGreatDoorMg6
import Derived.Test.YtdphganbnlmgcaaGreatDoorShelf
import Derived.Lib.IndexLaws
import Derived.Test.YtdphganbnlmgcaaGreatDoorMg9
import Derived.Test.YtdphganbnlmgcaaGreatDoorMg8
namespace Go.Proofs.YtdphganbnlmgcaaGreatDoor
open Go.ChangeShapes Go.WideShapes Go.ChangeAt Go.RowKit
set_option linter.unusedVariables false
set_option maxRecDepth 100000

/-- Records and code of the first k lines. -/
def emitTo (l : Instrs) (each : Bool) (L : Strs) : Nat → Recs × Int
  | 0 => ([], 0)
  | k + 1 => if (emitTo l each L k).2 ≠ 0 then emitTo l each L k else if (lineR l each (strAt L k)).2 ≠ 0 then ([], (lineR l each (strAt L k)).2) else ((emitTo l each L k).1 ++ (lineR l each (strAt L k)).1, 0)
theorem emitTo_bad {l : Instrs} {each : Bool} {L : Strs} {k n : Nat} (h : (emitTo l each L k).2 ≠ 0) (hk : k ≤ n) : emitTo l each L n = emitTo l each L k := by
  induction n with
  | zero => obtain rfl : k = 0 := by omega
            rfl
  | succ n ih =>
    rcases Nat.lt_or_ge n k with h1 | h1
    · obtain rfl : k = n + 1 := by omega
      rfl
    · have := ih h1
      rw [emitTo, this, if_pos h]
theorem emitTo_stop {l : Instrs} {each : Bool} {L : Strs} {k : Nat} {O : Recs} (h : emitTo l each L k = (O, 0)) {V : Recs} {c : Int} (hr : lineR l each (strAt L k) = (V, c)) (hc : c ≠ 0) : emitTo l each L (k + 1) = ([], c) := by
  rw [emitTo, if_neg (by rw [h]; exact fun h => h rfl), hr, if_pos hc]
theorem emitTo_go {l : Instrs} {each : Bool} {L : Strs} {k : Nat} {O : Recs} (h : emitTo l each L k = (O, 0)) {V : Recs} {c : Int} (hr : lineR l each (strAt L k) = (V, c)) (hc : c = 0) : emitTo l each L (k + 1) = (O ++ V, 0) := by
  rw [emitTo, if_neg (by rw [h]; exact fun h => h rfl), hr, if_neg (by simpa using hc), h]
theorem emitTo_facts {l : Instrs} {each : Bool} (L : Strs) (hn : ∀ i, i < l.length → In64 (ins1 l i)) : ∀ k, (emitTo l each L k).1.length ≤ 600 * k ∧ (∀ r ∈ (emitTo l each L k).1, r.1.size ≤ 40 ∧ In64 r.2) ∧ (0 ≤ (emitTo l each L k).2 ∧ (emitTo l each L k).2 ≤ 2) ∧ ((emitTo l each L k).2 ≠ 0 → (emitTo l each L k).1 = [])
  | 0 => ⟨by simp [emitTo], fun r hr => absurd hr (by simp [emitTo]), ⟨by simp [emitTo], by simp [emitTo]⟩, fun _ => rfl⟩
  | k + 1 => by
    have ih := emitTo_facts (each := each) L hn k
    have he := lineR_facts (each := each) (s := strAt L k) hn
    rw [emitTo]
    split
    · exact ⟨by have := ih.1; omega, ih.2⟩
    · split
      · exact ⟨by simp, fun r hr => absurd hr (by simp), he.2.2.1, fun _ => rfl⟩
      · refine ⟨by rw [List.length_append]; have := ih.1; have := he.1; omega, fun r hr => ?_, ⟨by simp, by simp⟩, fun h => absurd rfl h⟩
        rcases List.mem_append.1 hr with hr | hr
        · exact ih.2.1 r hr
        · exact he.2.1 r hr
/-- Records and code of a split with these lines. -/
def emitR (l : Instrs) (each : Bool) (L : Strs) : Recs × Int :=
  if (emitTo l each L L.length).2 = 0 ∧ 600 < (emitTo l each L L.length).1.length then ([], 3) else emitTo l each L L.length
theorem emitR_bad {l : Instrs} {each : Bool} {L : Strs} {c : Int} {n : Nat} (hn : L.length = n) (h : emitTo l each L n = ([], c)) (hc : c ≠ 0) : emitR l each L = ([], c) := by
  unfold emitR
  rw [hn, h, if_neg (fun h2 => hc h2.1)]
theorem emitR_many {l : Instrs} {each : Bool} {L : Strs} {O : Recs} {n : Nat} (hn : L.length = n) (h : emitTo l each L n = (O, 0)) (ho : 600 < O.length) : emitR l each L = ([], 3) := by
  unfold emitR
  rw [hn, h, if_pos ⟨rfl, ho⟩]
theorem emitR_all {l : Instrs} {each : Bool} {L : Strs} {O : Recs} {n : Nat} (hn : L.length = n) (h : emitTo l each L n = (O, 0)) (ho : ¬ 600 < O.length) : emitR l each L = (O, 0) := by
  unfold emitR
  rw [hn, h, if_neg (fun h2 => ho h2.2)]
theorem emitR_facts {l : Instrs} {each : Bool} (L : Strs) (hn : ∀ i, i < l.length → In64 (ins1 l i)) : (emitR l each L).1.length ≤ 600 ∧ (∀ r ∈ (emitR l each L).1, r.1.size ≤ 40 ∧ In64 r.2) ∧ (0 ≤ (emitR l each L).2 ∧ (emitR l each L).2 ≤ 3) ∧ ((emitR l each L).2 ≠ 0 → (emitR l each L).1 = []) := by
  have h := emitTo_facts (each := each) L hn L.length
  unfold emitR
  split
  · exact ⟨by simp, fun r hr => absurd hr (by simp), ⟨by simp, by simp⟩, fun _ => rfl⟩
  · rename_i hno
    refine ⟨?_, h.2.1, ⟨h.2.2.1.1, by have := h.2.2.1.2; omega⟩, h.2.2.2⟩
    by_cases hc : (emitTo l each L L.length).2 = 0
    · have : ¬ 600 < (emitTo l each L L.length).1.length := fun h => hno ⟨hc, h⟩
      omega
    · rw [h.2.2.2 hc]; simp
/-- The records of part p of n. -/
def partL (V : Recs) (n p : Int) : Recs := V.filter fun r => decide (partN r.1 n = p)
theorem partL_in {V : Recs} {n p : Int} {k : Nat} (hk : k < V.length) (h : partN (keyAt V k) n = p) : partL (V.take (k + 1)) n p = partL (V.take k) n p ++ [(keyAt V k, numAt V k)] := by
  have e : V[k] = (keyAt V k, numAt V k) := by unfold keyAt numAt; simp [List.getD_eq_getElem?_getD, hk]
  unfold partL
  rw [List.take_succ_eq_append_getElem hk, List.filter_append, e]
  simp [h]
theorem partL_out {V : Recs} {n p : Int} {k : Nat} (hk : k < V.length) (h : ¬ partN (keyAt V k) n = p) : partL (V.take (k + 1)) n p = partL (V.take k) n p := by
  have e : V[k] = (keyAt V k, numAt V k) := by unfold keyAt numAt; simp [List.getD_eq_getElem?_getD, hk]
  unfold partL
  rw [List.take_succ_eq_append_getElem hk, List.filter_append, e]
  simp [h]
theorem partL_few (V : Recs) (n p : Int) : (partL V n p).length ≤ V.length := List.length_filter_le _ _
theorem partL_mem {V : Recs} {n p : Int} {r : ByteArray × Int} (h : r ∈ partL V n p) : r ∈ V := (List.mem_filter.1 h).1
end Go.Proofs.YtdphganbnlmgcaaGreatDoor
namespace Go.Proofs.YtdphganbnlmgcaaGreatDoor
open Go.ChangeShapes Go.WideShapes Go.ChangeAt Go.RowKit
set_option linter.unusedVariables false
set_option maxRecDepth 100000

def Same1 (x : Int) (w : World) (e : Ending) (w' : World) : Prop := e = .returned (.int .i64 x) ∧ w = w'
theorem idx_any (s : ByteArray) (c : UInt8) (x : Int) (w : World) (h : Lib.indexByte s.data.toList c = x) : Calls Tryz.prog 97 #[.string s, .string ⟨#[c]⟩] w (Same1 x w) :=
  (Tryz.stringslite_Index_one s c w).mono fun e w' ⟨he, hw⟩ => ⟨by rw [he, h], hw.symm⟩

theorem noC_of_idx {l : List UInt8} {c : UInt8} (h : Lib.indexByte l c = -1) : noC c l := by
  intro x hx hxc
  obtain ⟨k, hk, rfl⟩ := List.getElem_of_mem hx
  exact Lib.indexByte_none h k (by rw [List.getElem?_eq_getElem hk, hxc])
theorem idx_of_noC {l : List UInt8} {c : UInt8} (h : noC c l) : Lib.indexByte l c = -1 := by
  have hge := Lib.indexByte_ge l c
  by_cases hn : Lib.indexByte l c = -1
  · exact hn
  · obtain ⟨k, hk⟩ : ∃ k : Nat, Lib.indexByte l c = k := ⟨(Lib.indexByte l c).toNat, by omega⟩
    obtain ⟨h1, _⟩ := Lib.indexByte_some hk
    obtain ⟨hlt, he⟩ := List.getElem?_eq_some_iff.1 h1
    exact absurd he (h _ (List.getElem_mem hlt))

theorem cut_facts {s : ByteArray} {c : UInt8} {k : Nat} (h : Lib.indexByte s.data.toList c = k) : k < s.size ∧ noC c (s.extract 0 k).data.toList ∧ s.data.toList = (s.extract 0 k).data.toList ++ c :: (s.extract (k + 1) s.size).data.toList := by
  obtain ⟨h1, h2⟩ := Lib.indexByte_some h
  obtain ⟨hlt, he⟩ := List.getElem?_eq_some_iff.1 h1
  have hs : k < s.size := by simpa using hlt
  have e1 : (s.extract 0 k).data.toList = piece s.data.toList 0 k := by rw [extract_piece]
  have e2 : (s.extract (k + 1) s.size).data.toList = s.data.toList.drop (k + 1) := by
    rw [extract_piece, show s.size = s.data.toList.length by simp, piece_end]
  have e3 := drop_piece s.data.toList 0 k (Nat.zero_le _) hlt
  rw [List.drop_zero, he] at e3
  refine ⟨hs, ?_, by rw [e1, e2]; exact e3⟩
  rw [e1]
  intro x hx hxc
  unfold piece at hx
  obtain ⟨j, hj, hjx⟩ := List.getElem_of_mem hx
  simp at hj hjx
  refine h2 j (by omega) ?_
  rw [List.getElem?_eq_getElem (by simp; omega)]
  simp [hjx, hxc]

set_option maxHeartbeats 1000000 in
theorem lcut_any (s : ByteArray) (c : UInt8) (w : World) (hs : s.size ≤ maxLen) :
    Calls Tryz.prog 91 #[.string s, .string ⟨#[c]⟩] w (MadeCut c s w) := by
  unfold maxLen at hs
  have hge := Lib.indexByte_ge s.data.toList c
  by_cases hneg : Lib.indexByte s.data.toList c = -1
  · have HN := Lib.hid (noC_of_idx hneg)
    have HI := Lib.hid hneg
    clear hneg hge
    go_enter Tryz.func91, Tryz.ntmps91
    go_wp2_with (go_at_call 97; refine (idx_any s c (-1) _ HI.out).mono ?_; rintro e w' ⟨rfl, rfl⟩)
    go_ret3
    exact ⟨s, ByteArray.empty, false, rfl, Below.refl _ _, Nat.zero_le _, HN.out, (fun h => by cases h), fun _ => ⟨rfl, rfl⟩⟩
  · obtain ⟨k, hk⟩ : ∃ k : Nat, Lib.indexByte s.data.toList c = k := ⟨(Lib.indexByte s.data.toList c).toNat, by omega⟩
    obtain ⟨hlt, hno, hcut⟩ := cut_facts hk
    have HI := Lib.hid hk
    have HNO := Lib.hid hno
    have HCUT := Lib.hid hcut
    have hi0 : (0 : Int) ≤ (k : Int) := by omega
    have hi1 : (k : Int) ≤ (s.size : Int) := by omega
    have hj0 : (0 : Int) ≤ (k : Int) + 1 := by omega
    have hj1 : (k : Int) + 1 ≤ (s.size : Int) := by omega
    clear hk hno hcut hneg hge
    go_enter Tryz.func91, Tryz.ntmps91
    go_wp2_with (go_at_call 97; refine (idx_any s c k _ HI.out).mono ?_; rintro e w' ⟨rfl, rfl⟩)
    have hj2 : ((k : Int) + 1).toNat = k + 1 := by omega
    have hwr : IntKind.i64.wrap ((k : Int) + 1) = (k : Int) + 1 := IntWalk.i64_in _ (by omega)
    go_quiet (fail)
    clear hj2 hwr
    go_wp2
    go_ret3
    exact ⟨_, _, true, rfl, below_drewN (Below.refl _ _) _, by rw [ByteArray.size_extract]; omega, HNO.out, fun _ => HCUT.out, (fun h => by cases h)⟩

set_option maxHeartbeats 1000000 in
theorem stdcut_any (s : ByteArray) (c : UInt8) (w : World) (hs : s.size ≤ maxLen) :
    Calls Tryz.prog 82 #[.string s, .string ⟨#[c]⟩] w (MadeCut c s w) := by
  go_enter Tryz.func82, Tryz.ntmps82
  go_wp2_with fail
  refine (lcut_any s c _ hs).mono ?_
  rintro e w1 ⟨a, r, b, rfl, hB, hr, hno, hyes, hnot⟩
  have HB := Lib.hid hB
  have HR := Lib.hid hr
  have HNO := Lib.hid hno
  have HY := Lib.hid hyes
  have HN := Lib.hid hnot
  clear hB hr hno hyes hnot
  go_wp2
  go_ret3
  exact ⟨a, r, b, rfl, HB.out, HR.out, HNO.out, HY.out, HN.out⟩

def hasC (c : UInt8) (s : ByteArray) : Bool := !(s.data.toList.all fun x => x != c)
def SameB (x : Bool) (w : World) (e : Ending) (w' : World) : Prop := e = .returned (.bool x) ∧ w = w'
theorem hasC_idx (c : UInt8) (s : ByteArray) : decide (0 ≤ Lib.indexByte s.data.toList c) = hasC c s := by
  unfold hasC
  by_cases h : noC c s.data.toList
  · rw [idx_of_noC h]
    have : (s.data.toList.all fun x => x != c) = true := by rw [List.all_eq_true]; intro x hx; simpa using h x hx
    rw [this]; rfl
  · have hne : Lib.indexByte s.data.toList c ≠ -1 := fun e => h (noC_of_idx e)
    have := Lib.indexByte_ge s.data.toList c
    have h2 : (s.data.toList.all fun x => x != c) = false := by
      rw [← Bool.not_eq_true, List.all_eq_true]
      intro h3
      exact h fun x hx => by simpa using h3 x hx
    rw [h2, decide_eq_true (by omega)]; rfl
end Go.Proofs.YtdphganbnlmgcaaGreatDoor
namespace Go.Proofs.YtdphganbnlmgcaaGreatDoor
open Go.ChangeShapes Go.WideShapes Go.ChangeAt Go.RowKit
set_option linter.unusedVariables false
set_option maxRecDepth 100000

/-- The lines so far. -/
structure LinesSt (L : List UInt8) (w wr : World) (v : Value) (W : List (List UInt8)) (cur : ByteArray) : Prop where
  own : wr.ownsRow w.heap.size 9 1 v W.length (W.map encS)
  below : Below w.heap.size w wr
  rest : W ++ splitL 10 cur.data.toList = splitL 10 L
  few : W.length ≤ 10
  short : ∀ x ∈ W, x.length ≤ 200

/-- The end of a function that returns texts in a row of its own, and a bool. -/
def MadeWsB (W : List (List UInt8)) (b : Bool) (w : World) (e : Ending) (w' : World) : Prop :=
  ∃ q cp, e = .returned (.tuple #[.slice q W.length cp, .bool b]) ∧ Ws w.heap.size w' q W ∧ Below w.heap.size w w'

theorem madews_none {L : List UInt8} {w w' : World} (h : linesB L = none) (hB : Below w.heap.size w w') : MadeWsB (linesW L) (linesK L) w (.returned (.tuple #[.slice none 0 0, .bool false])) w' := by
  obtain ⟨h1, h2⟩ := lines_none h
  rw [h1, h2]
  exact ⟨none, 0, rfl, .inl rfl, hB⟩

theorem lines_end {L : List UInt8} {w wr : World} {q : Option Addr} {n cp : Nat} {W : List (List UInt8)} {cur : ByteArray} (h : LinesSt L w wr (.slice q n cp) W cur) (hn : W.length = n) (h0 : cur.size = 0) :
    MadeWsB (linesW L) (linesK L) w (.returned (.tuple #[.slice q n cp, .bool true])) wr := by
  subst hn
  have hc : cur.data.toList = [] := by
    apply List.eq_nil_of_length_eq_zero
    simpa using h0
  have hr := h.rest
  rw [hc] at hr
  have hs : linesB L = some W := by
    unfold linesB
    rw [← hr]
    exact linesP_done W h.few h.short
  obtain ⟨h1, h2⟩ := lines_some hs
  rw [h1, h2]
  exact ⟨q, cp, rfl, ws_of_own h.own (List.take_length).symm, h.below⟩

theorem lines_stop {L : List UInt8} {w wr : World} {v : Value} {W : List (List UInt8)} {cur a r : ByteArray} {b : Bool} (h : LinesSt L w wr v W cur) (h0 : cur.size ≠ 0)
    (hn : noC 10 a.data.toList) (hb : b = true → cur.data.toList = a.data.toList ++ 10 :: r.data.toList) (hf : b = false → a = cur ∧ r.size = 0)
    (hbad : b = false ∨ ¬ a.size ≤ 200 ∨ W.length = 10) : linesB L = none := by
  have hr := h.rest
  unfold linesB
  cases b with
  | false =>
    obtain ⟨rfl, _⟩ := hf rfl
    rw [splitL_no 10 _ hn] at hr
    rw [← hr]
    refine linesP_open W _ fun e => h0 ?_
    have := congrArg List.length e
    simpa using this
  | true =>
    rw [hb rfl, splitL_at 10 _ _ hn] at hr
    rw [← hr]
    rcases hbad with h1 | h1 | h1
    · cases h1
    · exact linesP_long W _ _ (splitL_ne 10 _) (by simpa using h1)
    · exact linesP_many W _ _ (splitL_ne 10 _) h1

theorem lines_add {L : List UInt8} {w wr w1 : World} {v v' : Value} {W : List (List UInt8)} {cur a r : ByteArray} (h : LinesSt L w wr v W cur)
    (hn : noC 10 a.data.toList) (hb : cur.data.toList = a.data.toList ++ 10 :: r.data.toList) (h1 : a.size ≤ 200) (h2 : W.length < 10)
    (hown : w1.ownsRow w.heap.size 9 1 v' (W.length + 1) (W.map encS ++ [.string a])) (hbl : Below w.heap.size w w1) : LinesSt L w w1 v' (W ++ [a.data.toList]) r where
  own := by
    have e : encS a.data.toList = .string a := rfl
    rw [← e] at hown
    simpa using hown
  below := hbl
  rest := by
    have hr := h.rest
    rw [hb, splitL_at 10 _ _ hn] at hr
    rw [← hr]; simp
  few := by simp; omega
  short := fun x hx => by
    rcases List.mem_append.1 hx with hx | hx
    · exact h.short x hx
    · simp at hx; subst hx; simpa using h1

set_option maxHeartbeats 2000000 in
theorem linesof_any (s : ByteArray) (w : World) (hs : s.size ≤ 1048576) :
    Calls Tryz.prog 67 #[.string s] w (MadeWsB (linesW s.data.toList) (linesK s.data.toList) w) := by
  obtain ⟨i0, hi, hz0, hz1, hz2⟩ := info_parts infoStr
  obtain ⟨L, hL⟩ : ∃ L, s.data.toList = L := ⟨_, rfl⟩
  obtain ⟨n, hn⟩ : ∃ n, s.size = n := ⟨_, rfl⟩
  have HL := Lib.hid hL
  have HN := Lib.hid hn
  rw [hL]
  rw [hn] at hs
  clear hL hn
  go_enter Tryz.func67, Tryz.ntmps67
  go_wp2
  go_loopw [0, 4] (fun t v wr => ∃ (cur : ByteArray) (W : List (List UInt8)) (q : Option Addr) (cp : Nat), t = .string cur ∧ v = .slice q W.length cp ∧ cur.size ≤ n ∧ Hid (LinesSt L w wr v W cur)) (fun t _ _ => lenOf t)
  case atStart =>
    refine ⟨s, [], _, _, rfl, rfl, by rw [HN.out]; exact Nat.le_refl _, World.ownsRow_nil _ _ _ _, Below.refl _ _, by rw [HL.out]; rfl, Nat.zero_le _, by simp⟩
  case round =>
    obtain ⟨cur, W, q, cp, rfl, rfl, hcur, HS⟩ := hrel
    obtain ⟨wl, hwl⟩ : ∃ wl, W.length = wl := ⟨_, rfl⟩
    have hfew : wl ≤ 10 := by rw [← hwl]; exact HS.out.few
    rw [hwl] at HS ⊢
    have HWL := Lib.hid hwl
    clear hwl
    by_cases h0 : cur.size = 0
    · have HE := Lib.hid (lines_end HS.out HWL.out h0)
      have he : cur.toList = [] := by
        rw [ByteArray.toList_eq]
        apply List.eq_nil_of_length_eq_zero
        simpa using h0
      have he2 : cur.toList.isEmpty = true := by rw [he]; rfl
      go_wp2
      go_ret2
      exact HE.out
    · have hcm : cur.size ≤ maxLen := by unfold maxLen; omega
      have he2 : cur.toList.isEmpty = false := by
        rw [ByteArray.toList_eq, ← Bool.not_eq_true, List.isEmpty_iff]
        intro e
        have := congrArg List.length e
        simp at this
        exact h0 (by rw [this]; rfl)
      have he3 : (!cur.toList.isEmpty) = true := by rw [he2]; rfl
      have H0 := Lib.hid h0
      clear h0
      go_wp2_with fail
      refine (stdcut_any cur 10 _ hcm).mono ?_
      rintro e w1 ⟨a, r, b, rfl, hB, hr, hno, hyes, hnot⟩
      have HB := Lib.hid (below_via HS.out.below hB)
      have HNO := Lib.hid hno
      have HYES := Lib.hid hyes
      have HNOT := Lib.hid hnot
      have HO := Lib.hid (own_below (by have := HS.out.own; rw [HWL.out] at this; exact this) hB)
      have HR := Lib.hid hr
      clear hB hr hno hyes hnot
      cases b with
      | false =>
        have HQ := Lib.hid (madews_none (lines_stop HS.out H0.out HNO.out HYES.out HNOT.out (.inl rfl)) HB.out)
        go_wp2
        go_ret2
        exact HQ.out
      | true =>
        by_cases h1 : a.size ≤ 200
        · have g1 : ¬ (200 : Int) < (a.size : Int) := by omega
          by_cases h2 : wl = 10
          · have g2 : (((wl : Nat) : Int) == 10) = true := by simp; omega
            have HQ := Lib.hid (madews_none (lines_stop HS.out H0.out HNO.out HYES.out HNOT.out (.inr (.inr (by rw [HWL.out]; exact h2)))) HB.out)
            clear h2
            go_wp2
            go_ret2
            exact HQ.out
          · have g2 : (((wl : Nat) : Int) == 10) = false := by simp; omega
            go_wp2_with (at_builtin; (refine wpList_append_own _ rfl _ _ 23 rfl w.heap.size 9 i0 _ 1 16 Tryz.underlying23 hi hz0 hz1 hz2 rfl (by decide) _ _ _ rfl (HO.out.alloc _) ⟨w1.heap.size, 0, none⟩ 1 1 [.string a] rfl rfl (one_new _ _ _) (fun u hu => by simp at hu; subst hu; rfl) (by unfold maxLen; omega) (by omega) (Nat.le_trans HB.out.size (by simp)) ?_); intro v' w2 hown1 hgrow hnil; have HO1 := Lib.hid hown1; have HG := Lib.hid hgrow; clear hown1 hgrow hnil)
            obtain ⟨q1, cp1, rfl⟩ := own_form HO1.out
            go_roundw
            case rel =>
              have hb : Below w.heap.size w w2 := (HB.out.alloc HB.out.size _).grown HG.out (Nat.le_trans HB.out.size (by simp)) (fun k hk => (HO.out.lt k hk).1)
              have ho := HO1.out
              rw [← HWL.out] at ho
              have hnew := lines_add HS.out HNO.out (HYES.out trivial) h1 (by rw [HWL.out]; omega) ho hb
              rw [HWL.out] at hnew
              exact ⟨r, W ++ [a.data.toList], q1, cp1, rfl, by rw [← HWL.out]; simp, by have := HR.out; omega, hnew⟩
            case measure =>
              have hc := HYES.out trivial
              have := congrArg List.length hc
              simp at this
              simp [lenOf]
              omega
        · have g1 : (200 : Int) < (a.size : Int) := by omega
          have HQ := Lib.hid (madews_none (lines_stop HS.out H0.out HNO.out HYES.out HNOT.out (.inr (.inl h1))) HB.out)
          clear h1
          go_wp2
          go_ret2
          exact HQ.out
end Go.Proofs.YtdphganbnlmgcaaGreatDoor
