/- Texts put together, as a claim holds at most sixty files. -/
import Derived.Test.YtjofbeokkainlaaDoorJob
import Derived.Test.YtjofbeokkainlaaDoorMg12
import Derived.Test.YtjofbeokkainlaaDoorMg2
import Derived.Test.YtjofbeokkainlaaDoorMg31
import Derived.Test.YtjofbeokkainlaaDoorMg8
namespace Go.Proofs.YtjofbeokkainlaaDoor
open Go.ChangeShapes Go.WideShapes Go.ChangeAt Go.RowKit
set_option linter.unusedVariables false
set_option maxRecDepth 100000

def splitB (m : Strs) (i : Nat) : Bool := linesK (strAt m i).data.toList
def allB (m : Strs) : Nat → Bool
  | 0 => true
  | k + 1 => allB m k && splitB m k
theorem allB_step {m : Strs} {k : Nat} (h : allB m k = true) (h1 : splitB m k = true) : allB m (k + 1) = true := by
  show (allB m k && splitB m k) = true
  rw [h, h1]; rfl
theorem allB_bad {m : Strs} {k : Nat} : ∀ {n : Nat}, k < n → splitB m k = false → allB m n = false
  | n + 1, hk, h => by
    show (allB m n && splitB m n) = false
    by_cases hn : k = n
    · subst hn; rw [h, Bool.and_false]
    · rw [allB_bad (by omega) h, Bool.false_and]
def splitsB (m : Strs) (n : Nat) : Bool := inB n 1 4 && allB m n
def jobB (l : Instrs) (o1 n1 : Int) (m : Strs) (sl : Nat) : Bool := progB l && (opOkB o1 && (inB n1 1 3 && splitsB m sl))

set_option maxHeartbeats 2000000 in
theorem sjobok_any (p s : Option Addr) (pl pc sl sc : Nat) (e1 : Bool) (o1 n1 : Int) (l : Instrs) (m : Strs) (w : World) (h : JobAt w p pl l s sl m) (hsz : ∀ i, i < sl → (strAt m i).size ≤ 1048576) :
    Calls Tryd.prog 16 #[.agg #[.slice p pl pc, .bool e1, .int .i64 o1, .int .i64 n1, .slice s sl sc]] w (MadeBool (jobB l o1 n1 m sl) w) := by
  have HB := Lib.hid (below_alloc (Below.refl w.heap.size w) (.cells #[.slice p pl pc, .bool e1, .int .i64 o1, .int .i64 n1, .slice s sl sc] 38))
  have HX := Lib.hid (row_new w #[.slice p pl pc, .bool e1, .int .i64 o1, .int .i64 n1, .slice s sl sc] 38)
  have HS := Lib.hid (h.keep HB.out)
  have HZ := Lib.hid hsz
  have hm := h.t.max
  unfold maxLen at hm
  obtain ⟨q0, hq0⟩ : ∃ q0, jobB l o1 n1 m sl = q0 := ⟨_, rfl⟩
  obtain ⟨q1, hq1⟩ : ∃ q1, progB l = q1 := ⟨_, rfl⟩
  obtain ⟨q2, hq2⟩ : ∃ q2, opOkB o1 = q2 := ⟨_, rfl⟩
  obtain ⟨q3, hq3⟩ : ∃ q3, inB n1 1 3 = q3 := ⟨_, rfl⟩
  obtain ⟨q4, hq4⟩ : ∃ q4, inB sl 1 4 = q4 := ⟨_, rfl⟩
  have H1 := Lib.hid hq1
  have H2 := Lib.hid hq2
  have H3 := Lib.hid hq3
  have H4 := Lib.hid hq4
  have HJ := Lib.hid (show q0 = (q1 && (q2 && (q3 && (q4 && allB m sl)))) by rw [← hq0, ← hq1, ← hq2, ← hq3, ← hq4]; rfl)
  rw [hq0]
  clear h hsz hq0 hq1 hq2 hq3 hq4
  obtain ⟨W0, hW0⟩ : ∃ W0, w.alloc (.cells #[.slice p pl pc, .bool e1, .int .i64 o1, .int .i64 n1, .slice s sl sc] 38) = W0 := ⟨_, rfl⟩
  have HW0 := Lib.hid hW0
  rw [hW0] at HB HX HS
  clear hW0
  go_enter Tryd.func16, Tryd.ntmps16
  go_wp2
  rw [HW0.out]
  go_loopw [3] (fun i wr => ∃ k : Nat, k ≤ sl ∧ i = .int .i64 k ∧ Hid (allB m k = true) ∧ Hid (Below W0.heap.size W0 wr)) (fun i _ => sl - (intOf i).toNat)
  case atStart => exact ⟨0, Nat.zero_le _, rfl, Lib.hid rfl, Lib.hid (Below.refl _ _)⟩
  case round =>
    obtain ⟨k, hk, rfl, HA, HW⟩ := hrel
    have HX := Lib.hid (HX.out.keep HW.out)
    have x0 := HX.out.cell (j := 0) (by simp)
    have x2 := HX.out.cell (j := 2) (by simp)
    have x3 := HX.out.cell (j := 3) (by simp)
    have x4 := HX.out.cell (j := 4) (by simp)
    simp at x0 x2 x3 x4
    by_cases hlt : k < sl
    · rcases (HS.out.keep HW.out).t.src with hz | ⟨b, off, rfl, hb, hc⟩
      · omega
      have c0 := hc k hlt
      have hi0 : (0 : Int) ≤ (k : Int) := by omega
      have hi1 : (k : Int) < (sl : Int) := by omega
      obtain ⟨t, ht⟩ : ∃ t, strAt m k = t := ⟨_, rfl⟩
      have HT := Lib.hid ht
      have hts := HZ.out k hlt
      rw [ht] at c0 hts
      clear hc hb ht x0 x2 x3
      go_wp2_with fail
      refine (slinesof_any t _ hts).mono ?_
      obtain ⟨q, hq⟩ : ∃ q, linesK t.data.toList = q := ⟨_, rfl⟩
      have HQ := Lib.hid (show splitB m k = q by unfold splitB; rw [HT.out]; exact hq)
      rw [hq]
      rintro e w3 ⟨q5, cp5, rfl, _, hB⟩
      have HW := Lib.hid (below_via HW.out hB)
      clear hB c0 hq x4
      cases q
      · have HC := Lib.hid (show q0 = false by rw [HJ.out, allB_bad hlt HQ.out]; simp)
        go_wp2
        go_ret
        exact ⟨ret_bool HC.out.symm, below_via HB.out HW.out⟩
      · go_wp2
        go_roundw
        case rel => exact ⟨k + 1, by omega, by go_num, Lib.hid (allB_step HA.out HQ.out), HW⟩
        case measure => simp [intOf]; omega
    · obtain rfl : k = sl := by omega
      have HJ := Lib.hid (HJ.out.trans (by rw [HA.out, Bool.and_true]))
      have HS := Lib.hid (HS.out.keep HW.out)
      have HB := Lib.hid (below_via HB.out HW.out)
      clear HW
      go_wp2_with fail
      refine (sprogok_any _ _ _ _ _ HS.out.i).mono ?_
      rw [H1.out]
      rintro e w2 ⟨rfl, hB⟩
      have HX := Lib.hid (HX.out.keep hB)
      have HB := Lib.hid (below_via HB.out hB)
      clear x0 x2 x3 x4 hB
      have x2 := HX.out.cell (j := 2) (by simp)
      have x3 := HX.out.cell (j := 3) (by simp)
      have x4 := HX.out.cell (j := 4) (by simp)
      simp at x2 x3 x4
      cases q1
      · go_wp2
        go_ret
        exact ⟨ret_bool (by rw [HJ.out]; rfl), HB.out⟩
      go_wp2_with fail
      refine (l4op_any _ _).mono ?_
      rw [H2.out]
      rintro e w3 ⟨rfl, rfl⟩
      cases q2
      · go_wp2
        go_ret
        exact ⟨ret_bool (by rw [HJ.out]; rfl), HB.out⟩
      go_wp2_with fail
      refine (l1in_any _ _ _ _).mono ?_
      rw [H3.out]
      rintro e w3 ⟨rfl, rfl⟩
      cases q3
      · go_wp2
        go_ret
        exact ⟨ret_bool (by rw [HJ.out]; rfl), HB.out⟩
      go_wp2_with fail
      refine (l1in_any _ _ _ _).mono ?_
      rw [H4.out]
      rintro e w3 ⟨rfl, rfl⟩
      go_wp2
      go_ret
      exact ⟨ret_bool (by rw [HJ.out]; rfl), HB.out⟩
end Go.Proofs.YtjofbeokkainlaaDoor
namespace Go.Proofs.YtjofbeokkainlaaDoor
open Go.ChangeShapes Go.WideShapes Go.ChangeAt Go.RowKit
set_option linter.unusedVariables false
set_option maxRecDepth 100000

def bytesOf (l : Strs) : List (List UInt8) := l.map fun s => s.data.toList
def textTo (l : Strs) (k : Nat) : List UInt8 := joinN (bytesOf (l.take k))
theorem textTo_zero (l : Strs) : textTo l 0 = [] := by simp [textTo, bytesOf, joinN]
theorem textTo_step {l : Strs} {k : Nat} (h : k < l.length) : textTo l (k + 1) = textTo l k ++ (strAt l k).data.toList ++ [10] := by
  unfold textTo bytesOf strAt
  rw [List.take_succ_eq_append_getElem h, List.map_append, List.map_singleton, joinN_snoc, List.getD_eq_getElem?_getD, List.getElem?_eq_getElem h]
  rfl
/-- The text of all lines. -/
def linesTx (l : Strs) : ByteArray := ⟨(textTo l l.length).toArray⟩
theorem text_is {T : ByteArray} {X : List UInt8} (h : T.data.toList = X) : T = ⟨X.toArray⟩ := by
  subst h
  obtain ⟨⟨l⟩⟩ := T
  rfl
theorem text_of {l : Strs} {T : ByteArray} (h : T.data.toList = textTo l l.length) : T = linesTx l := text_is h

theorem snoc_list (T s : ByteArray) : (T ++ (s ++ ⟨#[10]⟩)).data.toList = T.data.toList ++ s.data.toList ++ [10] := by simp
theorem snoc_list' (T s : ByteArray) : (T ++ s ++ ⟨#[10]⟩).data.toList = T.data.toList ++ s.data.toList ++ [10] := by simp

def SameStr (s : ByteArray) (w : World) (e : Ending) (w' : World) : Prop := e = .returned (.string s) ∧ w = w'

set_option maxHeartbeats 2000000 in
theorem l1text_any (a : Option Addr) (len cap m : Nat) (l : Strs) (w : World) (h : StrsAt w a len l) (hs : ∀ i, i < len → (strAt l i).size ≤ m) (hm2 : len * (m + 1) ≤ 1099511627776) (hm1 : m ≤ 1099511627776) :
    Calls Tryd.prog 39 #[.slice a len cap] w (SameStr (linesTx l) w) := by
  have hm := h.max
  unfold maxLen at hm
  have HR := Lib.hid h
  have HL := Lib.hid h.length
  have HM := Lib.hid hs
  clear h hs
  go_enter Tryd.func39, Tryd.ntmps39
  go_wp2
  go_loop [3, 4] (fun t i => ∃ (k : Nat) (T : ByteArray), k ≤ len ∧ i = .int .i64 k ∧ t = .string T ∧ T.size ≤ k * (m + 1) ∧ Hid (T.data.toList = textTo l k)) (fun _ i => len - (intOf i).toNat)
  case atStart => exact ⟨0, ByteArray.empty, Nat.zero_le _, rfl, rfl, by simp, Lib.hid (by rw [textTo_zero]; rfl)⟩
  case round =>
    obtain ⟨k, T, hk, rfl, rfl, hT, HT⟩ := hrel
    by_cases hlt : k < len
    · rcases HR.out.src with hz | ⟨b, off, rfl, hb, hc⟩
      · omega
      · have c0 := hc k hlt
        obtain ⟨s, hs⟩ : ∃ s, strAt l k = s := ⟨_, rfl⟩
        have hsm : s.size ≤ m := by rw [← hs]; exact HM.out k hlt
        rw [hs] at c0
        have HS := Lib.hid (show textTo l (k + 1) = textTo l k ++ s.data.toList ++ [10] by rw [← hs]; exact textTo_step (by rw [HL.out]; exact hlt))
        have hle : (k + 1) * (m + 1) ≤ len * (m + 1) := Nat.mul_le_mul_right _ hlt
        have hex : (k + 1) * (m + 1) = k * (m + 1) + (m + 1) := by rw [Nat.add_mul, Nat.one_mul]
        generalize hQ : (k + 1) * (m + 1) = Q at hle hex
        generalize hR : k * (m + 1) = R at hT hex
        generalize len * (m + 1) = Z at hm2 hle
        have HQ := Lib.hid hQ
        clear hc hb hs hQ hR
        have hts : (T ++ s).size ≤ T.size + s.size := by rw [ByteArray.size_append]; exact Nat.le_refl _
        go_wp2
        go_round
        case rel => exact ⟨k + 1, _, by omega, by go_num, rfl, by rw [HQ.out, ByteArray.size_append, ByteArray.size_append]; show T.size + s.size + 1 ≤ Q; omega, Lib.hid (by rw [snoc_list', HT.out, HS.out])⟩
        case measure => simp [intOf]; omega
    · obtain rfl : k = len := by omega
      have HE := Lib.hid (text_of (l := l) (by rw [HL.out]; exact HT.out))
      go_wp2
      go_ret
      exact ⟨congrArg (fun s => Ending.returned (.string s)) HE.out, rfl⟩

/-- The end of LinesText. -/
def MadeText (l : Strs) (w : World) (e : Ending) (w' : World) : Prop :=
  e = .returned (.tuple #[.string (if rightB l then linesTx l else ByteArray.empty), .bool (rightB l)]) ∧ Below w.heap.size w w'
theorem madetext_no {l : Strs} {w w' : World} (h : rightB l = false) (hB : Below w.heap.size w w') : MadeText l w (.returned (.tuple #[.string ⟨#[]⟩, .bool false])) w' := by
  unfold MadeText; rw [h]; exact ⟨rfl, hB⟩
theorem madetext_yes {l : Strs} {T : ByteArray} {w w' : World} (h : rightB l = true) (hT : T = linesTx l) (hB : Below w.heap.size w w') : MadeText l w (.returned (.tuple #[.string T, .bool true])) w' := by
  unfold MadeText; rw [h, hT]; exact ⟨rfl, hB⟩
theorem right_parts {l : Strs} (h : rightB l = true) : l.length ≤ 10 ∧ ∀ k, k < l.length → (strAt l k).size ≤ 200 ∧ hasC 10 (strAt l k) = false := by
  obtain ⟨h1, h2⟩ := (rightL_iff _).1 h
  refine ⟨by simpa using h1, fun k hk => ?_⟩
  have := h2 (strAt l k).data.toList (by
    refine List.mem_map.2 ⟨strAt l k, ?_, rfl⟩
    unfold strAt
    rw [List.getD_eq_getElem?_getD, List.getElem?_eq_getElem hk]
    exact List.getElem_mem hk)
  refine ⟨by simpa using this.1, ?_⟩
  unfold hasC
  rw [Bool.not_eq_false', List.all_eq_true]
  intro x hx
  simpa using this.2 x hx

set_option maxHeartbeats 1000000 in
theorem slinestext_any (a : Option Addr) (len cap : Nat) (l : Strs) (w : World) (h : StrsAt w a len l) :
    Calls Tryd.prog 20 #[.slice a len cap] w (MadeText l w) := by
  have HR := Lib.hid h
  have HL := Lib.hid h.length
  clear h
  cases hr : rightB l with
  | false =>
    have HRR := Lib.hid hr
    clear hr
    go_enter Tryd.func20, Tryd.ntmps20
    go_wp2_with (go_at_call 38; refine (l1right_any _ _ _ _ _ HR.out).mono ?_; rw [HRR.out]; rintro e w1 ⟨rfl, hB⟩; have HB := Lib.hid hB; clear hB)
    go_ret2
    exact madetext_no HRR.out HB.out
  | true =>
    have HRR := Lib.hid hr
    have HP := Lib.hid (right_parts hr)
    have h10 : len ≤ 10 := by rw [← HL.out]; exact HP.out.1
    clear hr
    go_enter Tryd.func20, Tryd.ntmps20
    go_wp2_with (first | (go_at_call 38; refine (l1right_any _ _ _ _ _ HR.out).mono ?_; rw [HRR.out]; rintro e w1 ⟨rfl, hB⟩; have HB := Lib.hid hB; clear hB) | (go_at_call 39; refine (l1text_any _ _ _ 200 _ _ (HR.out.keep HB.out) (fun i hi => (HP.out.2 i (by rw [HL.out]; exact hi)).1) (by omega) (by decide)).mono ?_; rintro e w2 ⟨rfl, rfl⟩))
    go_ret2
    exact madetext_yes HRR.out rfl HB.out

theorem right_badlen {l : Strs} (h : ¬ l.length ≤ 10) : rightB l = false := by
  rw [← Bool.not_eq_true]
  intro hr
  exact h (right_parts hr).1
theorem right_badhas {l : Strs} {k : Nat} (hk : k < l.length) (h : (200 < (strAt l k).size) ∨ hasC 10 (strAt l k) = true) : rightB l = false := by
  rw [← Bool.not_eq_true]
  intro hr
  obtain ⟨h1, h2⟩ := (right_parts hr).2 k hk
  rcases h with h | h
  · omega
  · rw [h2] at h; cases h
theorem right_goodhas {l : Strs} (h0 : l.length ≤ 10) (h : ∀ k, k < l.length → (strAt l k).size ≤ 200 ∧ hasC 10 (strAt l k) = false) : rightB l = true := by
  rw [right_good (fun k hk => ?_), decide_eq_true h0]
  obtain ⟨h1, h2⟩ := h k hk
  refine ⟨h1, fun x hx hxc => ?_⟩
  unfold hasC at h2
  rw [Bool.not_eq_false', List.all_eq_true] at h2
  have := h2 x hx
  simp [hxc] at this

end Go.Proofs.YtjofbeokkainlaaDoor
