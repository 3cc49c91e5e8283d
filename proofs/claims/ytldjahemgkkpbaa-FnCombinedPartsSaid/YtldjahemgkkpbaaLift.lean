
/- Lifted of the program and of its model: the records, each number replaced by 1 at the op that counts. Only new blocks are made. -/
import Derived.Test.YtldjahemgkkpbaaMerge
import Derived.Test.YtldjahemgkkpbaaMg0
import Derived.Deep.Onto
namespace Go.Proofs.Ytldjahemgkkpbaa
open Go.ChangeShapes Go.WideShapes Go.ChangeAt Go.RowKit
set_option linter.unusedVariables false
set_option maxRecDepth 100000

def liftL (op : Int) (l : Recs) : Recs := l.map fun r => (r.1, if op = 4 then 1 else r.2)
def liftW (op : Int) (l : Recs) : Recs := if opOkB op && recsOkB l then liftL op l else []
theorem liftL_len (op : Int) (l : Recs) : (liftL op l).length = l.length := by unfold liftL; simp
theorem liftL_at (op : Int) (l : Recs) (i : Nat) (h : i < l.length) : keyAt (liftL op l) i = keyAt l i ∧ numAt (liftL op l) i = if op = 4 then 1 else numAt l i := by
  have e : (liftL op l)[i]? = some ((l[i]).1, if op = 4 then 1 else (l[i]).2) := by unfold liftL; rw [List.getElem?_map, List.getElem?_eq_getElem h]; rfl
  have e2 := at_get l i h
  unfold keyAt numAt at *
  rw [List.getD_eq_getElem?_getD, e]
  constructor
  · show (l[i]).1 = _
    rw [e2]
  · show (if op = 4 then 1 else (l[i]).2) = _
    rw [e2]
theorem liftL_same (op : Int) (l : Recs) (h : op ≠ 4) : liftL op l = l := by
  unfold liftL
  simp [h]
theorem lift_no1 {op : Int} {l : Recs} (h : opOkB op = false) : liftW op l = [] := by unfold liftW; rw [h]; rfl
theorem lift_no2 {op : Int} {l : Recs} (h : recsOkB l = false) : liftW op l = [] := by unfold liftW; rw [h, Bool.and_false]; rfl
theorem lift_yes {op : Int} {l : Recs} (h : opOkB op = true) (k : recsOkB l = true) : liftW op l = liftL op l := by unfold liftW; rw [h, k]; rfl

/-- The end of a function that returns records in a row of its own (nothing is told of the capacity). -/
def MadeRsL (W : Recs) (w : World) (e : Ending) (w' : World) : Prop :=
  ∃ q cp, e = .returned (.slice q W.length cp) ∧ Rs w.heap.size w' q W ∧ Below w.heap.size w w'

set_option maxHeartbeats 4000000 in
theorem l4recs_any (op : Int) (a : Option Addr) (len cap : Nat) (l : Recs) (w : World) (h : RecsAt w a len l) :
    Calls Try.prog 25 #[.int .i64 op, .slice a len cap] w (MadeBool (opOkB op && recsOkB l) w) := by
  have hm := h.max
  unfold maxLen at hm
  have HR := Lib.hid h
  clear h
  go_enter Try.func25, Try.ntmps25
  go_wp2
  go_loopw [5] (fun i wr => ∃ k : Nat, k ≤ len ∧ i = .int .i64 k ∧ Hid (Below w.heap.size w wr ∧ ∀ j, j < k → okAt l j = true)) (fun i _ => len - (intOf i).toNat)
  case atStart => exact ⟨0, Nat.zero_le _, rfl, Below.refl _ _, fun j hj => by omega⟩
  case round =>
    obtain ⟨k, hk, rfl, HW⟩ := hrel
    by_cases hlt : k < len
    · rcases HR.out.src with hz | ⟨b, off, rfl, hb, hc⟩
      · omega
      · have c0 := (HW.out.1.cell (p := ⟨b, off + k * 2, none⟩) hb).trans (hc k hlt).1
        have c1 := (HW.out.1.cell (p := ⟨b, off + k * 2 + 1, none⟩) hb).trans (hc k hlt).2
        have hi1 : (k : Int) < (len : Int) := by omega
        have hi0 : (0 : Int) ≤ (k : Int) := by omega
        clear hc hb
        cases hok : okB (keyAt l k) with
        | false =>
          have HQ := Lib.hid (show false = (opOkB op && recsOkB l) by rw [recsOk_inv (i := k) (by rw [HR.out.length]; exact hlt) hok, Bool.and_false])
          have HOK := Lib.hid hok
          clear hok
          go_wp2_with (go_at_call 42; refine (srecok_any _ _ _).mono ?_; rw [HOK.out]; rintro e w2 ⟨rfl, hB⟩; have HB := Lib.hid (below_via HW.out.1 hB); clear hB)
          go_ret
          exact ⟨ret_bool HQ.out, HB.out⟩
        | true =>
          have HOK := Lib.hid hok
          clear hok
          go_wp2_with (go_at_call 42; refine (srecok_any _ _ _).mono ?_; rw [HOK.out]; rintro e w2 ⟨rfl, hB⟩; have HB := Lib.hid (below_via HW.out.1 hB); clear hB)
          go_roundw
          case rel => exact ⟨k + 1, by omega, by go_num, HB.out, fun j hj => by
            rcases Nat.lt_or_ge j k with h | h
            · exact HW.out.2 j h
            · obtain rfl : j = k := by omega
              exact HOK.out⟩
          case measure => simp [intOf]; omega
    · obtain rfl : k = len := by omega
      have HALL := Lib.hid (show recsOkB l = decide (k ≤ 600) by
        unfold recsOkB
        rw [HR.out.length]
        have : ((List.range k).all fun i => okAt l i) = true := List.all_eq_true.2 fun i hi => HW.out.2 i (List.mem_range.1 hi)
        rw [this, Bool.and_true])
      cases hop : opOkB op with
      | false =>
        have HO := Lib.hid hop
        clear hop
        go_wp2_with (go_at_call 43; refine (l4op_any op _).mono ?_; rw [HO.out]; rintro e w2 ⟨rfl, rfl⟩)
        go_ret
        exact ⟨by rw [HO.out, Bool.false_and]; rfl, HW.out.1⟩
      | true =>
        have HO := Lib.hid hop
        clear hop
        by_cases h6 : k ≤ 600
        · have HQ := Lib.hid (show true = recsOkB l by rw [HALL.out, decide_eq_true h6])
          have hi6 : (k : Int) ≤ 600 := by omega
          go_wp2_with (go_at_call 43; refine (l4op_any op _).mono ?_; rw [HO.out]; rintro e w2 ⟨rfl, rfl⟩)
          go_ret
          exact ⟨by rw [HO.out, Bool.true_and, ← HQ.out]; rfl, HW.out.1⟩
        · have HQ := Lib.hid (show false = recsOkB l by rw [HALL.out, decide_eq_false h6])
          have hi6 : ¬ (k : Int) ≤ 600 := by omega
          go_wp2_with (go_at_call 43; refine (l4op_any op _).mono ?_; rw [HO.out]; rintro e w2 ⟨rfl, rfl⟩)
          go_ret
          exact ⟨by rw [HO.out, Bool.true_and, ← HQ.out]; exact congrArg (fun b => Ending.returned (.bool b)) (decide_eq_false (by omega)), HW.out.1⟩

def MixL (cur : Array Value) (l : Recs) (k n : Nat) : Prop := ∀ j, j < n → cur[j * 2]? = some (.string (keyAt l j)) ∧ cur[j * 2 + 1]? = some (.int .i64 (if j < k then 1 else numAt l j))
theorem MixL.start {cur : Array Value} {l : Recs} {n : Nat} (h : Laid cur l n) : MixL cur l 0 n := fun j hj => by
  rw [if_neg (Nat.not_lt_zero _)]; exact h j hj
theorem MixL.step {cur : Array Value} {l : Recs} {k n : Nat} (h : MixL cur l k n) (hk : k < n) (hs : n * 2 ≤ cur.size) : MixL (cur.setIfInBounds (k * 2 + 1) (.int .i64 1)) l (k + 1) n := by
  intro j hj
  obtain ⟨e1, e2⟩ := h j hj
  have h1 : k * 2 + 1 < cur.size := by omega
  rw [Array.getElem?_setIfInBounds_ne (by omega)]
  refine ⟨e1, ?_⟩
  by_cases hjk : j = k
  · subst hjk
    rw [if_pos (Nat.lt_succ_self _)]
    simp [h1]
  · rw [Array.getElem?_setIfInBounds_ne (by omega), e2]
    by_cases h2 : j < k
    · rw [if_pos h2, if_pos (by omega)]
    · rw [if_neg h2, if_neg (by omega)]
theorem MixL.done {cur : Array Value} {l : Recs} {n : Nat} (h : MixL cur l n n) (hl : l.length = n) : Laid cur (liftL 4 l) n := by
  intro j hj
  obtain ⟨e1, e2⟩ := liftL_at 4 l j (by omega)
  obtain ⟨c1, c2⟩ := h j hj
  rw [if_pos hj] at c2
  rw [if_pos rfl] at e2
  rw [e1, e2]
  exact ⟨c1, c2⟩

end Go.Proofs.Ytldjahemgkkpbaa
