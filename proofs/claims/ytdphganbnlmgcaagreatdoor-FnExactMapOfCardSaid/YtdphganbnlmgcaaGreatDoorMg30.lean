/- Texts put together, as a claim holds at most sixty files. -/
import Derived.Test.YtdphganbnlmgcaaGreatDoorMg26
import Derived.Test.YtdphganbnlmgcaaGreatDoorMg21
import Derived.Deep.Onto
import Derived.Test.YtdphganbnlmgcaaGreatDoorMg29
import Derived.Test.YtdphganbnlmgcaaGreatDoorMg22
namespace Go.Proofs.YtdphganbnlmgcaaGreatDoor
open Go.ChangeShapes Go.WideShapes Go.ChangeAt Go.RowKit
set_option linter.unusedVariables false
set_option maxRecDepth 100000

def liftL (op : Int) (l : Recs) : Recs := l.map fun r => (r.1, if op = 4 then 1 else r.2)
def liftW (op : Int) (l : Recs) : Recs := if opOkB op && recsOkB l then liftL op l else []
theorem liftL_len (op : Int) (l : Recs) : (liftL op l).length = l.length := by unfold liftL; simp
theorem liftL_at (op : Int) (l : Recs) (i : Nat) (h : i < l.length) : keyAt (liftL op l) i = keyAt l i ∧ numAt (liftL op l) i = if op = 4 then 1 else numAt l i := by
  have e : (liftL op l)[i]? = some ((l[i]).1, if op = 4 then 1 else (l[i]).2) := by unfold liftL; rw [List.getElem?_map, List.getElem?_eq_getElem h]; rfl
  have e2 := at_get l i h
  unfold keyAt numAt at *
  rw [List.getD_eq_getElem?_getD, e]
  constructor
  · show (l[i]).1 = _
    rw [e2]
  · show (if op = 4 then 1 else (l[i]).2) = _
    rw [e2]
theorem liftL_same (op : Int) (l : Recs) (h : op ≠ 4) : liftL op l = l := by
  unfold liftL
  simp [h]
theorem lift_no1 {op : Int} {l : Recs} (h : opOkB op = false) : liftW op l = [] := by unfold liftW; rw [h]; rfl
theorem lift_no2 {op : Int} {l : Recs} (h : recsOkB l = false) : liftW op l = [] := by unfold liftW; rw [h, Bool.and_false]; rfl
theorem lift_yes {op : Int} {l : Recs} (h : opOkB op = true) (k : recsOkB l = true) : liftW op l = liftL op l := by unfold liftW; rw [h, k]; rfl

/-- The end of a function that returns records in a row of its own (nothing is told of the capacity). -/
def MadeRsL (W : Recs) (w : World) (e : Ending) (w' : World) : Prop :=
  ∃ q cp, e = .returned (.slice q W.length cp) ∧ Rs w.heap.size w' q W ∧ Below w.heap.size w w'

set_option maxHeartbeats 4000000 in
theorem lifted_any (op : Int) (a : Option Addr) (len cap : Nat) (l : Recs) (w : World) (h : RecsAt w a len l) :
    Calls Tryz.prog 50 #[.int .i64 op, .slice a len cap] w (MadeRsL (liftW op l) w) := by
  obtain ⟨i0, hi, hz0, hz1, hz2⟩ := info_parts infoRec
  have HR := Lib.hid h
  clear h
  cases hop : opOkB op with
  | false =>
    have HQ := Lib.hid (lift_no1 (l := l) hop)
    have HO := Lib.hid hop
    clear hop
    go_enter Tryz.func50, Tryz.ntmps50
    go_wp2_with fail
    refine (combiner_any op _).mono ?_
    rw [HO.out]
    rintro e w1 ⟨f, rfl, rfl⟩
    go_wp2
    go_ret
    rw [HQ.out]
    exact ⟨none, 0, rfl, .inl rfl, Below.refl _ _⟩
  | true =>
    have HO := Lib.hid hop
    cases hok : recsOkB l with
    | false =>
      have HQ := Lib.hid (lift_no2 (op := op) hok)
      have HOK := Lib.hid hok
      clear hop hok
      go_enter Tryz.func50, Tryz.ntmps50
      go_wp2_with fail
      refine (combiner_any op _).mono ?_
      rw [HO.out]
      rintro e w1 ⟨f, rfl, rfl⟩
      go_wp2_with fail
      refine (recsok_any _ _ _ _ _ HR.out).mono ?_
      rw [HOK.out]
      rintro e w2 ⟨rfl, hB⟩
      have HB := Lib.hid hB
      clear hB
      go_wp2
      go_ret
      rw [HQ.out]
      exact ⟨none, 0, rfl, .inl rfl, HB.out⟩
    | true =>
      have HQ := Lib.hid (lift_yes hop hok)
      have HOK := Lib.hid hok
      have h6 : len ≤ 600 := by rw [← HR.out.length]; exact (recsOk_parts hok).1
      have HLL := Lib.hid ((liftL_len op l).trans HR.out.length)
      have HLA := Lib.hid (fun i (hi : i < len) => liftL_at op l i (by rw [HR.out.length]; exact hi))
      clear hop hok
      by_cases h4 : op = 4
      · subst h4
        go_enter Tryz.func50, Tryz.ntmps50
        go_wp2_with fail
        refine (combiner_any _ _).mono ?_
        rw [HO.out]
        rintro e w1 ⟨f, rfl, rfl⟩
        go_wp2_with fail
        refine (recsok_any _ _ _ _ _ HR.out).mono ?_
        rw [HOK.out]
        rintro e w2 ⟨rfl, hB⟩
        have HB := Lib.hid hB
        clear hB
        go_wp2_with (at_make; refine wpList_make_full _ rfl _ _ 45 rfl w2.heap.size 50 i0 _ 2 Tryz.underlying45 hi hz0 hz1 .i64 .i64 _ _ len rfl rfl rfl rfl (by rw [hz2]; omega) (by unfold maxLen; omega) (Nat.le_refl _) ?_; intro w3 hown hgrow)
        obtain ⟨cur0, hrow0, hsz0⟩ : ∃ cur, Row w3 w2.heap.size 50 cur ∧ cur.size = len * 2 := by
          rcases hown.2 with ⟨h, _⟩ | ⟨g, cp, cur, hv, _, hh, _, _, hs, _⟩
          · simp at h
          · simp only [Value.slice.injEq, Option.some.injEq, Addr.mk.injEq, true_and, and_true] at hv
            obtain ⟨rfl, rfl⟩ := hv
            exact ⟨cur, hh, hs⟩
        obtain ⟨B, hBs⟩ : ∃ B, w2.heap.size = B := ⟨_, rfl⟩
        have HBB := Lib.hid (show w.heap.size ≤ B by rw [← hBs]; exact HB.out.size)
        have HBL := Lib.hid (HB.out.grown hgrow HB.out.size (by simp))
        rw [hBs] at hrow0 ⊢
        have HR0 := Lib.hid hrow0
        have HS0 := Lib.hid hsz0
        clear hown hgrow hrow0 hsz0 HB hBs
        go_loopw [27] (fun i wr => ∃ k : Nat, k ≤ len ∧ i = .int .i64 k ∧ Hid (Below w.heap.size w wr ∧ ∃ cur, Row wr B 50 cur ∧ cur.size = len * 2 ∧ Laid cur (liftL 4 l) k)) (fun i _ => len - (intOf i).toNat)
        case atStart => exact ⟨0, Nat.zero_le _, rfl, HBL.out, cur0, HR0.out, HS0.out, fun j hj => by omega⟩
        case round =>
          obtain ⟨k, hk, rfl, HW⟩ := hrel
          clear HBL HR0 HS0
          by_cases hlt : k < len
          · rcases HR.out.src with hz | ⟨b, off, rfl, hb, hc⟩
            · omega
            · have c0 := (HW.out.1.cell (p := ⟨b, off + k * 2, none⟩) hb).trans (hc k hlt).1
              have c1 := (HW.out.1.cell (p := ⟨b, off + k * 2 + 1, none⟩) hb).trans (hc k hlt).2
              have hk1 := HLA.out k hlt
              obtain ⟨cur, hr, hs, hla⟩ := HW.out.2
              have hst := hla.step hs hlt
              rw [hk1.1, hk1.2] at hst
              simp only [if_true] at hst
              have HST := Lib.hid hst
              have HS := Lib.hid hs
              have hlB := hr.lt
              have hra := hr.alloc (.cells #[.string (keyAt l k), .int .i64 1] 50)
              have hA0 := hra.cell (j := k * 2) (by omega)
              have hA1 := hra.cell (j := k * 2 + 1) (by omega)
              have hf0 := hra.free (k * 2)
              have hf1 := hra.free (k * 2 + 1)
              have hn1 : B ≠ wr.heap.size := Nat.ne_of_lt hlB
              have hn2 : wr.heap.size ≠ B := Nat.ne_of_gt hlB
              have HNE := Lib.hid hn1
              have HSZ := Lib.hid (show w.heap.size ≤ wr.heap.size from HW.out.1.size)
              have HRC := Lib.hid hra
              generalize cur[k * 2] = x0 at hA0
              generalize cur[k * 2 + 1] = x1 at hA1
              have hi1 : (k : Int) < (len : Int) := by omega
              have hi0 : (0 : Int) ≤ (k : Int) := by omega
              clear hr hs hla hst hk1 hc hb hra hlB
              go_wp2
              go_roundw
              case rel => exact ⟨k + 1, by omega, by go_num, ((below_alloc HW.out.1 _).setCell HBB.out _).setCell HBB.out _, _, (HRC.out.set _ _).set _ _, by simpa using HS.out, HST.out⟩
              case measure => simp [intOf]; omega
          · obtain rfl : k = len := by omega
            go_wp2
            go_ret
            rw [HQ.out]
            exact ⟨_, _, by rw [HLL.out]; rfl, .inr (by
              obtain ⟨cur, hr, hs, hla⟩ := HW.out.2
              exact ⟨B, cur, rfl, HBB.out, hr, by rw [HLL.out, hs]; exact Nat.le_refl _, by rw [HLL.out]; exact hla⟩), HW.out.1⟩
      · have g4 : (op == 4) = false := by simpa using h4
        go_enter Tryz.func50, Tryz.ntmps50
        go_wp2_with fail
        refine (combiner_any _ _).mono ?_
        rw [HO.out]
        rintro e w1 ⟨f, rfl, rfl⟩
        go_wp2_with fail
        refine (recsok_any _ _ _ _ _ HR.out).mono ?_
        rw [HOK.out]
        rintro e w2 ⟨rfl, hB⟩
        have HB := Lib.hid hB
        clear hB
        go_wp2_with (at_make; refine wpList_make_full _ rfl _ _ 45 rfl w2.heap.size 50 i0 _ 2 Tryz.underlying45 hi hz0 hz1 .i64 .i64 _ _ len rfl rfl rfl rfl (by rw [hz2]; omega) (by unfold maxLen; omega) (Nat.le_refl _) ?_; intro w3 hown hgrow)
        obtain ⟨cur0, hrow0, hsz0⟩ : ∃ cur, Row w3 w2.heap.size 50 cur ∧ cur.size = len * 2 := by
          rcases hown.2 with ⟨h, _⟩ | ⟨g, cp, cur, hv, _, hh, _, _, hs, _⟩
          · simp at h
          · simp only [Value.slice.injEq, Option.some.injEq, Addr.mk.injEq, true_and, and_true] at hv
            obtain ⟨rfl, rfl⟩ := hv
            exact ⟨cur, hh, hs⟩
        obtain ⟨B, hBs⟩ : ∃ B, w2.heap.size = B := ⟨_, rfl⟩
        have HBB := Lib.hid (show w.heap.size ≤ B by rw [← hBs]; exact HB.out.size)
        have HBL := Lib.hid (HB.out.grown hgrow HB.out.size (by simp))
        rw [hBs] at hrow0 ⊢
        have HR0 := Lib.hid hrow0
        have HS0 := Lib.hid hsz0
        clear hown hgrow hrow0 hsz0 HB hBs
        go_loopw [27] (fun i wr => ∃ k : Nat, k ≤ len ∧ i = .int .i64 k ∧ Hid (Below w.heap.size w wr ∧ ∃ cur, Row wr B 50 cur ∧ cur.size = len * 2 ∧ Laid cur (liftL op l) k)) (fun i _ => len - (intOf i).toNat)
        case atStart => exact ⟨0, Nat.zero_le _, rfl, HBL.out, cur0, HR0.out, HS0.out, fun j hj => by omega⟩
        case round =>
          obtain ⟨k, hk, rfl, HW⟩ := hrel
          clear HBL HR0 HS0
          by_cases hlt : k < len
          · rcases HR.out.src with hz | ⟨b, off, rfl, hb, hc⟩
            · omega
            · have c0 := (HW.out.1.cell (p := ⟨b, off + k * 2, none⟩) hb).trans (hc k hlt).1
              have c1 := (HW.out.1.cell (p := ⟨b, off + k * 2 + 1, none⟩) hb).trans (hc k hlt).2
              have hk1 := HLA.out k hlt
              obtain ⟨cur, hr, hs, hla⟩ := HW.out.2
              have hst := hla.step hs hlt
              rw [hk1.1, hk1.2, if_neg h4] at hst
              have HST := Lib.hid hst
              have HS := Lib.hid hs
              have hlB := hr.lt
              have hra := hr.alloc (.cells #[.string (keyAt l k), .int .i64 (numAt l k)] 50)
              have hA0 := hra.cell (j := k * 2) (by omega)
              have hA1 := hra.cell (j := k * 2 + 1) (by omega)
              have hf0 := hra.free (k * 2)
              have hf1 := hra.free (k * 2 + 1)
              have hn1 : B ≠ wr.heap.size := Nat.ne_of_lt hlB
              have hn2 : wr.heap.size ≠ B := Nat.ne_of_gt hlB
              have HNE := Lib.hid hn1
              have HSZ := Lib.hid (show w.heap.size ≤ wr.heap.size from HW.out.1.size)
              have HRC := Lib.hid hra
              generalize cur[k * 2] = x0 at hA0
              generalize cur[k * 2 + 1] = x1 at hA1
              have hi1 : (k : Int) < (len : Int) := by omega
              have hi0 : (0 : Int) ≤ (k : Int) := by omega
              clear hr hs hla hst hk1 hc hb hra hlB
              go_wp2
              go_roundw
              case rel => exact ⟨k + 1, by omega, by go_num, ((below_alloc HW.out.1 _).setCell HBB.out _).setCell HBB.out _, _, (HRC.out.set _ _).set _ _, by simpa using HS.out, HST.out⟩
              case measure => simp [intOf]; omega
          · obtain rfl : k = len := by omega
            go_wp2
            go_ret
            rw [HQ.out]
            exact ⟨_, _, by rw [HLL.out]; rfl, .inr (by
              obtain ⟨cur, hr, hs, hla⟩ := HW.out.2
              exact ⟨B, cur, rfl, HBB.out, hr, by rw [HLL.out, hs]; exact Nat.le_refl _, by rw [HLL.out]; exact hla⟩), HW.out.1⟩
set_option maxHeartbeats 4000000 in
theorem l4recs_any (op : Int) (a : Option Addr) (len cap : Nat) (l : Recs) (w : World) (h : RecsAt w a len l) :
    Calls Tryz.prog 41 #[.int .i64 op, .slice a len cap] w (MadeBool (opOkB op && recsOkB l) w) := by
  have hm := h.max
  unfold maxLen at hm
  have HR := Lib.hid h
  clear h
  go_enter Tryz.func41, Tryz.ntmps41
  go_wp2
  go_loopw [5] (fun i wr => ∃ k : Nat, k ≤ len ∧ i = .int .i64 k ∧ Hid (Below w.heap.size w wr ∧ ∀ j, j < k → okAt l j = true)) (fun i _ => len - (intOf i).toNat)
  case atStart => exact ⟨0, Nat.zero_le _, rfl, Below.refl _ _, fun j hj => by omega⟩
  case round =>
    obtain ⟨k, hk, rfl, HW⟩ := hrel
    by_cases hlt : k < len
    · rcases HR.out.src with hz | ⟨b, off, rfl, hb, hc⟩
      · omega
      · have c0 := (HW.out.1.cell (p := ⟨b, off + k * 2, none⟩) hb).trans (hc k hlt).1
        have c1 := (HW.out.1.cell (p := ⟨b, off + k * 2 + 1, none⟩) hb).trans (hc k hlt).2
        have hi1 : (k : Int) < (len : Int) := by omega
        have hi0 : (0 : Int) ≤ (k : Int) := by omega
        clear hc hb
        cases hok : okB (keyAt l k) with
        | false =>
          have HQ := Lib.hid (show false = (opOkB op && recsOkB l) by rw [recsOk_inv (i := k) (by rw [HR.out.length]; exact hlt) hok, Bool.and_false])
          have HOK := Lib.hid hok
          clear hok
          go_wp2_with (go_at_call 60; refine (srecok_any _ _ _).mono ?_; rw [HOK.out]; rintro e w2 ⟨rfl, hB⟩; have HB := Lib.hid (below_via HW.out.1 hB); clear hB)
          go_ret
          exact ⟨ret_bool HQ.out, HB.out⟩
        | true =>
          have HOK := Lib.hid hok
          clear hok
          go_wp2_with (go_at_call 60; refine (srecok_any _ _ _).mono ?_; rw [HOK.out]; rintro e w2 ⟨rfl, hB⟩; have HB := Lib.hid (below_via HW.out.1 hB); clear hB)
          go_roundw
          case rel => exact ⟨k + 1, by omega, by go_num, HB.out, fun j hj => by
            rcases Nat.lt_or_ge j k with h | h
            · exact HW.out.2 j h
            · obtain rfl : j = k := by omega
              exact HOK.out⟩
          case measure => simp [intOf]; omega
    · obtain rfl : k = len := by omega
      have HALL := Lib.hid (show recsOkB l = decide (k ≤ 600) by
        unfold recsOkB
        rw [HR.out.length]
        have : ((List.range k).all fun i => okAt l i) = true := List.all_eq_true.2 fun i hi => HW.out.2 i (List.mem_range.1 hi)
        rw [this, Bool.and_true])
      cases hop : opOkB op with
      | false =>
        have HO := Lib.hid hop
        clear hop
        go_wp2_with (go_at_call 35; refine (l4op_any op _).mono ?_; rw [HO.out]; rintro e w2 ⟨rfl, rfl⟩)
        go_ret
        exact ⟨by rw [HO.out, Bool.false_and]; rfl, HW.out.1⟩
      | true =>
        have HO := Lib.hid hop
        clear hop
        by_cases h6 : k ≤ 600
        · have HQ := Lib.hid (show true = recsOkB l by rw [HALL.out, decide_eq_true h6])
          have hi6 : (k : Int) ≤ 600 := by omega
          go_wp2_with (go_at_call 35; refine (l4op_any op _).mono ?_; rw [HO.out]; rintro e w2 ⟨rfl, rfl⟩)
          go_ret
          exact ⟨by rw [HO.out, Bool.true_and, ← HQ.out]; rfl, HW.out.1⟩
        · have HQ := Lib.hid (show false = recsOkB l by rw [HALL.out, decide_eq_false h6])
          have hi6 : ¬ (k : Int) ≤ 600 := by omega
          go_wp2_with (go_at_call 35; refine (l4op_any op _).mono ?_; rw [HO.out]; rintro e w2 ⟨rfl, rfl⟩)
          go_ret
          exact ⟨by rw [HO.out, Bool.true_and, ← HQ.out]; exact congrArg (fun b => Ending.returned (.bool b)) (decide_eq_false (by omega)), HW.out.1⟩

def MixL (cur : Array Value) (l : Recs) (k n : Nat) : Prop := ∀ j, j < n → cur[j * 2]? = some (.string (keyAt l j)) ∧ cur[j * 2 + 1]? = some (.int .i64 (if j < k then 1 else numAt l j))
theorem MixL.start {cur : Array Value} {l : Recs} {n : Nat} (h : Laid cur l n) : MixL cur l 0 n := fun j hj => by
  rw [if_neg (Nat.not_lt_zero _)]; exact h j hj
theorem MixL.step {cur : Array Value} {l : Recs} {k n : Nat} (h : MixL cur l k n) (hk : k < n) (hs : n * 2 ≤ cur.size) : MixL (cur.setIfInBounds (k * 2 + 1) (.int .i64 1)) l (k + 1) n := by
  intro j hj
  obtain ⟨e1, e2⟩ := h j hj
  have h1 : k * 2 + 1 < cur.size := by omega
  rw [Array.getElem?_setIfInBounds_ne (by omega)]
  refine ⟨e1, ?_⟩
  by_cases hjk : j = k
  · subst hjk
    rw [if_pos (Nat.lt_succ_self _)]
    simp [h1]
  · rw [Array.getElem?_setIfInBounds_ne (by omega), e2]
    by_cases h2 : j < k
    · rw [if_pos h2, if_pos (by omega)]
    · rw [if_neg h2, if_neg (by omega)]
theorem MixL.done {cur : Array Value} {l : Recs} {n : Nat} (h : MixL cur l n n) (hl : l.length = n) : Laid cur (liftL 4 l) n := by
  intro j hj
  obtain ⟨e1, e2⟩ := liftL_at 4 l j (by omega)
  obtain ⟨c1, c2⟩ := h j hj
  rw [if_pos hj] at c2
  rw [if_pos rfl] at e2
  rw [e1, e2]
  exact ⟨c1, c2⟩

set_option maxHeartbeats 4000000 in
theorem slifted_any (op : Int) (ab ao len cap : Nat) (l : Recs) (w : World) (h : RecsAt w (some ⟨ab, ao, none⟩) len l) :
    Calls Tryz.prog 21 #[.int .i64 op, .slice (some ⟨ab, ao, none⟩) len cap] w (MadeRsL (liftW op l) w) := by
  obtain ⟨i0, hi, hz0, hz1, hz2⟩ := info_parts infoRec
  have HR := Lib.hid h
  clear h
  cases hg : (opOkB op && recsOkB l) with
  | false =>
    have HQ := Lib.hid (show liftW op l = [] by unfold liftW; rw [hg]; rfl)
    have HG := Lib.hid hg
    clear hg
    go_enter Tryz.func21, Tryz.ntmps21
    go_wp2_with fail
    refine (l4recs_any _ _ _ _ _ _ HR.out).mono ?_
    rw [HG.out]
    rintro e w1 ⟨rfl, hB⟩
    have HB := Lib.hid hB
    clear hB
    go_wp2
    go_ret
    rw [HQ.out]
    exact ⟨none, 0, rfl, .inl rfl, HB.out⟩
  | true =>
    have HQ := Lib.hid (show liftW op l = liftL op l by unfold liftW; rw [hg]; rfl)
    have HG := Lib.hid hg
    rw [Bool.and_eq_true] at hg
    have h6 : len ≤ 600 := by rw [← HR.out.length]; exact (recsOk_parts hg.2).1
    have HLL := Lib.hid ((liftL_len op l).trans HR.out.length)
    clear hg
    by_cases h4 : op = 4
    · subst h4
      go_enter Tryz.func21, Tryz.ntmps21
      go_wp2_with fail
      refine (l4recs_any _ _ _ _ _ _ HR.out).mono ?_
      rw [HG.out]
      rintro e w1 ⟨rfl, hB⟩
      have HB := Lib.hid hB
      have HRE := Lib.hid (HR.out.keep (below_alloc hB (.cells #[] 50)))
      have HO0 := Lib.hid (World.ownsRow.mono (show (w1.alloc (.cells #[] 50)).ownsRow w1.heap.size 50 2 (.slice (some ⟨w1.heap.size, 0, none⟩) 0 0) 0 [] from World.ownsRow_lit w1 #[] 0 (Nat.le_refl _) (Nat.zero_le _) rfl) HB.out.size)
      clear hB
      go_wp2_with (at_builtin; go_loud (refine wpList_append_own _ rfl _ _ 45 rfl w.heap.size 50 i0 _ 2 24 Tryz.underlying45 hi hz0 hz1 hz2 rfl (by decide) _ 0 [] rfl HO0.out ⟨ab, ao, none⟩ len cap (cellsL l) rfl (by rw [cellsL_len, HR.out.length]) (recs_cells HRE.out) (cellsL_one _) (by unfold maxLen; omega) (by omega) (below_alloc HB.out _).size ?_); intro v' w3 hown1 hgrow hnil; have HO1 := Lib.hid hown1; have HB1 := Lib.hid ((below_alloc HB.out _).grown hgrow (below_alloc HB.out _).size (fun j hj => by have := HO0.out.lt j hj; exact this.1)); clear hown1 hgrow hnil)
      obtain ⟨q1, cp1, rfl⟩ := own_form HO1.out
      rw [Nat.zero_add]
      have HRS := Lib.hid (show Rs w.heap.size w3 q1 l from rs_of_own (cp := cp1) (by have := HO1.out; rw [Nat.zero_add, List.nil_append] at this; rw [HR.out.length]; exact this))
      go_loopw [6] (fun i wr => ∃ k : Nat, k ≤ len ∧ i = .int .i64 k ∧ Hid (Below w.heap.size w wr ∧ (len = 0 ∨ ∃ g cur, q1 = some ⟨g, 0, none⟩ ∧ w.heap.size ≤ g ∧ Row wr g 50 cur ∧ len * 2 ≤ cur.size ∧ MixL cur l k len))) (fun i _ => len - (intOf i).toNat)
      case atStart =>
        refine ⟨0, Nat.zero_le _, rfl, HB1.out, ?_⟩
        rcases HRS.out with h0 | ⟨g, cur, e1, e2, e3, e4, e5⟩
        · exact .inl (by rw [← HR.out.length]; exact h0)
        · rw [HR.out.length] at e4 e5
          exact .inr ⟨g, cur, e1, e2, e3, e4, MixL.start e5⟩
      case round =>
        obtain ⟨k, hk, rfl, HW⟩ := hrel
        clear HRS HB1
        by_cases hlt : k < len
        · obtain ⟨g, cur, rfl, hbg, hr, hs, hmx⟩ : ∃ g cur, q1 = some ⟨g, 0, none⟩ ∧ w.heap.size ≤ g ∧ Row wr g 50 cur ∧ len * 2 ≤ cur.size ∧ MixL cur l k len := by
            rcases HW.out.2 with h0 | h1
            · omega
            · exact h1
          have hA1 := hr.cell (j := k * 2 + 1) (by omega)
          have hf1 := hr.free (k * 2 + 1)
          have HRC := Lib.hid hr
          have HST := Lib.hid (hmx.step hlt hs)
          have HS := Lib.hid hs
          have HBG := Lib.hid hbg
          generalize cur[k * 2 + 1] = x1 at hA1
          have hi1 : (k : Int) < (len : Int) := by omega
          have hi0 : (0 : Int) ≤ (k : Int) := by omega
          clear hr hs hmx hbg
          go_wp2
          go_roundw
          case rel => exact ⟨k + 1, by omega, by go_num, HW.out.1.setCell HBG.out _, .inr ⟨g, _, rfl, HBG.out, HRC.out.set _ _, by simpa using HS.out, HST.out⟩⟩
          case measure => simp [intOf]; omega
        · obtain rfl : k = len := by omega
          go_wp2
          go_ret
          rw [HQ.out]
          refine ⟨q1, cp1, by rw [HLL.out]; rfl, ?_, HW.out.1⟩
          rcases HW.out.2 with h0 | ⟨g, cur, e1, e2, e3, e4, e5⟩
          · exact .inl (by rw [HLL.out]; exact h0)
          · exact .inr ⟨g, cur, e1, e2, e3, by rw [HLL.out]; exact e4, by rw [HLL.out]; exact e5.done HR.out.length⟩
    · have g4 : (op == 4) = false := by simpa using h4
      have HSM := Lib.hid (liftL_same op l h4)
      go_enter Tryz.func21, Tryz.ntmps21
      go_wp2_with fail
      refine (l4recs_any _ _ _ _ _ _ HR.out).mono ?_
      rw [HG.out]
      rintro e w1 ⟨rfl, hB⟩
      have HB := Lib.hid hB
      have HRE := Lib.hid (HR.out.keep (below_alloc hB (.cells #[] 50)))
      have HO0 := Lib.hid (World.ownsRow.mono (show (w1.alloc (.cells #[] 50)).ownsRow w1.heap.size 50 2 (.slice (some ⟨w1.heap.size, 0, none⟩) 0 0) 0 [] from World.ownsRow_lit w1 #[] 0 (Nat.le_refl _) (Nat.zero_le _) rfl) HB.out.size)
      clear hB
      go_wp2_with (at_builtin; go_loud (refine wpList_append_own _ rfl _ _ 45 rfl w.heap.size 50 i0 _ 2 24 Tryz.underlying45 hi hz0 hz1 hz2 rfl (by decide) _ 0 [] rfl HO0.out ⟨ab, ao, none⟩ len cap (cellsL l) rfl (by rw [cellsL_len, HR.out.length]) (recs_cells HRE.out) (cellsL_one _) (by unfold maxLen; omega) (by omega) (below_alloc HB.out _).size ?_); intro v' w3 hown1 hgrow hnil; have HO1 := Lib.hid hown1; have HB1 := Lib.hid ((below_alloc HB.out _).grown hgrow (below_alloc HB.out _).size (fun j hj => by have := HO0.out.lt j hj; exact this.1)); clear hown1 hgrow hnil)
      obtain ⟨q1, cp1, rfl⟩ := own_form HO1.out
      rw [Nat.zero_add]
      have HRS := Lib.hid (show Rs w.heap.size w3 q1 l from rs_of_own (cp := cp1) (by have := HO1.out; rw [Nat.zero_add, List.nil_append] at this; rw [HR.out.length]; exact this))
      go_loopw [6] (fun i wr => ∃ k : Nat, k ≤ len ∧ i = .int .i64 k ∧ Hid (wr = w3)) (fun i _ => len - (intOf i).toNat)
      case atStart => exact ⟨0, Nat.zero_le _, rfl, Lib.hid rfl⟩
      case round =>
        obtain ⟨k, hk, rfl, HE⟩ := hrel
        by_cases hlt : k < len
        · have hi1 : (k : Int) < (len : Int) := by omega
          have hi0 : (0 : Int) ≤ (k : Int) := by omega
          go_wp2
          go_roundw
          case rel => exact ⟨k + 1, by omega, by go_num, HE⟩
          case measure => simp [intOf]; omega
        · obtain rfl : k = len := by omega
          go_wp2
          go_ret
          rw [HQ.out, HSM.out]
          exact ⟨q1, cp1, by rw [HR.out.length]; rfl, by rw [HE.out]; exact HRS.out, by rw [HE.out]; exact HB1.out⟩
end Go.Proofs.YtdphganbnlmgcaaGreatDoor
namespace Go.Proofs.YtdphganbnlmgcaaGreatDoor
open Go.ChangeShapes Go.WideShapes Go.ChangeAt Go.RowKit
set_option linter.unusedVariables false
set_option maxRecDepth 100000

def combW (op : Int) (l : Recs) : Recs := if opOkB op then cTo op (sortedB l) (sortedB l).length else []
theorem comb_bad {op : Int} {l : Recs} (h : opOkB op = false) : combW op l = [] := by unfold combW; rw [h]; rfl
theorem comb_of {op : Int} {l S : Recs} {n : Nat} (h : opOkB op = true) (hs : sortedB l = S) (hn : S.length = n) : combW op l = cTo op S n := by unfold combW; rw [if_pos h, hs, hn]
theorem comb_not {op : Int} {l : Recs} (h : recsOkB l = false) : combW op l = [] := by
  unfold combW
  rw [sortedB_not h]
  split <;> rfl
theorem Rs.base {b c : Nat} {w : World} {q : Option Addr} {W : Recs} (h : Rs b w q W) (hc : c ≤ b) : Rs c w q W := by
  rcases h with h0 | ⟨g, cur, e1, hb, h2⟩
  · exact .inl h0
  · exact .inr ⟨g, cur, e1, Nat.le_trans hc hb, h2⟩

theorem store_fn (w : World) (v : Value) (h : v.oneCell' = true) : Sem.run Tryz.prog (store ⟨w.heap.size, 0, none⟩ v) (w.alloc (.cells #[.nilFunc] 92)) = .ok () ((w.alloc (.cells #[.nilFunc] 92)).setCell ⟨w.heap.size, 0, none⟩ v) := by
  rw [run_store Tryz.prog _ _ v _ h]
  simp

set_option maxHeartbeats 4000000 in
theorem combined_any (op : Int) (a : Option Addr) (len cap : Nat) (l : Recs) (w : World) (h : RecsAt w a len l) :
    Calls Tryz.prog 49 #[.int .i64 op, .slice a len cap] w (MadeRs (combW op l) w) := by
  have HR := Lib.hid h
  clear h
  cases hop : opOkB op with
  | false =>
    have HQ := Lib.hid (comb_bad (l := l) hop)
    have HO := Lib.hid hop
    clear hop
    go_enter Tryz.func49, Tryz.ntmps49
    go_wp2_with fail
    refine (combinerF_no op _ HO.out).mono ?_
    rintro e w1 ⟨rfl, rfl⟩
    go_wp2_with fail
    have hst := store_fn w .nilFunc rfl
    rw [hst]
    go_wp2
    go_ret
    rw [HQ.out]
    first
      | exact ⟨none, 0, rfl, .inl rfl, below_alloc (Below.refl _ _) _, Nat.le_refl _, Nat.zero_le _, fun _ => rfl⟩
      | exact ⟨none, 0, rfl, .inl rfl, (below_alloc (Below.refl _ _) _).setCell (Nat.le_refl _) _, Nat.le_refl _, Nat.zero_le _, fun _ => rfl⟩
  | true =>
    obtain ⟨fv, hfv⟩ : ∃ fv, fnOf op = .func (Fn.func fv) #[] #[] := ⟨fnNum op, rfl⟩
    have hcomb : Calls Tryz.prog 45 #[.int .i64 op] w fun e w' => e = .returned (.tuple #[.func (Fn.func fv) #[] #[], .bool true]) ∧ w = w' := by rw [← hfv]; exact combinerF_any op w hop
    obtain ⟨S, hS⟩ : ∃ S, sortedB l = S := ⟨_, rfl⟩
    obtain ⟨n, hn⟩ : ∃ n, S.length = n := ⟨_, rfl⟩
    have hfew := sortedB_few l
    rw [hS, hn] at hfew
    have HQ := Lib.hid (comb_of hop hS hn)
    have HO := Lib.hid hop
    have HF := Lib.hid hfv
    have HS := Lib.hid hS
    have HN := Lib.hid hn
    have HK := Lib.hid hfew.2
    have hn6 := hfew.1
    clear hop hfv hS hn hfew
    go_enter Tryz.func49, Tryz.ntmps49
    go_wp2_with fail
    refine hcomb.mono ?_
    rintro e w1 ⟨rfl, rfl⟩
    clear hcomb
    go_wp2_with fail
    have hst := store_fn w (.func (Fn.func fv) #[] #[]) rfl
    rw [hst]
    obtain ⟨wp, hwp⟩ : ∃ wp, (w.alloc (.cells #[.nilFunc] 92)).setCell ⟨w.heap.size, 0, none⟩ (.func (Fn.func fv) #[] #[]) = wp := ⟨_, rfl⟩
    have hrow : Row wp w.heap.size 92 #[.func (Fn.func fv) #[] #[]] := hwp ▸ (Row.new w 92 #[.nilFunc]).set 0 _
    have hBp : Below w.heap.size w wp := hwp ▸ (below_alloc (Below.refl _ _) _).setCell (Nat.le_refl _) _
    clear hst
    go_wp2_with fail
    have hp0 := Row.cell hrow (j := 0) (by simp)
    simp only [List.getElem_toArray, List.getElem_cons_zero] at hp0
    refine (sorted_any _ _ _ _ _ (HR.out.keep hBp)).mono ?_
    rw [HS.out]
    rintro e w2 ⟨q1, cp1, rfl, hrs, hB, hc1, hc2, hc3⟩
    have hplt : w.heap.size < wp.heap.size := Row.lt hrow
    have HP := Lib.hid (show w2.cell? ⟨w.heap.size, 0, none⟩ = some (fnOf op) by rw [HF.out]; exact (hB.cell (p := ⟨w.heap.size, 0, none⟩) hplt).trans hp0)
    have HRS := Lib.hid hrs
    have HB := Lib.hid (hBp.trans (hB.mono hBp.size))
    rw [HN.out]
    clear hrs hB hc1 hc2 hc3 hrow hBp hp0 hwp hplt
    go_wp2_with fail
    refine (joined_any op w.heap.size q1 n cp1 S w2 (recs_of_rs HRS.out HN.out (by unfold maxLen; omega) (fun i hi => by have := HK.out i hi; unfold maxLen; omega)) hn6 HO.out HP.out).mono ?_
    rw [← HQ.out]
    rintro e w3 ⟨q2, cp2, rfl, hrs, hB, hc⟩
    have HRS2 := Lib.hid (Rs.base hrs HB.out.size)
    have HB := Lib.hid (below_via HB.out hB)
    have HC := Lib.hid hc
    clear hrs hB hc
    go_wp2
    go_ret
    exact ⟨q2, cp2, rfl, HRS2.out, HB.out, HC.out⟩

set_option maxHeartbeats 8000000 in
theorem scombined_any (op : Int) (a : Option Addr) (len cap : Nat) (l : Recs) (w : World) (h : RecsAt w a len l) :
    Calls Tryz.prog 20 #[.int .i64 op, .slice a len cap] w (MadeRs (combW op l) w) := by
  obtain ⟨i0, hi, hz0, hz1, hz2⟩ := info_parts infoRec
  have HR := Lib.hid h
  clear h
  cases hok : (opOkB op && recsOkB l) with
  | false =>
    have HQ := Lib.hid (show combW op l = [] by
      cases ho : opOkB op with
      | false => exact comb_bad ho
      | true => exact comb_not (by rw [ho, Bool.true_and] at hok; exact hok))
    have HO := Lib.hid hok
    clear hok
    go_enter Tryz.func20, Tryz.ntmps20
    go_wp2_with (go_at_call 41; refine (l4recs_any _ _ _ _ _ _ HR.out).mono ?_; rw [HO.out]; rintro e w1 ⟨rfl, hB⟩; have HB := Lib.hid hB; clear hB)
    go_ret
    rw [HQ.out]
    exact ⟨none, 0, rfl, .inl rfl, HB.out, Nat.le_refl _, Nat.zero_le _, fun _ => rfl⟩
  | true =>
    have hop : opOkB op = true := by rw [Bool.and_eq_true] at hok; exact hok.1
    obtain ⟨S, hS⟩ : ∃ S, sortedB l = S := ⟨_, rfl⟩
    obtain ⟨len1, hn⟩ : ∃ n, S.length = n := ⟨_, rfl⟩
    have hfew := sortedB_few l
    rw [hS, hn] at hfew
    have HQ := Lib.hid (comb_of hop hS hn)
    have HO := Lib.hid hok
    have HS := Lib.hid hS
    have HL := Lib.hid hn
    have HK := Lib.hid hfew.2
    have hn6 := hfew.1
    clear hop hok hS hn hfew
    go_enter Tryz.func20, Tryz.ntmps20
    go_wp2_with fail
    refine (l4recs_any _ _ _ _ _ _ HR.out).mono ?_
    rw [HO.out]
    rintro e w1 ⟨rfl, hB⟩
    have HB := Lib.hid hB
    have HR := Lib.hid (HR.out.keep hB)
    clear hB
    go_wp2_with fail
    refine (ssorted_any _ _ _ _ _ HR.out).mono ?_
    rw [HS.out]
    rintro e w2 ⟨q1, cp1, rfl, hrs, hB, hc1, hc2, hc3⟩
    have HRE := Lib.hid (show RecsAt w2 q1 len1 S from recs_of_rs hrs HL.out (by unfold maxLen; omega) (fun i hi => by have := HK.out i hi; unfold maxLen; omega))
    have HB := Lib.hid (below_via HB.out hB)
    have HBO := Lib.hid HB.out
    rw [HL.out]
    clear hrs hB hc1 hc2 hc3 HR HB
    go_wp2_with fail
    go_loopw [6, 7] (fun v i wr => ∃ (k n : Nat) (q : Option Addr) (cp : Nat), k ≤ len1 ∧ i = .int .i64 k ∧ v = .slice q n cp ∧ n ≤ k ∧ Hid (CSt op S w2 wr q n cp k)) (fun _ i _ => len1 - (intOf i).toNat)
    case atStart => exact ⟨0, 0, _, _, Nat.zero_le _, rfl, rfl, Nat.le_refl _, World.ownsRow_lit w2 #[] 0 (Nat.le_refl _) (Nat.zero_le _) rfl, rfl, below_alloc (Below.refl _ _) _⟩
    case round =>
      obtain ⟨k, n, q, cp, hk, rfl, rfl, hnk, HT⟩ := hrel
      by_cases hlt : k < len1
      · rcases HRE.out.src with hz | ⟨b, off, rfl, hb, hc⟩
        · omega
        · have c0 := (HT.out.below.cell (p := ⟨b, off + k * 2, none⟩) hb).trans (hc k hlt).1
          have c1 := (HT.out.below.cell (p := ⟨b, off + k * 2 + 1, none⟩) hb).trans (hc k hlt).2
          have hki : (k : Int) < (len1 : Int) := by omega
          have HST := Lib.hid (cTo_succ op S k (by rw [HL.out]; exact hlt))
          obtain ⟨V, hV⟩ : ∃ V, cTo op S k = V := ⟨_, rfl⟩
          have HO := Lib.hid (show wr.ownsRow w2.heap.size 50 2 (.slice q n cp) n (cellsL V) from hV ▸ HT.out.own)
          have HN := Lib.hid (show V.length = n from hV ▸ HT.out.size)
          have HB := Lib.hid HT.out.below
          obtain ⟨y, hy⟩ : ∃ y, keyAt S k = y := ⟨_, rfl⟩
          obtain ⟨x, hx⟩ : ∃ x, numAt S k = x := ⟨_, rfl⟩
          have HY := Lib.hid (show cTo op S (k + 1) = cStep op V (y, x) by rw [HST.out, hV, hy, hx])
          rw [hy] at c0
          rw [hx] at c1
          clear hc hb hV hy hx HST HT
          by_cases hn0 : n = 0
          · have hd : decide ((0 : Int) < (n : Int)) = false := decide_eq_false (by omega)
            have hnn : ¬ (0 : Int) < (n : Int) := by omega
            have hdn : decide (0 < n) = false := decide_eq_false (by omega)
            have HJ := Lib.hid (show joinsB V (y, x) = false by unfold joinsB; rw [HN.out, decide_eq_false (by omega)]; rfl)
            clear hn0
            go_wp2_with fail
            go_quiet (fail)
            have c0 : (wr.drewN nq).cell? ⟨b, off + k * 2, none⟩ = some (.string y) := c0
            have c1 : (wr.drewN nq).cell? ⟨b, off + k * 2 + 1, none⟩ = some (.int .i64 x) := c1
            have HO := Lib.hid (own_below HO.out (below_drewN (Below.refl _ wr) nq))
            have HB := Lib.hid (below_drewN HB.out nq)
            generalize wr.drewN nq = wq at c0 c1 HO HB ⊢
            go_wp2_with (at_builtin; (refine wpList_append_own _ rfl _ _ 45 rfl w2.heap.size 50 i0 _ 2 24 Tryz.underlying45 hi hz0 hz1 hz2 rfl (by decide) _ _ _ rfl (HO.out.alloc _) ⟨wq.heap.size, 0, none⟩ 1 1 [.string y, .int .i64 x] rfl rfl (two_new _ _ _ _) (two_cells _ _) (by unfold maxLen; omega) (by omega) (Nat.le_trans HB.out.size (below_alloc (Below.refl _ _) _).size) ?_); intro v' w3 hown1 hgrow hnil; have HO1 := Lib.hid hown1; have HG := Lib.hid hgrow; clear hown1 hgrow hnil)
            have HB3 := Lib.hid ((below_alloc HB.out _).grown HG.out (below_alloc HB.out _).size (fun j hj => (HO.out.lt j hj).1))
            obtain ⟨q1, cp1, rfl⟩ := own_form HO1.out
            go_roundw
            case rel =>
              have e1 : cTo op S (k + 1) = V ++ [(y, x)] := by rw [HY.out, cStep_new HJ.out]
              refine ⟨k + 1, n + 1, q1, cp1, by omega, by go_num, rfl, by omega, ?_, by rw [e1, List.length_append, HN.out]; rfl, HB3.out⟩
              rw [e1, cellsL_snoc]
              exact HO1.out
            case measure => simp [intOf]; omega
          · obtain ⟨m, rfl⟩ : ∃ m, n = m + 1 := ⟨n - 1, by omega⟩
            obtain ⟨g, rfl, hbg, d0, d1, hf⟩ := own_cells HO.out HN.out (i := m) (by omega)
            have hm1 : ((m + 1 : Nat) : Int) - 1 = (m : Int) := by omega
            have hm0 : (0 : Int) ≤ (m : Int) := by omega
            have hml : (m : Int) < ((m + 1 : Nat) : Int) := by omega
            have hml2 : (m : Int) < (m : Int) + 1 := by omega
            have hd : decide ((0 : Int) < ((m + 1 : Nat) : Int)) = true := decide_eq_true (by omega)
            have hd0 : (0 : Int) < ((m + 1 : Nat) : Int) := by omega
            cases hsk : sameKey (keyAt V m) y with
            | true =>
              have hs2 : ((keyAt V m).toList == y.toList) = true := hsk
              have HJ := Lib.hid (show joinsB V (y, x) = true by unfold joinsB; rw [HN.out, Nat.add_sub_cancel, hsk, decide_eq_true (by omega)]; rfl)
              have f1 := hf (m * 2 + 1)
              clear hsk hf
              go_wp2_with fail
              have hw1 : IntKind.i64.wrap (m : Int) = (m : Int) := IntWalk.i64_in _ (by omega)
              go_quiet (fail)
              clear hw1
              have c0 : (wr.drewN nq).cell? ⟨b, off + k * 2, none⟩ = some (.string y) := c0
              have c1 : (wr.drewN nq).cell? ⟨b, off + k * 2 + 1, none⟩ = some (.int .i64 x) := c1
              have d0 : (wr.drewN nq).cell? ⟨g, m * 2, none⟩ = some (.string (keyAt V m)) := d0
              have d1 : (wr.drewN nq).cell? ⟨g, m * 2 + 1, none⟩ = some (.int .i64 (numAt V m)) := d1
              have f1 : (wr.drewN nq).frozen? ⟨g, m * 2 + 1, none⟩ = false := f1
              have HO := Lib.hid (own_below HO.out (below_drewN (Below.refl _ wr) nq))
              have HB := Lib.hid (below_drewN HB.out nq)
              generalize wr.drewN nq = wq at c0 c1 d0 d1 f1 HO HB ⊢
              go_wp2_with fail
              have hw1 : IntKind.i64.wrap (m : Int) = (m : Int) := IntWalk.i64_in _ (by omega)
              refine wp_region_still_tail 18 (by kernel_rfl) (by kernel_rfl) ?_
              simp only [List.take_succ_cons, List.take_zero, List.drop_succ_cons, List.drop_zero]
              iterate 15 still_step
              still_call ((scomb_any op _ _ _).mono fun _ _ ⟨he, hw⟩ => ⟨he, hw.symm⟩)
              iterate 2 still_step
              refine wpStill_nil ?_
              change wpList _ _ _ _ _ wq.drew
              clear hw1
              go_wp2
              go_roundw
              case rel =>
                have e1 : cTo op S (k + 1) = V.set m (keyAt V m, combN op (numAt V m) x) := by rw [HY.out, cStep_join HJ.out HN.out]
                have ho := own_putN (own_below HO.out (Below.refl _ _).drew) HN.out (i := m) (by omega) (combN op (numAt V m) x)
                have hb := (HB.out.drew).setCell (p := ⟨g, m * 2 + 1, none⟩) hbg (.int .i64 (combN op (numAt V m) x))
                exact ⟨k + 1, m + 1, _, cp, by omega, by go_num, rfl, by omega, by rw [e1]; exact ho, by rw [e1, List.length_set]; exact HN.out, hb⟩
              case measure => simp [intOf]; omega
            | false =>
              have hs2 : ((keyAt V m).toList == y.toList) = false := hsk
              have HJ := Lib.hid (show joinsB V (y, x) = false by unfold joinsB; rw [HN.out, Nat.add_sub_cancel, hsk, Bool.and_false])
              clear hsk hf
              go_wp2_with fail
              have hw1 : IntKind.i64.wrap (m : Int) = (m : Int) := IntWalk.i64_in _ (by omega)
              go_quiet (fail)
              clear hw1
              have c0 : (wr.drewN nq).cell? ⟨b, off + k * 2, none⟩ = some (.string y) := c0
              have c1 : (wr.drewN nq).cell? ⟨b, off + k * 2 + 1, none⟩ = some (.int .i64 x) := c1
              have HO := Lib.hid (own_below HO.out (below_drewN (Below.refl _ wr) nq))
              have HB := Lib.hid (below_drewN HB.out nq)
              clear d0 d1
              generalize wr.drewN nq = wq at c0 c1 HO HB ⊢
              go_wp2_with (at_builtin; (refine wpList_append_own _ rfl _ _ 45 rfl w2.heap.size 50 i0 _ 2 24 Tryz.underlying45 hi hz0 hz1 hz2 rfl (by decide) _ _ _ rfl (HO.out.alloc _) ⟨wq.heap.size, 0, none⟩ 1 1 [.string y, .int .i64 x] rfl rfl (two_new _ _ _ _) (two_cells _ _) (by unfold maxLen; omega) (by omega) (Nat.le_trans HB.out.size (below_alloc (Below.refl _ _) _).size) ?_); intro v' w3 hown1 hgrow hnil; have HO1 := Lib.hid hown1; have HG := Lib.hid hgrow; clear hown1 hgrow hnil)
              have HB3 := Lib.hid ((below_alloc HB.out _).grown HG.out (below_alloc HB.out _).size (fun j hj => (HO.out.lt j hj).1))
              obtain ⟨q1, cp1, rfl⟩ := own_form HO1.out
              go_roundw
              case rel =>
                have e1 : cTo op S (k + 1) = V ++ [(y, x)] := by rw [HY.out, cStep_new HJ.out]
                refine ⟨k + 1, m + 1 + 1, q1, cp1, by omega, by go_num, rfl, by omega, ?_, by rw [e1, List.length_append, HN.out]; rfl, HB3.out⟩
                rw [e1, cellsL_snoc]
                exact HO1.out
              case measure => simp [intOf]; omega
      · obtain rfl : k = len1 := by omega
        have hki : ¬ (k : Int) < (k : Int) := by omega
        go_wp2
        go_ret
        rw [HQ.out]
        exact ⟨q, cp, by rw [HT.out.size]; rfl, Rs.base (rs_of_own (by rw [HT.out.size]; exact HT.out.own)) HBO.out.size, below_via HBO.out HT.out.below, by rw [HT.out.size]; exact (own_cap HT.out.own).1, (own_cap HT.out.own).2⟩
end Go.Proofs.YtdphganbnlmgcaaGreatDoor
namespace Go.Proofs.YtdphganbnlmgcaaGreatDoor
open Go.ChangeShapes Go.WideShapes Go.ChangeAt Go.RowKit
set_option linter.unusedVariables false
set_option maxRecDepth 100000

theorem cTo_keys (op : Int) (S : Recs) : ∀ k, k ≤ S.length → ∀ r ∈ cTo op S k, ∃ j, j < k ∧ r.1 = keyAt S j
  | 0, _, r, hr => by simp [cTo] at hr
  | k + 1, h, r, hr => by
    have ih := cTo_keys op S k (by omega)
    rw [cTo_succ op S k (by omega)] at hr
    unfold cStep at hr
    split at hr
    · rename_i hj
      have hpos : 0 < (cTo op S k).length := by
        unfold joinsB at hj
        rw [Bool.and_eq_true, decide_eq_true_eq] at hj
        exact hj.1
      rcases List.mem_or_eq_of_mem_set hr with h1 | h1
      · obtain ⟨j, hj, e⟩ := ih r h1
        exact ⟨j, by omega, e⟩
      · subst h1
        have hm : (cTo op S k).length - 1 < (cTo op S k).length := by omega
        obtain ⟨j, hj, e⟩ := ih _ (List.getElem_mem hm)
        rw [at_get _ _ hm] at e
        exact ⟨j, by omega, e⟩
    · rcases List.mem_append.1 hr with h1 | h1
      · obtain ⟨j, hj, e⟩ := ih r h1
        exact ⟨j, by omega, e⟩
      · simp at h1
        subst h1
        exact ⟨k, by omega, rfl⟩
theorem combW_few (op : Int) (l : Recs) : (combW op l).length ≤ 600 ∧ ∀ i, i < (combW op l).length → (keyAt (combW op l) i).size ≤ 40 := by
  unfold combW
  split
  · have hf := sortedB_few l
    refine ⟨Nat.le_trans (cTo_len op _ _ (Nat.le_refl _)) hf.1, fun i hi => ?_⟩
    obtain ⟨j, hj, e⟩ := cTo_keys op (sortedB l) _ (Nat.le_refl _) _ (List.getElem_mem hi)
    rw [at_get _ i hi] at e
    have e1 : keyAt (cTo op (sortedB l) (sortedB l).length) i = keyAt (sortedB l) j := e
    rw [e1]
    exact hf.2 j hj
  · exact ⟨Nat.zero_le _, fun i hi => by simp at hi⟩

end Go.Proofs.YtdphganbnlmgcaaGreatDoor
