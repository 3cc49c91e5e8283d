/- Texts put together, as a claim holds at most sixty files. -/
import Derived.Test.YtjofbeokkainlaaGreatDoorMg20
import Derived.Test.YtjofbeokkainlaaGreatDoorMg2
import Derived.Deep.Onto
namespace Go.Proofs.YtjofbeokkainlaaGreatDoor
open Go.ChangeShapes Go.WideShapes Go.ChangeAt Go.RowKit
set_option linter.unusedVariables false
set_option maxRecDepth 100000

def liftL (op : Int) (l : Recs) : Recs := l.map fun r => (r.1, if op = 4 then 1 else r.2)
def liftW (op : Int) (l : Recs) : Recs := if opOkB op && recsOkB l then liftL op l else []
theorem liftL_len (op : Int) (l : Recs) : (liftL op l).length = l.length := by unfold liftL; simp
theorem liftL_at (op : Int) (l : Recs) (i : Nat) (h : i < l.length) : keyAt (liftL op l) i = keyAt l i ∧ numAt (liftL op l) i = if op = 4 then 1 else numAt l i := by
  have e : (liftL op l)[i]? = some ((l[i]).1, if op = 4 then 1 else (l[i]).2) := by unfold liftL; rw [List.getElem?_map, List.getElem?_eq_getElem h]; rfl
  have e2 := at_get l i h
  unfold keyAt numAt at *
  rw [List.getD_eq_getElem?_getD, e]
  constructor
  · show (l[i]).1 = _
    rw [e2]
  · show (if op = 4 then 1 else (l[i]).2) = _
    rw [e2]
theorem liftL_same (op : Int) (l : Recs) (h : op ≠ 4) : liftL op l = l := by
  unfold liftL
  simp [h]
theorem lift_no1 {op : Int} {l : Recs} (h : opOkB op = false) : liftW op l = [] := by unfold liftW; rw [h]; rfl
theorem lift_no2 {op : Int} {l : Recs} (h : recsOkB l = false) : liftW op l = [] := by unfold liftW; rw [h, Bool.and_false]; rfl
theorem lift_yes {op : Int} {l : Recs} (h : opOkB op = true) (k : recsOkB l = true) : liftW op l = liftL op l := by unfold liftW; rw [h, k]; rfl

/-- The end of a function that returns records in a row of its own (nothing is told of the capacity). -/
def MadeRsL (W : Recs) (w : World) (e : Ending) (w' : World) : Prop :=
  ∃ q cp, e = .returned (.slice q W.length cp) ∧ Rs w.heap.size w' q W ∧ Below w.heap.size w w'

set_option maxHeartbeats 4000000 in
theorem lifted_any (op : Int) (a : Option Addr) (len cap : Nat) (l : Recs) (w : World) (h : RecsAt w a len l) :
    Calls Tryz.prog 15 #[.int .i64 op, .slice a len cap] w (MadeRsL (liftW op l) w) := by
  obtain ⟨i0, hi, hz0, hz1, hz2⟩ := info_parts infoRec
  have HR := Lib.hid h
  clear h
  cases hop : opOkB op with
  | false =>
    have HQ := Lib.hid (lift_no1 (l := l) hop)
    have HO := Lib.hid hop
    clear hop
    go_enter Tryz.func15, Tryz.ntmps15
    go_wp2_with fail
    refine (combiner_any op _).mono ?_
    rw [HO.out]
    rintro e w1 ⟨f, rfl, rfl⟩
    go_wp2
    go_ret
    rw [HQ.out]
    exact ⟨none, 0, rfl, .inl rfl, Below.refl _ _⟩
  | true =>
    have HO := Lib.hid hop
    cases hok : recsOkB l with
    | false =>
      have HQ := Lib.hid (lift_no2 (op := op) hok)
      have HOK := Lib.hid hok
      clear hop hok
      go_enter Tryz.func15, Tryz.ntmps15
      go_wp2_with fail
      refine (combiner_any op _).mono ?_
      rw [HO.out]
      rintro e w1 ⟨f, rfl, rfl⟩
      go_wp2_with fail
      refine (recsok_any _ _ _ _ _ HR.out).mono ?_
      rw [HOK.out]
      rintro e w2 ⟨rfl, hB⟩
      have HB := Lib.hid hB
      clear hB
      go_wp2
      go_ret
      rw [HQ.out]
      exact ⟨none, 0, rfl, .inl rfl, HB.out⟩
    | true =>
      have HQ := Lib.hid (lift_yes hop hok)
      have HOK := Lib.hid hok
      have h6 : len ≤ 600 := by rw [← HR.out.length]; exact (recsOk_parts hok).1
      have HLL := Lib.hid ((liftL_len op l).trans HR.out.length)
      have HLA := Lib.hid (fun i (hi : i < len) => liftL_at op l i (by rw [HR.out.length]; exact hi))
      clear hop hok
      by_cases h4 : op = 4
      · subst h4
        go_enter Tryz.func15, Tryz.ntmps15
        go_wp2_with fail
        refine (combiner_any _ _).mono ?_
        rw [HO.out]
        rintro e w1 ⟨f, rfl, rfl⟩
        go_wp2_with fail
        refine (recsok_any _ _ _ _ _ HR.out).mono ?_
        rw [HOK.out]
        rintro e w2 ⟨rfl, hB⟩
        have HB := Lib.hid hB
        clear hB
        go_wp2_with (at_make; refine wpList_make_full _ rfl _ _ 34 rfl w2.heap.size 37 i0 _ 2 Tryz.underlying34 hi hz0 hz1 .i64 .i64 _ _ len rfl rfl rfl rfl (by rw [hz2]; omega) (by unfold maxLen; omega) (Nat.le_refl _) ?_; intro w3 hown hgrow)
        obtain ⟨cur0, hrow0, hsz0⟩ : ∃ cur, Row w3 w2.heap.size 37 cur ∧ cur.size = len * 2 := by
          rcases hown.2 with ⟨h, _⟩ | ⟨g, cp, cur, hv, _, hh, _, _, hs, _⟩
          · simp at h
          · simp only [Value.slice.injEq, Option.some.injEq, Addr.mk.injEq, true_and, and_true] at hv
            obtain ⟨rfl, rfl⟩ := hv
            exact ⟨cur, hh, hs⟩
        obtain ⟨B, hBs⟩ : ∃ B, w2.heap.size = B := ⟨_, rfl⟩
        have HBB := Lib.hid (show w.heap.size ≤ B by rw [← hBs]; exact HB.out.size)
        have HBL := Lib.hid (HB.out.grown hgrow HB.out.size (by simp))
        rw [hBs] at hrow0 ⊢
        have HR0 := Lib.hid hrow0
        have HS0 := Lib.hid hsz0
        clear hown hgrow hrow0 hsz0 HB hBs
        go_loopw [27] (fun i wr => ∃ k : Nat, k ≤ len ∧ i = .int .i64 k ∧ Hid (Below w.heap.size w wr ∧ ∃ cur, Row wr B 37 cur ∧ cur.size = len * 2 ∧ Laid cur (liftL 4 l) k)) (fun i _ => len - (intOf i).toNat)
        case atStart => exact ⟨0, Nat.zero_le _, rfl, HBL.out, cur0, HR0.out, HS0.out, fun j hj => by omega⟩
        case round =>
          obtain ⟨k, hk, rfl, HW⟩ := hrel
          clear HBL HR0 HS0
          by_cases hlt : k < len
          · rcases HR.out.src with hz | ⟨b, off, rfl, hb, hc⟩
            · omega
            · have c0 := (HW.out.1.cell (p := ⟨b, off + k * 2, none⟩) hb).trans (hc k hlt).1
              have c1 := (HW.out.1.cell (p := ⟨b, off + k * 2 + 1, none⟩) hb).trans (hc k hlt).2
              have hk1 := HLA.out k hlt
              obtain ⟨cur, hr, hs, hla⟩ := HW.out.2
              have hst := hla.step hs hlt
              rw [hk1.1, hk1.2] at hst
              simp only [if_true] at hst
              have HST := Lib.hid hst
              have HS := Lib.hid hs
              have hlB := hr.lt
              have hra := hr.alloc (.cells #[.string (keyAt l k), .int .i64 1] 37)
              have hA0 := hra.cell (j := k * 2) (by omega)
              have hA1 := hra.cell (j := k * 2 + 1) (by omega)
              have hf0 := hra.free (k * 2)
              have hf1 := hra.free (k * 2 + 1)
              have hn1 : B ≠ wr.heap.size := Nat.ne_of_lt hlB
              have hn2 : wr.heap.size ≠ B := Nat.ne_of_gt hlB
              have HNE := Lib.hid hn1
              have HSZ := Lib.hid (show w.heap.size ≤ wr.heap.size from HW.out.1.size)
              have HRC := Lib.hid hra
              generalize cur[k * 2] = x0 at hA0
              generalize cur[k * 2 + 1] = x1 at hA1
              have hi1 : (k : Int) < (len : Int) := by omega
              have hi0 : (0 : Int) ≤ (k : Int) := by omega
              clear hr hs hla hst hk1 hc hb hra hlB
              go_wp2
              go_roundw
              case rel => exact ⟨k + 1, by omega, by go_num, ((below_alloc HW.out.1 _).setCell HBB.out _).setCell HBB.out _, _, (HRC.out.set _ _).set _ _, by simpa using HS.out, HST.out⟩
              case measure => simp [intOf]; omega
          · obtain rfl : k = len := by omega
            go_wp2
            go_ret
            rw [HQ.out]
            exact ⟨_, _, by rw [HLL.out]; rfl, .inr (by
              obtain ⟨cur, hr, hs, hla⟩ := HW.out.2
              exact ⟨B, cur, rfl, HBB.out, hr, by rw [HLL.out, hs]; exact Nat.le_refl _, by rw [HLL.out]; exact hla⟩), HW.out.1⟩
      · have g4 : (op == 4) = false := by simpa using h4
        go_enter Tryz.func15, Tryz.ntmps15
        go_wp2_with fail
        refine (combiner_any _ _).mono ?_
        rw [HO.out]
        rintro e w1 ⟨f, rfl, rfl⟩
        go_wp2_with fail
        refine (recsok_any _ _ _ _ _ HR.out).mono ?_
        rw [HOK.out]
        rintro e w2 ⟨rfl, hB⟩
        have HB := Lib.hid hB
        clear hB
        go_wp2_with (at_make; refine wpList_make_full _ rfl _ _ 34 rfl w2.heap.size 37 i0 _ 2 Tryz.underlying34 hi hz0 hz1 .i64 .i64 _ _ len rfl rfl rfl rfl (by rw [hz2]; omega) (by unfold maxLen; omega) (Nat.le_refl _) ?_; intro w3 hown hgrow)
        obtain ⟨cur0, hrow0, hsz0⟩ : ∃ cur, Row w3 w2.heap.size 37 cur ∧ cur.size = len * 2 := by
          rcases hown.2 with ⟨h, _⟩ | ⟨g, cp, cur, hv, _, hh, _, _, hs, _⟩
          · simp at h
          · simp only [Value.slice.injEq, Option.some.injEq, Addr.mk.injEq, true_and, and_true] at hv
            obtain ⟨rfl, rfl⟩ := hv
            exact ⟨cur, hh, hs⟩
        obtain ⟨B, hBs⟩ : ∃ B, w2.heap.size = B := ⟨_, rfl⟩
        have HBB := Lib.hid (show w.heap.size ≤ B by rw [← hBs]; exact HB.out.size)
        have HBL := Lib.hid (HB.out.grown hgrow HB.out.size (by simp))
        rw [hBs] at hrow0 ⊢
        have HR0 := Lib.hid hrow0
        have HS0 := Lib.hid hsz0
        clear hown hgrow hrow0 hsz0 HB hBs
        go_loopw [27] (fun i wr => ∃ k : Nat, k ≤ len ∧ i = .int .i64 k ∧ Hid (Below w.heap.size w wr ∧ ∃ cur, Row wr B 37 cur ∧ cur.size = len * 2 ∧ Laid cur (liftL op l) k)) (fun i _ => len - (intOf i).toNat)
        case atStart => exact ⟨0, Nat.zero_le _, rfl, HBL.out, cur0, HR0.out, HS0.out, fun j hj => by omega⟩
        case round =>
          obtain ⟨k, hk, rfl, HW⟩ := hrel
          clear HBL HR0 HS0
          by_cases hlt : k < len
          · rcases HR.out.src with hz | ⟨b, off, rfl, hb, hc⟩
            · omega
            · have c0 := (HW.out.1.cell (p := ⟨b, off + k * 2, none⟩) hb).trans (hc k hlt).1
              have c1 := (HW.out.1.cell (p := ⟨b, off + k * 2 + 1, none⟩) hb).trans (hc k hlt).2
              have hk1 := HLA.out k hlt
              obtain ⟨cur, hr, hs, hla⟩ := HW.out.2
              have hst := hla.step hs hlt
              rw [hk1.1, hk1.2, if_neg h4] at hst
              have HST := Lib.hid hst
              have HS := Lib.hid hs
              have hlB := hr.lt
              have hra := hr.alloc (.cells #[.string (keyAt l k), .int .i64 (numAt l k)] 37)
              have hA0 := hra.cell (j := k * 2) (by omega)
              have hA1 := hra.cell (j := k * 2 + 1) (by omega)
              have hf0 := hra.free (k * 2)
              have hf1 := hra.free (k * 2 + 1)
              have hn1 : B ≠ wr.heap.size := Nat.ne_of_lt hlB
              have hn2 : wr.heap.size ≠ B := Nat.ne_of_gt hlB
              have HNE := Lib.hid hn1
              have HSZ := Lib.hid (show w.heap.size ≤ wr.heap.size from HW.out.1.size)
              have HRC := Lib.hid hra
              generalize cur[k * 2] = x0 at hA0
              generalize cur[k * 2 + 1] = x1 at hA1
              have hi1 : (k : Int) < (len : Int) := by omega
              have hi0 : (0 : Int) ≤ (k : Int) := by omega
              clear hr hs hla hst hk1 hc hb hra hlB
              go_wp2
              go_roundw
              case rel => exact ⟨k + 1, by omega, by go_num, ((below_alloc HW.out.1 _).setCell HBB.out _).setCell HBB.out _, _, (HRC.out.set _ _).set _ _, by simpa using HS.out, HST.out⟩
              case measure => simp [intOf]; omega
          · obtain rfl : k = len := by omega
            go_wp2
            go_ret
            rw [HQ.out]
            exact ⟨_, _, by rw [HLL.out]; rfl, .inr (by
              obtain ⟨cur, hr, hs, hla⟩ := HW.out.2
              exact ⟨B, cur, rfl, HBB.out, hr, by rw [HLL.out, hs]; exact Nat.le_refl _, by rw [HLL.out]; exact hla⟩), HW.out.1⟩
set_option maxHeartbeats 4000000 in
theorem l4recs_any (op : Int) (a : Option Addr) (len cap : Nat) (l : Recs) (w : World) (h : RecsAt w a len l) :
    Calls Tryz.prog 58 #[.int .i64 op, .slice a len cap] w (MadeBool (opOkB op && recsOkB l) w) := by
  have hm := h.max
  unfold maxLen at hm
  have HR := Lib.hid h
  clear h
  go_enter Tryz.func58, Tryz.ntmps58
  go_wp2
  go_loopw [5] (fun i wr => ∃ k : Nat, k ≤ len ∧ i = .int .i64 k ∧ Hid (Below w.heap.size w wr ∧ ∀ j, j < k → okAt l j = true)) (fun i _ => len - (intOf i).toNat)
  case atStart => exact ⟨0, Nat.zero_le _, rfl, Below.refl _ _, fun j hj => by omega⟩
  case round =>
    obtain ⟨k, hk, rfl, HW⟩ := hrel
    by_cases hlt : k < len
    · rcases HR.out.src with hz | ⟨b, off, rfl, hb, hc⟩
      · omega
      · have c0 := (HW.out.1.cell (p := ⟨b, off + k * 2, none⟩) hb).trans (hc k hlt).1
        have c1 := (HW.out.1.cell (p := ⟨b, off + k * 2 + 1, none⟩) hb).trans (hc k hlt).2
        have hi1 : (k : Int) < (len : Int) := by omega
        have hi0 : (0 : Int) ≤ (k : Int) := by omega
        clear hc hb
        cases hok : okB (keyAt l k) with
        | false =>
          have HQ := Lib.hid (show false = (opOkB op && recsOkB l) by rw [recsOk_inv (i := k) (by rw [HR.out.length]; exact hlt) hok, Bool.and_false])
          have HOK := Lib.hid hok
          clear hok
          go_wp2_with (go_at_call 85; refine (srecok_any _ _ _).mono ?_; rw [HOK.out]; rintro e w2 ⟨rfl, hB⟩; have HB := Lib.hid (below_via HW.out.1 hB); clear hB)
          go_ret
          exact ⟨ret_bool HQ.out, HB.out⟩
        | true =>
          have HOK := Lib.hid hok
          clear hok
          go_wp2_with (go_at_call 85; refine (srecok_any _ _ _).mono ?_; rw [HOK.out]; rintro e w2 ⟨rfl, hB⟩; have HB := Lib.hid (below_via HW.out.1 hB); clear hB)
          go_roundw
          case rel => exact ⟨k + 1, by omega, by go_num, HB.out, fun j hj => by
            rcases Nat.lt_or_ge j k with h | h
            · exact HW.out.2 j h
            · obtain rfl : j = k := by omega
              exact HOK.out⟩
          case measure => simp [intOf]; omega
    · obtain rfl : k = len := by omega
      have HALL := Lib.hid (show recsOkB l = decide (k ≤ 600) by
        unfold recsOkB
        rw [HR.out.length]
        have : ((List.range k).all fun i => okAt l i) = true := List.all_eq_true.2 fun i hi => HW.out.2 i (List.mem_range.1 hi)
        rw [this, Bool.and_true])
      cases hop : opOkB op with
      | false =>
        have HO := Lib.hid hop
        clear hop
        go_wp2_with (go_at_call 52; refine (l4op_any op _).mono ?_; rw [HO.out]; rintro e w2 ⟨rfl, rfl⟩)
        go_ret
        exact ⟨by rw [HO.out, Bool.false_and]; rfl, HW.out.1⟩
      | true =>
        have HO := Lib.hid hop
        clear hop
        by_cases h6 : k ≤ 600
        · have HQ := Lib.hid (show true = recsOkB l by rw [HALL.out, decide_eq_true h6])
          have hi6 : (k : Int) ≤ 600 := by omega
          go_wp2_with (go_at_call 52; refine (l4op_any op _).mono ?_; rw [HO.out]; rintro e w2 ⟨rfl, rfl⟩)
          go_ret
          exact ⟨by rw [HO.out, Bool.true_and, ← HQ.out]; rfl, HW.out.1⟩
        · have HQ := Lib.hid (show false = recsOkB l by rw [HALL.out, decide_eq_false h6])
          have hi6 : ¬ (k : Int) ≤ 600 := by omega
          go_wp2_with (go_at_call 52; refine (l4op_any op _).mono ?_; rw [HO.out]; rintro e w2 ⟨rfl, rfl⟩)
          go_ret
          exact ⟨by rw [HO.out, Bool.true_and, ← HQ.out]; exact congrArg (fun b => Ending.returned (.bool b)) (decide_eq_false (by omega)), HW.out.1⟩

def MixL (cur : Array Value) (l : Recs) (k n : Nat) : Prop := ∀ j, j < n → cur[j * 2]? = some (.string (keyAt l j)) ∧ cur[j * 2 + 1]? = some (.int .i64 (if j < k then 1 else numAt l j))
theorem MixL.start {cur : Array Value} {l : Recs} {n : Nat} (h : Laid cur l n) : MixL cur l 0 n := fun j hj => by
  rw [if_neg (Nat.not_lt_zero _)]; exact h j hj
theorem MixL.step {cur : Array Value} {l : Recs} {k n : Nat} (h : MixL cur l k n) (hk : k < n) (hs : n * 2 ≤ cur.size) : MixL (cur.setIfInBounds (k * 2 + 1) (.int .i64 1)) l (k + 1) n := by
  intro j hj
  obtain ⟨e1, e2⟩ := h j hj
  have h1 : k * 2 + 1 < cur.size := by omega
  rw [Array.getElem?_setIfInBounds_ne (by omega)]
  refine ⟨e1, ?_⟩
  by_cases hjk : j = k
  · subst hjk
    rw [if_pos (Nat.lt_succ_self _)]
    simp [h1]
  · rw [Array.getElem?_setIfInBounds_ne (by omega), e2]
    by_cases h2 : j < k
    · rw [if_pos h2, if_pos (by omega)]
    · rw [if_neg h2, if_neg (by omega)]
theorem MixL.done {cur : Array Value} {l : Recs} {n : Nat} (h : MixL cur l n n) (hl : l.length = n) : Laid cur (liftL 4 l) n := by
  intro j hj
  obtain ⟨e1, e2⟩ := liftL_at 4 l j (by omega)
  obtain ⟨c1, c2⟩ := h j hj
  rw [if_pos hj] at c2
  rw [if_pos rfl] at e2
  rw [e1, e2]
  exact ⟨c1, c2⟩

set_option maxHeartbeats 4000000 in
theorem slifted_any (op : Int) (ab ao len cap : Nat) (l : Recs) (w : World) (h : RecsAt w (some ⟨ab, ao, none⟩) len l) :
    Calls Tryz.prog 30 #[.int .i64 op, .slice (some ⟨ab, ao, none⟩) len cap] w (MadeRsL (liftW op l) w) := by
  obtain ⟨i0, hi, hz0, hz1, hz2⟩ := info_parts infoRec
  have HR := Lib.hid h
  clear h
  cases hg : (opOkB op && recsOkB l) with
  | false =>
    have HQ := Lib.hid (show liftW op l = [] by unfold liftW; rw [hg]; rfl)
    have HG := Lib.hid hg
    clear hg
    go_enter Tryz.func30, Tryz.ntmps30
    go_wp2_with fail
    refine (l4recs_any _ _ _ _ _ _ HR.out).mono ?_
    rw [HG.out]
    rintro e w1 ⟨rfl, hB⟩
    have HB := Lib.hid hB
    clear hB
    go_wp2
    go_ret
    rw [HQ.out]
    exact ⟨none, 0, rfl, .inl rfl, HB.out⟩
  | true =>
    have HQ := Lib.hid (show liftW op l = liftL op l by unfold liftW; rw [hg]; rfl)
    have HG := Lib.hid hg
    rw [Bool.and_eq_true] at hg
    have h6 : len ≤ 600 := by rw [← HR.out.length]; exact (recsOk_parts hg.2).1
    have HLL := Lib.hid ((liftL_len op l).trans HR.out.length)
    clear hg
    by_cases h4 : op = 4
    · subst h4
      go_enter Tryz.func30, Tryz.ntmps30
      go_wp2_with fail
      refine (l4recs_any _ _ _ _ _ _ HR.out).mono ?_
      rw [HG.out]
      rintro e w1 ⟨rfl, hB⟩
      have HB := Lib.hid hB
      have HRE := Lib.hid (HR.out.keep (below_alloc hB (.cells #[] 37)))
      have HO0 := Lib.hid (World.ownsRow.mono (show (w1.alloc (.cells #[] 37)).ownsRow w1.heap.size 37 2 (.slice (some ⟨w1.heap.size, 0, none⟩) 0 0) 0 [] from World.ownsRow_lit w1 #[] 0 (Nat.le_refl _) (Nat.zero_le _) rfl) HB.out.size)
      clear hB
      go_wp2_with (at_builtin; go_loud (refine wpList_append_own _ rfl _ _ 34 rfl w.heap.size 37 i0 _ 2 24 Tryz.underlying34 hi hz0 hz1 hz2 rfl (by decide) _ 0 [] rfl HO0.out ⟨ab, ao, none⟩ len cap (cellsL l) rfl (by rw [cellsL_len, HR.out.length]) (recs_cells HRE.out) (cellsL_one _) (by unfold maxLen; omega) (by omega) (below_alloc HB.out _).size ?_); intro v' w3 hown1 hgrow hnil; have HO1 := Lib.hid hown1; have HB1 := Lib.hid ((below_alloc HB.out _).grown hgrow (below_alloc HB.out _).size (fun j hj => by have := HO0.out.lt j hj; exact this.1)); clear hown1 hgrow hnil)
      obtain ⟨q1, cp1, rfl⟩ := own_form HO1.out
      rw [Nat.zero_add]
      have HRS := Lib.hid (show Rs w.heap.size w3 q1 l from rs_of_own (cp := cp1) (by have := HO1.out; rw [Nat.zero_add, List.nil_append] at this; rw [HR.out.length]; exact this))
      go_loopw [6] (fun i wr => ∃ k : Nat, k ≤ len ∧ i = .int .i64 k ∧ Hid (Below w.heap.size w wr ∧ (len = 0 ∨ ∃ g cur, q1 = some ⟨g, 0, none⟩ ∧ w.heap.size ≤ g ∧ Row wr g 37 cur ∧ len * 2 ≤ cur.size ∧ MixL cur l k len))) (fun i _ => len - (intOf i).toNat)
      case atStart =>
        refine ⟨0, Nat.zero_le _, rfl, HB1.out, ?_⟩
        rcases HRS.out with h0 | ⟨g, cur, e1, e2, e3, e4, e5⟩
        · exact .inl (by rw [← HR.out.length]; exact h0)
        · rw [HR.out.length] at e4 e5
          exact .inr ⟨g, cur, e1, e2, e3, e4, MixL.start e5⟩
      case round =>
        obtain ⟨k, hk, rfl, HW⟩ := hrel
        clear HRS HB1
        by_cases hlt : k < len
        · obtain ⟨g, cur, rfl, hbg, hr, hs, hmx⟩ : ∃ g cur, q1 = some ⟨g, 0, none⟩ ∧ w.heap.size ≤ g ∧ Row wr g 37 cur ∧ len * 2 ≤ cur.size ∧ MixL cur l k len := by
            rcases HW.out.2 with h0 | h1
            · omega
            · exact h1
          have hA1 := hr.cell (j := k * 2 + 1) (by omega)
          have hf1 := hr.free (k * 2 + 1)
          have HRC := Lib.hid hr
          have HST := Lib.hid (hmx.step hlt hs)
          have HS := Lib.hid hs
          have HBG := Lib.hid hbg
          generalize cur[k * 2 + 1] = x1 at hA1
          have hi1 : (k : Int) < (len : Int) := by omega
          have hi0 : (0 : Int) ≤ (k : Int) := by omega
          clear hr hs hmx hbg
          go_wp2
          go_roundw
          case rel => exact ⟨k + 1, by omega, by go_num, HW.out.1.setCell HBG.out _, .inr ⟨g, _, rfl, HBG.out, HRC.out.set _ _, by simpa using HS.out, HST.out⟩⟩
          case measure => simp [intOf]; omega
        · obtain rfl : k = len := by omega
          go_wp2
          go_ret
          rw [HQ.out]
          refine ⟨q1, cp1, by rw [HLL.out]; rfl, ?_, HW.out.1⟩
          rcases HW.out.2 with h0 | ⟨g, cur, e1, e2, e3, e4, e5⟩
          · exact .inl (by rw [HLL.out]; exact h0)
          · exact .inr ⟨g, cur, e1, e2, e3, by rw [HLL.out]; exact e4, by rw [HLL.out]; exact e5.done HR.out.length⟩
    · have g4 : (op == 4) = false := by simpa using h4
      have HSM := Lib.hid (liftL_same op l h4)
      go_enter Tryz.func30, Tryz.ntmps30
      go_wp2_with fail
      refine (l4recs_any _ _ _ _ _ _ HR.out).mono ?_
      rw [HG.out]
      rintro e w1 ⟨rfl, hB⟩
      have HB := Lib.hid hB
      have HRE := Lib.hid (HR.out.keep (below_alloc hB (.cells #[] 37)))
      have HO0 := Lib.hid (World.ownsRow.mono (show (w1.alloc (.cells #[] 37)).ownsRow w1.heap.size 37 2 (.slice (some ⟨w1.heap.size, 0, none⟩) 0 0) 0 [] from World.ownsRow_lit w1 #[] 0 (Nat.le_refl _) (Nat.zero_le _) rfl) HB.out.size)
      clear hB
      go_wp2_with (at_builtin; go_loud (refine wpList_append_own _ rfl _ _ 34 rfl w.heap.size 37 i0 _ 2 24 Tryz.underlying34 hi hz0 hz1 hz2 rfl (by decide) _ 0 [] rfl HO0.out ⟨ab, ao, none⟩ len cap (cellsL l) rfl (by rw [cellsL_len, HR.out.length]) (recs_cells HRE.out) (cellsL_one _) (by unfold maxLen; omega) (by omega) (below_alloc HB.out _).size ?_); intro v' w3 hown1 hgrow hnil; have HO1 := Lib.hid hown1; have HB1 := Lib.hid ((below_alloc HB.out _).grown hgrow (below_alloc HB.out _).size (fun j hj => by have := HO0.out.lt j hj; exact this.1)); clear hown1 hgrow hnil)
      obtain ⟨q1, cp1, rfl⟩ := own_form HO1.out
      rw [Nat.zero_add]
      have HRS := Lib.hid (show Rs w.heap.size w3 q1 l from rs_of_own (cp := cp1) (by have := HO1.out; rw [Nat.zero_add, List.nil_append] at this; rw [HR.out.length]; exact this))
      go_loopw [6] (fun i wr => ∃ k : Nat, k ≤ len ∧ i = .int .i64 k ∧ Hid (wr = w3)) (fun i _ => len - (intOf i).toNat)
      case atStart => exact ⟨0, Nat.zero_le _, rfl, Lib.hid rfl⟩
      case round =>
        obtain ⟨k, hk, rfl, HE⟩ := hrel
        by_cases hlt : k < len
        · have hi1 : (k : Int) < (len : Int) := by omega
          have hi0 : (0 : Int) ≤ (k : Int) := by omega
          go_wp2
          go_roundw
          case rel => exact ⟨k + 1, by omega, by go_num, HE⟩
          case measure => simp [intOf]; omega
        · obtain rfl : k = len := by omega
          go_wp2
          go_ret
          rw [HQ.out, HSM.out]
          exact ⟨q1, cp1, by rw [HR.out.length]; rfl, by rw [HE.out]; exact HRS.out, by rw [HE.out]; exact HB1.out⟩
end Go.Proofs.YtjofbeokkainlaaGreatDoor
namespace Go.Proofs.YtjofbeokkainlaaGreatDoor
open Go.ChangeShapes Go.WideShapes Go.ChangeAt Go.RowKit
set_option linter.unusedVariables false
set_option maxRecDepth 100000

theorem lift_nil (op : Int) : liftW op [] = [] := by unfold liftW; split <;> rfl

set_option maxHeartbeats 1000000 in
theorem slifted_nil (op : Int) (w : World) : Calls Tryz.prog 30 #[.int .i64 op, .slice none 0 0] w (MadeRsL [] w) := by
  obtain ⟨i0, hi, hz0, hz1, hz2⟩ := info_parts infoRec
  have HR := Lib.hid (show RecsAt w none 0 [] from ⟨rfl, Nat.zero_le _, fun i hi => by omega, .inl rfl⟩)
  cases hg : (opOkB op && recsOkB []) with
  | false =>
    have HG := Lib.hid hg
    clear hg
    go_enter Tryz.func30, Tryz.ntmps30
    go_wp2_with fail
    refine (l4recs_any _ _ _ _ _ _ HR.out).mono ?_
    rw [HG.out]
    rintro e w1 ⟨rfl, hB⟩
    have HB := Lib.hid hB
    clear hB
    go_wp2
    go_ret
    exact ⟨none, 0, rfl, .inl rfl, HB.out⟩
  | true =>
    have HG := Lib.hid hg
    clear hg
    go_enter Tryz.func30, Tryz.ntmps30
    go_wp2_with fail
    refine (l4recs_any _ _ _ _ _ _ HR.out).mono ?_
    rw [HG.out]
    rintro e w1 ⟨rfl, hB⟩
    have HB := Lib.hid hB
    have HO0 := Lib.hid (World.ownsRow.mono (show (w1.alloc (.cells #[] 37)).ownsRow w1.heap.size 37 2 (.slice (some ⟨w1.heap.size, 0, none⟩) 0 0) 0 [] from World.ownsRow_lit w1 #[] 0 (Nat.le_refl _) (Nat.zero_le _) rfl) HB.out.size)
    clear hB
    go_wp2_with (at_builtin; (refine wpList_append_own_none rfl _ _ 34 rfl w.heap.size 37 i0 2 Tryz.underlying34 hi _ _ _ rfl HO0.out rfl ?_))
    go_loopw [6] (fun i wr => i = .int .i64 0 ∧ Hid (Below w.heap.size w wr)) (fun i _ => 0)
    case atStart => exact ⟨rfl, below_alloc HB.out _⟩
    case round =>
      obtain ⟨rfl, HW⟩ := hrel
      go_wp2
      go_ret
      exact ⟨_, _, rfl, .inl rfl, HW.out⟩
end Go.Proofs.YtjofbeokkainlaaGreatDoor
