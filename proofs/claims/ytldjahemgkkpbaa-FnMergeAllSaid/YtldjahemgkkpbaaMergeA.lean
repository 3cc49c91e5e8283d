
/- What MergeRuns and MergeAll compute in the program: the records of all runs, in order, if all are runs and they are few. Only new blocks are made. -/
import Derived.Test.YtldjahemgkkpbaaMergeN
namespace Go.Proofs.Ytldjahemgkkpbaa
open Go.ChangeShapes Go.WideShapes Go.ChangeAt Go.RowKit
set_option linter.unusedVariables false
set_option maxRecDepth 100000

/-- The end of a function that returns records in a row of its own, whose room is known, and a truth value. -/
def MadeRsC (W : Recs) (b : Bool) (w : World) (e : Ending) (w' : World) : Prop :=
  ∃ q cp, e = .returned (.tuple #[.slice q W.length cp, .bool b]) ∧ Rs w.heap.size w' q W ∧ Below w.heap.size w w' ∧ W.length ≤ cp ∧ cp ≤ maxLen ∧ (q = none → cp = 0)

set_option maxHeartbeats 4000000 in
theorem mergerunsN_any (a b : Option Addr) (la ca lb cb : Nat) (l k : Recs) (w : World) (ha : RecsAt w a la l) (hb : RecsAt w b lb k) (hca : la ≤ ca) (hcb : lb ≤ cb) (hcam : ca ≤ maxLen) (hcbm : cb ≤ maxLen)
    (hla : la ≤ 1048576) (hlb : lb ≤ 1048576) (hna : a = none → la = 0 ∧ ca = 0) (hnb : b = none → lb = 0 ∧ cb = 0) :
    Calls Try.prog 19 #[.slice a la ca, .slice b lb cb] w (MadeRsC (mergeW l k) (mergeK l k) w) := by
  have HA := Lib.hid ha
  have HC := Lib.hid hb
  have HCA := Lib.hid (And.intro hca (And.intro hcb (And.intro hcam (And.intro hcbm (And.intro hna hnb)))))
  clear ha hb hca hcb hcam hcbm hna hnb
  cases hl : runOkB l with
  | false =>
    have HQ := Lib.hid (show mergeK l k = false ∧ mergeW l k = [] by
      have : mergeK l k = false := by unfold mergeK; rw [hl]; rfl
      exact ⟨this, by unfold mergeW; rw [this]; rfl⟩)
    have HOK := Lib.hid hl
    clear hl
    go_enter Try.func19, Try.ntmps19
    go_wp2_with (go_at_call 28; refine (runok_any _ _ _ _ _ HA.out).mono ?_; rw [HOK.out]; rintro e w1 ⟨rfl, hB⟩; have HB := Lib.hid hB; clear hB)
    go_ret2
    rw [HQ.out.1, HQ.out.2]
    exact ⟨none, 0, rfl, .inl rfl, HB.out, Nat.le_refl _, Nat.zero_le _, fun _ => rfl⟩
  | true =>
    have HOK := Lib.hid hl
    cases hk : runOkB k with
    | false =>
      have HQ := Lib.hid (show mergeK l k = false ∧ mergeW l k = [] by
        have : mergeK l k = false := by unfold mergeK; rw [hk, Bool.and_false]; rfl
        exact ⟨this, by unfold mergeW; rw [this]; rfl⟩)
      have HOK2 := Lib.hid hk
      clear hl hk
      go_enter Try.func19, Try.ntmps19
      go_wp2_with fail
      refine (runok_any _ _ _ _ _ HA.out).mono ?_
      rw [HOK.out]
      rintro e w1 ⟨rfl, hB⟩
      have HB := Lib.hid hB
      have HC := Lib.hid (HC.out.keep hB)
      clear hB
      go_wp2_with fail
      refine (runok_any _ _ _ _ _ HC.out).mono ?_
      rw [HOK2.out]
      rintro e w2 ⟨rfl, hB⟩
      have HB := Lib.hid (below_via HB.out hB)
      clear hB
      go_wp2
      go_ret2
      rw [HQ.out.1, HQ.out.2]
      exact ⟨none, 0, rfl, .inl rfl, HB.out, Nat.le_refl _, Nat.zero_le _, fun _ => rfl⟩
    | true =>
      have HOK2 := Lib.hid hk
      by_cases h6 : la + lb ≤ 600
      · have HQ := Lib.hid (show mergeK l k = true ∧ mergeW l k = mergeL l k by
          have : mergeK l k = true := by unfold mergeK; rw [hl, hk, HA.out.length, HC.out.length, decide_eq_true h6]; rfl
          exact ⟨this, by unfold mergeW; rw [this]; rfl⟩)
        have HM := Lib.hid (And.intro (runOk_mem hl) (runOk_mem hk))
        have hi6 : ¬ (600 : Int) < (la : Int) + (lb : Int) := by omega
        clear hl hk
        go_enter Try.func19, Try.ntmps19
        go_wp2_with fail
        refine (runok_any _ _ _ _ _ HA.out).mono ?_
        rw [HOK.out]
        rintro e w1 ⟨rfl, hB⟩
        have HB := Lib.hid hB
        have HA := Lib.hid (HA.out.keep hB)
        have HC := Lib.hid (HC.out.keep hB)
        clear hB
        go_wp2_with fail
        refine (runok_any _ _ _ _ _ HC.out).mono ?_
        rw [HOK2.out]
        rintro e w2 ⟨rfl, hB⟩
        have HB := Lib.hid (below_via HB.out hB)
        have HA := Lib.hid (HA.out.keep hB)
        have HC := Lib.hid (HC.out.keep hB)
        clear hB
        go_wp2_with fail
        refine (mergedN_any _ _ _ _ _ _ _ _ _ HA.out HC.out HCA.out.1 HCA.out.2.1 HCA.out.2.2.1 HCA.out.2.2.2.1 h6 HM.out.1 HM.out.2 HCA.out.2.2.2.2.1 HCA.out.2.2.2.2.2).mono ?_
        rintro e w3 ⟨q, cp, rfl, hrs, hB, hc1, hc2, hc3⟩
        have HRS := Lib.hid (show Rs w.heap.size w3 q (mergeL l k) by
          rcases hrs with h0 | ⟨g, cur, e1, hb, h2, h3, h4⟩
          · exact .inl h0
          · exact .inr ⟨g, cur, e1, Nat.le_trans HB.out.size hb, h2, h3, h4⟩)
        have HB := Lib.hid (below_via HB.out hB)
        have HCP := Lib.hid (And.intro hc1 (And.intro hc2 hc3))
        clear hrs hB hc1 hc2 hc3
        go_wp2
        go_ret2
        rw [HQ.out.1, HQ.out.2]
        exact ⟨q, cp, rfl, HRS.out, HB.out, HCP.out⟩
      · have HQ := Lib.hid (show mergeK l k = false ∧ mergeW l k = [] by
          have : mergeK l k = false := by unfold mergeK; rw [hl, hk, HA.out.length, HC.out.length, decide_eq_false h6]; rfl
          exact ⟨this, by unfold mergeW; rw [this]; rfl⟩)
        have hi6 : (600 : Int) < (la : Int) + (lb : Int) := by omega
        clear hl hk
        go_enter Try.func19, Try.ntmps19
        go_wp2_with fail
        refine (runok_any _ _ _ _ _ HA.out).mono ?_
        rw [HOK.out]
        rintro e w1 ⟨rfl, hB⟩
        have HB := Lib.hid hB
        have HC := Lib.hid (HC.out.keep hB)
        clear hB
        go_wp2_with fail
        refine (runok_any _ _ _ _ _ HC.out).mono ?_
        rw [HOK2.out]
        rintro e w2 ⟨rfl, hB⟩
        have HB := Lib.hid (below_via HB.out hB)
        clear hB
        go_wp2
        go_ret2
        rw [HQ.out.1, HQ.out.2]
        exact ⟨none, 0, rfl, .inl rfl, HB.out, Nat.le_refl _, Nat.zero_le _, fun _ => rfl⟩

/-- Slices of records whose room is known. -/
def RunSc (w : World) (a : Option Addr) (len : Nat) (LS : List Recs) : Prop :=
  LS.length = len ∧ (len = 0 ∨ ∃ b off, a = some ⟨b, off, none⟩ ∧ b < w.heap.size ∧ ∀ i, i < len → ∃ q n c, w.cell? ⟨b, off + i, none⟩ = some (.slice q n c) ∧ RecsAt w q n (LS.getD i []) ∧ (q = none → n = 0 ∧ c = 0) ∧ n ≤ c ∧ c ≤ maxLen ∧ n ≤ 1048576)
theorem RunSc.keep {w w1 : World} {a : Option Addr} {len : Nat} {LS : List Recs} (h : RunSc w a len LS) (hB : Below w.heap.size w w1) : RunSc w1 a len LS := by
  refine ⟨h.1, ?_⟩
  rcases h.2 with h0 | ⟨b, off, ha, hb, hc⟩
  · exact .inl h0
  · refine .inr ⟨b, off, ha, Nat.lt_of_lt_of_le hb hB.size, fun i hi => ?_⟩
    obtain ⟨q, n, c, h1, h2, h3⟩ := hc i hi
    exact ⟨q, n, c, (hB.cell (p := ⟨b, off + i, none⟩) hb).trans h1, h2.keep hB, h3⟩
theorem RunSc.runs {w : World} {a : Option Addr} {len : Nat} {LS : List Recs} (h : RunSc w a len LS) : RunSs w a len LS := by
  refine ⟨h.1, ?_⟩
  rcases h.2 with h0 | ⟨b, off, ha, hb, hc⟩
  · exact .inl h0
  · refine .inr ⟨b, off, ha, hb, fun i hi => ?_⟩
    obtain ⟨q, n, c, h1, h2, h3, _⟩ := hc i hi
    exact ⟨q, n, c, h1, h2, h3⟩

/-- So far: the records of the first k runs, in order. -/
structure AllSt (LS : List Recs) (k : Nat) (w wr : World) (q : Option Addr) (n cp : Nat) : Prop where
  rs : Rs w.heap.size wr q (sortL (allTo LS k))
  below : Below w.heap.size w wr
  size : (sortL (allTo LS k)).length = n
  cap : n ≤ cp ∧ cp ≤ maxLen ∧ (q = none → cp = 0)
  ok : ∀ j, j < k → runOkB (LS.getD j []) = true
  few : (allTo LS k).length ≤ 600
theorem sortL_len (l : Recs) : (sortL l).length = l.length := (sortL_perm l).length_eq
theorem runOk_sort {l : Recs} (h : ∀ r ∈ l, r.1.size ≤ 40) (h6 : l.length ≤ 600) : runOkB (sortL l) = true :=
  (runOk_iff _).2 ⟨recsOk_mem (fun r hr => h r ((sortL_perm l).mem_iff.1 hr)) (by rw [sortL_len]; exact h6), sortL_order l⟩
theorem AllSt.recs {LS : List Recs} {k : Nat} {w wr : World} {q : Option Addr} {n cp : Nat} (h : AllSt LS k w wr q n cp) : RecsAt wr q n (sortL (allTo LS k)) := by
  have hf := h.few
  have hs := h.size
  rw [sortL_len] at hs
  refine recs_of_rs h.rs h.size (by unfold maxLen; omega) fun i hi => ?_
  have hm := allTo_mem h.ok _ ((sortL_perm _).mem_iff.1 (List.getElem_mem (by rw [h.size]; exact hi)))
  rw [at_get _ i (by rw [h.size]; exact hi)] at hm
  have h41 : (keyAt (sortL (allTo LS k)) i).size ≤ 40 := hm
  unfold maxLen; omega
theorem rs_none {base n : Nat} {w : World} {q : Option Addr} {W : Recs} (h : Rs base w q W) (hn : W.length = n) (hq : q = none) : n = 0 := by
  rcases h with h0 | ⟨g, cur, e, _⟩
  · omega
  · rw [hq] at e; cases e
theorem mergeL_sort_step {LS : List Recs} {k : Nat} (hk : k < LS.length) (h : runOkB (LS.getD k []) = true) : mergeL (sortL (allTo LS k)) (LS.getD k []) = sortL (allTo LS (k + 1)) := by
  rw [← mergeL_sort (sortL_order _) ((runOk_iff _).1 h).2, allTo_step LS k hk]
  exact sortL_of (sortL_order _) ((sortL_perm _).trans (List.Perm.append_right _ (sortL_perm _).symm))

set_option maxHeartbeats 8000000 in
theorem mergeall_any (a : Option Addr) (len cap : Nat) (LS : List Recs) (w : World) (h : RunSc w a len LS) (hlen : len ≤ 1048576) :
    Calls Try.prog 17 #[.slice a len cap] w (MadeRsC (mallW LS) (mallK LS) w) := by
  have HR := Lib.hid h
  have HL := Lib.hid h.1
  clear h
  go_enter Try.func17, Try.ntmps17
  go_wp2
  go_loopw [4, 11] (fun v i wr => ∃ (k n : Nat) (q : Option Addr) (cp : Nat), k ≤ len ∧ i = .int .i64 k ∧ v = .slice q n cp ∧ n ≤ 600 ∧ Hid (AllSt LS k w wr q n cp)) (fun _ i _ => len - (intOf i).toNat)
  case atStart => exact ⟨0, 0, none, 0, Nat.zero_le _, rfl, rfl, by omega, .inl (by rw [sortL_len]; rfl), Below.refl _ _, by rw [sortL_len]; rfl, ⟨Nat.le_refl _, Nat.zero_le _, fun _ => rfl⟩, fun j hj => by omega, Nat.zero_le _⟩
  case round =>
    obtain ⟨k, n, q, cp, hk, rfl, rfl, hn, HS⟩ := hrel
    by_cases hlt : k < len
    · rcases HR.out.2 with hz | ⟨b, off, rfl, hb, hc⟩
      · omega
      · obtain ⟨p, m, c, hcell, hre, hno, hmc, hcm, hm1⟩ := hc k hlt
        have c0 := (HS.out.below.cell (p := ⟨b, off + k, none⟩) hb).trans hcell
        have hi1 : (k : Int) < (len : Int) := by omega
        have HRE := Lib.hid (hre.keep HS.out.below)
        have HNO := Lib.hid (And.intro hno (And.intro hmc hcm))
        clear hc hcell hre hno hmc hcm hb
        have hr1 := runOk_sort (allTo_mem HS.out.ok) HS.out.few
        have hcall := mergerunsN_any q p n cp m c (sortL (allTo LS k)) (LS.getD k []) wr HS.out.recs HRE.out HS.out.cap.1 HNO.out.2.1 HS.out.cap.2.1 HNO.out.2.2 (by omega) hm1 (fun hq => ⟨rs_none HS.out.rs HS.out.size hq, HS.out.cap.2.2 hq⟩) HNO.out.1
        have hnl : (allTo LS k).length = n := by rw [← HS.out.size, sortL_len]
        cases hok : runOkB (LS.getD k []) with
        | false =>
          have hK : mergeK (sortL (allTo LS k)) (LS.getD k []) = false := by unfold mergeK; rw [hok, Bool.and_false]; rfl
          have hW : mergeW (sortL (allTo LS k)) (LS.getD k []) = [] := by unfold mergeW; rw [hK]; rfl
          have HQ := Lib.hid (mall_no (by rw [HL.out]; exact hlt) hok)
          rw [hK, hW] at hcall
          clear hK hW hr1 hnl hok
          go_wp2_with (go_at_call 19; refine hcall.mono ?_; rintro e w2 ⟨q1, cp1, rfl, _, hB, _⟩; have HB := Lib.hid (below_via HS.out.below hB); clear hB hcall)
          go_ret2
          rw [HQ.out.1, HQ.out.2]
          exact ⟨none, 0, rfl, .inl rfl, HB.out, Nat.le_refl _, Nat.zero_le _, fun _ => rfl⟩
        | true =>
          have hmk := (runOk_keys hok).1
          have hml : (LS.getD k []).length = m := HRE.out.length
          by_cases h6 : n + m ≤ 600
          · have hK : mergeK (sortL (allTo LS k)) (LS.getD k []) = true := by unfold mergeK; rw [hr1, hok, sortL_len, hnl, hml, decide_eq_true h6]; rfl
            have hW : mergeW (sortL (allTo LS k)) (LS.getD k []) = sortL (allTo LS (k + 1)) := by
              unfold mergeW; rw [hK, if_pos rfl]; exact mergeL_sort_step (by rw [HL.out]; exact hlt) hok
            have hsz : (sortL (allTo LS (k + 1))).length = n + m := by rw [sortL_len, allTo_step LS k (by rw [HL.out]; exact hlt), List.length_append, hnl, hml]
            rw [hK, hW] at hcall
            have HSZ := Lib.hid hsz
            have HOK := Lib.hid hok
            have HNL := Lib.hid (show (allTo LS (k + 1)).length ≤ 600 by rw [← sortL_len, hsz]; exact h6)
            clear hK hW hr1 hnl hok hml hsz
            go_wp2_with (go_at_call 19; refine hcall.mono ?_; rintro e w2 ⟨q1, cp1, he, hrs, hB, hcp⟩; rw [HSZ.out] at he; subst he; have HRS := Lib.hid hrs; have HB := Lib.hid hB; have HCP := Lib.hid hcp; clear hrs hB hcp hcall)
            go_roundw
            case rel =>
              refine ⟨k + 1, n + m, q1, cp1, by omega, by go_num, by first | rfl | (rw [HSZ.out]), by omega, ?_, below_via HS.out.below HB.out, HSZ.out, by first | exact HCP.out | (have := HCP.out; rw [HSZ.out] at this; exact this), fun j hj => ?_, HNL.out⟩
              · rcases HRS.out with h0 | ⟨g, cur, e1, hb, h2, h3, h4⟩
                · exact .inl h0
                · exact .inr ⟨g, cur, e1, Nat.le_trans HS.out.below.size hb, h2, h3, h4⟩
              · rcases Nat.lt_or_ge j k with h | h
                · exact HS.out.ok j h
                · obtain rfl : j = k := by omega
                  exact HOK.out
            case measure => simp [intOf]; omega
          · have hK : mergeK (sortL (allTo LS k)) (LS.getD k []) = false := by unfold mergeK; rw [hr1, hok, sortL_len, hnl, hml, decide_eq_false h6]; rfl
            have hW : mergeW (sortL (allTo LS k)) (LS.getD k []) = [] := by unfold mergeW; rw [hK]; rfl
            have HQ := Lib.hid (mall_many (LS := LS) (k := k + 1) (by rw [allTo_step LS k (by rw [HL.out]; exact hlt), List.length_append, hnl, hml]; omega))
            rw [hK, hW] at hcall
            clear hK hW hr1 hnl hok hml
            go_wp2_with (go_at_call 19; refine hcall.mono ?_; rintro e w2 ⟨q1, cp1, rfl, _, hB, _⟩; have HB := Lib.hid (below_via HS.out.below hB); clear hB hcall)
            go_ret2
            rw [HQ.out.1, HQ.out.2]
            exact ⟨none, 0, rfl, .inl rfl, HB.out, Nat.le_refl _, Nat.zero_le _, fun _ => rfl⟩
    · obtain rfl : k = len := by omega
      have hi1 : ¬ (k : Int) < (k : Int) := by omega
      have hall : allTo LS k = LS.flatten := by unfold allTo; rw [← HL.out, List.take_length]
      have HQ := Lib.hid (mall_yes (LS := LS) (fun j hj => HS.out.ok j (by rw [← HL.out]; exact hj)) (by rw [← hall]; exact HS.out.few))
      have HA := Lib.hid (show mallW LS = sortL (allTo LS k) by rw [HQ.out.2, hall])
      clear hall
      go_wp2
      go_ret2
      rw [HQ.out.1, HA.out]
      exact ⟨q, cp, by rw [HS.out.size]; rfl, HS.out.rs, HS.out.below, by rw [HS.out.size]; exact HS.out.cap⟩
end Go.Proofs.Ytldjahemgkkpbaa
