
/- What MergeAll and MergeRuns compute in the model: the records of all runs, in order, if all are runs and they are few. Only new blocks are made. -/
import Derived.Test.YtjfbmjeekihdaaaDoorMergeM
import Derived.Test.YtjfbmjeekihdaaaDoorMerge
import Derived.Laws.AppendOwnNone
namespace Go.Proofs.YtjfbmjeekihdaaaDoor
open Go.ChangeShapes Go.WideShapes Go.ChangeAt Go.RowKit
set_option linter.unusedVariables false
set_option maxRecDepth 100000

/-- The end of a function that returns records in a row of its own, and a truth value. -/
def MadeRsM (W : Recs) (b : Bool) (w : World) (e : Ending) (w' : World) : Prop :=
  ∃ q cp, e = .returned (.tuple #[.slice q W.length cp, .bool b]) ∧ Rs w.heap.size w' q W ∧ Below w.heap.size w w'

/-- The slice (a, len) holds slices of records. -/
structure RunSs (w : World) (a : Option Addr) (len : Nat) (LS : List Recs) : Prop where
  length : LS.length = len
  src : len = 0 ∨ ∃ b off, a = some ⟨b, off, none⟩ ∧ b < w.heap.size ∧ ∀ i, i < len → ∃ q n c, w.cell? ⟨b, off + i, none⟩ = some (.slice q n c) ∧ RecsAt w q n (LS.getD i []) ∧ (q = none → n = 0 ∧ c = 0)

def mallK (LS : List Recs) : Bool := LS.all runOkB && decide (LS.flatten.length ≤ 600)
def mallW (LS : List Recs) : Recs := if mallK LS then sortL LS.flatten else []
def allTo (LS : List Recs) (k : Nat) : Recs := (LS.take k).flatten
theorem allTo_step (LS : List Recs) (k : Nat) (h : k < LS.length) : allTo LS (k + 1) = allTo LS k ++ LS.getD k [] := by
  have e : LS.getD k [] = LS[k] := by rw [List.getD_eq_getElem?_getD, List.getElem?_eq_getElem h]; rfl
  unfold allTo
  rw [e, List.take_add_one, List.getElem?_eq_getElem h, List.flatten_append, Option.toList_some, List.flatten_singleton]
theorem allTo_le (LS : List Recs) (k : Nat) : (allTo LS k).length ≤ LS.flatten.length := by
  unfold allTo
  conv => rhs; rw [← List.take_append_drop k LS, List.flatten_append, List.length_append]
  omega
theorem mall_no {LS : List Recs} {k : Nat} (hk : k < LS.length) (h : runOkB (LS.getD k []) = false) : mallK LS = false ∧ mallW LS = [] := by
  have : mallK LS = false := by
    unfold mallK
    rw [Bool.and_eq_false_iff]
    left
    rw [List.all_eq_false]
    refine ⟨LS[k], List.getElem_mem hk, ?_⟩
    rw [List.getD_eq_getElem?_getD, List.getElem?_eq_getElem hk] at h
    simpa using h
  exact ⟨this, by unfold mallW; rw [this]; rfl⟩
theorem mall_many {LS : List Recs} {k : Nat} (h : 600 < (allTo LS k).length) : mallK LS = false ∧ mallW LS = [] := by
  have h1 := allTo_le LS k
  have : mallK LS = false := by
    unfold mallK
    rw [decide_eq_false (by omega), Bool.and_false]
  exact ⟨this, by unfold mallW; rw [this]; rfl⟩
theorem mall_yes {LS : List Recs} (h : ∀ j, j < LS.length → runOkB (LS.getD j []) = true) (h6 : LS.flatten.length ≤ 600) : mallK LS = true ∧ mallW LS = sortL LS.flatten := by
  have : mallK LS = true := by
    unfold mallK
    rw [decide_eq_true h6, Bool.and_true, List.all_eq_true]
    intro x hx
    obtain ⟨j, hj, rfl⟩ := List.getElem_of_mem hx
    have := h j hj
    rwa [List.getD_eq_getElem?_getD, List.getElem?_eq_getElem hj] at this
  exact ⟨this, by unfold mallW; rw [this]; rfl⟩
theorem runOk_mem {l : Recs} (h : runOkB l = true) : ∀ r ∈ l, r.1.size ≤ 40 := by
  intro r hr
  obtain ⟨j, hj, rfl⟩ := List.getElem_of_mem hr
  have := (runOk_keys h).2 j hj
  rw [at_get l j hj]
  exact this
theorem recsOk_mem {l : Recs} (h : ∀ r ∈ l, r.1.size ≤ 40) (h6 : l.length ≤ 600) : recsOkB l = true := by
  unfold recsOkB
  rw [decide_eq_true h6, Bool.true_and, List.all_eq_true]
  intro i hi
  have hil := List.mem_range.1 hi
  have := h l[i] (List.getElem_mem hil)
  rw [at_get l i hil] at this
  exact okB_yes this
theorem sortedB_yes {l : Recs} (h : ∀ r ∈ l, r.1.size ≤ 40) (h6 : l.length ≤ 600) : sortedB l = sortL l := by
  unfold sortedB
  rw [recsOk_mem h h6]; rfl
theorem allTo_mem {LS : List Recs} {k : Nat} (h : ∀ j, j < k → runOkB (LS.getD j []) = true) : ∀ r ∈ allTo LS k, r.1.size ≤ 40 := by
  intro r hr
  unfold allTo at hr
  obtain ⟨l, hl, hr⟩ := List.mem_flatten.1 hr
  obtain ⟨j, hj, rfl⟩ := List.getElem_of_mem hl
  rw [List.length_take] at hj
  have := h j (by omega)
  rw [List.getD_eq_getElem?_getD, List.getElem?_eq_getElem (by omega)] at this
  rw [List.getElem_take] at hr
  exact runOk_mem this r hr

set_option maxHeartbeats 8000000 in
theorem smergeall_any (a : Option Addr) (len cap : Nat) (LS : List Recs) (w : World) (h : RunSs w a len LS) (hlen : len ≤ 1048576) :
    Calls Tryd.prog 96 #[.slice a len cap] w (MadeRsM (mallW LS) (mallK LS) w) := by
  obtain ⟨i0, hi, hz0, hz1, hz2⟩ := info_parts infoRec
  have HR := Lib.hid h
  have HL := Lib.hid h.length
  clear h
  go_enter Tryd.func96, Tryd.ntmps96
  go_wp2
  go_loopw [4, 5] (fun v i wr => ∃ (k n : Nat) (q : Option Addr) (cp : Nat), k ≤ len ∧ i = .int .i64 k ∧ v = .slice q n cp ∧ n ≤ 1200 ∧ Hid (wr.ownsRow w.heap.size 46 2 v n (cellsL (allTo LS k)) ∧ Below w.heap.size w wr ∧ (allTo LS k).length = n ∧ ∀ j, j < k → runOkB (LS.getD j []) = true)) (fun _ i _ => len - (intOf i).toNat)
  case atStart => exact ⟨0, 0, _, _, Nat.zero_le _, rfl, rfl, by omega, World.ownsRow_lit w #[] 0 (Nat.le_refl _) (Nat.zero_le _) rfl, below_alloc (Below.refl _ _) _, rfl, fun j hj => by omega⟩
  case round =>
    obtain ⟨k, n, q, cp, hk, rfl, rfl, hn, HS⟩ := hrel
    by_cases hlt : k < len
    · rcases HR.out.src with hz | ⟨b, off, rfl, hb, hc⟩
      · omega
      · obtain ⟨p, m, c, hcell, hre, hno⟩ := hc k hlt
        have c0 := (HS.out.2.1.cell (p := ⟨b, off + k, none⟩) hb).trans hcell
        have hi1 : (k : Int) < (len : Int) := by omega
        have hi0 : (0 : Int) ≤ (k : Int) := by omega
        have HRE := Lib.hid (hre.keep HS.out.2.1)
        have HNO := Lib.hid hno
        clear hc hcell hre hno
        cases hok : runOkB (LS.getD k []) with
        | false =>
          have HQ := Lib.hid (mall_no (by rw [HL.out]; exact hlt) hok)
          have HOK := Lib.hid hok
          clear hok hb
          go_wp2_with (go_at_call 121; refine (srunok_any _ _ _ _ _ HRE.out).mono ?_; rw [HOK.out]; rintro e w2 ⟨rfl, hB⟩; have HB := Lib.hid (below_via HS.out.2.1 hB); clear hB)
          go_ret2
          rw [HQ.out.1, HQ.out.2]
          exact ⟨none, 0, rfl, .inl rfl, HB.out⟩
        | true =>
          have HOK := Lib.hid hok
          have HMK := Lib.hid (runOk_keys hok)
          have HBL := Lib.hid hb
          clear hok hb
          by_cases h6 : 600 < n
          · have HQ := Lib.hid (mall_many (LS := LS) (k := k) (by rw [HS.out.2.2.1]; exact h6))
            have hi6 : (600 : Int) < (n : Int) := by omega
            go_wp2_with (go_at_call 121; refine (srunok_any _ _ _ _ _ HRE.out).mono ?_; rw [HOK.out]; rintro e w2 ⟨rfl, hB⟩; have HB := Lib.hid (below_via HS.out.2.1 hB); clear hB)
            go_ret2
            rw [HQ.out.1, HQ.out.2]
            exact ⟨none, 0, rfl, .inl rfl, HB.out⟩
          · have hm6 : m ≤ 600 := by rw [← HRE.out.length]; exact HMK.out.1
            have HST := Lib.hid (allTo_step LS k (by rw [HL.out]; exact hlt))
            have hi6 : ¬ (600 : Int) < (n : Int) := by omega
            go_wp2_with fail
            refine (srunok_any _ _ _ _ _ HRE.out).mono ?_
            rw [HOK.out]
            rintro e w2 ⟨rfl, hB⟩
            have HB := Lib.hid (below_via HS.out.2.1 hB)
            have HO := Lib.hid (own_below HS.out.1 hB)
            have HRE := Lib.hid (HRE.out.keep hB)
            have c0 := (hB.cell (p := ⟨b, off + k, none⟩) (World.block_lt_of_cell? _ _ c0)).trans c0
            clear hB
            cases p with
            | none =>
              obtain ⟨rfl, rfl⟩ := HNO.out rfl
              have HNIL := Lib.hid (List.length_eq_zero_iff.1 HRE.out.length)
              go_wp2_with (at_builtin; (refine wpList_append_own_none rfl _ _ 47 rfl w.heap.size 46 i0 2 Tryd.underlying47 hi _ _ _ rfl HO.out rfl ?_))
              go_roundw
              case rel => exact ⟨k + 1, n, q, cp, by omega, by go_num, rfl, hn, by rw [HST.out, HNIL.out, List.append_nil]; exact HO.out, HB.out, by rw [HST.out, HNIL.out, List.append_nil]; exact HS.out.2.2.1, fun j hj => by
                rcases Nat.lt_or_ge j k with h | h
                · exact HS.out.2.2.2 j h
                · obtain rfl : j = k := by omega
                  exact HOK.out⟩
              case measure => simp [intOf]; omega
            | some pa =>
              obtain ⟨pb, po, rfl⟩ | hm0 : (∃ pb po, pa = ⟨pb, po, none⟩) ∨ m = 0 := by
                rcases HRE.out.src with h0 | ⟨pb, po, hp, _⟩
                · exact .inr h0
                · simp only [Option.some.injEq] at hp; exact .inl ⟨pb, po, hp⟩
              · go_wp2_with (at_builtin; (refine wpList_append_own _ rfl _ _ 47 rfl w.heap.size 46 i0 _ 2 24 Tryd.underlying47 hi hz0 hz1 hz2 rfl (by decide) _ _ _ rfl HO.out ⟨pb, po, none⟩ m c (cellsL (LS.getD k [])) rfl (by rw [cellsL_len, HRE.out.length]) (recs_cells HRE.out) (cellsL_one _) (by unfold maxLen; omega) (by omega) HB.out.size ?_); intro v' w3 hown1 hgrow hnil; have HO1 := Lib.hid hown1; have HB1 := Lib.hid (HB.out.grown hgrow HB.out.size (fun j hj => (HO.out.lt j hj).1)); clear hown1 hgrow hnil)
                obtain ⟨q1, cp1, rfl⟩ := own_form HO1.out
                go_roundw
                case rel => exact ⟨k + 1, n + m, q1, cp1, by omega, by go_num, rfl, by omega, by rw [HST.out, cellsL_append]; exact HO1.out, HB1.out, by rw [HST.out, List.length_append, HS.out.2.2.1, HRE.out.length], fun j hj => by
                  rcases Nat.lt_or_ge j k with h | h
                  · exact HS.out.2.2.2 j h
                  · obtain rfl : j = k := by omega
                    exact HOK.out⟩
                case measure => simp [intOf]; omega
              · subst hm0
                have HNIL := Lib.hid (List.length_eq_zero_iff.1 HRE.out.length)
                go_wp2_with (at_builtin; (refine wpList_append_own _ rfl _ _ 47 rfl w.heap.size 46 i0 _ 2 24 Tryd.underlying47 hi hz0 hz1 hz2 rfl (by decide) _ _ _ rfl HO.out pa 0 c [] rfl rfl (fun j u hj => by simp at hj) (fun u hu => by simp at hu) (by unfold maxLen; omega) (by omega) HB.out.size ?_); intro v' w3 hown1 hgrow hnil; have HO1 := Lib.hid hown1; have HB1 := Lib.hid (HB.out.grown hgrow HB.out.size (fun j hj => (HO.out.lt j hj).1)); clear hown1 hgrow hnil)
                obtain ⟨q1, cp1, rfl⟩ := own_form HO1.out
                go_roundw
                case rel => exact ⟨k + 1, n + 0, q1, cp1, by omega, by go_num, rfl, by omega, by rw [HST.out, HNIL.out, List.append_nil]; have := HO1.out; rw [List.append_nil] at this; exact this, HB1.out, by rw [HST.out, HNIL.out, List.append_nil]; exact HS.out.2.2.1, fun j hj => by
                  rcases Nat.lt_or_ge j k with h | h
                  · exact HS.out.2.2.2 j h
                  · obtain rfl : j = k := by omega
                    exact HOK.out⟩
                case measure => simp [intOf]; omega
    · obtain rfl : k = len := by omega
      have hall : allTo LS k = LS.flatten := by unfold allTo; rw [← HL.out, List.take_length]
      by_cases h6 : 600 < n
      · have HQ := Lib.hid (mall_many (LS := LS) (k := k) (by rw [HS.out.2.2.1]; exact h6))
        have hi6 : (600 : Int) < (n : Int) := by omega
        clear hall
        go_wp2
        go_ret2
        rw [HQ.out.1, HQ.out.2]
        exact ⟨none, 0, rfl, .inl rfl, HS.out.2.1⟩
      · have hi6 : ¬ (600 : Int) < (n : Int) := by omega
        have HQ := Lib.hid (mall_yes (LS := LS) (fun j hj => HS.out.2.2.2 j (by rw [← HL.out]; exact hj)) (by rw [← hall, HS.out.2.2.1]; omega))
        have HMEM := Lib.hid (allTo_mem HS.out.2.2.2)
        have HSO := Lib.hid (show sortedB (allTo LS k) = sortL LS.flatten by rw [sortedB_yes HMEM.out (by rw [HS.out.2.2.1]; omega), hall])
        have HRE := Lib.hid (show RecsAt wr q n (allTo LS k) from recs_of_rs (rs_of_own (by rw [HS.out.2.2.1]; exact HS.out.1)) HS.out.2.2.1 (by unfold maxLen; omega) (fun i hi => by
          have := HMEM.out _ (List.getElem_mem (by rw [HS.out.2.2.1]; exact hi))
          rw [at_get _ i (by rw [HS.out.2.2.1]; exact hi)] at this
          have h41 : (keyAt (allTo LS k) i).size ≤ 40 := this
          unfold maxLen; omega))
        clear hall
        go_wp2_with fail
        refine (ssorted_any _ _ _ _ _ HRE.out).mono ?_
        rw [HSO.out, ← HQ.out.2]
        rintro e w3 ⟨q1, cp1, rfl, hrs, hB, hcp1, hcp2⟩
        have HRS := Lib.hid (show Rs w.heap.size w3 q1 (mallW LS) by
          rcases hrs with h0 | ⟨g, cur, e1, hb, h2, h3, h4⟩
          · exact .inl h0
          · exact .inr ⟨g, cur, e1, Nat.le_trans HS.out.2.1.size hb, h2, h3, h4⟩)
        have HB := Lib.hid (below_via HS.out.2.1 hB)
        clear hrs hB hcp1 hcp2
        go_wp2
        go_ret2
        rw [HQ.out.1]
        exact ⟨q1, cp1, rfl, HRS.out, HB.out⟩

theorem mall_two (l k : Recs) : mallK [l, k] = (runOkB l && runOkB k && decide (l.length + k.length ≤ 600)) := by
  unfold mallK
  simp [List.all_cons, List.flatten_cons]
def mergeK (l k : Recs) : Bool := runOkB l && runOkB k && decide (l.length + k.length ≤ 600)
def mergeW (l k : Recs) : Recs := if mergeK l k then mergeL l k else []
theorem mall_two_w (l k : Recs) : mallW [l, k] = mergeW l k := by
  unfold mallW mergeW
  rw [mall_two]
  show (if mergeK l k = true then _ else _) = _
  cases h : mergeK l k with
  | false => rfl
  | true =>
    rw [if_pos rfl, if_pos rfl]
    unfold mergeK at h
    rw [Bool.and_eq_true, Bool.and_eq_true] at h
    show sortL (l ++ (k ++ [])) = _
    rw [List.append_nil]
    exact mergeL_sort ((runOk_iff l).1 h.1.1).2 ((runOk_iff k).1 h.1.2).2

end Go.Proofs.YtjfbmjeekihdaaaDoor
