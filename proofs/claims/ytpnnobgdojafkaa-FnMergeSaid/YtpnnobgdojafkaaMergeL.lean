
/- The law on merged runs, walked: in whatever order, what is merged are all records, sorted. Only new blocks are made. -/
import Derived.Test.YtpnnobgdojafkaaDrawMM
import Derived.Test.YtpnnobgdojafkaaMergeA
import Derived.Test.YtpnnobgdojafkaaMergeX
import Derived.Test.YtpnnobgdojafkaaSo8
import Derived.Test.YtpnnobgdojafkaaSameR
import Derived.Test.YtpnnobgdojafkaaDraw1
import Derived.Laws.AppendOwnNone
namespace Go.Proofs.Ytpnnobgdojafkaa
open Go.ChangeShapes Go.WideShapes Go.ChangeAt Go.RowKit
set_option linter.unusedVariables false
set_option maxRecDepth 100000

theorem wpList_want {P : Program} {ops : Array Oper} {Q : Exit → Act → World → Prop} {a : Act} {w : World} {rest : List Oper} {o : Oper} (hw : Region.wanted o (yielded ops a.tmps) = true)
    (h : ∀ K : Act → World → Prop, (∀ a w, wpList P ops Q rest a w → K a w) → o.wp P a w K Q) : wpList P ops Q (o :: rest) a w :=
  wpList_step fun K hK => by rw [if_pos hw]; exact h K hK

/-- append of records that may be read, nil or not, to a row of the call's own; guarded or not. -/
theorem append_g {ops : Array Oper} {rest : List Oper} {o : Oper} {a : Act} {Q : Exit → Act → World → Prop} {w : World} (hw : Region.wanted o (yielded ops a.tmps) = true) (s x : Operand)
    (ho : o.op = .call { callee := .builtin .append, args := #[s, x], argTypes := #[24, 24] })
    (base : Nat) (v : Value) (n : Nat) (xs : List Value) (hs : a.eval s = v) (hown : w.ownsRow base 29 2 v n xs)
    (q : Option Addr) (m c : Nat) (V : Recs) (hx : a.eval x = .slice q m c) (hrec : RecsAt w q m V) (hnone : q = none → m = 0 ∧ c = 0) (h6 : n + m ≤ 100000) (hbase : base ≤ w.heap.size)
    (h : ∀ v' w', w'.ownsRow base 29 2 v' (n + m) (xs ++ cellsL V) → w.grownBy w' v.ownBlock → wpList Try.prog ops Q rest (a.put o.dst v') w') : wpList Try.prog ops Q (o :: rest) a w := by
  obtain ⟨i0, hi, hz0, hz1, hz2⟩ := info_parts infoRec
  cases q with
  | none =>
    obtain ⟨rfl, rfl⟩ := hnone rfl
    obtain rfl : V = [] := List.eq_nil_of_length_eq_zero hrec.length
    have h0 := h v w (by simpa [cellsL] using hown) (World.grownBy.refl _ _)
    refine wpList_want hw fun K hK => ?_
    have hrun := run_append_owned_none (P := Try.prog) (w := w) base 24 o.type 29 i0 2 Try.underlying24 hi v n xs hown
    unfold Oper.wp
    simp [execOp, ho, resolve, invoke, builtin, hs, hx, hrun, Result.andThen]
    exact hK _ _ h0
  | some p =>
    exact wpList_want hw fun _ hK => wp_append_own w s x 24 ho base 29 i0 _ 2 24 Try.underlying24 hi hz0 hz1 hz2 rfl (by decide) v n xs hs hown p m c (cellsL V) hx (by rw [cellsL_len, hrec.length]) (recs_cellsO hrec) (cellsL_one _) (by unfold maxLen; omega) (by omega) hbase fun v' w' h2 h3 h4 => hK _ _ (h v' w' h2 h3)

theorem keys40 {V : Recs} (h : runOkB V = true) : ∀ r ∈ V, r.1.size ≤ 40 := fun r hr => by
  obtain ⟨i, hi, e⟩ := List.mem_iff_getElem.1 hr
  have := (runOk_keys h).2 i hi
  rw [at_get V i hi] at e
  rw [← e]
  exact this
theorem merge_facts {V1 V2 M : Recs} (hz : mergeK V1 V2 = true) (hM : mergeW V1 V2 = M) : M.length = V1.length + V2.length ∧ mergeW V2 V1 = M ∧ mergeK V2 V1 = true ∧ runOkB M = true ∧ sortedB (V1 ++ V2) = M := by
  have hz0 := hz
  unfold mergeK at hz0
  rw [Bool.and_eq_true, Bool.and_eq_true] at hz0
  obtain ⟨⟨h1, h2⟩, h3⟩ := hz0
  have h6 : V1.length + V2.length ≤ 600 := of_decide_eq_true h3
  have hk2 : mergeK V2 V1 = true := by
    unfold mergeK
    rw [h1, h2, decide_eq_true (by omega)]; rfl
  have e1 : M = sortL (V1 ++ V2) := by
    rw [← hM]; unfold mergeW; rw [if_pos hz]
    exact (mergeL_sort ((runOk_iff _).1 h1).2 ((runOk_iff _).1 h2).2).symm
  have e2 : mergeW V2 V1 = sortL (V2 ++ V1) := by
    unfold mergeW; rw [if_pos hk2]
    exact (mergeL_sort ((runOk_iff _).1 h2).2 ((runOk_iff _).1 h1).2).symm
  have e3 : sortL (V2 ++ V1) = sortL (V1 ++ V2) := sortL_of (sortL_order _) ((sortL_perm _).trans List.perm_append_comm)
  have hall : ∀ r ∈ V1 ++ V2, r.1.size ≤ 40 := fun r hr => by
    rcases List.mem_append.1 hr with hr | hr
    · exact keys40 h1 r hr
    · exact keys40 h2 r hr
  have hlen : (V1 ++ V2).length ≤ 600 := by rw [List.length_append]; exact h6
  refine ⟨by rw [e1, (sortL_perm _).length_eq, List.length_append], by rw [e2, e3, e1], hk2, by rw [e1]; exact runOk_sort hall hlen, ?_⟩
  rw [sortedB_is (recsOk_mem hall hlen), e1]

set_option maxHeartbeats 8000000 in
theorem fnMerge_walk (w : World) (a : Option Addr) (len cap : Nat) (h : Src w a len) :
    Calls Try.prog 9 #[.slice a len cap] w fun e w' => e = .returned (.bool true) ∧ Below w.heap.size w w' := by
  have S := Lib.hid h
  clear h
  by_cases hb : 1048576 < len
  · go_enter Try.func9, Try.ntmps9
    go_wp2_with (go_at_call 10; refine (big_yes _ _ _ _ hb).mono ?_; rintro e w' ⟨rfl, rfl⟩)
    go_ret
    exact ⟨rfl, Below.refl _ _⟩
  · go_enter Try.func9, Try.ntmps9
    go_wp2_with (go_at_call 10; refine (big_no _ _ _ _ hb).mono ?_; rintro e w' ⟨rfl, rfl⟩)
    refine (drawtwo_any _ _ _ _ S.out).mono ?_
    rintro e w1 ⟨q1, q2, n1, c1, n2, c2, V1, V2, rfl, hd1, hd2, hB⟩
    have H1 := Lib.hid hd1
    have H2 := Lib.hid hd2
    have HB := Lib.hid hB
    have hn1 := hd1.few
    have hn2 := hd2.few
    have hk6 := mergeW_few V1 V2
    obtain ⟨M, hM⟩ : ∃ M, mergeW V1 V2 = M := ⟨_, rfl⟩
    obtain ⟨z, hz⟩ : ∃ z, mergeK V1 V2 = z := ⟨_, rfl⟩
    rw [hM] at hk6
    obtain ⟨m, hm⟩ : ∃ m, M.length = m := ⟨_, rfl⟩
    have hm6 : m ≤ 600 := by rw [← hm]; exact hk6.1
    have hmm : m ≤ maxLen := by unfold maxLen; omega
    have HKS := Lib.hid (show ∀ i, i < m → (keyAt M i).size ≤ maxLen from fun i hi => by
      have := hk6.2 i (by rw [hm]; exact hi)
      unfold maxLen; omega)
    have HM := Lib.hid hM
    have HZ := Lib.hid hz
    have HML := Lib.hid hm
    clear hd1 hd2 hB hM hz hm hk6
    go_wp2_with fail
    refine (mergerunsN_any _ _ _ _ _ _ _ _ _ H1.out.recs H2.out.recs H1.out.cap.1 H2.out.cap.1 H1.out.cap.2.1 H2.out.cap.2.1 (by omega) (by omega) H1.out.none H2.out.none).mono ?_
    rw [HM.out, HZ.out]
    rintro e w2 ⟨qm, cm, rfl, hrs, hB, _⟩
    rw [HML.out]
    have H1 := Lib.hid (H1.out.keep hB)
    have H2 := Lib.hid (H2.out.keep hB)
    have HR1 := Lib.hid (recs_of_rs hrs HML.out hmm HKS.out)
    have HB := Lib.hid (below_via HB.out hB)
    clear hrs hB
    go_wp2_with fail
    refine (smergerunsN_any _ _ _ _ _ _ _ _ _ H1.out.recs H2.out.recs H1.out.none H2.out.none).mono ?_
    rw [HM.out, HZ.out]
    rintro e w3 ⟨qs, cs, rfl, hrs, hB⟩
    rw [HML.out]
    have H1 := Lib.hid (H1.out.keep hB)
    have H2 := Lib.hid (H2.out.keep hB)
    have HR1 := Lib.hid (HR1.out.keep hB)
    have HR2 := Lib.hid (recs_of_rs hrs HML.out hmm HKS.out)
    have HB := Lib.hid (below_via HB.out hB)
    clear hrs hB
    cases z with
    | false =>
      go_wp2_with fail
      refine (samerun_same _ _ _ _ _ _ _ HR1.out HR2.out).mono ?_
      rintro e w4 ⟨rfl, hB⟩
      have HR1 := Lib.hid (HR1.out.keep hB)
      have HR2 := Lib.hid (HR2.out.keep hB)
      have HB := Lib.hid (below_via HB.out hB)
      clear hB
      go_wp2_with fail
      refine (samerun_same _ _ _ _ _ _ _ HR1.out HR2.out).mono ?_
      rintro e w5 ⟨rfl, hB⟩
      have HB := Lib.hid (below_via HB.out hB)
      clear hB
      go_wp2
      go_ret
      exact ⟨rfl, HB.out⟩
    | true =>
      have HFX := Lib.hid (merge_facts HZ.out HM.out)
      go_wp2_with fail
      refine (samerun_same _ _ _ _ _ _ _ HR1.out HR2.out).mono ?_
      rintro e w4 ⟨rfl, hB⟩
      have H1 := Lib.hid (H1.out.keep hB)
      have H2 := Lib.hid (H2.out.keep hB)
      have HR1 := Lib.hid (HR1.out.keep hB)
      have HB := Lib.hid (below_via HB.out hB)
      clear hB HR2
      go_wp2_with fail
      refine (mergerunsN_any _ _ _ _ _ _ _ _ _ H2.out.recs H1.out.recs H2.out.cap.1 H1.out.cap.1 H2.out.cap.2.1 H1.out.cap.2.1 (by omega) (by omega) H2.out.none H1.out.none).mono ?_
      rw [HFX.out.2.1, HFX.out.2.2.1]
      rintro e w5 ⟨qn, cn, rfl, hrs, hB, _⟩
      rw [HML.out]
      have H1 := Lib.hid (H1.out.keep hB)
      have H2 := Lib.hid (H2.out.keep hB)
      have HR1 := Lib.hid (HR1.out.keep hB)
      have HR2 := Lib.hid (recs_of_rs hrs HML.out hmm HKS.out)
      have HB := Lib.hid (below_via HB.out hB)
      clear hrs hB
      go_wp2_with fail
      refine (samerun_same _ _ _ _ _ _ _ HR2.out HR1.out).mono ?_
      rintro e w6 ⟨rfl, hB⟩
      have H1 := Lib.hid (H1.out.keep hB)
      have H2 := Lib.hid (H2.out.keep hB)
      have HR1 := Lib.hid (HR1.out.keep hB)
      have HB := Lib.hid (below_via HB.out hB)
      clear hB HR2
      go_wp2_with fail
      refine (runok_any _ _ _ _ _ HR1.out).mono ?_
      rw [HFX.out.2.2.2.1]
      rintro e w7 ⟨rfl, hB⟩
      have H1 := Lib.hid (H1.out.keep hB)
      have H2 := Lib.hid (H2.out.keep hB)
      have HR1 := Lib.hid (HR1.out.keep hB)
      have HB := Lib.hid (below_via HB.out hB)
      clear hB
      have HBA := Lib.hid (below_alloc (Below.refl w7.heap.size w7) (.cells #[] 29))
      have HO0 := Lib.hid (show (w7.alloc (.cells #[] 29)).ownsRow w7.heap.size 29 2 (.slice (some ⟨w7.heap.size, 0, none⟩) 0 0) 0 [] from World.ownsRow_lit w7 #[] 0 (Nat.le_refl _) (Nat.zero_le _) rfl)
      have H1 := Lib.hid (H1.out.keep HBA.out)
      go_wp2_with (first
        | (at_builtin; (refine append_g (by first | rfl | decide) _ _ rfl w7.heap.size _ _ _ rfl HO1.out q2 n2 c2 V2 rfl (H2.out.keep HB1.out).recs H2.out.none (by omega) HB1.out.size ?_); intro v2 w9 hown hgrow; have HO2 := Lib.hid hown; have HB2 := Lib.hid (HB1.out.grown hgrow HB1.out.size (fun j hj => (HO1.out.lt j hj).1)); clear hown hgrow)
        | (at_builtin; (refine append_g (by first | rfl | decide) _ _ rfl w7.heap.size _ _ _ rfl HO0.out q1 n1 c1 V1 rfl H1.out.recs H1.out.none (by omega) HBA.out.size ?_); intro v1 w8 hown hgrow; have HO1 := Lib.hid hown; have HB1 := Lib.hid (HBA.out.grown hgrow HBA.out.size (fun j hj => (HO0.out.lt j hj).1)); clear hown hgrow))
      obtain ⟨q3, c3, rfl⟩ := own_form HO2.out
      have hl12 : (V1 ++ V2).length = 0 + n1 + n2 := by rw [List.length_append, H1.out.recs.length, H2.out.recs.length, Nat.zero_add]
      have HR3 := Lib.hid (show RecsAt w9 q3 (0 + n1 + n2) (V1 ++ V2) from recs_of_rs (base := w7.heap.size) (rs_of_own (cp := c3) (by
        rw [hl12, cellsL_append]
        have := HO2.out
        rw [List.nil_append] at this
        exact this)) hl12 (by unfold maxLen; omega) (fun i hi => by
          have hm := List.getElem_mem (l := V1 ++ V2) (by rw [hl12]; exact hi : i < (V1 ++ V2).length)
          have hs : ∀ r ∈ V1 ++ V2, r.1.size ≤ 41 := fun r hr => by
            rcases List.mem_append.1 hr with hr | hr
            · exact H1.out.short r hr
            · exact H2.out.short r hr
          have := hs _ hm
          rw [at_get _ i (by rw [hl12]; exact hi)] at this
          have h41 : (keyAt (V1 ++ V2) i).size ≤ 41 := this
          unfold maxLen; omega))
      have HR1 := Lib.hid (HR1.out.keep HB2.out)
      have HB := Lib.hid (below_via HB.out HB2.out)
      clear hl12
      refine (sorted_any _ _ _ _ _ HR3.out).mono ?_
      rw [HFX.out.2.2.2.2]
      rintro e w10 ⟨q4, c4, rfl, hrs, hB, _⟩
      rw [HML.out]
      have HR4 := Lib.hid (recs_of_rs hrs HML.out hmm HKS.out)
      have HR1 := Lib.hid (HR1.out.keep hB)
      have HB := Lib.hid (below_via HB.out hB)
      clear hrs hB
      go_wp2_with fail
      refine (samerun_same _ _ _ _ _ _ _ HR1.out HR4.out).mono ?_
      rintro e w11 ⟨rfl, hB⟩
      have HB := Lib.hid (below_via HB.out hB)
      clear hB
      go_wp2
      go_ret
      exact ⟨rfl, HB.out⟩
end Go.Proofs.Ytpnnobgdojafkaa
