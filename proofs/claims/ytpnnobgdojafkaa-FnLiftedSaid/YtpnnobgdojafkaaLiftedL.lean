
/- The law on lifted records, walked: lifted and combined, counted records are as many as there were; at the other ops nothing changes. Only new blocks are made. -/
import Derived.Test.YtpnnobgdojafkaaDrawLf
import Derived.Test.YtpnnobgdojafkaaCombX
import Derived.Test.YtpnnobgdojafkaaSameR
import Derived.Test.YtpnnobgdojafkaaDraw1
namespace Go.Proofs.Ytpnnobgdojafkaa
open Go.ChangeShapes Go.WideShapes Go.ChangeAt Go.RowKit
set_option linter.unusedVariables false
set_option maxRecDepth 100000

theorem sum_cTo (S : Recs) (h6 : S.length ≤ 600) (h1 : ∀ i, i < S.length → numAt S i = 1) : ∀ k, k ≤ S.length → sumL (cTo 4 S k) = (k : Int) ∧ ∀ x ∈ cTo 4 S k, 0 ≤ x.2
  | 0, _ => by simp [cTo, sumL]
  | k + 1, hk => by
    have ih := sum_cTo S h6 h1 k (by omega)
    rw [cTo_succ 4 S k (by omega), h1 k (by omega)]
    generalize cTo 4 S k = W at ih
    obtain ⟨ih1, ih2⟩ := ih
    cases hj : joinsB W (keyAt S k, 1) with
    | false =>
      rw [cStep_new hj, sumL_append, ih1]
      refine ⟨by simp [sumL], fun x hx => ?_⟩
      rcases List.mem_append.1 hx with hx | hx
      · exact ih2 x hx
      · simp at hx; subst hx; exact Int.zero_le_ofNat 1
    | true =>
      rcases List.eq_nil_or_concat W with rfl | ⟨A, x, rfl⟩
      · simp [joinsB] at hj
      · rw [List.concat_eq_append] at *
        have hlen : (A ++ [x]).length = A.length + 1 := by simp
        have hx0 : x = (keyAt (A ++ [x]) A.length, numAt (A ++ [x]) A.length) := by
          have := at_get (A ++ [x]) A.length (by simp)
          simpa using this
        have hn : numAt (A ++ [x]) A.length = x.2 := by
          have := congrArg Prod.snd hx0
          exact this.symm
        rw [cStep_join hj hlen, hn]
        have hset : ∀ y, (A ++ [x]).set A.length y = A ++ [y] := fun y => by simp
        rw [hset]
        rw [sumL_append] at ih1
        have hxp := ih2 x (by simp)
        have hA := sumL_pos A (fun y hy => ih2 y (by simp [hy]))
        simp only [sumL] at ih1
        have hc : combN 4 x.2 1 = x.2 + 1 := by
          rw [← comb_sum 4 x.2 1 (.inr rfl)]
          exact IntWalk.wrap64_in _ (by omega)
        rw [hc, sumL_append]
        refine ⟨by simp only [sumL]; omega, fun y hy => ?_⟩
        rcases List.mem_append.1 hy with hy | hy
        · exact ih2 y (by simp [hy])
        · simp at hy; subst hy; show 0 ≤ x.2 + 1; omega

theorem lift_ok (op : Int) (l : Recs) (h : recsOkB l = true) : recsOkB (liftL op l) = true := by
  obtain ⟨h1, h2⟩ := recsOk_parts h
  unfold recsOkB
  rw [Bool.and_eq_true, List.all_eq_true]
  refine ⟨decide_eq_true (by rw [liftL_len]; exact h1), fun i hi => ?_⟩
  have hi' := List.mem_range.1 hi
  rw [liftL_len] at hi'
  have := h2 i hi'
  unfold okAt at *
  rw [(liftL_at op l i hi').1]
  exact this
theorem sum_lift (l : Recs) (h : recsOkB l = true) : sumL (combW 4 (liftL 4 l)) = (l.length : Int) ∧ ∀ x ∈ combW 4 (liftL 4 l), 0 ≤ x.2 := by
  have hk := lift_ok 4 l h
  have hs : sortedB (liftL 4 l) = sortL (liftL 4 l) := sortedB_is hk
  have hl : (sortL (liftL 4 l)).length = l.length := by rw [(sortL_perm _).length_eq, liftL_len]
  rw [comb_of (S := sortL (liftL 4 l)) (n := l.length) (by decide) hs hl]
  refine sum_cTo _ (by rw [hl]; exact (recsOk_parts h).1) (fun i hi => ?_) _ (by rw [hl]; exact Nat.le_refl _)
  have hm := (sortL_perm (liftL 4 l)).mem_iff.1 (List.getElem_mem hi)
  rw [at_get _ i hi] at hm
  unfold liftL at hm
  obtain ⟨r, _, hr⟩ := List.mem_map.1 hm
  have := congrArg Prod.snd hr
  exact this.symm

set_option maxHeartbeats 8000000 in
theorem fnLifted_walk (w : World) (a : Option Addr) (len cap : Nat) (h : Src w a len) :
    Calls Try.prog 8 #[.slice a len cap] w fun e w' => e = .returned (.bool true) ∧ Below w.heap.size w w' := by
  have S := Lib.hid h
  clear h
  by_cases hb : 1048576 < len
  · go_enter Try.func8, Try.ntmps8
    go_wp2_with (go_at_call 10; refine (big_yes _ _ _ _ hb).mono ?_; rintro e w' ⟨rfl, rfl⟩)
    go_ret
    exact ⟨rfl, Below.refl _ _⟩
  · go_enter Try.func8, Try.ntmps8
    go_wp2_with (go_at_call 10; refine (big_no _ _ _ _ hb).mono ?_; rintro e w' ⟨rfl, rfl⟩)
    refine (drawlf_any _ _ _ _ S.out).mono ?_
    rintro e w1 ⟨op, q, n, cp, V, hop, rfl, hd, hB⟩
    have HOP := Lib.hid hop
    have HD := Lib.hid hd
    have HB := Lib.hid hB
    have hn6 := hd.few
    obtain ⟨M, hM⟩ : ∃ M, liftW op V = M := ⟨_, rfl⟩
    obtain ⟨m, hm⟩ : ∃ m, M.length = m := ⟨_, rfl⟩
    have hk41 : ∀ i, i < n → (keyAt V i).size ≤ 41 := fun i hi => by
      have hi' : i < V.length := by rw [hd.recs.length]; exact hi
      have := hd.short V[i] (List.getElem_mem hi')
      rw [at_get V i hi'] at this
      exact this
    have hcase : (m = 0 ∧ M = []) ∨ (m = n ∧ opOkB op = true ∧ recsOkB V = true ∧ M = liftL op V) := by
      cases h1 : opOkB op with
      | false => exact .inl (by rw [← hm, ← hM, lift_no1 h1]; exact ⟨rfl, rfl⟩)
      | true =>
        cases h2 : recsOkB V with
        | false => exact .inl (by rw [← hm, ← hM, lift_no2 h2]; exact ⟨rfl, rfl⟩)
        | true => exact .inr ⟨by rw [← hm, ← hM, lift_yes h1 h2, liftL_len]; exact hd.recs.length, rfl, rfl, by rw [← hM]; exact lift_yes h1 h2⟩
    have hm6 : m ≤ 601 := by rcases hcase with h1 | h1 <;> omega
    have HKS := Lib.hid (show ∀ i, i < m → (keyAt M i).size ≤ maxLen from fun i hi => by
      rcases hcase with h1 | ⟨h1, _, _, h2⟩
      · omega
      · rw [h2, (liftL_at op V i (by rw [hd.recs.length]; omega)).1]
        have := hk41 i (by omega)
        unfold maxLen; omega)
    have hmm : m ≤ maxLen := by unfold maxLen; omega
    have HC := Lib.hid hcase
    have HM := Lib.hid hM
    have HML := Lib.hid hm
    clear hd hB hM hm hk41 hcase hop
    go_wp2_with fail
    refine (lifted_any _ _ _ _ _ _ HD.out.recs).mono ?_
    rw [HM.out]
    rintro e w2 ⟨q1, c1, rfl, hrs, hB⟩
    rw [HML.out]
    have HD := Lib.hid (HD.out.keep hB)
    have HR1 := Lib.hid (recs_of_rs hrs HML.out hmm HKS.out)
    have HB := Lib.hid (below_via HB.out hB)
    clear hrs hB
    go_wp2_with fail
    refine (slifted_o _ _ _ _ _ _ HD.out).mono ?_
    rw [HM.out]
    rintro e w3 ⟨q2, c2, rfl, hrs, hB⟩
    rw [HML.out]
    have HD := Lib.hid (HD.out.keep hB)
    have HR2 := Lib.hid (recs_of_rs hrs HML.out hmm HKS.out)
    have HR1 := Lib.hid (HR1.out.keep hB)
    have HB := Lib.hid (below_via HB.out hB)
    clear hrs hB
    go_wp2_with fail
    refine (samerun_same _ _ _ _ _ _ _ HR1.out HR2.out).mono ?_
    rintro e w4 ⟨rfl, hB⟩
    have HD := Lib.hid (HD.out.keep hB)
    have HR1 := Lib.hid (HR1.out.keep hB)
    have HB := Lib.hid (below_via HB.out hB)
    clear hB HR2
    by_cases hgo : m = n ∧ 0 < n
    · obtain ⟨rfl, hpos⟩ := hgo
      have HX := Lib.hid (show opOkB op = true ∧ recsOkB V = true ∧ M = liftL op V by
        rcases HC.out with h1 | h1
        · omega
        · exact h1.2)
      clear HC
      have hfew := combW_few op M
      obtain ⟨C, hC⟩ : ∃ C, combW op M = C := ⟨_, rfl⟩
      rw [hC] at hfew
      obtain ⟨nc, hnc⟩ : ∃ nc, C.length = nc := ⟨_, rfl⟩
      have hnc6 : nc ≤ 600 := by rw [← hnc]; exact hfew.1
      have HKC := Lib.hid (show ∀ i, i < nc → (keyAt C i).size ≤ maxLen from fun i hi => by
        have := hfew.2 i (by rw [hnc]; exact hi)
        unfold maxLen; omega)
      have HCC := Lib.hid hC
      have HNC := Lib.hid hnc
      clear hfew hC hnc
      have g0 : ((m : Int) == 0) = false := by simpa using (by omega : ¬ ((m : Int) = 0))
      go_wp2_with fail
      refine (combined_any _ _ _ _ _ _ HR1.out).mono ?_
      rw [HCC.out]
      rintro e w5 ⟨qc, cc, rfl, hrs, hB, _⟩
      rw [HNC.out]
      have HD := Lib.hid (HD.out.keep hB)
      have HR1 := Lib.hid (HR1.out.keep hB)
      have HRC := Lib.hid (recs_of_rs hrs HNC.out (by unfold maxLen; omega) HKC.out)
      have HB := Lib.hid (below_via HB.out hB)
      clear hrs hB
      by_cases h4 : op = 4
      · subst h4
        have HSUM := Lib.hid (show sumL C = (m : Int) ∧ ∀ x ∈ C, 0 ≤ x.2 by
          have := sum_lift V HX.out.2.1
          rw [← HX.out.2.2, HCC.out, HD.out.recs.length] at this
          exact this)
        go_wp2_with fail
        go_loopw [7, 8] (fun s i wr => ∃ k : Nat, k ≤ nc ∧ i = .int .i64 k ∧ s = .int .i64 (sumL (C.take k)) ∧ Hid (Below w.heap.size w wr ∧ RecsAt wr qc nc C)) (fun _ i _ => nc - (intOf i).toNat)
        case atStart => exact ⟨0, Nat.zero_le _, rfl, by simp [sumL], HB.out, HRC.out⟩
        case round =>
          obtain ⟨k, hk, rfl, rfl, HW⟩ := hrel
          clear HB HRC HR1 HD
          by_cases hlt : k < nc
          · rcases HW.out.2.src with hz | ⟨bb, off, rfl, hbb, hc⟩
            · omega
            · have c0 := (hc k hlt).1
              have c1 := (hc k hlt).2
              have hi1 : (k : Int) < (nc : Int) := by omega
              have hi0 : (0 : Int) ≤ (k : Int) := by omega
              have hst := sumL_step C k (by rw [HNC.out]; exact hlt)
              have hb1 := sumL_most C k HSUM.out.2
              have hb2 := sumL_most C (k + 1) HSUM.out.2
              rw [HSUM.out.1] at hb1 hb2
              have hx0 : 0 ≤ numAt C k := by
                have hk' : k < C.length := by rw [HNC.out]; exact hlt
                have := HSUM.out.2 C[k] (List.getElem_mem hk')
                rw [at_get C k hk'] at this
                exact this
              rw [hst] at hb2
              have HST := Lib.hid hst
              clear hst hc hbb
              generalize numAt C k = x at *
              generalize sumL (C.take k) = s at *
              have hs1 : s ≤ 601 := by omega
              have hs0 : 0 ≤ s := hb1.1
              have hsx : s + x ≤ 601 := by omega
              clear hb1 hb2
              go_wp2
              go_roundw
              case rel => exact ⟨k + 1, by omega, by go_num, by rw [HST.out], HW.out⟩
              case measure => simp [intOf]; omega
          · obtain rfl : k = nc := by omega
            have hse : sumL (C.take k) = (m : Int) := by rw [← HNC.out, List.take_length]; exact HSUM.out.1
            rw [hse]
            go_wp2
            go_ret
            exact ⟨rfl, HW.out.1⟩
      · have g4 : (op == 4) = false := by simpa using h4
        have HMV := Lib.hid (show M = V by rw [HX.out.2.2]; exact liftL_same op V h4)
        go_wp2_with fail
        go_loopw [7, 8] (fun s i wr => ∃ k : Nat, k ≤ nc ∧ i = .int .i64 k ∧ (∃ x : Int, s = .int .i64 x) ∧ Hid (Below w.heap.size w wr ∧ RecsAt wr qc nc C ∧ RecsAt wr q1 m M ∧ DrawnL wr q m cp V)) (fun _ i _ => nc - (intOf i).toNat)
        case atStart => exact ⟨0, Nat.zero_le _, rfl, ⟨0, rfl⟩, HB.out, HRC.out, HR1.out, HD.out⟩
        case round =>
          obtain ⟨k, hk, rfl, ⟨s, rfl⟩, HW⟩ := hrel
          clear HB HRC HR1 HD
          by_cases hlt : k < nc
          · rcases HW.out.2.1.src with hz | ⟨bb, off, rfl, hbb, hc⟩
            · omega
            · have c0 := (hc k hlt).1
              have c1 := (hc k hlt).2
              have hi1 : (k : Int) < (nc : Int) := by omega
              have hi0 : (0 : Int) ≤ (k : Int) := by omega
              clear hc hbb
              generalize numAt C k = x at c1
              go_wp2
              go_roundw
              case rel => exact ⟨k + 1, by omega, by go_num, ⟨_, rfl⟩, HW.out⟩
              case measure => simp [intOf]; omega
          · obtain rfl : k = nc := by omega
            go_wp2_with fail
            refine (samerun_same _ _ _ _ _ V _ (by have := HW.out.2.2.1; rw [HMV.out] at this; exact this) HW.out.2.2.2.recs).mono ?_
            rintro e w6 ⟨rfl, hB⟩
            have HB := Lib.hid (below_via HW.out.1 hB)
            clear hB HW
            go_wp2
            go_ret
            exact ⟨rfl, HB.out⟩
    · have hel : n = 0 ∨ (0 < n ∧ m = 0) := by
        rcases HC.out with h1 | h1 <;> omega
      have hm0 : n = 0 → m = 0 := by rcases HC.out with h1 | h1 <;> omega
      clear HC
      rcases hel with hz | ⟨hpos, hz⟩
      · obtain rfl := hm0 hz
        obtain rfl := hz
        clear hm0 hgo
        go_wp2_with fail
        refine (slifted_o _ _ _ _ _ _ HD.out).mono ?_
        rw [HM.out]
        rintro e w5 ⟨q3, c3, rfl, hrs, hB⟩
        rw [HML.out]
        have HR3 := Lib.hid (recs_of_rs hrs HML.out hmm HKS.out)
        have HR1 := Lib.hid (HR1.out.keep hB)
        have HB := Lib.hid (below_via HB.out hB)
        clear hrs hB
        go_wp2_with fail
        refine (samerun_same _ _ _ _ _ _ _ HR1.out HR3.out).mono ?_
        rintro e w6 ⟨rfl, hB⟩
        have HB := Lib.hid (below_via HB.out hB)
        clear hB
        go_wp2
        go_ret
        exact ⟨rfl, HB.out⟩
      · obtain rfl := hz
        clear hm0 hgo
        have g1 : ((0 : Int) == (n : Int)) = false := by simpa using (by omega : ¬ ((0 : Int) = (n : Int)))
        have g2 : (((0 : Nat) : Int) == (n : Int)) = false := g1
        go_wp2_with fail
        refine (slifted_o _ _ _ _ _ _ HD.out).mono ?_
        rw [HM.out]
        rintro e w5 ⟨q3, c3, rfl, hrs, hB⟩
        rw [HML.out]
        have HR3 := Lib.hid (recs_of_rs hrs HML.out hmm HKS.out)
        have HR1 := Lib.hid (HR1.out.keep hB)
        have HB := Lib.hid (below_via HB.out hB)
        clear hrs hB
        go_wp2_with fail
        refine (samerun_same _ _ _ _ _ _ _ HR1.out HR3.out).mono ?_
        rintro e w6 ⟨rfl, hB⟩
        have HB := Lib.hid (below_via HB.out hB)
        clear hB
        go_wp2
        go_ret
        exact ⟨rfl, HB.out⟩
end Go.Proofs.Ytpnnobgdojafkaa
