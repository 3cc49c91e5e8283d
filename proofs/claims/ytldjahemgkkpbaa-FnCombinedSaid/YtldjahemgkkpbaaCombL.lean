
/- The law on combined records, walked. -/
import Derived.Test.YtldjahemgkkpbaaCombK
namespace Go.Proofs.Ytldjahemgkkpbaa
open Go.ChangeShapes Go.WideShapes Go.ChangeAt Go.RowKit
set_option linter.unusedVariables false
set_option maxRecDepth 100000

/-- What the inner loop holds when it has seen j records: nothing of that key yet, or what its numbers come to. -/
def FO (op : Int) (C V : Recs) (i j : Nat) (fb : Bool) (vv : Int) : Prop :=
  (fb = true ∧ resT op (keyAt C i) (V.take j) = none) ∨ (fb = false ∧ resT op (keyAt C i) (V.take j) = some vv)
theorem fo_zero (op : Int) (C V : Recs) (i : Nat) : FO op C V i 0 true 0 := .inl ⟨rfl, by simp [resT]⟩
theorem fo_first {op : Int} {C V : Recs} {i j : Nat} {vv : Int} (h : FO op C V i j true vv) (hj : j < V.length) (hk : (keyAt V j).toList = (keyAt C i).toList) : FO op C V i (j + 1) false (numAt V j) := by
  rcases h with ⟨_, h⟩ | ⟨h0, _⟩
  · refine .inr ⟨rfl, ?_⟩
    rw [res_take hj, if_pos (by unfold sameKey; simpa using hk), h]
    rfl
  · cases h0
theorem fo_next {op : Int} {C V : Recs} {i j : Nat} {vv : Int} (h : FO op C V i j false vv) (hj : j < V.length) (hk : (keyAt V j).toList = (keyAt C i).toList) : FO op C V i (j + 1) false (combN op vv (numAt V j)) := by
  rcases h with ⟨h0, _⟩ | ⟨_, h⟩
  · cases h0
  · refine .inr ⟨rfl, ?_⟩
    rw [res_take hj, if_pos (by unfold sameKey; simpa using hk), h]
    rfl
theorem fo_skip {op : Int} {C V : Recs} {i j : Nat} {fb : Bool} {vv : Int} (h : FO op C V i j fb vv) (hj : j < V.length) (hk : ¬ (keyAt V j).toList = (keyAt C i).toList) : FO op C V i (j + 1) fb vv := by
  have hs : ¬ sameKey (keyAt V j) (keyAt C i) = true := by rw [same_no hk]; simp
  unfold FO
  rw [res_take hj, if_neg hs]
  exact h
theorem fo_end {op : Int} {C V : Recs} {i n : Nat} {fb : Bool} {vv : Int} (h : FO op C V i n fb vv) (hl : V.length = n) (hr : resT op (keyAt C i) V = some (numAt C i)) : false = fb ∧ numAt C i = vv := by
  unfold FO at h
  rw [List.take_of_length_le (by rw [hl]; exact Nat.le_refl _), hr] at h
  rcases h with ⟨_, h⟩ | ⟨h0, h⟩
  · cases h
  · exact ⟨h0.symm, Option.some.inj h⟩
theorem fo_less {C : Recs} {p i : Nat} (h : KeyUp C) (hp : p < i) (hi : i < C.length) : Op.bytesLess (keyAt C p).toList (keyAt C i).toList = true := by
  rw [bless_iff]
  have := (List.pairwise_iff_getElem.1 h) p i (by omega) hi hp
  rw [at_get C p (by omega), at_get C i hi] at this
  exact this

set_option maxHeartbeats 8000000 in
theorem fnCombined_walk (w : World) (a : Option Addr) (len cap : Nat) (h : Src w a len) :
    Calls Try.prog 3 #[.slice a len cap] w fun e w' => e = .returned (.bool true) ∧ Below w.heap.size w w' := by
  have S0 := Lib.hid h
  clear h
  by_cases hb : 1048576 < len
  · go_enter Try.func3, Try.ntmps3
    go_wp2_with (go_at_call 6; refine (big_yes _ _ _ _ hb).mono ?_; rintro e w' ⟨rfl, rfl⟩)
    go_ret
    exact ⟨rfl, Below.refl _ _⟩
  · go_enter Try.func3, Try.ntmps3
    go_wp2_with (go_at_call 6; refine (big_no _ _ _ _ hb).mono ?_; rintro e w' ⟨rfl, rfl⟩)
    refine (drawcd_any _ _ _ _ S0.out).mono ?_
    rintro e w1 ⟨op, q, n, cp, V, hop, rfl, hd, hB⟩
    have HD := Lib.hid hd
    have HB := Lib.hid hB
    have hn6 := hd.few
    have hfew := combW_few op V
    obtain ⟨C, hC⟩ : ∃ C, combW op V = C := ⟨_, rfl⟩
    rw [hC] at hfew
    obtain ⟨m, hm⟩ : ∃ m, C.length = m := ⟨_, rfl⟩
    have hm6 : m ≤ 600 := by rw [← hm]; exact hfew.1
    have hmm : m ≤ maxLen := by unfold maxLen; omega
    have HKS := Lib.hid (show ∀ i, i < m → (keyAt C i).size ≤ maxLen from fun i hi => by
      have := hfew.2 i (by rw [hm]; exact hi)
      unfold maxLen; omega)
    have HC := Lib.hid hC
    have HML := Lib.hid hm
    clear hd hB hC hm hfew hop
    go_wp2_with fail
    refine (combined_any _ _ _ _ _ _ HD.out.recs).mono ?_
    rw [HC.out]
    rintro e w2 ⟨q1, c1, rfl, hrs, hB, _⟩
    rw [HML.out]
    have HD := Lib.hid (HD.out.keep hB)
    have HR1 := Lib.hid (recs_of_rs hrs HML.out hmm HKS.out)
    have HB := Lib.hid (below_via HB.out hB)
    clear hrs hB
    go_wp2_with fail
    refine (scombined_any _ _ _ _ _ _ HD.out.recs).mono ?_
    rw [HC.out]
    rintro e w3 ⟨q2, c2, rfl, hrs, hB, _⟩
    rw [HML.out]
    have HD := Lib.hid (HD.out.keep hB)
    have HR2 := Lib.hid (recs_of_rs hrs HML.out hmm HKS.out)
    have HR1 := Lib.hid (HR1.out.keep hB)
    have HB := Lib.hid (below_via HB.out hB)
    clear hrs hB
    go_wp2_with fail
    refine (samerun_same _ _ _ _ _ _ _ HR1.out HR2.out).mono ?_
    rintro e w4 ⟨rfl, hB⟩
    have HD := Lib.hid (HD.out.keep hB)
    have HR1 := Lib.hid (HR1.out.keep hB)
    have HB := Lib.hid (below_via HB.out hB)
    clear hB HR2
    by_cases hgo : 0 < m ∧ n ≤ 100
    · obtain ⟨hpos, h100⟩ := hgo
      have HOK := Lib.hid (show opOkB op = true ∧ recsOkB V = true by
        cases h1 : opOkB op with
        | false =>
          have := HC.out
          rw [comb_bad h1] at this
          have h2 := HML.out
          rw [← this] at h2
          simp at h2
          omega
        | true =>
          cases h2 : recsOkB V with
          | true => exact ⟨rfl, rfl⟩
          | false =>
            have := HC.out
            rw [comb_not h2] at this
            have h2 := HML.out
            rw [← this] at h2
            simp at h2
            omega)
      have HH := Lib.hid (show KeyUp C ∧ ∀ r ∈ C, resT op r.1 V = some r.2 by
        have := combW_holds HOK.out.1 HOK.out.2
        rw [HC.out] at this
        exact this)
      have HF := Lib.hid (show FC w q q1 n m cp V C w4 from ⟨HB.out, HD.out, HR1.out⟩)
      have h100' : ¬ (100 : Int) < (n : Int) := by omega
      have g0 : ((m : Int) == 0) = false := by simpa using (by omega : ¬ ((m : Int) = 0))
      clear HB HD HR1
      go_wp2_with fail
      go_loopw [6] (fun i wr => ∃ k : Nat, k ≤ m ∧ i = .int .i64 k ∧ Hid (FC w q q1 n m cp V C wr)) (fun i _ => m - (intOf i).toNat)
      case atStart => exact ⟨0, Nat.zero_le _, rfl, HF.out⟩
      case round =>
        obtain ⟨i, hi, rfl, HW⟩ := hrel
        clear HF
        by_cases hlt : i < m
        · have hlc : i < C.length := by rw [HML.out]; exact hlt
          have HLC := Lib.hid hlc
          have HRI := Lib.hid (show resT op (keyAt C i) V = some (numAt C i) by
            exact HH.out.2 (keyAt C i, numAt C i) (by rw [← at_get C i hlc]; exact List.getElem_mem hlc))
          clear hlc
          have hi1 : (i : Int) < (m : Int) := by omega
          have hi0 : (0 : Int) ≤ (i : Int) := by omega
          go_wp2_with fail
          go_loopw [7, 8, 9] (fun f v k wr2 => ∃ (j : Nat) (fb : Bool) (vv : Int), j ≤ n ∧ k = .int .i64 j ∧ f = .bool fb ∧ v = .int .i64 vv ∧ Hid (FO op C V i j fb vv ∧ FC w q q1 n m cp V C wr2)) (fun _ _ k _ => n - (intOf k).toNat)
          case atStart => exact ⟨0, true, 0, Nat.zero_le _, rfl, rfl, rfl, Lib.hid ⟨fo_zero _ _ _ _, HW.out⟩⟩
          case round =>
            obtain ⟨j, fb, vv, hj, rfl, rfl, rfl, HW2⟩ := hrel
            clear HW
            by_cases hjl : j < n
            · rcases HW2.out.2.l.recs.src with hz | ⟨bl, ol, rfl, hbl, hcl⟩
              · omega
              · rcases HW2.out.2.c.src with hz | ⟨bs, os, rfl, hbs, hcs⟩
                · omega
                · have c0 := (hcl j hjl).1
                  have c1 := (hcl j hjl).2
                  have d0 := (hcs i hlt).1
                  have d1 := (hcs i hlt).2
                  have hj1 : (j : Int) < (n : Int) := by omega
                  have hj0 : (0 : Int) ≤ (j : Int) := by omega
                  clear hcl hcs hbl hbs
                  by_cases hk : (keyAt V j).toList = (keyAt C i).toList
                  · have HK := Lib.hid hk
                    rw [toList_inj hk] at c0
                    clear hk
                    have HFC := Lib.hid HW2.out.2
                    cases fb with
                    | true =>
                      have HFO := Lib.hid (fo_first HW2.out.1 (by rw [HFC.out.l.recs.length]; exact hjl) HK.out)
                      clear HW2
                      obtain ⟨y, hy⟩ : ∃ y, numAt V j = y := ⟨_, rfl⟩
                      rw [hy] at c1 HFO
                      clear hy
                      obtain ⟨z, hz⟩ : ∃ z, keyAt C i = z := ⟨_, rfl⟩
                      rw [hz] at c0 d0
                      clear hz
                      go_wp2_with fail
                      go_quiet (fail)
                      go_wp2
                      go_roundw
                      case rel => exact ⟨j + 1, false, y, by omega, by go_num, rfl, rfl, Lib.hid ⟨HFO.out, HFC.out.keep (below_drewN (Below.refl _ _) _)⟩⟩
                      case measure => simp [intOf]; omega
                    | false =>
                      have HFO := Lib.hid (fo_next HW2.out.1 (by rw [HFC.out.l.recs.length]; exact hjl) HK.out)
                      clear HW2
                      obtain ⟨y, hy⟩ : ∃ y, numAt V j = y := ⟨_, rfl⟩
                      rw [hy] at c1 HFO
                      clear hy
                      obtain ⟨z, hz⟩ : ∃ z, keyAt C i = z := ⟨_, rfl⟩
                      rw [hz] at c0 d0
                      clear hz
                      go_wp2_with fail
                      go_quiet (fail)
                      go_wp2_with fail
                      refine (comb_any op vv y _).mono ?_
                      rintro e w5 ⟨rfl, rfl⟩
                      obtain ⟨u, hu⟩ : ∃ u, combN op vv y = u := ⟨_, rfl⟩
                      rw [hu] at HFO ⊢
                      clear hu
                      go_wp2
                      go_roundw
                      case rel => exact ⟨j + 1, false, u, by omega, by go_num, rfl, rfl, Lib.hid ⟨HFO.out, HFC.out.keep (below_drewN (Below.refl _ _) _)⟩⟩
                      case measure => simp [intOf]; omega
                  · have HFC := Lib.hid HW2.out.2
                    have HFO := Lib.hid (fo_skip HW2.out.1 (by rw [HFC.out.l.recs.length]; exact hjl) hk)
                    clear HW2
                    obtain ⟨z, hz⟩ : ∃ z, keyAt C i = z := ⟨_, rfl⟩
                    obtain ⟨y, hy⟩ : ∃ y, keyAt V j = y := ⟨_, rfl⟩
                    rw [hz] at d0 hk
                    rw [hy] at c0 hk
                    clear hz hy
                    have hk1 : ¬ y = z := fun e => hk (by rw [e])
                    have hk2 : (y.toList == z.toList) = false := by simpa using hk
                    go_wp2_with fail
                    go_quiet (fail)
                    go_wp2
                    go_roundw
                    case rel => exact ⟨j + 1, fb, vv, by omega, by go_num, rfl, rfl, Lib.hid ⟨HFO.out, HFC.out.keep (below_drewN (Below.refl _ _) _)⟩⟩
                    case measure => simp [intOf]; omega
            · obtain rfl : j = n := by omega
              obtain ⟨rfl, rfl⟩ := fo_end HW2.out.1 HW2.out.2.l.recs.length HRI.out
              have HW := Lib.hid HW2.out.2
              clear HW2
              rcases HW.out.c.src with hz | ⟨bs, os, rfl, hbs, hcs⟩
              · omega
              · have d1 := (hcs i hlt).2
                have d0 := (hcs i hlt).1
                by_cases hi00 : i = 0
                · have hn0 : decide (0 < i) = false := by subst hi00; rfl
                  have hi9 : ¬ (0 : Int) < (i : Int) := by omega
                  clear hcs hbs d0 hi00
                  obtain ⟨y, hy⟩ : ∃ y, numAt C i = y := ⟨_, rfl⟩
                  rw [hy] at d1 ⊢
                  clear hy
                  go_wp2_with fail
                  go_quiet (fail)
                  go_wp2
                  go_roundw
                  case rel => exact ⟨i + 1, by omega, by go_num, Lib.hid (HW.out.keep (below_drewN (Below.refl _ _) _))⟩
                  case measure => simp [intOf]; omega
                · obtain ⟨p, hp⟩ : ∃ p, i - 1 = p := ⟨_, rfl⟩
                  have e0 := (hcs p (by omega)).1
                  have hbl := fo_less HH.out.1 (show p < i by omega) HLC.out
                  have hn0 : decide (0 < i) = true := decide_eq_true (by omega)
                  have hi9 : (0 : Int) < (i : Int) := by omega
                  have hi3 : (i : Int) - 1 = (p : Int) := by omega
                  have hi4 : (p : Int) < (m : Int) := by omega
                  have hi5 : (0 : Int) ≤ (p : Int) := by omega
                  clear hcs hbs hi00 hp
                  obtain ⟨y, hy⟩ : ∃ y, numAt C i = y := ⟨_, rfl⟩
                  rw [hy] at d1 ⊢
                  clear hy
                  obtain ⟨x, hx⟩ : ∃ x, keyAt C i = x := ⟨_, rfl⟩
                  obtain ⟨z, hz⟩ : ∃ z, keyAt C p = z := ⟨_, rfl⟩
                  rw [hx] at d0 hbl
                  rw [hz] at e0 hbl
                  clear hx hz
                  go_wp2_with fail
                  go_quiet (fail)
                  go_wp2
                  go_roundw
                  case rel => exact ⟨i + 1, by omega, by go_num, Lib.hid (HW.out.keep (below_drewN (Below.refl _ _) _))⟩
                  case measure => simp [intOf]; omega
        · obtain rfl : i = m := by omega
          have HKB := Lib.hid (keysB_short HW.out.c)
          have HSK := Lib.hid (keysB_comb HOK.out.1 HOK.out.2)
          rw [HC.out] at HSK
          have hfew := sortedB_few V
          obtain ⟨S, hS⟩ : ∃ S, sortedB V = S := ⟨_, rfl⟩
          rw [hS] at hfew HSK
          obtain ⟨K, hK⟩ : ∃ K, keysB C = K := ⟨_, rfl⟩
          rw [hK] at HKB HSK
          obtain ⟨s, hs⟩ : ∃ s, S.length = s := ⟨_, rfl⟩
          obtain ⟨t, ht⟩ : ∃ t, K.length = t := ⟨_, rfl⟩
          rw [ht] at HKB
          have hs6 : s ≤ 1048576 := by rw [← hs]; omega
          have hsm : s ≤ maxLen := by unfold maxLen; omega
          have htm : t ≤ maxLen := by have := HKB.out.2; unfold maxLen; omega
          have HSS := Lib.hid (show ∀ i, i < s → (keyAt S i).size ≤ maxLen from fun i hi => by
            have := hfew.2 i (by rw [hs]; exact hi)
            unfold maxLen; omega)
          have HS := Lib.hid hS
          have HSL := Lib.hid hs
          have HK := Lib.hid hK
          have HT := Lib.hid ht
          clear hfew hS hs hK ht
          go_wp2_with fail
          refine (keys_ks _ _ _ _ _ HW.out.c (by omega)).mono ?_
          rw [HK.out]
          rintro e w5 ⟨q3, c3, rfl, h1, hB⟩
          have H1 := Lib.hid (strs_of_ks h1 HT.out htm HKB.out.1)
          have HW := Lib.hid (HW.out.keep hB)
          rw [HT.out]
          clear h1 hB
          go_wp2_with fail
          refine (sorted_any _ _ _ _ _ HW.out.l.recs).mono ?_
          rw [HS.out]
          rintro e w6 ⟨q4, c4, rfl, hrs, hB, _⟩
          have HRS := Lib.hid (recs_of_rs hrs HSL.out hsm HSS.out)
          have HW := Lib.hid (HW.out.keep hB)
          have H1 := Lib.hid (H1.out.keep hB)
          rw [HSL.out]
          clear hrs hB
          go_wp2_with fail
          refine (keys_ks _ _ _ _ _ HRS.out hs6).mono ?_
          rw [← HSK.out]
          rintro e w7 ⟨q5, c5, rfl, h2, hB⟩
          have H2 := Lib.hid (strs_of_ks h2 HT.out htm HKB.out.1)
          have HW := Lib.hid (HW.out.keep hB)
          have H1 := Lib.hid (H1.out.keep hB)
          rw [HT.out]
          clear h2 hB
          go_wp2_with fail
          refine (sametexts_same _ _ _ _ _ _ _ H1.out H2.out).mono ?_
          rintro e w8 ⟨rfl, hB⟩
          have HB := Lib.hid (below_via HW.out.below hB)
          clear hB
          go_wp2
          go_ret
          exact ⟨rfl, HB.out⟩
    · have hel : m = 0 ∨ (0 < m ∧ (100 : Int) < (n : Int)) := by omega
      clear hgo
      rcases hel with h0 | ⟨h0, hgt⟩
      · have g1 : ((m : Int) == 0) = true := by simpa using h0
        clear h0
        go_wp2_with fail
        refine (scombined_any _ _ _ _ _ _ HD.out.recs).mono ?_
        rw [HC.out]
        rintro e w5 ⟨q3, c3, rfl, hrs, hB, _⟩
        rw [HML.out]
        have HR3 := Lib.hid (recs_of_rs hrs HML.out hmm HKS.out)
        have HR1 := Lib.hid (HR1.out.keep hB)
        have HB := Lib.hid (below_via HB.out hB)
        clear hrs hB
        go_wp2_with fail
        refine (samerun_same _ _ _ _ _ _ _ HR1.out HR3.out).mono ?_
        rintro e w6 ⟨rfl, hB⟩
        have HB := Lib.hid (below_via HB.out hB)
        clear hB
        go_wp2
        go_ret
        exact ⟨rfl, HB.out⟩
      · have g1 : ((m : Int) == 0) = false := by simpa using (by omega : ¬ m = 0)
        go_wp2_with fail
        refine (scombined_any _ _ _ _ _ _ HD.out.recs).mono ?_
        rw [HC.out]
        rintro e w5 ⟨q3, c3, rfl, hrs, hB, _⟩
        rw [HML.out]
        have HR3 := Lib.hid (recs_of_rs hrs HML.out hmm HKS.out)
        have HR1 := Lib.hid (HR1.out.keep hB)
        have HB := Lib.hid (below_via HB.out hB)
        clear hrs hB
        go_wp2_with fail
        refine (samerun_same _ _ _ _ _ _ _ HR1.out HR3.out).mono ?_
        rintro e w6 ⟨rfl, hB⟩
        have HB := Lib.hid (below_via HB.out hB)
        clear hB
        go_wp2
        go_ret
        exact ⟨rfl, HB.out⟩
end Go.Proofs.Ytldjahemgkkpbaa
