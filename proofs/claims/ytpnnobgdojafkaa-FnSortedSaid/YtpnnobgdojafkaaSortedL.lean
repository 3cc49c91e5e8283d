
/- The law on sorted records, walked: what is sorted is a run that has each record as often. Only new blocks are made. -/
import Derived.Test.YtpnnobgdojafkaaDrawLf
import Derived.Test.YtpnnobgdojafkaaSo8
import Derived.Test.YtpnnobgdojafkaaSameR
import Derived.Test.YtpnnobgdojafkaaDraw1
import Derived.Test.YtpnnobgdojafkaaFind
import Derived.Test.YtpnnobgdojafkaaRuns4
namespace Go.Proofs.Ytpnnobgdojafkaa
open Go.ChangeShapes Go.WideShapes Go.ChangeAt Go.RowKit
set_option linter.unusedVariables false
set_option maxRecDepth 100000

def DrewSd (w : World) (e : Ending) (w' : World) : Prop :=
  ∃ (q : Option Addr) (n cp : Nat) (V : Recs), e = .returned (.slice q n cp) ∧ DrawnL w' q n cp V ∧ Below w.heap.size w w'

set_option maxHeartbeats 1000000 in
theorem drawsd_any (w : World) (a : Option Addr) (len cap : Nat) (h : Src w a len) :
    Calls Try.prog 11 #[.slice a len cap] w (DrewSd w) := by
  have H := Lib.hid h
  clear h
  go_enter Try.func11, Try.ntmps11
  go_wp2_with fail
  refine (open_any _ _ _ _ H.out).mono ?_
  rintro e w1 ⟨rfl, hb, hr⟩
  have HB := Lib.hid hb
  have HR := Lib.hid hr
  clear hb hr
  go_wp2_with fail
  refine (rrecs_any _ _ _ _ _ HR.out).mono ?_
  rintro e w3 ⟨q, cp, V, rfl, h6, hd⟩
  have HB3 := Lib.hid (hd.went.under HB.out (Nat.le_refl _) HB.out.size)
  have HRE := Lib.hid (show RecsAt w3 q V.length V from recs_of_rs (rs_of_own hd.own) rfl (by unfold maxLen; omega) (fun i hi => by
    have := hd.short V[i] (List.getElem_mem hi)
    rw [at_get V i hi] at this
    unfold maxLen
    have h41 : (keyAt V i).size ≤ 41 := this
    omega))
  have HD := Lib.hid hd
  clear hd
  obtain ⟨n, hn⟩ : ∃ n, V.length = n := ⟨_, rfl⟩
  have HDL := Lib.hid (show DrawnL w3 q n cp V by
    rw [← hn]
    exact ⟨HRE.out, h6, HD.out.short, HD.out.wf, own_cap HD.out.own, own_some HD.out.own⟩)
  rw [hn]
  clear hn HD HRE h6
  go_wp2
  go_ret
  exact ⟨q, n, cp, V, rfl, HDL.out, HB3.out⟩

def eqP (a b : ByteArray × Int) : Bool := sameKey a.1 b.1 && (a.2 == b.2)
def cntB (l : Recs) (x : ByteArray × Int) (k : Nat) : Nat := (l.take k).countP (fun r => eqP r x)
theorem cnt_step (l : Recs) (x : ByteArray × Int) (k : Nat) (h : k < l.length) : cntB l x (k + 1) = cntB l x k + if eqP (keyAt l k, numAt l k) x then 1 else 0 := by
  unfold cntB
  rw [List.take_succ_eq_append_getElem h, List.countP_append, at_get l k h]
  simp
theorem cnt_le (l : Recs) (x : ByteArray × Int) (k : Nat) : cntB l x k ≤ k :=
  Nat.le_trans List.countP_le_length (by rw [List.length_take]; omega)
theorem cnt_perm {l k : Recs} (h : l.Perm k) (x : ByteArray × Int) (n : Nat) (hl : l.length = n) (hk : k.length = n) : cntB l x n = cntB k x n := by
  unfold cntB
  rw [List.take_of_length_le (by omega), List.take_of_length_le (by omega)]
  exact h.countP_eq _
theorem eqP_cases (s u : ByteArray) (n m : Int) : (eqP (s, n) (u, m) = true ∧ s = u ∧ n = m) ∨ (eqP (s, n) (u, m) = false ∧ ¬ s.toList = u.toList) ∨ (eqP (s, n) (u, m) = false ∧ s = u ∧ ¬ n = m) := by
  unfold eqP sameKey
  by_cases h : s.toList = u.toList
  · have hs := toList_inj h
    subst hs
    by_cases h2 : n = m
    · exact .inl ⟨by simp [h2], rfl, h2⟩
    · exact .inr (.inr ⟨by simp [h2], rfl, h2⟩)
  · exact .inr (.inl ⟨by simp [h], h⟩)
theorem sortedB_facts {V S : Recs} {n : Nat} (hs : sortedB V = S) (hl : V.length = n) (hk : S.length = n) : V.Perm S ∧ runOkB S = true ∧ sortedB S = S := by
  have hok : recsOkB V = true := by
    cases h : recsOkB V with
    | true => rfl
    | false =>
      rw [sortedB_not h] at hs
      subst hs
      simp at hk
      subst hk
      obtain rfl := List.eq_nil_of_length_eq_zero hl
      exact h ▸ rfl
  rw [sortedB_is hok] at hs
  have hp : S.Perm V := by rw [← hs]; exact sortL_perm V
  obtain ⟨h1, h2⟩ := recsOk_parts hok
  have hk2 : recsOkB S = true := by
    unfold recsOkB
    rw [Bool.and_eq_true, List.all_eq_true]
    refine ⟨decide_eq_true (by omega), fun i hi => ?_⟩
    have hi' := List.mem_range.1 hi
    have hm := hp.mem_iff.1 (List.getElem_mem hi')
    obtain ⟨j, hj, e⟩ := List.mem_iff_getElem.1 hm
    rw [at_get _ i hi', at_get _ j hj] at e
    have e1 : keyAt V j = keyAt S i := congrArg Prod.fst e
    have := h2 j hj
    unfold okAt at *
    rw [← e1]
    exact this
  have ho : InOrder S := by rw [← hs]; exact sortL_order V
  exact ⟨hp.symm, (runOk_iff S).2 ⟨hk2, ho⟩, by rw [sortedB_is hk2]; exact sortL_of ho (List.Perm.refl _)⟩

structure FS (w : World) (q qs : Option Addr) (n cp : Nat) (V S : Recs) (wr : World) : Prop where
  below : Below w.heap.size w wr
  l : DrawnL wr q n cp V
  s : RecsAt wr qs n S
theorem FS.keep {w : World} {q qs : Option Addr} {n cp : Nat} {V S : Recs} {wr w1 : World} (h : FS w q qs n cp V S wr) (hB : Below wr.heap.size wr w1) : FS w q qs n cp V S w1 :=
  ⟨below_via h.below hB, h.l.keep hB, h.s.keep hB⟩

set_option maxHeartbeats 8000000 in
theorem fnSorted_walk (w : World) (a : Option Addr) (len cap : Nat) (h : Src w a len) :
    Calls Try.prog 3 #[.slice a len cap] w fun e w' => e = .returned (.bool true) ∧ Below w.heap.size w w' := by
  have S0 := Lib.hid h
  clear h
  by_cases hb : 1048576 < len
  · go_enter Try.func3, Try.ntmps3
    go_wp2_with (go_at_call 10; refine (big_yes _ _ _ _ hb).mono ?_; rintro e w' ⟨rfl, rfl⟩)
    go_ret
    exact ⟨rfl, Below.refl _ _⟩
  · go_enter Try.func3, Try.ntmps3
    go_wp2_with (go_at_call 10; refine (big_no _ _ _ _ hb).mono ?_; rintro e w' ⟨rfl, rfl⟩)
    refine (drawsd_any _ _ _ _ S0.out).mono ?_
    rintro e w1 ⟨q, n, cp, V, rfl, hd, hB⟩
    have HD := Lib.hid hd
    have HB := Lib.hid hB
    have hn6 := hd.few
    have hfew := sortedB_few V
    obtain ⟨S, hS⟩ : ∃ S, sortedB V = S := ⟨_, rfl⟩
    rw [hS] at hfew
    obtain ⟨m, hm⟩ : ∃ m, S.length = m := ⟨_, rfl⟩
    have hm6 : m ≤ 600 := by rw [← hm]; exact hfew.1
    have hmm : m ≤ maxLen := by unfold maxLen; omega
    have HKS := Lib.hid (show ∀ i, i < m → (keyAt S i).size ≤ maxLen from fun i hi => by
      have := hfew.2 i (by rw [hm]; exact hi)
      unfold maxLen; omega)
    have HS := Lib.hid hS
    have HSL := Lib.hid hm
    clear hd hB hS hm hfew
    go_wp2_with fail
    refine (sorted_any _ _ _ _ _ HD.out.recs).mono ?_
    rw [HS.out]
    rintro e w2 ⟨q1, c1, rfl, hrs, hB, _⟩
    rw [HSL.out]
    have HD := Lib.hid (HD.out.keep hB)
    have HR1 := Lib.hid (recs_of_rs hrs HSL.out hmm HKS.out)
    have HB := Lib.hid (below_via HB.out hB)
    clear hrs hB
    go_wp2_with fail
    refine (ssorted_any _ _ _ _ _ HD.out.recs).mono ?_
    rw [HS.out]
    rintro e w3 ⟨q2, c2, rfl, hrs, hB, _⟩
    rw [HSL.out]
    have HD := Lib.hid (HD.out.keep hB)
    have HR2 := Lib.hid (recs_of_rs hrs HSL.out hmm HKS.out)
    have HR1 := Lib.hid (HR1.out.keep hB)
    have HB := Lib.hid (below_via HB.out hB)
    clear hrs hB
    go_wp2_with fail
    refine (samerun_same _ _ _ _ _ _ _ HR1.out HR2.out).mono ?_
    rintro e w4 ⟨rfl, hB⟩
    have HD := Lib.hid (HD.out.keep hB)
    have HR1 := Lib.hid (HR1.out.keep hB)
    have HB := Lib.hid (below_via HB.out hB)
    clear hB HR2
    by_cases hgo : m = n ∧ n ≤ 100
    · obtain ⟨rfl, h100⟩ := hgo
      have HFX := Lib.hid (sortedB_facts HS.out HD.out.recs.length HSL.out)
      have HF := Lib.hid (show FS w q q1 m cp V S w4 from ⟨HB.out, HD.out, HR1.out⟩)
      have h100' : ¬ (100 : Int) < (m : Int) := by omega
      clear HB HD HR1
      go_wp2_with fail
      go_loopw [5] (fun i wr => ∃ k : Nat, k ≤ m ∧ i = .int .i64 k ∧ Hid (FS w q q1 m cp V S wr)) (fun i _ => m - (intOf i).toNat)
      case atStart => exact ⟨0, Nat.zero_le _, rfl, HF.out⟩
      case round =>
        obtain ⟨i, hi, rfl, HW⟩ := hrel
        clear HF
        by_cases hlt : i < m
        · obtain ⟨x, hx⟩ : ∃ x, (keyAt V i, numAt V i) = x := ⟨_, rfl⟩
          have HX := Lib.hid hx
          clear hx
          have hi1 : (i : Int) < (m : Int) := by omega
          have hi0 : (0 : Int) ≤ (i : Int) := by omega
          go_wp2_with fail
          go_loopw [6, 7] (fun d k wr2 => ∃ (j : Nat) (v : Int), j ≤ m ∧ k = .int .i64 j ∧ d = .int .i64 v ∧ v = (cntB V x j : Int) - (cntB S x j : Int) ∧ Hid (FS w q q1 m cp V S wr2)) (fun _ k _ => m - (intOf k).toNat)
          case atStart => exact ⟨0, 0, Nat.zero_le _, rfl, rfl, by simp [cntB], HW.out⟩
          case round =>
            obtain ⟨j, v, hj, rfl, rfl, hv, HW2⟩ := hrel
            clear HW
            have hc1 := cnt_le V x j
            have hc2 := cnt_le S x j
            by_cases hjl : j < m
            · have hs1 := cnt_step V x j (by rw [HW2.out.l.recs.length]; exact hjl)
              have hs2 := cnt_step S x j (by rw [HSL.out]; exact hjl)
              rw [← HX.out] at hs1 hs2
              rcases HW2.out.l.recs.src with hz | ⟨bl, ol, rfl, hbl, hcl⟩
              · omega
              · rcases HW2.out.s.src with hz | ⟨bs, os, rfl, hbs, hcs⟩
                · omega
                · have c0 := (hcl j hjl).1
                  have c1 := (hcl j hjl).2
                  have d0 := (hcl i hlt).1
                  have d1 := (hcl i hlt).2
                  have e0 := (hcs j hjl).1
                  have e1 := (hcs j hjl).2
                  have hj1 : (j : Int) < (m : Int) := by omega
                  have hj0 : (0 : Int) ≤ (j : Int) := by omega
                  clear hcl hcs hbl hbs
                  rw [HX.out] at hs1 hs2
                  have hxx : x = (keyAt V i, numAt V i) := HX.out.symm
                  have q1c := eqP_cases (keyAt V j) (keyAt V i) (numAt V j) (numAt V i)
                  have q2c := eqP_cases (keyAt S j) (keyAt V i) (numAt S j) (numAt V i)
                  rw [HX.out] at q1c q2c
                  obtain ⟨a1, ha1⟩ : ∃ a1, cntB V x (j + 1) = a1 := ⟨_, rfl⟩
                  obtain ⟨a2, ha2⟩ : ∃ a2, cntB S x (j + 1) = a2 := ⟨_, rfl⟩
                  rw [ha1] at hs1
                  rw [ha2] at hs2
                  generalize hE1 : eqP (keyAt V j, numAt V j) x = E1 at *
                  generalize hE2 : eqP (keyAt S j, numAt S j) x = E2 at *
                  clear hE1 hE2 hxx
                  have HA1 := Lib.hid ha1
                  have HA2 := Lib.hid ha2
                  clear ha1 ha2
                  have hvb : -100 ≤ v ∧ v ≤ 100 := by omega
                  have hv1 := hvb.1
                  have hv2 := hvb.2
                  have HV := Lib.hid hv
                  have HE1 := Lib.hid hs1
                  have HE2 := Lib.hid hs2
                  clear hv hs1 hs2 hvb hc1 hc2
                  generalize keyAt V j = s at *
                  generalize numAt V j = sn at *
                  generalize keyAt S j = t at *
                  generalize numAt S j = tn at *
                  clear HX
                  generalize keyAt V i = u at *
                  generalize numAt V i = un at *
                  rcases q1c with ⟨rfl, rfl, rfl⟩ | ⟨rfl, n1⟩ | ⟨rfl, rfl, n1⟩ <;> rcases q2c with ⟨rfl, rfl, rfl⟩ | ⟨rfl, n2⟩ | ⟨rfl, rfl, n2⟩ <;>
                  · go_wp2_with fail
                    go_quiet (fail)
                    go_wp2_with fail
                    go_quiet (fail)
                    go_wp2
                    go_roundw
                    case rel =>
                      have g1 := HE1.out
                      have g2 := HE2.out
                      have g3 := HV.out
                      simp at g1 g2
                      exact ⟨j + 1, _, by omega, by go_num, rfl, by rw [HA1.out, HA2.out]; omega, HW2.out.keep (below_drewN (Below.refl _ _) _)⟩
                    case measure => simp [intOf]; omega
            · obtain rfl : j = m := by omega
              have hv0 : v = 0 := by
                rw [hv, cnt_perm HFX.out.1 x j HW2.out.l.recs.length HSL.out]
                omega
              subst hv0
              clear hc1 hc2 hv
              go_wp2
              go_roundw
              case rel => exact ⟨i + 1, by omega, by go_num, HW2.out⟩
              case measure => simp [intOf]; omega
        · obtain rfl : i = m := by omega
          go_wp2_with fail
          refine (runok_any _ _ _ _ _ HW.out.s).mono ?_
          rw [HFX.out.2.1]
          rintro e w5 ⟨rfl, hB⟩
          have HW := Lib.hid (HW.out.keep hB)
          clear hB
          go_wp2_with fail
          refine (sorted_any _ _ _ _ _ HW.out.s).mono ?_
          rw [HFX.out.2.2]
          rintro e w6 ⟨q3, c3, rfl, hrs, hB, _⟩
          rw [HSL.out]
          have HR3 := Lib.hid (recs_of_rs hrs HSL.out hmm HKS.out)
          have HW := Lib.hid (HW.out.keep hB)
          clear hrs hB
          go_wp2_with fail
          refine (samerun_same _ _ _ _ _ _ _ HR3.out HW.out.s).mono ?_
          rintro e w7 ⟨rfl, hB⟩
          have HB := Lib.hid (below_via HW.out.below hB)
          clear hB
          go_wp2
          go_ret
          exact ⟨rfl, HB.out⟩
    · have hel : ¬ (m : Int) = (n : Int) ∨ (m = n ∧ (100 : Int) < (n : Int)) := by omega
      clear hgo
      rcases hel with hne | ⟨rfl, hgt⟩
      · have g1 : ((m : Int) == (n : Int)) = false := by simpa using hne
        go_wp2_with fail
        refine (ssorted_any _ _ _ _ _ HD.out.recs).mono ?_
        rw [HS.out]
        rintro e w5 ⟨q3, c3, rfl, hrs, hB, _⟩
        rw [HSL.out]
        have HR3 := Lib.hid (recs_of_rs hrs HSL.out hmm HKS.out)
        have HR1 := Lib.hid (HR1.out.keep hB)
        have HB := Lib.hid (below_via HB.out hB)
        clear hrs hB
        go_wp2_with fail
        refine (samerun_same _ _ _ _ _ _ _ HR1.out HR3.out).mono ?_
        rintro e w6 ⟨rfl, hB⟩
        have HB := Lib.hid (below_via HB.out hB)
        clear hB
        go_wp2
        go_ret
        exact ⟨rfl, HB.out⟩
      · go_wp2_with fail
        refine (ssorted_any _ _ _ _ _ HD.out.recs).mono ?_
        rw [HS.out]
        rintro e w5 ⟨q3, c3, rfl, hrs, hB, _⟩
        rw [HSL.out]
        have HR3 := Lib.hid (recs_of_rs hrs HSL.out hmm HKS.out)
        have HR1 := Lib.hid (HR1.out.keep hB)
        have HB := Lib.hid (below_via HB.out hB)
        clear hrs hB
        go_wp2_with fail
        refine (samerun_same _ _ _ _ _ _ _ HR1.out HR3.out).mono ?_
        rintro e w6 ⟨rfl, hB⟩
        have HB := Lib.hid (below_via HB.out hB)
        clear hB
        go_wp2
        go_ret
        exact ⟨rfl, HB.out⟩
end Go.Proofs.Ytpnnobgdojafkaa
