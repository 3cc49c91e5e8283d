
/- The law on two programs, one behind the other, walked. -/
import Derived.Test.YthnlllbanfemaaaGreatDoorEmitIfL
import Derived.Test.YthnlllbanfemaaaGreatDoorMg17
namespace Go.Proofs.YthnlllbanfemaaaGreatDoor
open Go.ChangeShapes Go.WideShapes Go.ChangeAt Go.RowKit Go.MuLone
set_option linter.unusedVariables false
set_option maxRecDepth 100000

theorem guard_append_rc {ops : Array Oper} {rest : List Oper} {o : Oper} {a : Act} {Q : Exit → Act → World → Prop} {w : World} (hw : Region.wanted o (yielded ops a.tmps) = true) (s x : Operand)
    (ho : o.op = .call { callee := .builtin .append, args := #[s, x], argTypes := #[26, 26] })
    (base : Nat) (v : Value) (n : Nat) (W : Recs) (hs : a.eval s = v) (hown : w.ownsRow base 54 2 v n (cellsRc W))
    (q : Option Addr) (m c : Nat) (V : Recs) (hx : a.eval x = .slice q m c) (hrec : RecsAt w q m V) (hnone : q = none → c = 0) (h6 : n + m ≤ 2097152) (hbase : base ≤ w.heap.size)
    (h : ∀ q' c' w', w'.ownsRow base 54 2 (.slice q' (n + m) c') (n + m) (cellsRc (W ++ V)) → w.grownBy w' v.ownBlock → wpList Tryz.prog ops Q rest (a.put o.dst (.slice q' (n + m) c')) w') : wpList Tryz.prog ops Q (o :: rest) a w :=
  wpList_step fun K hK => by
    rw [if_pos hw]
    exact wp_append_rc s x ho base v n W hs hown q m c V hx hrec hnone h6 hbase fun q' c' w' h2 h3 => hK _ _ (h q' c' w' h2 h3)
theorem inss_two {w : World} {base : Nat} {q : Option Addr} {m n c : Nat} {W V : Instrs} (h : w.ownsRow base 52 3 (.slice q (m + n) c) (m + n) (cellsIn (W ++ V))) (hw : W.length = m) (hv : V.length = n) (hm : m + n ≤ maxLen) (hsw : ∀ i, i < m → (ins2 W i).size ≤ maxLen) (hsv : ∀ i, i < n → (ins2 V i).size ≤ maxLen) : InstrsAt w q (m + n) (W ++ V) := by
  refine inss_own h (by rw [List.length_append, hw, hv]) hm fun i hi => ?_
  by_cases him : i < m
  · rw [(ins_left W V (i := i) (by rw [hw]; exact him)).2.2]; exact hsw i him
  · obtain ⟨j, rfl⟩ : ∃ j, i = m + j := ⟨i - m, by omega⟩
    have h1 := (ins_right W V j).2.2
    rw [hw] at h1
    rw [h1]; exact hsv j (by omega)
theorem in64_two {W V : Instrs} {m n : Nat} (hw : W.length = m) (h1 : ∀ i, i < m → In64 (ins1 W i)) (h2 : ∀ i, i < n → In64 (ins1 V i)) : ∀ i, i < m + n → In64 (ins1 (W ++ V) i) := by
  intro i hi
  by_cases him : i < m
  · rw [(ins_left W V (i := i) (by rw [hw]; exact him)).2.1]; exact h1 i him
  · obtain ⟨j, rfl⟩ : ∃ j, i = m + j := ⟨i - m, by omega⟩
    have h3 := (ins_right W V j).2.1
    rw [hw] at h3
    rw [h3]; exact h2 j (by omega)

set_option maxHeartbeats 16000000 in
theorem fnEvalTwo_walk (w : World) (a : Option Addr) (len cap : Nat) (a2 : Option Addr) (len2 cap2 : Nat) (h : Src w a len) (h2 : Src w a2 len2) (hT : TabsRP w) :
    Calls Tryz.prog 5 #[.slice a len cap, .slice a2 len2 cap2] w fun e w' => e = .returned (.bool true) ∧ Below w.heap.size w w' := by
  by_cases hbig : 1048576 < len
  · go_enter Tryz.func5, Tryz.ntmps5
    go_wp2_with fail
    refine (big_yes _ _ _ _ hbig).mono ?_
    rintro e w' ⟨rfl, rfl⟩
    go_wp2_with fail
    go_ret
    exact ⟨rfl, Below.refl _ _⟩
  have HT := Lib.hid hT
  have H := Lib.hid h
  have HM := Lib.hid h2
  clear hT h h2
  by_cases hbig2 : 1048576 < len2
  · go_enter Tryz.func5, Tryz.ntmps5
    go_wp2_with (first | (go_at_call 26; (with_reducible refine (big_no a len cap _ hbig).mono ?_); rintro e w' ⟨rfl, rfl⟩) | (go_at_call 26; (with_reducible refine (big_yes a2 len2 cap2 _ hbig2).mono ?_); rintro e w' ⟨rfl, rfl⟩))
    go_ret
    exact ⟨rfl, Below.refl _ _⟩
  go_enter Tryz.func5, Tryz.ntmps5
  go_wp2_with (first | (go_at_call 26; (with_reducible refine (big_no a len cap _ hbig).mono ?_); rintro e w' ⟨rfl, rfl⟩) | (go_at_call 26; (with_reducible refine (big_no a2 len2 cap2 _ hbig2).mono ?_); rintro e w' ⟨rfl, rfl⟩))
  refine (draweval_any _ _ _ _ H.out).mono ?_
  rintro e w1 ⟨q, n, cp, W, sq, sn, sc, M, rfl, hn80, hncp, hcpm, hqn, hs25, hssc, hscm, hsqn, hM60, hfine, hi, h6, hst, hb⟩
  have HI := Lib.hid hi
  have HW := Lib.hid hst
  have HB := Lib.hid hb
  have H6 := Lib.hid h6
  have H6L := Lib.hid (show ∀ i, i < W.length → In64 (ins1 W i) from fun i hi2 => h6 i (by rw [← hi.length]; exact hi2))
  have HWL := Lib.hid hi.length
  have HQN := Lib.hid hqn
  clear hi hst hb h6 hqn hsqn hM60 hfine hs25
  go_wp2_with fail
  refine (draweval_any _ _ _ _ (HM.out.below HB.out)).mono ?_
  rintro e w1 ⟨p, m, cm, Z, tq, tn, tc, TT, rfl, hm80, hmcp, hcmm, hpn, hs25, hssc, hscm, hsqn, hM60, hfine, hi, h6, hst, hB⟩
  have HJ := Lib.hid hi
  have HJ6 := Lib.hid h6
  have HJ6L := Lib.hid (show ∀ i, i < Z.length → In64 (ins1 Z i) from fun i hi2 => h6 i (by rw [← hi.length]; exact hi2))
  have HZL := Lib.hid hi.length
  have HPN := Lib.hid hpn
  have HI := Lib.hid (HI.out.keep hB)
  have HW := Lib.hid (HW.out.keep hB)
  have HB := Lib.hid (below_via HB.out hB)
  clear hi hst hB h6 hpn hsqn hM60 hfine hs25
  obtain ⟨V, hV⟩ : ∃ V, (evalR W M).1 = V := ⟨_, rfl⟩
  obtain ⟨c, hc⟩ : ∃ c, (evalR W M).2 = c := ⟨_, rfl⟩
  have HRES := Lib.hid (show evalR W M = (V, c) by rw [← hV, ← hc])
  obtain ⟨vn, hvn⟩ : ∃ n, V.length = n := ⟨_, rfl⟩
  have HVN := Lib.hid hvn
  clear hV hc
  go_wp2_with fail
  refine (ieval_any _ _ _ _ _ _ _ _ _ HI.out H6.out HW.out (HT.out.keep HB.out)).mono ?_
  unfold MadeRun
  simp only [HRES.out, hvn]
  rintro e w2 ⟨q1, cp1, rfl, hB, hk, hq1, hcp1⟩
  have HK1 := Lib.hid (run_recs hk H6L.out HRES.out hvn)
  have HQ1 := Lib.hid hq1
  clear hk hq1
  have HI := Lib.hid (HI.out.keep hB)
  have HW := Lib.hid (HW.out.keep hB)
  have HJ := Lib.hid (HJ.out.keep hB)
  have HB := Lib.hid (below_via HB.out hB)
  clear hB
  go_wp2_with fail
  refine (seval_any _ _ _ _ _ _ _ _ _ HI.out H6.out HW.out).mono ?_
  unfold MadeRun
  simp only [HRES.out, hvn]
  rintro e w3 ⟨q2, cp2, rfl, hB, hk, _, _⟩
  have HK2 := Lib.hid (run_recs hk H6L.out HRES.out hvn)
  clear hk
  have HI := Lib.hid (HI.out.keep hB)
  have HW := Lib.hid (HW.out.keep hB)
  have HJ := Lib.hid (HJ.out.keep hB)
  have HK1 := Lib.hid (HK1.out.keep hB)
  have HB := Lib.hid (below_via HB.out hB)
  clear hB
  have HBA := Lib.hid (below_alloc (Below.refl w3.heap.size w3) (.cells #[] 52))
  have HOA := Lib.hid (own_zeroIn (base := w3.heap.size) (Row.new w3 52 #[]) (Nat.le_refl _))
  go_wp2_with (first
    | (at_builtin; (refine append_inn rfl _ _ rfl w3.heap.size (.slice (some ⟨w3.heap.size, 0, none⟩) 0 0) 0 [] rfl HOA.out q n cp W rfl (HI.out.keep HBA.out) HQN.out (by omega) HBA.out.size ?_); intro q5 c5 w5 hown hgrow; have HO5 := Lib.hid hown; have HB5 := Lib.hid (show Below w3.heap.size w3 w5 from HBA.out.grown hgrow HBA.out.size (fun j hj => by simp [Value.ownBlock] at hj; omega)); clear hown hgrow; simp only [Nat.zero_add, List.nil_append] at HO5 ⊢)
    | (at_builtin; (refine append_inn rfl _ _ rfl w3.heap.size (.slice q5 n c5) n W rfl HO5.out p m cm Z rfl (HJ.out.keep HB5.out) HPN.out (by omega) HB5.out.size ?_); intro q6 c6 w6 hown hgrow; have HO6 := Lib.hid hown; have HB6 := Lib.hid (show Below w3.heap.size w3 w6 from HB5.out.grown hgrow HB5.out.size (fun j hj => (HO5.out.lt j hj).1)); clear hown hgrow))
  have HIZ := Lib.hid (inss_two HO6.out HWL.out HZL.out (by unfold maxLen; omega) HI.out.keys HJ.out.keys)
  have hB := HB6.out
  have HI := Lib.hid (HI.out.keep hB)
  have HW := Lib.hid (HW.out.keep hB)
  have HJ := Lib.hid (HJ.out.keep hB)
  have HK1 := Lib.hid (HK1.out.keep hB)
  have HK2 := Lib.hid (HK2.out.keep hB)
  have HB := Lib.hid (below_via HB.out hB)
  clear hB
  clear HO6 HO5 HB5 HB6 HOA HBA HQN HPN
  refine (samerun_same _ _ _ _ _ _ _ HK1.out HK2.out).mono ?_
  rintro e w4 ⟨rfl, hB⟩
  have HI := Lib.hid (HI.out.keep hB)
  have HW := Lib.hid (HW.out.keep hB)
  have HJ := Lib.hid (HJ.out.keep hB)
  have HK1 := Lib.hid (HK1.out.keep hB)
  have HK2 := Lib.hid (HK2.out.keep hB)
  have HIZ := Lib.hid (HIZ.out.keep hB)
  have HB := Lib.hid (below_via HB.out hB)
  clear hB
  obtain ⟨b1, hb1⟩ : ∃ b, progB W = b := ⟨_, rfl⟩
  obtain ⟨b2, hb2⟩ : ∃ b, progB Z = b := ⟨_, rfl⟩
  have HB1 := Lib.hid hb1
  have HB2 := Lib.hid hb2
  go_wp2_with fail
  refine (sprogok_any _ _ _ _ _ HI.out).mono ?_
  rw [hb1]
  rintro e w5 ⟨rfl, hB⟩
  clear hb1
  have HI := Lib.hid (HI.out.keep hB)
  have HW := Lib.hid (HW.out.keep hB)
  have HJ := Lib.hid (HJ.out.keep hB)
  have HK1 := Lib.hid (HK1.out.keep hB)
  have HK2 := Lib.hid (HK2.out.keep hB)
  have HIZ := Lib.hid (HIZ.out.keep hB)
  have HB := Lib.hid (below_via HB.out hB)
  clear hB
  cases b1
  ·
    go_wp2_with fail
    refine (samerun_same _ _ _ _ _ _ _ HK1.out HK2.out).mono ?_
    rintro e wz ⟨rfl, hB⟩
    have HB := Lib.hid (below_via HB.out hB)
    clear hB
    go_wp2
    go_ret
    exact ⟨rfl, HB.out⟩
  go_wp2_with fail
  refine (sprogok_any _ _ _ _ _ HJ.out).mono ?_
  rw [hb2]
  rintro e w6 ⟨rfl, hB⟩
  clear hb2
  have HI := Lib.hid (HI.out.keep hB)
  have HW := Lib.hid (HW.out.keep hB)
  have HJ := Lib.hid (HJ.out.keep hB)
  have HK1 := Lib.hid (HK1.out.keep hB)
  have HK2 := Lib.hid (HK2.out.keep hB)
  have HIZ := Lib.hid (HIZ.out.keep hB)
  have HB := Lib.hid (below_via HB.out hB)
  clear hB
  cases b2
  ·
    go_wp2_with fail
    refine (samerun_same _ _ _ _ _ _ _ HK1.out HK2.out).mono ?_
    rintro e wz ⟨rfl, hB⟩
    have HB := Lib.hid (below_via HB.out hB)
    clear hB
    go_wp2
    go_ret
    exact ⟨rfl, HB.out⟩
  by_cases h30 : (30 : Int) < (n : Int) + (m : Int)
  ·
    go_wp2_with fail
    refine (samerun_same _ _ _ _ _ _ _ HK1.out HK2.out).mono ?_
    rintro e wz ⟨rfl, hB⟩
    have HB := Lib.hid (below_via HB.out hB)
    clear hB
    go_wp2
    go_ret
    exact ⟨rfl, HB.out⟩
  obtain ⟨VB, hV⟩ : ∃ V, (evalR Z M).1 = V := ⟨_, rfl⟩
  obtain ⟨d, hc⟩ : ∃ c, (evalR Z M).2 = c := ⟨_, rfl⟩
  have HREZ := Lib.hid (show evalR Z M = (VB, d) by rw [← hV, ← hc])
  obtain ⟨zn, hzn⟩ : ∃ n, VB.length = n := ⟨_, rfl⟩
  have HZN := Lib.hid hzn
  clear hV hc
  have HTWO := Lib.hid (evalR_two (ws := M) HB1.out HB2.out (by rw [List.length_append, HWL.out, HZL.out]; omega) H6L.out)
  have HTL := Lib.hid (show (W ++ Z).length = n + m by rw [List.length_append, HWL.out, HZL.out])
  have HT6 := Lib.hid (in64_two HWL.out H6.out HJ6.out)
  have HTP := Lib.hid (prog_two HB1.out HB2.out (by rw [List.length_append, HWL.out, HZL.out]; omega))
  have HF1 := Lib.hid (show V.length ≤ 30 ∧ 0 ≤ c ∧ c ≤ 2 from by have h := evalR_facts (ws := M) H6L.out; rw [HRES.out] at h; exact ⟨h.1, h.2.2.1⟩)
  have HF2 := Lib.hid (show VB.length ≤ 30 ∧ 0 ≤ d ∧ d ≤ 2 from by have h := evalR_facts (ws := M) HJ6L.out; rw [HREZ.out] at h; exact ⟨h.1, h.2.2.1⟩)
  obtain ⟨WZ, hwz⟩ : ∃ WZ, W ++ Z = WZ := ⟨_, rfl⟩
  rw [hwz] at HTWO HTL HT6 HTP HIZ
  clear hwz HK2
  have HTI := Lib.hid (show ∀ i, i < WZ.length → In64 (ins1 WZ i) by rw [HTL.out]; exact HT6.out)
  go_wp2_with fail
  refine (ieval_any _ _ _ _ _ _ _ _ _ HJ.out HJ6.out HW.out (HT.out.keep HB.out)).mono ?_
  unfold MadeRun
  simp only [HREZ.out, hzn]
  rintro e w7 ⟨q7, cp7, rfl, hB, hk, hq7, hcp7⟩
  have HK7 := Lib.hid (run_recs hk HJ6L.out HREZ.out hzn)
  have HQ7 := Lib.hid hq7
  clear hk hq7
  have HI := Lib.hid (HI.out.keep hB)
  have HW := Lib.hid (HW.out.keep hB)
  have HJ := Lib.hid (HJ.out.keep hB)
  have HK1 := Lib.hid (HK1.out.keep hB)
  have HIZ := Lib.hid (HIZ.out.keep hB)
  have HB := Lib.hid (below_via HB.out hB)
  clear hB
  rw [HRES.out, HREZ.out] at HTWO
  by_cases hcd : c = 0 ∧ d = 0
  · obtain ⟨rfl, rfl⟩ := hcd
    have HR := Lib.hid (show evalR WZ M = (V ++ VB, 0) by rw [HTWO.out, if_pos ⟨rfl, rfl⟩])
    have HRL := Lib.hid (show (V ++ VB).length = vn + zn by rw [List.length_append, hvn, hzn])
    have hv30 : vn ≤ 30 := by rw [← hvn]; exact HF1.out.1
    have hz30 : zn ≤ 30 := by rw [← hzn]; exact HF2.out.1
    clear HTWO
    go_wp2_with fail
    refine (ieval_any _ _ _ _ _ _ _ _ _ HIZ.out HT6.out HW.out (HT.out.keep HB.out)).mono ?_
    unfold MadeRun
    simp only [HR.out, HRL.out]
    rintro e w8 ⟨q8, cp8, rfl, hB, hk, _, _⟩
    have HK8 := Lib.hid (run_recs hk HTI.out HR.out HRL.out)
    clear hk
    have HK1 := Lib.hid (HK1.out.keep hB)
    have HK7 := Lib.hid (HK7.out.keep hB)
    have HIZ := Lib.hid (HIZ.out.keep hB)
    have HB := Lib.hid (below_via HB.out hB)
    clear hB
    have HBA := Lib.hid (below_alloc (Below.refl w8.heap.size w8) (.cells #[] 54))
    have HOA := Lib.hid (own_zeroRc (base := w8.heap.size) (Row.new w8 54 #[]) (Nat.le_refl _))
    go_wp2_with (first
      | (at_builtin; (refine guard_append_rc (by rfl) _ _ rfl w8.heap.size (.slice (some ⟨w8.heap.size, 0, none⟩) 0 0) 0 [] rfl HOA.out q1 vn cp1 V rfl (HK1.out.keep HBA.out) HQ1.out (by omega) HBA.out.size ?_); intro q5 c5 w9 hown hgrow; have HO5 := Lib.hid hown; have HB5 := Lib.hid (show Below w8.heap.size w8 w9 from HBA.out.grown hgrow HBA.out.size (fun j hj => by simp [Value.ownBlock] at hj; omega)); clear hown hgrow; simp only [Nat.zero_add, List.nil_append] at HO5 ⊢)
      | (at_builtin; (refine guard_append_rc (by rfl) _ _ rfl w8.heap.size (.slice q5 vn c5) vn V rfl HO5.out q7 zn cp7 VB rfl (HK7.out.keep HB5.out) HQ7.out (by omega) HB5.out.size ?_); intro q6 c6 wa hown hgrow; have HOX := Lib.hid hown; have HBX := Lib.hid (show Below w8.heap.size w8 wa from HB5.out.grown hgrow HB5.out.size (fun j hj => (HO5.out.lt j hj).1)); clear hown hgrow))
    have HK9 := Lib.hid (show RecsAt wa q6 (vn + zn) (V ++ VB) from by
      have hf := evalR_facts (ws := M) HTI.out
      rw [HR.out] at hf
      exact rck_recs (rck_of_own (base := w8.heap.size) (m := vn + zn) (cp := c6) (by rw [HRL.out]; exact HOX.out)) HRL.out hf.2.1 (by omega))
    have hB := HBX.out
    have HK8 := Lib.hid (HK8.out.keep hB)
    have HIZ := Lib.hid (HIZ.out.keep hB)
    have HB := Lib.hid (below_via HB.out hB)
    clear hB
    clear HOX HBX HO5 HB5
    refine (samerun_same _ _ _ _ _ _ _ HK8.out HK9.out).mono ?_
    rintro e wb ⟨rfl, hB⟩
    have HIZ := Lib.hid (HIZ.out.keep hB)
    have HB := Lib.hid (below_via HB.out hB)
    clear hB
    go_wp2_with fail
    refine (progok_any _ _ _ _ _ HIZ.out (HT.out.keep HB.out).forms).mono ?_
    rw [HTP.out]
    rintro e wc ⟨rfl, hB⟩
    have HB := Lib.hid (below_via HB.out hB)
    clear hB
    go_wp2
    go_ret
    exact ⟨rfl, HB.out⟩
  · have HR := Lib.hid (show evalR WZ M = ([], max c d) by rw [HTWO.out, if_neg hcd])
    have hcb := HF1.out.2
    have hdb := HF2.out.2
    obtain ⟨mx, hmx⟩ : ∃ mx, max c d = mx := ⟨_, rfl⟩
    rw [hmx] at HR
    clear HTWO
    have hg : ((c : Int) != 0) = true ∨ (((c : Int) != 0) = false ∧ ((d : Int) != 0) = true) := by
      by_cases h0 : c = 0
      · subst h0
        exact .inr ⟨rfl, bne_iff_ne.2 (fun h => hcd ⟨rfl, h⟩)⟩
      · exact .inl (bne_iff_ne.2 h0)
    go_wp2_with fail
    refine (ieval_any _ _ _ _ _ _ _ _ _ HIZ.out HT6.out HW.out (HT.out.keep HB.out)).mono ?_
    unfold MadeRun
    simp only [HR.out, List.length_nil]
    rintro e w8 ⟨q8, cp8, rfl, hB, hk, _, _⟩
    have HB := Lib.hid (below_via HB.out hB)
    clear hB hk
    rcases hg with h1 | ⟨h1, h2⟩
    · go_wp2_with fail
      go_ret
      exact ⟨rfl, HB.out⟩
    · go_wp2_with fail
      go_ret
      exact ⟨rfl, HB.out⟩
end Go.Proofs.YthnlllbanfemaaaGreatDoor
