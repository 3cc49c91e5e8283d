
/- The exact law on EvalLine, walked: both sides answer alike; nothing that came in is written into; the answer owns its memory. -/
import Derived.Test.YthnlllbanfemaaaGreatDoorLineP
import Derived.Test.YthnlllbanfemaaaGreatDoorInstrInN
import Derived.Test.YthnlllbanfemaaaGreatDoorInstrEq
import Derived.Test.YthnlllbanfemaaaGreatDoorInstrMark
import Derived.Test.YthnlllbanfemaaaGreatDoorStrs3
import Derived.Test.YthnlllbanfemaaaGreatDoorRs
namespace Go.Proofs.YthnlllbanfemaaaGreatDoor
open Go.ChangeShapes Go.WideShapes Go.ChangeAt Go.RowKit Go.MuLone
set_option linter.unusedVariables false
set_option maxRecDepth 100000

theorem rs_of_rck {base : Nat} {w : World} {q : Option Addr} {W : Recs} (h : RcK base w q W) : Rs base w q W := h
theorem lineR_shape {l : Instrs} {each : Bool} {s : ByteArray} {V : Recs} (hn : ∀ i, i < l.length → In64 (ins1 l i)) (hV : (lineR l each s).1 = V) : V.length ≤ 600 ∧ ∀ i, i < V.length → (keyAt V i).size ≤ maxLen := by
  subst hV
  have h := lineR_facts (l := l) (each := each) (s := s) hn
  refine ⟨by omega, fun i hi => ?_⟩
  have := (h.2.1 ((lineR l each s).1[i]'hi) (List.getElem_mem hi)).1
  unfold keyAt
  rw [List.getD_eq_getElem?_getD, List.getElem?_eq_getElem hi]
  simp only [Option.getD_some]
  unfold maxLen; omega

set_option maxHeartbeats 8000000 in
theorem fnExactEvalLine_walk (a : Option Addr) (len cap : Nat) (l : Instrs) (each : Bool) (s : ByteArray) (w : World) (h : InstrsAt w a len l) (hn : ∀ i, i < len → In64 (ins1 l i)) (hs : s.size ≤ maxLen) (hT : TabsRP w) :
    Calls Tryz.prog 4 #[.slice a len cap, .bool each, .string s] w fun e w' => e = .returned (.bool true) ∧ Below w.heap.size w w' := by
  unfold maxLen at hs
  by_cases hbig : (1048576 : Int) < (s.size : Int)
  · clear h hn hT
    go_enter Tryz.func4, Tryz.ntmps4
    go_wp2
    go_ret
    exact ⟨rfl, Below.refl _ _⟩
  have hs1 : s.size ≤ 1048576 := by omega
  have HI := Lib.hid h
  have HT := Lib.hid hT
  have hll := h.length
  have HB := Lib.hid (Below.refl w.heap.size w)
  obtain ⟨V, hV⟩ : ∃ V, (lineR l each s).1 = V := ⟨_, rfl⟩
  obtain ⟨c, hc⟩ : ∃ c, (lineR l each s).2 = c := ⟨_, rfl⟩
  have HRES := Lib.hid (show lineR l each s = (V, c) by rw [← hV, ← hc])
  have hfew := lineR_shape (fun i hi => hn i (by rw [← hll]; exact hi)) hV
  obtain ⟨n, hnn⟩ : ∃ n, V.length = n := ⟨_, rfl⟩
  rw [hnn] at hfew
  have hn600 : n ≤ 600 := hfew.1
  have hnm : n ≤ maxLen := by unfold maxLen; omega
  have HSH := Lib.hid hfew.2
  have HN := Lib.hid hnn
  have HMOD := Lib.hid (fun q1 c1 w (h1 : InstrsAt w q1 len l) => sevalline_any q1 len c1 l each s w h1 hn hs1)
  have HIMP := Lib.hid (fun q1 c1 w (h1 : InstrsAt w q1 len l) (hT : TabsRP w) => iline_any q1 len c1 l each s w h1 hn hs1 hT)
  unfold MadeRun at HMOD HIMP
  simp only [HRES.out, hnn] at HMOD HIMP
  have hm1 := h.max
  clear h hn hT hll hV hc hfew hnn
  go_enter Tryz.func4, Tryz.ntmps4
  go_wp2_with fail
  refine (szinss_any _ _ _ _ _ _ HI.out (by decide) (by decide)).mono ?_
  rintro e w1 ⟨x, hx1, hx2, rfl, hB, hsz⟩
  have HSZ := Lib.hid hsz
  have HB := Lib.hid (below_via HB.out hB)
  clear hB hsz
  by_cases hx : x < 0
  · go_wp2
    go_ret
    exact ⟨rfl, HB.out⟩
  have hla : len ≤ 1048576 := (HSZ.out (by omega)).1
  clear HSZ
  go_wp2_with fail
  refine (toinss_any _ _ _ _ _ (HI.out.keep HB.out) hla).mono ?_
  rintro e w2 ⟨rfl, hG, hB, curA, hrA, hsA⟩
  have HGA := Lib.hid hG
  have HB := Lib.hid (below_via HB.out hB)
  clear hB hG hrA hsA
  go_wp2_with fail
  refine (HMOD.out _ _ _ HGA.out).mono ?_
  rintro e w3 ⟨q0, cp0, rfl, hB, hk, _, _⟩
  obtain ⟨X, hX⟩ : ∃ X, w3.heap.size = X := ⟨_, rfl⟩
  have HLT := Lib.hid (show 0 < n → ∀ g, q0 = some ⟨g, 0, none⟩ → g < X from fun hp g hg => by rw [← hX]; exact (rs_lt (rs_of_rck hk) (by rw [HN.out]; exact hp) g hg).2)
  have H0 := Lib.hid (rs_of_rck hk)
  have HWX := Lib.hid (show w.heap.size ≤ X by rw [← hX]; exact (below_via HB.out hB).size)
  clear HGA hk
  have HB := Lib.hid (below_via HB.out hB)
  clear hB
  go_wp2_with fail
  refine (toinss_any _ _ _ _ _ (HI.out.keep HB.out) hla).mono ?_
  rintro e w4 ⟨rfl, hG, hB, curA, hrA, hsA⟩
  rw [hX] at hG hrA ⊢
  have HGA := Lib.hid hG
  have HRA := Lib.hid hrA
  have H0 := Lib.hid (rs_keep H0.out hB)
  have HB := Lib.hid (below_via HB.out hB)
  clear hB hG hrA hX
  obtain ⟨Z, hZ⟩ : ∃ Z, w4.heap.size = Z := ⟨_, rfl⟩
  have HXZ := Lib.hid (show X < Z by rw [← hZ]; exact HRA.out.lt)
  go_wp2_with fail
  refine (HIMP.out _ _ _ HGA.out (HT.out.keep HB.out)).mono ?_
  rintro e w5 ⟨q1, cp1, rfl, hB, hk, _, _⟩
  rw [hZ] at hk
  have H1 := Lib.hid (rs_of_rck hk)
  have H0 := Lib.hid (rs_keep H0.out hB)
  have HGA := Lib.hid (HGA.out.keep hB)
  have HRA := Lib.hid (HRA.out.keep hB)
  have HB := Lib.hid (below_via HB.out hB)
  clear hB hk hZ
  go_wp2_with fail
  refine (eqrecs_same _ _ _ _ _ _ _ (recs_of_rs H1.out HN.out hnm HSH.out) (recs_of_rs H0.out HN.out hnm HSH.out)).mono ?_
  rintro e w6 ⟨rfl, hB⟩
  have H0 := Lib.hid (rs_keep H0.out hB)
  have HGA := Lib.hid (HGA.out.keep hB)
  have HRA := Lib.hid (HRA.out.keep hB)
  have H1 := Lib.hid (rs_keep H1.out hB)
  have HB := Lib.hid (below_via HB.out hB)
  clear hB
  go_wp2_with fail
  refine (toinss_any _ _ _ _ _ (HI.out.keep HB.out) hla).mono ?_
  rintro e w7 ⟨rfl, hG, hB, _⟩
  have HC := Lib.hid hG
  have H0 := Lib.hid (rs_keep H0.out hB)
  have HGA := Lib.hid (HGA.out.keep hB)
  have HRA := Lib.hid (HRA.out.keep hB)
  have H1 := Lib.hid (rs_keep H1.out hB)
  have HB := Lib.hid (below_via HB.out hB)
  clear hB hG
  go_wp2_with fail
  refine (eqinss_same _ _ _ _ _ _ _ HGA.out HC.out).mono ?_
  rintro e w8 ⟨rfl, hB⟩
  clear HC HGA
  have H0 := Lib.hid (rs_keep H0.out hB)
  have HRA := Lib.hid (HRA.out.keep hB)
  have H1 := Lib.hid (rs_keep H1.out hB)
  have HB := Lib.hid (below_via HB.out hB)
  clear hB
  go_wp2_with fail
  refine (markinss_any X len len 1 _ _ curA _ HRA.out rfl (by rw [hsA]; exact Nat.le_refl _) (Nat.le_refl 1) (by omega)).mono ?_
  rintro e w9 ⟨he, hg, _, _, _⟩
  obtain ⟨m1, hm1⟩ : ∃ m1, 1 + 3 * len = m1 := ⟨_, rfl⟩
  rw [hm1] at he
  subst he
  clear HRA hsA
  have H0 := Lib.hid (rs_grown H0.out hg (fun hp g hg2 => by rw [HN.out] at hp; have := HLT.out hp g hg2; omega))
  have H1 := Lib.hid (rs_grown H1.out hg (fun hp g hg2 => by have := (rs_lt H1.out hp g hg2).1; have := HXZ.out; omega))
  have HB := Lib.hid (HB.out.grown hg HB.out.size (fun k hk => by cases hk; exact HWX.out))
  clear hg
  go_wp2_with fail
  refine (eqrecs_same _ _ _ _ _ _ _ (recs_of_rs H1.out HN.out hnm HSH.out) (recs_of_rs H0.out HN.out hnm HSH.out)).mono ?_
  rintro e w10 ⟨rfl, hB⟩
  have H0 := Lib.hid (rs_keep H0.out hB)
  have H1 := Lib.hid (rs_keep H1.out hB)
  have HB := Lib.hid (below_via HB.out hB)
  clear hB
  by_cases hn0 : n = 0
  · subst hn0
    go_wp2_with fail
    refine (markr_none q1 cp1 1 _).mono ?_
    rintro e wa ⟨rfl, rfl⟩
    go_wp2_with fail
    refine (heldr_none q1 cp1 1 _).mono ?_
    rintro e wa ⟨rfl, rfl⟩
    go_wp2_with fail
    refine (toinss_any _ _ _ _ _ (HI.out.keep HB.out) hla).mono ?_
    rintro e w11 ⟨rfl, hG, hB, curA, hrA, hsA⟩
    have HGA := Lib.hid hG
    have H0 := Lib.hid (rs_keep H0.out hB)
    have H1 := Lib.hid (rs_keep H1.out hB)
    have HB := Lib.hid (below_via HB.out hB)
    clear hB hG hrA hsA
    go_wp2_with fail
    refine (HIMP.out _ _ _ HGA.out (HT.out.keep HB.out)).mono ?_
    rintro e w12 ⟨q2, cp2, rfl, hB, hk, _, _⟩
    have H2 := Lib.hid (rs_of_rck hk)
    clear HGA
    have H0 := Lib.hid (rs_keep H0.out hB)
    have H1 := Lib.hid (rs_keep H1.out hB)
    have HB := Lib.hid (below_via HB.out hB)
    clear hB hk
    go_wp2_with fail
    refine (eqrecs_same _ _ _ _ _ _ _ (recs_of_rs H2.out HN.out hnm HSH.out) (recs_of_rs H0.out HN.out hnm HSH.out)).mono ?_
    rintro e w13 ⟨rfl, hB⟩
    have H0 := Lib.hid (rs_keep H0.out hB)
    have H1 := Lib.hid (rs_keep H1.out hB)
    have H2 := Lib.hid (rs_keep H2.out hB)
    have HB := Lib.hid (below_via HB.out hB)
    clear hB
    go_wp2_with fail
    refine (heldr_none q1 cp1 1 _).mono ?_
    rintro e wa ⟨rfl, rfl⟩
    go_wp2
    go_ret
    exact ⟨rfl, HB.out⟩
  · have hpos : 0 < n := by omega
    obtain ⟨g, cur, rfl, hbg, hrow, hsz⟩ : ∃ g cur, q1 = some ⟨g, 0, none⟩ ∧ Z ≤ g ∧ Row w10 g 54 cur ∧ n * 2 ≤ cur.size := by
      rcases H1.out with h0 | ⟨g, cur, hq, hb, hr, h1, _⟩
      · rw [HN.out] at h0; omega
      · exact ⟨g, cur, hq, hb, hr, by rw [← HN.out]; exact h1⟩
    have HNE := Lib.hid (show ∀ g', q0 = some ⟨g', 0, none⟩ → g' ≠ g from fun g' hg' => by have := HLT.out hpos g' hg'; have := HXZ.out; omega)
    have HGE := Lib.hid (show w.heap.size ≤ g by have := HWX.out; have := HXZ.out; omega)
    go_wp2_with fail
    refine (markr_any g n cp1 1 _ _ cur _ hrow rfl hsz (Nat.le_refl 1) (by omega)).mono ?_
    clear hrow hsz hbg
    obtain ⟨m, hm⟩ : ∃ m, 1 + 2 * n = m := ⟨_, rfl⟩
    rintro e wm ⟨he, hg, cur1, hr1, hmk⟩
    rw [hm] at he
    subst he
    have HR := Lib.hid hr1
    have HM := Lib.hid hmk
    have HMM := Lib.hid hm
    clear hr1 hmk hm H1
    have H0 := Lib.hid (rs_grown H0.out hg (fun hp g hg2 => HNE.out g hg2))
    have HB := Lib.hid (HB.out.grown hg HB.out.size (fun k hk => by cases hk; exact HGE.out))
    clear hg
    go_wp2_with fail
    refine (heldr_any g n cp1 1 _ cur1 _ HR.out HM.out (Nat.le_refl 1) (by omega)).mono ?_
    rintro e w11 ⟨he, hB⟩
    rw [HMM.out] at he
    subst he
    have H0 := Lib.hid (rs_keep H0.out hB)
    have HR := Lib.hid (HR.out.keep hB)
    have HB := Lib.hid (below_via HB.out hB)
    clear hB
    go_wp2_with fail
    refine (toinss_any _ _ _ _ _ (HI.out.keep HB.out) hla).mono ?_
    rintro e w12 ⟨rfl, hG, hB, curA, hrA, hsA⟩
    have HGA := Lib.hid hG
    have H0 := Lib.hid (rs_keep H0.out hB)
    have HR := Lib.hid (HR.out.keep hB)
    have HB := Lib.hid (below_via HB.out hB)
    clear hB hG hrA hsA
    go_wp2_with fail
    refine (HIMP.out _ _ _ HGA.out (HT.out.keep HB.out)).mono ?_
    rintro e w13 ⟨q2, cp2, rfl, hB, hk, _, _⟩
    have H2 := Lib.hid (rs_of_rck hk)
    clear HGA
    have H0 := Lib.hid (rs_keep H0.out hB)
    have HR := Lib.hid (HR.out.keep hB)
    have HB := Lib.hid (below_via HB.out hB)
    clear hB hk
    go_wp2_with fail
    refine (eqrecs_same _ _ _ _ _ _ _ (recs_of_rs H2.out HN.out hnm HSH.out) (recs_of_rs H0.out HN.out hnm HSH.out)).mono ?_
    rintro e w14 ⟨rfl, hB⟩
    have H0 := Lib.hid (rs_keep H0.out hB)
    have HR := Lib.hid (HR.out.keep hB)
    have H2 := Lib.hid (rs_keep H2.out hB)
    have HB := Lib.hid (below_via HB.out hB)
    clear hB
    go_wp2_with fail
    refine (heldr_any g n cp1 1 _ cur1 _ HR.out HM.out (Nat.le_refl 1) (by omega)).mono ?_
    rintro e w15 ⟨he, hB⟩
    rw [HMM.out] at he
    subst he
    have H0 := Lib.hid (rs_keep H0.out hB)
    have HR := Lib.hid (HR.out.keep hB)
    have H2 := Lib.hid (rs_keep H2.out hB)
    have HB := Lib.hid (below_via HB.out hB)
    clear hB
    go_wp2
    go_ret
    exact ⟨rfl, HB.out⟩
end Go.Proofs.YthnlllbanfemaaaGreatDoor
