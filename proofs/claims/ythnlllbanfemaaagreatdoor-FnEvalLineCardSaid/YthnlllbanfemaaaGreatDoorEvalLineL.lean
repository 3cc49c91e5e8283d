
/- The law on the line, whole and word by word, walked. -/
import Derived.Test.YthnlllbanfemaaaGreatDoorMg11
import Derived.Test.YthnlllbanfemaaaGreatDoorEmitIfL
import Derived.Test.YthnlllbanfemaaaGreatDoorMg24
import Derived.Test.YthnlllbanfemaaaGreatDoorLineP
namespace Go.Proofs.YthnlllbanfemaaaGreatDoor
open Go.ChangeShapes Go.WideShapes Go.ChangeAt Go.RowKit Go.MuLone
set_option linter.unusedVariables false
set_option maxRecDepth 100000

theorem lineR_good {l : Instrs} {each : Bool} {s : ByteArray} {V : Recs} (h : lineR l each s = (V, 0)) : (if each = true then eachTo l (wordsB s) (wordsB s).length else evalR l (wordsB s)) = (V, 0) := by
  unfold lineR at h
  split at h
  · exact h
  · exact absurd (congrArg Prod.snd h) (by simp)

set_option maxHeartbeats 16000000 in
theorem fnEvalLine_walk (w : World) (a : Option Addr) (len cap : Nat) (h : Src w a len) (hT : TabsRP w) :
    Calls Tryz.prog 6 #[.slice a len cap] w fun e w' => e = .returned (.bool true) ∧ Below w.heap.size w w' := by
  by_cases hbig : 1048576 < len
  · go_enter Tryz.func6, Tryz.ntmps6
    go_wp2_with fail
    refine (big_yes _ _ _ _ hbig).mono ?_
    rintro e w' ⟨rfl, rfl⟩
    go_wp2_with fail
    go_ret
    exact ⟨rfl, Below.refl _ _⟩
  have HT := Lib.hid hT
  have H := Lib.hid h
  clear hT h
  go_enter Tryz.func6, Tryz.ntmps6
  go_wp2_with fail
  refine (big_no _ _ _ _ hbig).mono ?_
  rintro e w' ⟨rfl, rfl⟩
  go_wp2_with fail
  refine (drawevalline_any _ _ _ _ H.out).mono ?_
  rintro e w1 ⟨q, n, cp, W, each, s, rfl, hn80, hncp, hcpm, hs400, hi, h6, hb⟩
  have HI := Lib.hid hi
  have HB := Lib.hid hb
  have H6 := Lib.hid h6
  have H6L := Lib.hid (show ∀ i, i < W.length → In64 (ins1 W i) from fun i hi2 => h6 i (by rw [← hi.length]; exact hi2))
  have HWL := Lib.hid hi.length
  clear hi hb h6
  obtain ⟨V, hV⟩ : ∃ V, (lineR W each s).1 = V := ⟨_, rfl⟩
  obtain ⟨c, hc⟩ : ∃ c, (lineR W each s).2 = c := ⟨_, rfl⟩
  have HRES := Lib.hid (show lineR W each s = (V, c) by rw [← hV, ← hc])
  obtain ⟨vn, hvn⟩ : ∃ n, V.length = n := ⟨_, rfl⟩
  have HVN := Lib.hid hvn
  have HF := Lib.hid (lineR_facts (each := each) (s := s) H6L.out)
  rw [HRES.out] at HF
  have hvn600 : vn ≤ 600 := by rw [← hvn]; exact HF.out.1
  clear hV hc
  go_wp2_with fail
  refine (iline_any _ _ _ _ _ _ _ HI.out H6.out (by omega) (HT.out.keep HB.out)).mono ?_
  unfold MadeRun
  simp only [HRES.out, hvn]
  rintro e w2 ⟨q1, cp1, rfl, hB, hk, hq1, hcp1⟩
  have HK1 := Lib.hid (rck_recs hk hvn HF.out.2.1 (by omega))
  clear hk hq1
  have HI := Lib.hid (HI.out.keep hB)
  have HB := Lib.hid (below_via HB.out hB)
  clear hB
  go_wp2_with fail
  refine (sevalline_any _ _ _ _ _ _ _ HI.out H6.out (by omega)).mono ?_
  unfold MadeRun
  simp only [HRES.out, hvn]
  rintro e w3 ⟨q2, cp2, rfl, hB, hk, _, _⟩
  have HK2 := Lib.hid (rck_recs hk hvn HF.out.2.1 (by omega))
  clear hk
  have HI := Lib.hid (HI.out.keep hB)
  have HK1 := Lib.hid (HK1.out.keep hB)
  have HB := Lib.hid (below_via HB.out hB)
  clear hB
  go_wp2_with fail
  refine (samerun_same _ _ _ _ _ _ _ HK1.out HK2.out).mono ?_
  rintro e w4 ⟨rfl, hB⟩
  have HI := Lib.hid (HI.out.keep hB)
  have HK1 := Lib.hid (HK1.out.keep hB)
  have HK2 := Lib.hid (HK2.out.keep hB)
  have HB := Lib.hid (below_via HB.out hB)
  clear hB
  by_cases hc0 : c = 0
  rotate_left
  · have hcf : ((c : Int) == 0) = false := by rw [beq_eq_false_iff_ne]; exact hc0
    go_wp2_with fail
    refine (samerun_same _ _ _ _ _ _ _ HK1.out HK2.out).mono ?_
    rintro e wz ⟨rfl, hB⟩
    have HB := Lib.hid (below_via HB.out hB)
    clear hB
    go_wp2
    go_ret
    exact ⟨rfl, HB.out⟩
  subst hc0
  have HGOOD := Lib.hid (lineR_good HRES.out)
  clear HK2
  have hs1 : s.size ≤ 1048576 := by omega
  go_wp2_with fail
  refine (words_wsc s _ hs1).mono ?_
  rintro e w6 ⟨wq, wc, rfl, hws, hB, hcp, hcm⟩
  have HW := Lib.hid (strs_wordsB hws hs1)
  have HWS := Lib.hid hws
  have HSHORT := Lib.hid (words_short s (by unfold maxLen; omega))
  have HWSS := Lib.hid (show wordsB s = strsOf ((wordsL s.data.toList).take 20) from rfl)
  obtain ⟨WL, hWL⟩ : ∃ WL, (wordsL s.data.toList).take 20 = WL := ⟨_, rfl⟩
  rw [hWL] at HWS HSHORT HWSS
  have HWQ := Lib.hid (fun h0 => ws_some hws h0)
  have HWLEN := Lib.hid (wordsB_len s)
  obtain ⟨wn, hwn⟩ : ∃ wn, ((wordsL s.data.toList).take 20).length = wn := ⟨_, rfl⟩
  have hwn20 : wn ≤ 20 := by rw [← hwn]; exact List.length_take_le _ _
  obtain ⟨ws, hws2⟩ : ∃ ws, wordsB s = ws := ⟨_, rfl⟩
  rw [hwn] at HW HWQ HWLEN hcp ⊢
  rw [hws2] at HW HWLEN HGOOD HWSS
  have HWN := Lib.hid (show WL.length = wn by rw [← hWL]; exact hwn)
  clear hWL hws hwn hws2
  have HI := Lib.hid (HI.out.keep hB)
  have HK1 := Lib.hid (HK1.out.keep hB)
  have HB := Lib.hid (below_via HB.out hB)
  clear hB
  cases each with
  | false =>
    have HR := Lib.hid (show evalR W ws = (V, 0) by have := HGOOD.out; rw [if_neg (by decide)] at this; exact this)
    go_wp2_with fail
    refine (ieval_any _ _ _ _ _ _ _ _ _ HI.out H6.out HW.out (HT.out.keep HB.out)).mono ?_
    unfold MadeRun
    simp only [HR.out, hvn]
    rintro e w7 ⟨q7, cp7, rfl, hB, hk, _, _⟩
    have HK7 := Lib.hid (rck_recs hk hvn HF.out.2.1 (by omega))
    clear hk
    have HK1 := Lib.hid (HK1.out.keep hB)
    have HB := Lib.hid (below_via HB.out hB)
    clear hB
    go_wp2_with fail
    refine (samerun_same _ _ _ _ _ _ _ HK1.out HK7.out).mono ?_
    rintro e w8 ⟨rfl, hB⟩
    have HB := Lib.hid (below_via HB.out hB)
    clear hB
    go_wp2
    go_ret
    exact ⟨rfl, HB.out⟩
  | true =>
    have HLT := Lib.hid (show eachTo W ws wn = (V, 0) by have := HGOOD.out; rw [if_pos rfl, HWLEN.out] at this; exact this)
    clear HGOOD
    have HS0 : Hid (LnS W ws w6 (w6.alloc (.cells #[] 54)) (some ⟨w6.heap.size, 0, none⟩) 0 0 [] wq w4.heap.size WL) := Lib.hid
      ⟨rfl, own_zeroRc (ot_row_new w6 #[] 54) (Nat.le_refl _), ws_keep HWS.out (below_alloc (Below.refl _ _) _), below_alloc (Below.refl _ _) _⟩
    unfold maxLen at hcm
    clear HW
    go_wp2_with fail
    go_loopw [13, 14] (fun o i wr => ∃ (k no : Nat) (O : Recs) (qo : Option Addr) (co : Nat), k ≤ wn ∧ o = .slice qo no co ∧ i = .int .i64 k ∧ no ≤ 30 * k ∧ Hid (O.length = no) ∧ Hid (LnS W ws w6 wr qo co k O wq w4.heap.size WL)) (fun _ i _ => wn - (intOf i).toNat)
    case atStart => exact ⟨0, 0, [], _, _, Nat.zero_le _, rfl, rfl, Nat.le_refl _, Lib.hid rfl, HS0⟩
    case round =>
      clear HS0
      obtain ⟨k, no, O, qo, co, hk, rfl, rfl, hno, HOL, HS⟩ := hrel
      by_cases hlt : k < wn
      · obtain ⟨g, rfl, hg⟩ := HWQ.out (by omega)
        have hi0 : (0 : Int) ≤ (k : Int) := by omega
        have hi1 : (k : Int) < (wn : Int) := by omega
        have hck : ¬ wc = k := by omega
        have hck2 : k < wc := by omega
        have HSUB := Lib.hid (show StrsAt wr (some ⟨g, k, none⟩) 1 [strAt ws k] from by have h1 := strs_of_ws HS.out.words HSHORT.out; rw [HWN.out, ← HWSS.out] at h1; have := strs_sub h1 hlt; simpa using this)
        obtain ⟨VB, hV⟩ : ∃ V, (evalR W [strAt ws k]).1 = V := ⟨_, rfl⟩
        obtain ⟨d, hc⟩ : ∃ c, (evalR W [strAt ws k]).2 = c := ⟨_, rfl⟩
        have HREB := Lib.hid (show evalR W [strAt ws k] = (VB, d) by rw [← hV, ← hc])
        have HFB := Lib.hid (evalR_facts (ws := [strAt ws k]) H6L.out)
        rw [HREB.out] at HFB
        have hd0 : d = 0 := by
          by_cases hd0 : d = 0
          · exact hd0
          · exfalso
            have h1 := eachTo_stop HS.out.ev HREB.out hd0
            have h2 := eachTo_bad (k := k + 1) (n := wn) (by rw [h1]; exact hd0) (by omega)
            rw [HLT.out, h1] at h2
            exact hd0 (congrArg Prod.snd h2).symm
        have HNX := Lib.hid (eachTo_go HS.out.ev HREB.out hd0)
        subst hd0
        clear hV hc
        go_wp2_with fail
        refine (ieval_any _ _ _ _ _ _ _ _ _ (HI.out.keep HS.out.below) H6.out HSUB.out (HT.out.keep (below_via HB.out HS.out.below))).mono ?_
        rw [HREB.out]
        rintro e w7 ⟨q, cp, rfl, hB, hkk, hq, hcp2⟩
        have HS := Lib.hid (HS.out.keep hB)
        obtain ⟨vn, hvn2⟩ : ∃ vn, VB.length = vn := ⟨_, rfl⟩
        have hv30 : vn ≤ 30 := by have := HFB.out.1; omega
        have HV := Lib.hid (rck_recs hkk hvn2 HFB.out.2.1 (by omega))
        simp only [hvn2]
        have HQ := Lib.hid hq
        clear hB hkk hq hcp2 HSUB HFB
        go_wp2_with (at_builtin; go_loud (refine append_rc rfl _ _ rfl w6.heap.size (.slice qo no co) no O rfl (by have := HS.out.own; rw [HOL.out] at this; exact this) q vn cp VB rfl HV.out HQ.out (by omega) HS.out.below.size ?_); intro q5 c5 w5 hown hgrow; have HS5 := Lib.hid (show LnS W ws w6 w5 q5 c5 (k + 1) (O ++ VB) (some ⟨g, 0, none⟩) w4.heap.size WL from ⟨HNX.out, by rw [List.length_append, HOL.out, HV.out.length]; exact hown, ws_apart HS.out.words HS.out.own (by decide) (by rw [HOL.out]; exact hgrow), HS.out.below.grown hgrow HS.out.below.size (fun j hj => (by have := HS.out.own; rw [HOL.out] at this; exact (this.lt j hj).1))⟩); clear hown hgrow)
        go_roundw
        case rel => exact ⟨k + 1, no + vn, O ++ VB, q5, c5, by omega, rfl, by go_num, by omega, Lib.hid (by rw [List.length_append, HOL.out, HV.out.length]), HS5⟩
        case measure => simp [intOf]; omega
      · obtain rfl : k = wn := by omega
        have hOV : O = V := by have := HS.out.ev; rw [HLT.out] at this; exact (congrArg Prod.fst this).symm
        subst hOV
        obtain rfl : vn = no := by rw [← HOL.out, ← hvn]
        have HKO := Lib.hid (show RecsAt wr qo vn O from rck_recs (rck_of_own (base := w6.heap.size) (m := O.length) (cp := co) HS.out.own) hvn HF.out.2.1 (by omega))
        have HK1 := Lib.hid (HK1.out.keep HS.out.below)
        have HB := Lib.hid (below_via HB.out HS.out.below)
        clear HS
        go_wp2_with fail
        refine (samerun_same _ _ _ _ _ _ _ HK1.out HKO.out).mono ?_
        rintro e w8 ⟨rfl, hB⟩
        have HB := Lib.hid (below_via HB.out hB)
        clear hB
        go_wp2
        go_ret
        exact ⟨rfl, HB.out⟩
end Go.Proofs.YthnlllbanfemaaaGreatDoor
