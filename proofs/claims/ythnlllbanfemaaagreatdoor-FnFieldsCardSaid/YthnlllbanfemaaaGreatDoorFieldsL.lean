
/- The law that a missing word equals an empty one, walked. -/
import Derived.Test.YthnlllbanfemaaaGreatDoorMg11
import Derived.Test.YthnlllbanfemaaaGreatDoorEvalI
import Derived.Test.YthnlllbanfemaaaGreatDoorLineS
import Derived.Test.YthnlllbanfemaaaGreatDoorFieldsM
import Derived.Test.YthnlllbanfemaaaGreatDoorStrOwn
import Derived.Test.YthnlllbanfemaaaGreatDoorSameR
namespace Go.Proofs.YthnlllbanfemaaaGreatDoor
open Go.ChangeShapes Go.WideShapes Go.ChangeAt Go.RowKit Go.MuLone
set_option linter.unusedVariables false
set_option maxRecDepth 100000

def sliceLenE : Value → Nat | .slice _ n _ => n | _ => 0
theorem run_recs {l : Instrs} {ws : Strs} {base : Nat} {w : World} {q : Option Addr} {V : Recs} {c : Int} {n : Nat} (hk : RcK base w q V) (hn : ∀ i, i < l.length → In64 (ins1 l i)) (hr : evalR l ws = (V, c)) (hv : V.length = n) : RecsAt w q n V := by
  have h := evalR_facts (l := l) (ws := ws) hn
  rw [hr] at h
  have h1 : V.length ≤ 30 := h.1
  exact rck_recs hk hv h.2.1 (by omega)

set_option maxHeartbeats 16000000 in
theorem fnFields_walk (w : World) (a : Option Addr) (len cap : Nat) (h : Src w a len) (hT : TabsRP w) :
    Calls Tryz.prog 10 #[.slice a len cap] w fun e w' => e = .returned (.bool true) ∧ Below w.heap.size w w' := by
  by_cases hbig : 1048576 < len
  · go_enter Tryz.func10, Tryz.ntmps10
    go_wp2_with fail
    refine (big_yes _ _ _ _ hbig).mono ?_
    rintro e w' ⟨rfl, rfl⟩
    go_wp2_with fail
    go_ret
    exact ⟨rfl, Below.refl _ _⟩
  have HT := Lib.hid hT
  have H := Lib.hid h
  clear hT h
  go_enter Tryz.func10, Tryz.ntmps10
  go_wp2_with fail
  refine (big_no _ _ _ _ hbig).mono ?_
  rintro e w' ⟨rfl, rfl⟩
  go_wp2_with fail
  refine (draweval_any _ _ _ _ H.out).mono ?_
  rintro e w1 ⟨q, n, cp, W, sq, sn, sc, M, rfl, hn80, hncp, hcpm, hqn, hs25, hssc, hscm, hsqn, hM60, hfine, hi, h6, hst, hb⟩
  have HI := Lib.hid hi
  have HW := Lib.hid hst
  have HB := Lib.hid hb
  have H6 := Lib.hid h6
  have H6L := Lib.hid (show ∀ i, i < W.length → In64 (ins1 W i) from fun i hi2 => h6 i (by rw [← hi.length]; exact hi2))
  have HSQ := Lib.hid hsqn
  have HML := Lib.hid hst.length
  clear hi hst hb h6 hqn hsqn hM60 hfine
  obtain ⟨V, hV⟩ : ∃ V, (evalR W M).1 = V := ⟨_, rfl⟩
  obtain ⟨c, hc⟩ : ∃ c, (evalR W M).2 = c := ⟨_, rfl⟩
  have HRES := Lib.hid (show evalR W M = (V, c) by rw [← hV, ← hc])
  obtain ⟨vn, hvn⟩ : ∃ n, V.length = n := ⟨_, rfl⟩
  have HVN := Lib.hid hvn
  clear hV hc
  go_wp2_with fail
  refine (ieval_any _ _ _ _ _ _ _ _ _ HI.out H6.out HW.out (HT.out.keep HB.out)).mono ?_
  unfold MadeRun
  simp only [HRES.out, hvn]
  rintro e w2 ⟨q1, cp1, rfl, hB, hk, _, _⟩
  have HK1 := Lib.hid (run_recs hk H6L.out HRES.out hvn)
  have HI := Lib.hid (HI.out.keep hB)
  have HW := Lib.hid (HW.out.keep hB)
  have HB := Lib.hid (below_via HB.out hB)
  clear hB hk
  go_wp2_with fail
  refine (seval_any _ _ _ _ _ _ _ _ _ HI.out H6.out HW.out).mono ?_
  unfold MadeRun
  simp only [HRES.out, hvn]
  rintro e w3 ⟨q2, cp2, rfl, hB, hk, _, _⟩
  have HK2 := Lib.hid (run_recs hk H6L.out HRES.out hvn)
  have HK1 := Lib.hid (HK1.out.keep hB)
  have HI := Lib.hid (HI.out.keep hB)
  have HW := Lib.hid (HW.out.keep hB)
  have HB := Lib.hid (below_via HB.out hB)
  clear hB hk
  go_wp2_with fail
  refine (samerun_same _ _ _ _ _ _ _ HK1.out HK2.out).mono ?_
  rintro e w4 ⟨rfl, hB⟩
  have HK1 := Lib.hid (HK1.out.keep hB)
  have HK2 := Lib.hid (HK2.out.keep hB)
  have HI := Lib.hid (HI.out.keep hB)
  have HW := Lib.hid (HW.out.keep hB)
  have HB := Lib.hid (below_via HB.out hB)
  clear hB
  by_cases h20 : (20 : Int) < (sn : Int)
  · go_wp2_with fail
    refine (samerun_same _ _ _ _ _ _ _ HK1.out HK2.out).mono ?_
    rintro e w5 ⟨rfl, hB⟩
    have HB := Lib.hid (below_via HB.out hB)
    clear hB
    go_wp2
    go_ret
    exact ⟨rfl, HB.out⟩
  · have hsn20 : sn ≤ 20 := by omega
    clear HK2
    have HBA := Lib.hid (below_alloc (Below.refl w4.heap.size w4) (.cells #[] 9))
    have HOA := Lib.hid (World.ownsRow_lit (base := w4.heap.size) (e := 9) (size := 1) w4 #[] 0 (Nat.le_refl _) (Nat.zero_le _) rfl)
    go_wp2_with (at_builtin; go_loud (refine append_strs rfl _ _ rfl w4.heap.size (.slice (some ⟨w4.heap.size, 0, none⟩) 0 0) 0 [] rfl HOA.out sq sn sc M rfl (HW.out.keep HBA.out) HSQ.out (by omega) HBA.out.size ?_); intro q5 c5 w5 hown hgrow; have HO5 := Lib.hid hown; have HB5 := Lib.hid (show Below w4.heap.size w4 w5 from HBA.out.grown hgrow HBA.out.size (fun j hj => by simp [Value.ownBlock] at hj; omega)); clear hown hgrow)
    have HS0 : Hid (w5.ownsRow w4.heap.size 9 1 (.slice q5 sn c5) sn ((M ++ List.replicate 0 ByteArray.empty).map Value.string) ∧ Below w4.heap.size w4 w5) := Lib.hid ⟨by have := HO5.out; simpa using this, HB5.out⟩
    clear HO5 HBA HOA HB5
    try simp only [Nat.zero_add]
    go_loopw [9] (fun v wr => ∃ (k : Nat) (q : Option Addr) (cc : Nat), v = .slice q (sn + k) cc ∧ sn + k ≤ 20 ∧ Hid (wr.ownsRow w4.heap.size 9 1 (.slice q (sn + k) cc) (sn + k) ((M ++ List.replicate k ByteArray.empty).map Value.string) ∧ Below w4.heap.size w4 wr)) (fun v _ => 20 - sliceLenE v)
    case atStart => exact ⟨0, q5, c5, rfl, hsn20, HS0⟩
    case round =>
      clear HS0
      obtain ⟨k, q6, c6, rfl, hk20, HS⟩ := hrel
      obtain ⟨m, hm⟩ : ∃ m, sn + k = m := ⟨_, rfl⟩
      rw [hm] at HS hk20 ⊢
      have HMM := Lib.hid hm
      clear hm
      by_cases hlt : m < 20
      · have hlt2 : (m : Int) < 20 := by omega
        obtain ⟨i0, hi, hz0, hz1, hz2⟩ := info_parts infoStr
        go_wp2_with (at_builtin; (refine wpList_append_own _ rfl _ _ 23 rfl w4.heap.size 9 i0 _ 1 16 Tryz.underlying23 hi hz0 hz1 hz2 rfl (by decide) _ _ _ rfl (HS.out.1.alloc _) ⟨wr.heap.size, 0, none⟩ 1 1 [.string ⟨#[]⟩] rfl rfl (one_new _ _ _) (fun u hu => by simp at hu; subst hu; rfl) (by unfold maxLen; omega) (by omega) (Nat.le_trans HS.out.2.size (by simp)) ?_); intro v' w6 hown1 hgrow hnil; obtain ⟨q7, c7, rfl⟩ := own_form hown1; have HS7 := Lib.hid (show w6.ownsRow w4.heap.size 9 1 (.slice q7 (m + 1) c7) (m + 1) ((M ++ List.replicate (k + 1) ByteArray.empty).map Value.string) ∧ Below w4.heap.size w4 w6 from ⟨by rw [List.replicate_succ', ← List.append_assoc, List.map_append]; exact hown1, (HS.out.2.alloc HS.out.2.size _).grown hgrow (Nat.le_trans HS.out.2.size (by simp)) (fun j hj => (HS.out.1.lt j hj).1)⟩); clear hown1 hgrow hnil)
        go_roundw
        case rel => exact ⟨k + 1, q7, c7, by rw [← Nat.add_assoc, HMM.out], by rw [← Nat.add_assoc, HMM.out]; omega, by rw [← Nat.add_assoc, HMM.out]; exact HS7⟩
        case measure => simp [sliceLenE]; omega
      · obtain rfl : m = 20 := by omega
        have hnlt : ¬ ((20 : Nat) : Int) < 20 := by omega
        have HPAD := Lib.hid (show evalR W (M ++ List.replicate k ByteArray.empty) = (V, c) by rw [evalR_pad (by rw [HML.out, HMM.out]; exact Nat.le_refl _)]; exact HRES.out)
        have HWS := Lib.hid (show StrsAt wr q6 20 (M ++ List.replicate k ByteArray.empty) from strs_of_ownE HS.out.1 (by rw [List.length_append, List.length_replicate, HML.out, HMM.out]) (by unfold maxLen; omega) (fun x hx => by
          rcases List.mem_append.1 hx with hx | hx
          · obtain ⟨j, hj, rfl⟩ := List.mem_iff_getElem.1 hx
            have := HW.out.sizes j (by rw [← HML.out]; exact hj)
            unfold strAt at this
            rw [List.getD_eq_getElem?_getD, List.getElem?_eq_getElem hj] at this
            exact this
          · rw [List.eq_of_mem_replicate hx]; exact Nat.zero_le _))
        have HB := Lib.hid (below_via HB.out HS.out.2)
        have HI := Lib.hid (HI.out.keep HS.out.2)
        have HK1 := Lib.hid (HK1.out.keep HS.out.2)
        go_wp2_with fail
        refine (ieval_any _ _ _ _ _ _ _ _ _ HI.out H6.out HWS.out (HT.out.keep HB.out)).mono ?_
        unfold MadeRun
        simp only [HPAD.out, HVN.out]
        rintro e w7 ⟨q8, cp8, rfl, hB, hk, _, _⟩
        have HK8 := Lib.hid (run_recs hk H6L.out HRES.out HVN.out)
        have HK1 := Lib.hid (HK1.out.keep hB)
        have HB := Lib.hid (below_via HB.out hB)
        clear hB hk
        go_wp2_with fail
        refine (samerun_same _ _ _ _ _ _ _ HK1.out HK8.out).mono ?_
        rintro e w8 ⟨rfl, hB⟩
        have HB := Lib.hid (below_via HB.out hB)
        clear hB
        go_wp2
        go_ret
        exact ⟨rfl, HB.out⟩
end Go.Proofs.YthnlllbanfemaaaGreatDoor
