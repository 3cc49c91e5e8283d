
/- The law on a last emit turned conditional, walked. -/
import Derived.Test.YthnlllbanfemaaaGreatDoorMg11
import Derived.Test.YthnlllbanfemaaaGreatDoorMg12
import Derived.Test.YthnlllbanfemaaaGreatDoorMg20
import Derived.Test.YthnlllbanfemaaaGreatDoorMg26
import Derived.Test.YthnlllbanfemaaaGreatDoorRunFirst
namespace Go.Proofs.YthnlllbanfemaaaGreatDoor
open Go.ChangeShapes Go.WideShapes Go.ChangeAt Go.RowKit Go.MuLone
set_option linter.unusedVariables false
set_option maxRecDepth 100000

theorem inss_lit2 (w : World) (a0 a1 b0 b1 : Int) (t : TypeId) : InstrsAt (w.alloc (.cells #[.int .i64 a0, .int .i64 a1, .string ⟨#[]⟩, .int .i64 b0, .int .i64 b1, .string ⟨#[]⟩] t)) (some ⟨w.heap.size, 0, none⟩) 2 [(a0, a1, ByteArray.empty), (b0, b1, ByteArray.empty)] := by
  refine InstrsAt.ofRow (Row.new _ _ _) rfl (by unfold maxLen; omega) ?_ ?_
  · intro i hi
    match i, hi with
    | 0, _ => exact Nat.zero_le _
    | 1, _ => exact Nat.zero_le _
  · intro i hi
    match i, hi with
    | 0, _ => exact ⟨rfl, rfl, rfl⟩
    | 1, _ => exact ⟨rfl, rfl, rfl⟩
theorem ins_split {W : Instrs} {m : Nat} (h : W.length = m + 1) (h13 : ins0 W m = 13) : W = W.take m ++ [(13, ins1 W m, ins2 W m)] := by
  have h1 : W = W.take m ++ W.drop m := (List.take_append_drop m W).symm
  have h2 : W.drop m = [(ins0 W m, ins1 W m, ins2 W m)] := by
    rw [List.drop_eq_getElem_cons (by omega : m < W.length), List.drop_eq_nil_of_le (by omega)]
    unfold ins0 ins1 ins2
    rw [List.getD_eq_getElem?_getD, List.getElem?_eq_getElem (by omega : m < W.length)]
    rfl
  rw [h13] at h2
  rw [← h2]
  exact h1
theorem evalR_prog {l : Instrs} {ws : Strs} {V : Recs} (h : evalR l ws = (V, 0)) : progB l = true := by
  cases hp : progB l with
  | true => rfl
  | false =>
    rw [evalR_no (fun h2 => by rw [hp] at h2; exact absurd h2.1 (by decide))] at h
    exact absurd (congrArg Prod.snd h) (by simp)
theorem inss_own {w : World} {base : Nat} {q : Option Addr} {m c : Nat} {W : Instrs} (h : w.ownsRow base 52 3 (.slice q m c) m (cellsIn W)) (hn : W.length = m) (hm : m ≤ maxLen) (hs : ∀ i, i < m → (ins2 W i).size ≤ maxLen) : InstrsAt w q m W := inns_of_k (innk_of_own (base := base) (m := m) (cp := c) (by rw [hn]; exact h)) hn hm hs

set_option maxHeartbeats 16000000 in
theorem fnEmitIf_walk (w : World) (a : Option Addr) (len cap : Nat) (h : Src w a len) (hT : TabsRP w) :
    Calls Tryz.prog 9 #[.slice a len cap] w fun e w' => e = .returned (.bool true) ∧ Below w.heap.size w w' := by
  by_cases hbig : 1048576 < len
  · go_enter Tryz.func9, Tryz.ntmps9
    go_wp2_with fail
    refine (big_yes _ _ _ _ hbig).mono ?_
    rintro e w' ⟨rfl, rfl⟩
    go_wp2_with fail
    go_ret
    exact ⟨rfl, Below.refl _ _⟩
  have HT := Lib.hid hT
  have H := Lib.hid h
  clear hT h
  go_enter Tryz.func9, Tryz.ntmps9
  go_wp2_with fail
  refine (big_no _ _ _ _ hbig).mono ?_
  rintro e w' ⟨rfl, rfl⟩
  go_wp2_with fail
  refine (draweval_any _ _ _ _ H.out).mono ?_
  rintro e w1 ⟨q, n, cp, W, sq, sn, sc, M, rfl, hn80, hncp, hcpm, hqn, hs25, hssc, hscm, hsqn, hM60, hfine, hi, h6, hst, hb⟩
  have HI := Lib.hid hi
  have HW := Lib.hid hst
  have HB := Lib.hid hb
  have H6 := Lib.hid h6
  have H6L := Lib.hid (show ∀ i, i < W.length → In64 (ins1 W i) from fun i hi2 => h6 i (by rw [← hi.length]; exact hi2))
  have HWL := Lib.hid hi.length
  have HQN := Lib.hid hqn
  clear hi hst hb h6 hqn hsqn hM60 hfine
  go_wp2_with fail
  refine (drawcomb_any _ _ _ _ (H.out.below HB.out)).mono ?_
  rintro e w1b ⟨op0, nn, nb, hwn, hwb, rfl, hB⟩
  have HNN := Lib.hid (wf_in64 hwn)
  have HI := Lib.hid (HI.out.keep hB)
  have HW := Lib.hid (HW.out.keep hB)
  have HB := Lib.hid (below_via HB.out hB)
  clear hB hwb hwn
  obtain ⟨V, hV⟩ : ∃ V, (evalR W M).1 = V := ⟨_, rfl⟩
  obtain ⟨c, hc⟩ : ∃ c, (evalR W M).2 = c := ⟨_, rfl⟩
  have HRES := Lib.hid (show evalR W M = (V, c) by rw [← hV, ← hc])
  obtain ⟨vn, hvn⟩ : ∃ n, V.length = n := ⟨_, rfl⟩
  have HVN := Lib.hid hvn
  clear hV hc
  go_wp2_with fail
  refine (ieval_any _ _ _ _ _ _ _ _ _ HI.out H6.out HW.out (HT.out.keep HB.out)).mono ?_
  unfold MadeRun
  simp only [HRES.out, hvn]
  rintro e w2 ⟨q1, cp1, rfl, hB, hk, hq1, hcp1⟩
  have HK1 := Lib.hid (run_recs hk H6L.out HRES.out hvn)
  have HI := Lib.hid (HI.out.keep hB)
  have HW := Lib.hid (HW.out.keep hB)
  have HB := Lib.hid (below_via HB.out hB)
  clear hB hk
  go_wp2_with fail
  refine (seval_any _ _ _ _ _ _ _ _ _ HI.out H6.out HW.out).mono ?_
  unfold MadeRun
  simp only [HRES.out, hvn]
  rintro e w3 ⟨q2, cp2, rfl, hB, hk, _, _⟩
  have HK2 := Lib.hid (run_recs hk H6L.out HRES.out hvn)
  have HK1 := Lib.hid (HK1.out.keep hB)
  have HI := Lib.hid (HI.out.keep hB)
  have HW := Lib.hid (HW.out.keep hB)
  have HB := Lib.hid (below_via HB.out hB)
  clear hB hk
  go_wp2_with fail
  refine (samerun_same _ _ _ _ _ _ _ HK1.out HK2.out).mono ?_
  rintro e w4 ⟨rfl, hB⟩
  have HK1 := Lib.hid (HK1.out.keep hB)
  have HK2 := Lib.hid (HK2.out.keep hB)
  have HI := Lib.hid (HI.out.keep hB)
  have HW := Lib.hid (HW.out.keep hB)
  have HB := Lib.hid (below_via HB.out hB)
  clear hB
  by_cases hc0 : c = 0
  rotate_left
  · have hcf : ((c : Int) == 0) = false := by rw [beq_eq_false_iff_ne]; exact hc0
    go_wp2_with fail
    refine (samerun_same _ _ _ _ _ _ _ HK1.out HK2.out).mono ?_
    rintro e wz ⟨rfl, hB⟩
    have HB := Lib.hid (below_via HB.out hB)
    clear hB
    go_wp2
    go_ret
    exact ⟨rfl, HB.out⟩
  subst hc0
  by_cases hn0 : n = 0
  · subst hn0
    go_wp2_with fail
    refine (samerun_same _ _ _ _ _ _ _ HK1.out HK2.out).mono ?_
    rintro e wz ⟨rfl, hB⟩
    have HB := Lib.hid (below_via HB.out hB)
    clear hB
    go_wp2
    go_ret
    exact ⟨rfl, HB.out⟩
  by_cases h30 : (30 : Int) ≤ (n : Int)
  ·
    go_wp2_with fail
    refine (samerun_same _ _ _ _ _ _ _ HK1.out HK2.out).mono ?_
    rintro e wz ⟨rfl, hB⟩
    have HB := Lib.hid (below_via HB.out hB)
    clear hB
    go_wp2
    go_ret
    exact ⟨rfl, HB.out⟩
  obtain ⟨m, rfl⟩ : ∃ m, n = m + 1 := ⟨n - 1, by omega⟩
  rcases HI.out.src with h0 | ⟨b, off, rfl, hb, hc⟩
  · omega
  obtain ⟨c0, c1, c2⟩ := hc m (by omega)
  clear hc c1 c2 hb
  have e1 : ((m + 1 : Nat) : Int) - 1 = (m : Int) := by omega
  have hmz : ((((m : Nat) : Int) + 1) == 0) = false := by rw [beq_eq_false_iff_ne]; omega
  have hm30 : ¬ (30 : Int) ≤ ((m : Nat) : Int) + 1 := by omega
  by_cases hop : ins0 W m = 13
  rotate_left
  · obtain ⟨op, hopx⟩ : ∃ op, ins0 W m = op := ⟨_, rfl⟩
    rw [hopx] at c0 hop
    have hof : ((op : Int) != 13) = true := bne_iff_ne.2 hop
    clear hopx
    go_wp2_with fail
    refine (samerun_same _ _ _ _ _ _ _ HK1.out HK2.out).mono ?_
    rintro e wz ⟨rfl, hB⟩
    have HB := Lib.hid (below_via HB.out hB)
    clear hB
    go_wp2
    go_ret
    exact ⟨rfl, HB.out⟩
  rw [hop] at c0
  have HOP := Lib.hid hop
  clear hop HK2
  have HBA := Lib.hid (below_alloc (Below.refl w4.heap.size w4) (.cells #[] 52))
  have HOA := Lib.hid (own_zeroIn (base := w4.heap.size) (Row.new w4 52 #[]) (Nat.le_refl _))
  have HTK := Lib.hid (inns_take HI.out (k := m) (by omega))
  have hm81 : m ≤ 81 := by omega
  have hmi : ((m : Nat) : Int) ≤ ((m + 1 : Nat) : Int) := by omega
  have hcpi : ((m : Nat) : Int) ≤ (cp : Int) := by omega
  have HTL := Lib.hid (show (W.take m).length = m by rw [List.length_take, HWL.out]; omega)
  obtain ⟨O0, r, hO, hQR⟩ := evalR_if nn (W.take m) (ins1 W m) (ins2 W m) (ins_split HWL.out HOP.out) (evalR_prog HRES.out) (by rw [HWL.out]; omega) HRES.out H6L.out
  have HO := Lib.hid hO
  have HQR := Lib.hid hQR
  clear hO hQR
  go_wp2_with (first
    | (at_builtin; (refine append_inn rfl _ _ rfl w4.heap.size (.slice (some ⟨w4.heap.size, 0, none⟩) 0 0) 0 [] rfl HOA.out (some ⟨b, off, none⟩) m cp (W.take m) rfl (HTK.out.keep HBA.out) (fun h => by cases h) (by omega) HBA.out.size ?_); intro q5 c5 w5 hown hgrow; have HO5 := Lib.hid hown; have HB5 := Lib.hid (show Below w4.heap.size w4 w5 from HBA.out.grown hgrow HBA.out.size (fun j hj => by simp [Value.ownBlock] at hj; omega)); clear hown hgrow; simp only [Nat.zero_add, List.nil_append] at HO5 ⊢)
    | (at_builtin; go_loud (refine append_inn rfl _ _ rfl w4.heap.size (.slice q5 m c5) m (W.take m) rfl (own_below HO5.out (below_alloc (Below.refl _ _) _)) (some ⟨w5.heap.size, 0, none⟩) 2 2 [(3, nn, ByteArray.empty), (14, 0, ByteArray.empty)] rfl (inss_lit2 _ _ _ _ _ _) (fun h => by cases h) (by omega) (Nat.le_trans HB5.out.size (by simp)) ?_); intro q6 c6 w6 hown hgrow; have HO6 := Lib.hid hown; have HB6 := Lib.hid (show Below w4.heap.size w4 w6 from (below_alloc HB5.out _).grown hgrow (Nat.le_trans HB5.out.size (by simp)) (fun j hj => (HO5.out.lt j hj).1)); clear hown hgrow))
  have HK1 := Lib.hid (HK1.out.keep HB6.out)
  have HW := Lib.hid (HW.out.keep HB6.out)
  have HB := Lib.hid (below_via HB.out HB6.out)
  have HQ := Lib.hid (show InstrsAt w6 q6 (m + 2) (W.take m ++ [(3, nn, ByteArray.empty), (14, 0, ByteArray.empty)]) from inss_own HO6.out (by rw [List.length_append, HTL.out]; rfl) (by unfold maxLen; omega) (fun i hi => by
    by_cases him : i < m
    · rw [(ins_left (W.take m) _ (i := i) (by rw [HTL.out]; exact him)).2.2]; exact HTK.out.keys i him
    · obtain ⟨j, rfl⟩ : ∃ j, i = m + j := ⟨i - m, by omega⟩
      have h1 := (ins_right (W.take m) [(3, nn, ByteArray.empty), (14, 0, ByteArray.empty)] j).2.2
      rw [HTL.out] at h1
      rw [h1]
      rcases (show j = 0 ∨ j = 1 by omega) with rfl | rfl
      · exact Nat.zero_le _
      · exact Nat.zero_le _))
  have H6Q := Lib.hid (show ∀ i, i < m + 2 → In64 (ins1 (W.take m ++ [(3, nn, ByteArray.empty), (14, 0, ByteArray.empty)]) i) from fun i hi => by
    by_cases him : i < m
    · rw [(ins_left (W.take m) _ (i := i) (by rw [HTL.out]; exact him)).2.1, (inn_at_take W m i him).2.1]; exact H6.out i (by omega)
    · obtain ⟨j, rfl⟩ : ∃ j, i = m + j := ⟨i - m, by omega⟩
      have h1 := (ins_right (W.take m) [(3, nn, ByteArray.empty), (14, 0, ByteArray.empty)] j).2.1
      rw [HTL.out] at h1
      rw [h1]
      rcases (show j = 0 ∨ j = 1 by omega) with rfl | rfl
      · exact HNN.out
      · exact in64_0)
  have HQL := Lib.hid (show (W.take m ++ [(3, nn, ByteArray.empty), (14, 0, ByteArray.empty)]).length = m + 2 by rw [List.length_append, HTL.out]; rfl)
  obtain ⟨QP, hqp⟩ : ∃ QP, W.take m ++ [(3, nn, ByteArray.empty), (14, 0, ByteArray.empty)] = QP := ⟨_, rfl⟩
  rw [hqp] at HQ H6Q HQL HQR
  clear HO6 HB6 HO5 HB5 HTK HOA HBA HTL hqp c0
  have HQI := Lib.hid (show ∀ i, i < QP.length → In64 (ins1 QP i) by rw [HQL.out]; exact H6Q.out)
  have HONE := Lib.hid (show V.length = O0.length + 1 by rw [HO.out]; simp)
  obtain ⟨on, hon⟩ : ∃ on, O0.length = on := ⟨_, rfl⟩
  rw [hon] at HONE
  obtain rfl : vn = on + 1 := by rw [← HONE.out, hvn]
  have ho30 : on ≤ 30 := by
    have h1 : V.length ≤ 30 := by have h := (evalR_facts (ws := M) H6L.out).1; rw [HRES.out] at h; exact h
    omega
  rcases HK1.out.src with h0 | ⟨b1, off1, rfl, _, _⟩
  · omega
  by_cases hz : nn = 0
  · have HR := Lib.hid (show evalR QP M = (O0, 0) by rw [HQR.out, if_pos hz])
    have HK0 := Lib.hid (show RecsAt w6 (some ⟨b1, off1, none⟩) on O0 from by
      have h1 := recs_take HK1.out on (by omega)
      rw [HO.out, ← hon, List.take_left] at h1
      exact (by rw [← hon]; exact h1))
    subst hz
    clear HQR HO HK1
    refine (ieval_any _ _ _ _ _ _ _ _ _ HQ.out H6Q.out HW.out (HT.out.keep HB.out)).mono ?_
    unfold MadeRun
    simp only [HR.out, hon]
    rintro e w7 ⟨q8, cp8, rfl, hB, hk, _, _⟩
    have HK8 := Lib.hid (run_recs hk HQI.out HR.out hon)
    have HK0 := Lib.hid (HK0.out.keep hB)
    have HB := Lib.hid (below_via HB.out hB)
    clear hB hk hon HONE
    have e2 : ((on + 1 : Nat) : Int) - 1 = (on : Int) := by omega
    have hoi : ((on : Nat) : Int) ≤ (cp1 : Int) := by omega
    clear h30 hm30 hmz e1 hmi hcpi hm81 hcpm hs25 hssc hscm hn80 hncp hn0
    go_wp2_with fail
    refine (samerun_same _ _ _ _ _ _ _ HK8.out HK0.out).mono ?_
    rintro e w8 ⟨rfl, hB⟩
    have HB := Lib.hid (below_via HB.out hB)
    clear hB
    go_wp2
    go_ret
    exact ⟨rfl, HB.out⟩
  · have HR := Lib.hid (show evalR QP M = (V, 0) by rw [HQR.out, if_neg hz])
    have hzf : ((nn : Int) == 0) = false := by rw [beq_eq_false_iff_ne]; exact hz
    clear HQR HO
    refine (ieval_any _ _ _ _ _ _ _ _ _ HQ.out H6Q.out HW.out (HT.out.keep HB.out)).mono ?_
    unfold MadeRun
    simp only [HR.out, hvn]
    rintro e w7 ⟨q8, cp8, rfl, hB, hk, _, _⟩
    have HK8 := Lib.hid (run_recs hk HQI.out HR.out hvn)
    have HK1 := Lib.hid (HK1.out.keep hB)
    have HB := Lib.hid (below_via HB.out hB)
    clear hB hk
    go_wp2_with fail
    refine (samerun_same _ _ _ _ _ _ _ HK8.out HK1.out).mono ?_
    rintro e w8 ⟨rfl, hB⟩
    have HB := Lib.hid (below_via HB.out hB)
    clear hB
    go_wp2
    go_ret
    exact ⟨rfl, HB.out⟩
end Go.Proofs.YthnlllbanfemaaaGreatDoor
