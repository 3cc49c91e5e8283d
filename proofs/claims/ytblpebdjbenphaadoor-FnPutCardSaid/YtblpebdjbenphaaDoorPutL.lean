
/- The law on Put, walked: drawn stores, keys, versions and data. -/
import Derived.Test.YtblpebdjbenphaaDoorLawS
namespace Go.Proofs.YtblpebdjbenphaaDoor
open Go.ChangeShapes Go.WideShapes Go.ChangeAt Go.RowKit
set_option linter.unusedVariables false
set_option maxRecDepth 100000

theorem put_facts {l : Objs} {m : Gones} {key : ByteArray} {ver : Int} {data : ByteArray} {R R2 R3 : Els × Int × Int} {L : Objs} {M : Gones} (h : IsPut l m key ver data R) (h0 : R.2.2 = 0) (hL : resO R = L) (hM : resG R = M) (h2 : IsPut L M key ver data R2) (h3 : IsCreate L M key data R3) :
    getAux key L = ((key, ver + 1, data), true) ∧ R2.2.2 = 5 ∧ R3.2.2 = 2 ∧ L.length = l.length ∧ R.2.1 = ver + 1 ∧ 1 ≤ ver ∧ ver < 1000000 ∧ StoP L M := by
  have hst := isPut_sto h
  obtain ⟨E, E', hE, hep, hep', hR, hE', hkb, hds, hv1, hv2, d, hl⟩ := put_done h h0
  rw [hL, hM] at hst
  have hL' : objsOf E' = L := by rw [← hL, (res_yes h0).1, hR]
  have hM' : gonsOf E' = M := by rw [← hM, (res_yes h0).2, hR]
  have hlk : lookE key E' = some (ver + 1, data, false) := by rw [hE']; exact look_put_same
  have hback : elsOf L M = E' := by rw [← hL', ← hM']; exact ep_back hep'
  refine ⟨?_, ?_, ?_, ?_, by rw [hR], hv1, hv2, hst⟩
  · rw [← hL', get_look hep'.inc, hlk]; simp [getE]
  · have := h2.1 ⟨hst, hkb, by unfold inB; simp; omega, hds⟩
    rw [this, hback, repl_ver hlk rfl (by show ver + 1 ≠ ver; omega)]
  · have := h3.1 ⟨hst, hkb, hds⟩
    rw [this, hback, create_there hlk rfl]
  · have := objs_len_put (key := key) (e := (ver + 1, data, false)) hep.inc
    rw [hl] at this
    simp only [obIs, bn, Bool.not_false, if_true] at this
    rw [← hL', hE', ← (els_back (l := l) (m := m)).1, hE]
    omega

set_option maxHeartbeats 8000000 in
theorem fnPut_walk (w : World) (a : Option Addr) (len cap : Nat) (A : ErrA) (h : Src w a len) (hA : TabsEA A w) :
    Calls Tryd.prog 4 #[.slice a len cap] w fun e w' => e = .returned (.bool true) ∧ Below w.heap.size w w' := by
  have H := Lib.hid h
  have HTA := Lib.hid hA
  clear h hA
  by_cases hbig : 1048576 < len
  · go_enter Tryd.func4, Tryd.ntmps4
    go_wp2_with (go_at_call 7; refine (big_yes _ _ _ _ hbig).mono ?_; rintro e w' ⟨rfl, rfl⟩)
    go_ret
    exact ⟨rfl, Below.refl _ _⟩
  go_enter Tryd.func4, Tryd.ntmps4
  go_wp2_with (go_at_call 7; refine (big_no _ _ _ _ hbig).mono ?_; rintro e w' ⟨rfl, rfl⟩)
  refine (drawput_any _ _ _ _ H.out).mono ?_
  rintro e w1 ⟨q1, n1, c1, q2, n2, c2, l, m, key, ver, data, rfl, hS, hk, hd, hB1⟩
  obtain ⟨R, hR⟩ := isPut_some l m key ver data
  have HSP := Lib.hid (isPut_sto hR)
  have HRI := Lib.hid hR
  clear hR
  obtain ⟨L, hL⟩ : ∃ L, resO R = L := ⟨_, rfl⟩
  obtain ⟨M, hM⟩ : ∃ M, resG R = M := ⟨_, rfl⟩
  obtain ⟨nl, hnl⟩ : ∃ n, L.length = n := ⟨_, rfl⟩
  obtain ⟨nm, hnm⟩ : ∃ n, M.length = n := ⟨_, rfl⟩
  obtain ⟨V, hV⟩ : ∃ V, R.2.1 = V := ⟨_, rfl⟩
  obtain ⟨C, hC⟩ : ∃ C, R.2.2 = C := ⟨_, rfl⟩
  rw [hL, hM] at HSP
  have hfew := HSP.out.few
  rw [hnl, hnm] at hfew
  have HLM := Lib.hid (fun w e w' => toLM hL hM hnl hnm hV hC (w := w) e w')
  obtain ⟨R2, hR2⟩ := isPut_some L M key ver data
  obtain ⟨R3, hR3⟩ := isCreate_some L M key data
  have HF := Lib.hid (fun (h0 : C = 0) => put_facts HRI.out (hC.trans h0) hL hM hR2 hR3)
  have HVV := Lib.hid hV
  have HNL := Lib.hid hnl
  have HR2 := Lib.hid hR2
  have HR3 := Lib.hid hR3
  clear hL hM hnl hnm hV hC hR2 hR3
  have HS := Lib.hid hS
  have HB1 := Lib.hid hB1
  have HKS := Lib.hid (show key.size ≤ maxLen by unfold maxLen; omega)
  have HDS := Lib.hid (show data.size ≤ maxLen by unfold maxLen; omega)
  have hf1 := hS.few1
  have hf2 := hS.few2
  have HLL := Lib.hid hS.at_.at_.o.length
  clear hS hB1 hk hd
  go_wp2_with fail
  have HS2 := Lib.hid (HS.out.keep (below_alloc (Below.refl _ _) (.cells #[.slice q1 n1 c1, .slice q2 n2 c2] 27)))
  refine ((ppu_any _ _ _ _ _ _ l m A key ver data R _ HS2.out.at_.at_ (by omega) (by omega) ((HTA.out.keep HB1.out).keep (below_alloc (Below.refl _ _) _)) HKS.out HDS.out HRI.out).mono (HLM.out _)).mono ?_
  rintro e w2 ⟨q3, c3, q4, c4, rfl, hB2, hK2⟩
  have HB2 := Lib.hid hB2
  have HK2 := Lib.hid hK2
  clear hB2 hK2
  have HSS := Lib.hid ((HS2.out.keep HB2.out).keep (below_alloc (Below.refl _ _) (.cells #[.slice q3 nl c3, .slice q4 nm c4] 27)))
  have s0 := (((Row.new w1 27 #[.slice q1 n1 c1, .slice q2 n2 c2]).keep HB2.out).alloc (.cells #[.slice q3 nl c3, .slice q4 nm c4] 27)).cell (j := 0) (by simp)
  have s1 := (((Row.new w1 27 #[.slice q1 n1 c1, .slice q2 n2 c2]).keep HB2.out).alloc (.cells #[.slice q3 nl c3, .slice q4 nm c4] 27)).cell (j := 1) (by simp)
  simp at s0 s1
  go_wp2_with fail
  clear s0 s1
  refine ((sput_any _ _ _ _ _ _ l m key ver data R _ HSS.out.at_ (by omega) (by omega) HKS.out HDS.out HRI.out).mono (HLM.out _)).mono ?_
  rintro e w3 ⟨q5, c5, q6, c6, rfl, hB3, hK3⟩
  have HP := Lib.hid (LP.mk' HB1.out HS.out HB2.out HK2.out hB3 hK3 HSP.out)
  clear hB3 hK3 HS2 HSS HK2 HS
  obtain ⟨S, hS⟩ : ∃ x, w1.heap.size = x := ⟨_, rfl⟩
  obtain ⟨T, hT⟩ : ∃ x, w2.heap.size = x := ⟨_, rfl⟩
  obtain ⟨U, hU⟩ : ∃ x, w3.heap.size = x := ⟨_, rfl⟩
  obtain ⟨w4, hw4⟩ : ∃ x, w3.alloc (.cells #[.slice q5 nl c5, .slice q6 nm c6] 27) = x := ⟨_, rfl⟩
  rw [hS, hT, hU, hw4] at HP
  obtain ⟨t0, t1⟩ := row_two HP.out.rt
  obtain ⟨u0, u1⟩ := row_two HP.out.ru
  go_wp2_with fail
  clear hw4 hS hT hU t0 t1 u0 u1 HB2 HB1
  refine (samesto_same _ _ _ _ nl _ _ nm _ _ L M _ HP.out.t.at_ HP.out.u).mono ?_
  rintro e w5 ⟨rfl, hB⟩
  have HP := Lib.hid (HP.out.keep hB)
  clear hB
  obtain ⟨t0, t1⟩ := row_two HP.out.rt
  obtain ⟨u0, u1⟩ := row_two HP.out.ru
  by_cases h0 : C = 0
  · obtain ⟨hg, h5, h2, hln, hvr, hv1, hv2, hsp⟩ := HF.out h0
    have HG := Lib.hid hg
    have H5 := Lib.hid h5
    have H2 := Lib.hid h2
    have hvv : V = ver + 1 := by rw [← HVV.out]; exact hvr
    have hnn : nl = n1 := by rw [← HNL.out, ← HLL.out]; exact hln
    subst hvv
    subst h0
    subst hnn
    clear hg h5 h2 hln hvr HF
    go_wp2_with fail
    clear u0 u1
    refine (get_any _ _ _ _ _ _ L M key _ HP.out.t.at_).mono ?_
    rw [HG.out]
    rintro e w6 ⟨rfl, hB⟩
    have HP := Lib.hid ((HP.out.keep hB).al (.cells #[.string key, .int .i64 (ver + 1), .string data] 35))
    have HO := Lib.hid (Row.new w6 35 #[.string key, .int .i64 (ver + 1), .string data])
    obtain ⟨O, hO⟩ : ∃ x, w6.heap.size = x := ⟨_, rfl⟩
    obtain ⟨w7, hw7⟩ : ∃ x, w6.alloc (.cells #[.string key, .int .i64 (ver + 1), .string data] 35) = x := ⟨_, rfl⟩
    rw [hw7] at HP HO
    rw [hO] at HO
    clear hB t0 t1
    obtain ⟨t0, t1⟩ := row_two HP.out.rt
    go_wp2_with fail
    clear hw7 hO t0 t1
    refine (ppu_any _ _ _ _ _ _ L M A key ver data R2 _ HP.out.t.at_ (by omega) (by omega) (HTA.out.keep HP.out.below) HKS.out HDS.out HR2.out).mono ?_
    rintro e w8 ⟨q7, n7, c7, q8, n8, c8, rfl, hB, _⟩
    rw [H5.out]
    have HP := Lib.hid ((HP.out.keep hB).al (.cells #[.slice q7 n7 c7, .slice q8 n8 c8] 27))
    have HO := Lib.hid ((HO.out.keep hB).alloc (.cells #[.slice q7 n7 c7, .slice q8 n8 c8] 27))
    clear hB
    obtain ⟨w9, hw9⟩ : ∃ x, w8.alloc (.cells #[.slice q7 n7 c7, .slice q8 n8 c8] 27) = x := ⟨_, rfl⟩
    rw [hw9] at HP HO
    obtain ⟨t0, t1⟩ := row_two HP.out.rt
    go_wp2_with fail
    clear hw9 t0 t1
    refine (pcre_any _ _ _ _ _ _ L M A key data R3 _ HP.out.t.at_ (by omega) (by omega) (HTA.out.keep HP.out.below) HKS.out HDS.out HR3.out).mono ?_
    rintro e w10 ⟨q9, n9, c9, q10, n10, c10, rfl, hB, _⟩
    rw [H2.out]
    have HP := Lib.hid ((HP.out.keep hB).al (.cells #[.slice q9 n9 c9, .slice q10 n10 c10] 27))
    have HO := Lib.hid ((HO.out.keep hB).alloc (.cells #[.slice q9 n9 c9, .slice q10 n10 c10] 27))
    clear hB
    obtain ⟨w11, hw11⟩ : ∃ x, w10.alloc (.cells #[.slice q9 n9 c9, .slice q10 n10 c10] 27) = x := ⟨_, rfl⟩
    rw [hw11] at HP HO
    obtain ⟨t0, t1⟩ := row_two HP.out.rt
    obtain ⟨s0, s1⟩ := row_two HP.out.rs
    have o0 := HO.out.cell (j := 0) (by simp)
    have o1 := HO.out.cell (j := 1) (by simp)
    have o2 := HO.out.cell (j := 2) (by simp)
    simp at o0 o1 o2
    go_wp2_with fail
    clear hw11
    refine (storeok_any _ _ _ _ _ _ L M _ HP.out.t.at_ (by omega) (by omega)).mono ?_
    rintro e w12 ⟨b, rfl, hb, hB⟩
    obtain rfl : b = true := hb.2 hsp
    have HB := Lib.hid (below_via HP.out.below hB)
    clear hB hb
    go_wp2
    go_ret
    exact ⟨rfl, HB.out⟩
  · have h0b : (C == 0) = false := by rw [beq_eq_false_iff_ne]; exact h0
    go_wp2_with fail
    clear t0 t1 u0 u1
    refine (samesto_same _ _ _ _ nl _ _ nm _ _ L M _ HP.out.t.at_ HP.out.u).mono ?_
    rintro e w6 ⟨rfl, hB⟩
    have HB := Lib.hid (below_via HP.out.below hB)
    clear hB
    go_wp2
    go_ret
    exact ⟨rfl, HB.out⟩
end Go.Proofs.YtblpebdjbenphaaDoor
