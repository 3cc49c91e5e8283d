
/- The law on Del, walked: drawn stores, keys and versions. -/
import Derived.Test.YtblpebdjbenphaaGreatDoorLawS
import Derived.Test.YtblpebdjbenphaaGreatDoorStoPut
namespace Go.Proofs.YtblpebdjbenphaaGreatDoor
open Go.ChangeShapes Go.WideShapes Go.ChangeAt Go.RowKit
set_option linter.unusedVariables false
set_option maxRecDepth 100000

theorem del_facts {l : Objs} {m : Gones} {key : ByteArray} {ver : Int} {R R3 : Els × Int × Int} {L : Objs} {M : Gones} (h : IsDel l m key ver R) (h0 : R.2.2 = 0) (hL : resO R = L) (hM : resG R = M) (hv : ver ≠ 1000000) (h3 : IsCreate L M key ⟨#[120]⟩ R3) :
    getAux key L = ((⟨#[]⟩, 0, ⟨#[]⟩), false) ∧ verB key L M = ver ∧ R3.2 = (ver + 1, 0) ∧ (resO R3).length = l.length ∧ (resG R3).length = m.length ∧ 1 ≤ ver ∧ ver < 1000000 ∧ StoP L M := by
  have hst := isDel_sto h
  obtain ⟨E, E', hE, hep, hep', hR, hE', hkb, hv1, hv2, d, hl⟩ := del_done h h0
  rw [hL, hM] at hst
  have hL' : objsOf E' = L := by rw [← hL, (res_yes h0).1, hR]
  have hM' : gonsOf E' = M := by rw [← hM, (res_yes h0).2, hR]
  have hlm := els_back (l := l) (m := m)
  rw [hE] at hlm
  have hlk : lookE key E' = some (ver, ⟨#[]⟩, true) := by rw [hE']; exact look_put_same
  have hback : elsOf L M = E' := by rw [← hL', ← hM']; exact ep_back hep'
  have hr3 := h3.1 ⟨hst, hkb, by decide⟩
  rw [hback, create_again hlk rfl (by show ver ≠ 1000000; exact hv)] at hr3
  have l1 := objs_len_put (key := key) (e := (ver, ⟨#[]⟩, true)) hep.inc
  have l2 := gons_len_put (key := key) (e := (ver, ⟨#[]⟩, true)) hep.inc
  have l3 := objs_len_put (key := key) (e := (ver + 1, ⟨#[120]⟩, false)) hep'.inc
  have l4 := gons_len_put (key := key) (e := (ver + 1, ⟨#[120]⟩, false)) hep'.inc
  rw [hl] at l1 l2
  rw [hlk] at l3 l4
  simp only [obIs, goIs, bn, Bool.not_false, Bool.not_true, if_true, Bool.false_eq_true, if_false] at l1 l2 l3 l4
  rw [← hE'] at l1 l2
  have e3 : R3.2.2 = 0 := by rw [hr3]
  refine ⟨?_, ?_, by rw [hr3], ?_, ?_, hv1, by omega, hst⟩
  · rw [← hL', get_look hep'.inc, hlk]; simp [getE]
  · rw [← hL', ← hM', ver_look hep'.inc, hlk]; rfl
  · rw [(res_yes e3).1, hr3, ← hlm.1]; simp only at l3 ⊢; omega
  · rw [(res_yes e3).2, hr3, ← hlm.2]; simp only at l4 ⊢; omega

def DrewDel (w : World) (e : Ending) (w' : World) : Prop :=
  ∃ (q1 : Option Addr) (n1 c1 : Nat) (q2 : Option Addr) (n2 c2 : Nat) (l : Objs) (m : Gones) (key : ByteArray) (ver : Int), e = .returned (.tuple #[.agg #[.slice q1 n1 c1, .slice q2 n2 c2], .string key, .int .i64 ver]) ∧ StoD w' q1 n1 c1 q2 n2 c2 l m ∧ key.size ≤ 41 ∧ Below w.heap.size w w'
set_option maxHeartbeats 2000000 in
theorem drawdel_any (w : World) (a : Option Addr) (len cap : Nat) (h : Src w a len) :
    Calls Tryz.prog 6 #[.slice a len cap] w (DrewDel w) := by
  have H := Lib.hid (h.below ((Below.refl w.heap.size w).alloc (Nat.le_refl _) (.cells #[.slice none 0 0, .slice none 0 0] 27)))
  have HR := Lib.hid (Row.new w 27 #[.slice none 0 0, .slice none 0 0])
  have HB := Lib.hid (below_alloc (Below.refl w.heap.size w) (.cells #[.slice none 0 0, .slice none 0 0] 27))
  clear h
  go_enter Tryz.func6, Tryz.ntmps6
  go_wp2_with fail
  refine (drawput_any _ _ _ _ H.out).mono ?_
  rintro e w1 ⟨q1, n1, c1, q2, n2, c2, l, m, key, ver, data, rfl, hS, hk, hd, hB⟩
  have HR := Lib.hid ((HR.out.keep hB).alloc (.cells #[.slice q1 n1 c1, .slice q2 n2 c2] 27))
  have HX := Lib.hid (Row.new w1 27 #[.slice q1 n1 c1, .slice q2 n2 c2])
  have HS := Lib.hid (hS.keep (below_alloc (Below.refl _ _) (.cells #[.slice q1 n1 c1, .slice q2 n2 c2] 27)))
  have HB := Lib.hid (below_alloc (below_via HB.out hB) (.cells #[.slice q1 n1 c1, .slice q2 n2 c2] 27))
  have HK := Lib.hid hk
  clear hS hB hk hd
  obtain ⟨X, hX⟩ : ∃ x, w1.heap.size = x := ⟨_, rfl⟩
  obtain ⟨w2, hw2⟩ : ∃ x, w1.alloc (.cells #[.slice q1 n1 c1, .slice q2 n2 c2] 27) = x := ⟨_, rfl⟩
  rw [hw2] at HR HX HS HB
  rw [hX] at HX
  have x0 := HX.out.cell (j := 0) (by simp)
  have x1 := HX.out.cell (j := 1) (by simp)
  have r0 := HR.out.cell (j := 0) (by simp)
  have r1 := HR.out.cell (j := 1) (by simp)
  have f0 := HR.out.free 0
  have f1 := HR.out.free 1
  simp at x0 x1 r0 r1
  have HB3 := Lib.hid ((HB.out.setCell (p := ⟨w.heap.size, 0, none⟩) (Nat.le_refl _) (.slice q1 n1 c1)).setCell (p := ⟨w.heap.size, 1, none⟩) (Nat.le_refl _) (.slice q2 n2 c2))
  have HR2 := Lib.hid (HR.out.set 0 (.slice q1 n1 c1))
  simp only [List.setIfInBounds_toArray, List.set_cons_zero] at HR2
  have HS2 := Lib.hid ((HS.out.put HR.out 0 (.slice q1 n1 c1)).put HR2.out 1 (.slice q2 n2 c2))
  have hbF := (HR.out.set 0 (.slice q1 n1 c1)).set 1 (.slice q2 n2 c2)
  simp only [List.setIfInBounds_toArray, List.set_cons_zero, List.set_cons_succ] at hbF
  have HBF := Lib.hid hbF
  clear hbF
  go_wp2
  have hbF := HBF.out
  unfold Row at hbF
  exact bodyPost_ret (v := .tuple #[.agg #[.slice q1 n1 c1, .slice q2 n2 c2], .string key, .int .i64 ver]) (by simp [results, Tryz.results6, go_sem, World.cell?, hbF]) rfl ⟨q1, n1, c1, q2, n2, c2, l, m, key, ver, rfl, HS2.out, HK.out, HB3.out⟩

set_option maxHeartbeats 8000000 in
theorem fnDel_walk (w : World) (a : Option Addr) (len cap : Nat) (A : ErrA) (h : Src w a len) (hA : TabsEA A w) :
    Calls Tryz.prog 3 #[.slice a len cap] w fun e w' => e = .returned (.bool true) ∧ Below w.heap.size w w' := by
  have H := Lib.hid h
  have HTA := Lib.hid hA
  clear h hA
  by_cases hbig : 1048576 < len
  · go_enter Tryz.func3, Tryz.ntmps3
    go_wp2_with (go_at_call 5; refine (big_yes _ _ _ _ hbig).mono ?_; rintro e w' ⟨rfl, rfl⟩)
    go_ret
    exact ⟨rfl, Below.refl _ _⟩
  go_enter Tryz.func3, Tryz.ntmps3
  go_wp2_with (go_at_call 5; refine (big_no _ _ _ _ hbig).mono ?_; rintro e w' ⟨rfl, rfl⟩)
  refine (drawdel_any _ _ _ _ H.out).mono ?_
  rintro e w1 ⟨q1, n1, c1, q2, n2, c2, l, m, key, ver, rfl, hS, hk, hB1⟩
  obtain ⟨R, hR⟩ := isDel_some l m key ver
  have HSP := Lib.hid (isDel_sto hR)
  have HRI := Lib.hid hR
  clear hR
  obtain ⟨L, hL⟩ : ∃ L, resO R = L := ⟨_, rfl⟩
  obtain ⟨M, hM⟩ : ∃ M, resG R = M := ⟨_, rfl⟩
  obtain ⟨nl, hnl⟩ : ∃ n, L.length = n := ⟨_, rfl⟩
  obtain ⟨nm, hnm⟩ : ∃ n, M.length = n := ⟨_, rfl⟩
  obtain ⟨C, hC⟩ : ∃ C, R.2.2 = C := ⟨_, rfl⟩
  rw [hL, hM] at HSP
  have hfew := HSP.out.few
  rw [hnl, hnm] at hfew
  have HLM := Lib.hid (fun w e w' => toLD hL hM hnl hnm hC (w := w) e w')
  obtain ⟨R3, hR3⟩ := isCreate_some L M key ⟨#[120]⟩
  have HF := Lib.hid (fun (h0 : C = 0) (hv : ver ≠ 1000000) => del_facts HRI.out (hC.trans h0) hL hM hv hR3)
  have HNL := Lib.hid hnl
  have HR3 := Lib.hid hR3
  clear hL hM hnl hnm hC hR3
  have HS := Lib.hid hS
  have HB1 := Lib.hid hB1
  have HKS := Lib.hid (show key.size ≤ maxLen by unfold maxLen; omega)
  have hf1 := hS.few1
  have hf2 := hS.few2
  have HLL := Lib.hid hS.at_.at_.o.length
  have HMM := Lib.hid hS.at_.at_.d.length
  clear hS hB1 hk
  go_wp2_with fail
  have HS2 := Lib.hid (HS.out.keep (below_alloc (Below.refl _ _) (.cells #[.slice q1 n1 c1, .slice q2 n2 c2] 27)))
  refine ((pde_any _ _ _ _ _ _ l m A key ver R _ HS2.out.at_.at_ (by omega) (by omega) ((HTA.out.keep HB1.out).keep (below_alloc (Below.refl _ _) _)) HKS.out HRI.out).mono (HLM.out _)).mono ?_
  rintro e w2 ⟨q3, c3, q4, c4, rfl, hB2, hK2⟩
  have HB2 := Lib.hid hB2
  have HK2 := Lib.hid hK2
  clear hB2 hK2
  have HSS := Lib.hid ((HS2.out.keep HB2.out).keep (below_alloc (Below.refl _ _) (.cells #[.slice q3 nl c3, .slice q4 nm c4] 27)))
  have s0 := (((Row.new w1 27 #[.slice q1 n1 c1, .slice q2 n2 c2]).keep HB2.out).alloc (.cells #[.slice q3 nl c3, .slice q4 nm c4] 27)).cell (j := 0) (by simp)
  have s1 := (((Row.new w1 27 #[.slice q1 n1 c1, .slice q2 n2 c2]).keep HB2.out).alloc (.cells #[.slice q3 nl c3, .slice q4 nm c4] 27)).cell (j := 1) (by simp)
  simp at s0 s1
  go_wp2_with fail
  clear s0 s1
  refine ((sdel_any _ _ _ _ _ _ l m key ver R _ HSS.out.at_ (by omega) (by omega) HKS.out HRI.out).mono (HLM.out _)).mono ?_
  rintro e w3 ⟨q5, c5, q6, c6, rfl, hB3, hK3⟩
  have HP := Lib.hid (LP.mk' HB1.out HS.out HB2.out HK2.out hB3 hK3 HSP.out)
  clear hB3 hK3 HS2 HSS HK2 HS
  obtain ⟨S, hS⟩ : ∃ x, w1.heap.size = x := ⟨_, rfl⟩
  obtain ⟨T, hT⟩ : ∃ x, w2.heap.size = x := ⟨_, rfl⟩
  obtain ⟨U, hU⟩ : ∃ x, w3.heap.size = x := ⟨_, rfl⟩
  obtain ⟨w4, hw4⟩ : ∃ x, w3.alloc (.cells #[.slice q5 nl c5, .slice q6 nm c6] 27) = x := ⟨_, rfl⟩
  rw [hS, hT, hU, hw4] at HP
  obtain ⟨t0, t1⟩ := row_two HP.out.rt
  obtain ⟨u0, u1⟩ := row_two HP.out.ru
  go_wp2_with fail
  clear hw4 hS hT hU t0 t1 u0 u1 HB2 HB1
  refine (samesto_same _ _ _ _ nl _ _ nm _ _ L M _ HP.out.t.at_ HP.out.u).mono ?_
  rintro e w5 ⟨rfl, hB⟩
  have HP := Lib.hid (HP.out.keep hB)
  clear hB
  obtain ⟨t0, t1⟩ := row_two HP.out.rt
  obtain ⟨u0, u1⟩ := row_two HP.out.ru
  by_cases h0 : C = 0
  · by_cases hv : ver = 1000000
    · subst hv
      subst h0
      go_wp2_with fail
      clear t0 t1 u0 u1
      refine (samesto_same _ _ _ _ nl _ _ nm _ _ L M _ HP.out.t.at_ HP.out.u).mono ?_
      rintro e w6 ⟨rfl, hB⟩
      have HB := Lib.hid (below_via HP.out.below hB)
      clear hB
      go_wp2
      go_ret
      exact ⟨rfl, HB.out⟩
    obtain ⟨hg, hvr, h3, hl3, hm3, hv1, hv2, hsp⟩ := HF.out h0 hv
    have HG := Lib.hid hg
    have HVR := Lib.hid hvr
    have H3 := Lib.hid h3
    have HL3 := Lib.hid (hl3.trans HLL.out)
    have HM3 := Lib.hid (hm3.trans HMM.out)
    have hvb : (ver == 1000000) = false := by rw [beq_eq_false_iff_ne]; exact hv
    subst h0
    clear hg hvr h3 hl3 hm3 HF hv
    go_wp2_with fail
    clear u0 u1
    refine (get_any _ _ _ _ _ _ L M key _ HP.out.t.at_).mono ?_
    rw [HG.out]
    rintro e w6 ⟨rfl, hB⟩
    have HP := Lib.hid ((HP.out.keep hB).al (.cells #[.string ⟨#[]⟩, .int .i64 0, .string ⟨#[]⟩] 34))
    clear hB t0 t1
    obtain ⟨t0, t1⟩ := row_two HP.out.rt
    go_wp2_with fail
    clear t0 t1
    refine (pcre_any _ _ _ _ _ _ L M A key ⟨#[120]⟩ R3 _ HP.out.t.at_ (by omega) (by omega) (HTA.out.keep HP.out.below) HKS.out (by decide) HR3.out).mono ?_
    rintro e w8 ⟨q7, n7, c7, q8, n8, c8, rfl, hB, hK⟩
    have hn7 : n7 = n1 := by rw [← HL3.out]; exact hK.len1.symm
    have hn8 : n8 = n2 := by rw [← HM3.out]; exact hK.len2.symm
    subst hn7 hn8
    rw [H3.out]
    have HP := Lib.hid ((HP.out.keep hB).al (.cells #[.slice q7 n7 c7, .slice q8 n8 c8] 27))
    have HX := Lib.hid (Row.new w8 27 #[.slice q7 n7 c7, .slice q8 n8 c8])
    obtain ⟨X, hX⟩ : ∃ x, w8.heap.size = x := ⟨_, rfl⟩
    obtain ⟨w9, hw9⟩ : ∃ x, w8.alloc (.cells #[.slice q7 n7 c7, .slice q8 n8 c8] 27) = x := ⟨_, rfl⟩
    rw [hw9] at HP HX
    rw [hX] at HX
    clear hB hK
    obtain ⟨t0, t1⟩ := row_two HP.out.rt
    go_wp2_with fail
    clear hw9 hX t0 t1
    refine (ver_any _ _ _ _ _ _ L M key _ HP.out.t.at_).mono ?_
    rw [HVR.out]
    rintro e w10 ⟨rfl, hB⟩
    have HP := Lib.hid (HP.out.keep hB)
    have HX := Lib.hid (HX.out.keep hB)
    clear hB
    obtain ⟨t0, t1⟩ := row_two HP.out.rt
    go_wp2_with fail
    clear t0 t1
    refine (storeok_any _ _ _ _ _ _ L M _ HP.out.t.at_ (by omega) (by omega)).mono ?_
    rintro e w12 ⟨b, rfl, hb, hB⟩
    obtain rfl : b = true := hb.2 hsp
    have HP := Lib.hid (HP.out.keep hB)
    have HX := Lib.hid (HX.out.keep hB)
    clear hB hb
    obtain ⟨s0, s1⟩ := row_two HP.out.rs
    obtain ⟨x0, x1⟩ := row_two HX.out
    go_wp2
    go_ret
    exact ⟨rfl, HP.out.below⟩
  · have h0b : (C == 0) = false := by rw [beq_eq_false_iff_ne]; exact h0
    go_wp2_with fail
    clear t0 t1 u0 u1
    refine (samesto_same _ _ _ _ nl _ _ nm _ _ L M _ HP.out.t.at_ HP.out.u).mono ?_
    rintro e w6 ⟨rfl, hB⟩
    have HB := Lib.hid (below_via HP.out.below hB)
    clear hB
    go_wp2
    go_ret
    exact ⟨rfl, HB.out⟩
end Go.Proofs.YtblpebdjbenphaaGreatDoor
