
/- The law on Create, walked: drawn stores, keys and data. -/
import Derived.Test.YtblpebdjbenphaaDoorLawS
namespace Go.Proofs.YtblpebdjbenphaaDoor
open Go.ChangeShapes Go.WideShapes Go.ChangeAt Go.RowKit
set_option linter.unusedVariables false
set_option maxRecDepth 100000

theorem cre_facts {l : Objs} {m : Gones} {key data : ByteArray} {R : Els × Int × Int} {L : Objs} {M : Gones} (h : IsCreate l m key data R) (h0 : R.2.2 = 0) (hL : resO R = L) (hM : resG R = M) :
    getAux key L = ((key, R.2.1, data), true) ∧ (∀ i, i < l.length → getAux (obj0 l i) L = ((obj0 l i, obj1 l i, obj2 l i), true)) ∧ R.2.1 = verB key l m + 1 ∧ 0 ≤ verB key l m ∧ verB key l m < 1000000 ∧ L.length = l.length + 1 ∧ StoP L M ∧ StoP l m := by
  have hst := isCreate_sto h
  obtain ⟨E, E', hE, hep, hep', hR, hE', hkb, hds, hob, hv1, hv2⟩ := cre_done h h0
  rw [hL, hM] at hst
  have hL' : objsOf E' = L := by rw [← hL, (res_yes h0).1, hR]
  have hlm := els_back (l := l) (m := m)
  rw [hE] at hlm
  have hver : verB key l m = verE (lookE key E) := by rw [← hlm.1, ← hlm.2]; exact ver_look hep.inc
  have hlk : lookE key E' = some (verE (lookE key E) + 1, data, false) := by rw [hE']; exact look_put_same
  refine ⟨?_, fun i hi => ?_, by rw [hR, hver], by rw [hver]; exact hv1, by rw [hver]; exact hv2, ?_, hst, ?_⟩
  · rw [← hL', get_look hep'.inc, hlk, hR]; simp [getE]
  · have hmem : (obj0 l i, obj1 l i, obj2 l i) ∈ l := by
      have e : (obj0 l i, obj1 l i, obj2 l i) = l[i] := by
        unfold obj0 obj1 obj2
        rw [List.getD_eq_getElem?_getD, List.getElem?_eq_getElem hi]; rfl
      rw [e]; exact List.getElem_mem _
    have hin : (obj0 l i, obj1 l i, obj2 l i, false) ∈ E := by
      have hmem : (obj0 l i, obj1 l i, obj2 l i) ∈ objsOf E := by rw [hlm.1]; exact hmem
      exact objs_of_mem (y := (obj0 l i, obj1 l i, obj2 l i)) hmem
    have hlo := lookE_of (apart_inc hep.inc) hin
    have hne : obj0 l i ≠ key := fun he => by
      rw [← he] at hob
      simp only at hlo
      rw [hlo] at hob
      simp [obIs] at hob
    rw [← hL', get_look hep'.inc, hE', look_put_other hne]
    simp only at hlo
    rw [hlo]; simp [getE]
  · have := objs_len_put (key := key) (e := (verE (lookE key E) + 1, data, false)) hep.inc
    rw [hob] at this
    simp only [bn, Bool.not_false, if_true, Bool.false_eq_true, if_false] at this
    rw [← hL', hE', ← hlm.1]
    omega
  · by_cases hc : StoP l m
    · exact hc
    · rw [h.2 (fun k => hc k.1)] at h0; simp at h0

set_option maxHeartbeats 8000000 in
theorem fnCreate_walk (w : World) (a : Option Addr) (len cap : Nat) (A : ErrA) (h : Src w a len) (hA : TabsEA A w) :
    Calls Tryd.prog 3 #[.slice a len cap] w fun e w' => e = .returned (.bool true) ∧ Below w.heap.size w w' := by
  have H := Lib.hid h
  have HTA := Lib.hid hA
  clear h hA
  by_cases hbig : 1048576 < len
  · go_enter Tryd.func3, Tryd.ntmps3
    go_wp2_with (go_at_call 7; refine (big_yes _ _ _ _ hbig).mono ?_; rintro e w' ⟨rfl, rfl⟩)
    go_ret
    exact ⟨rfl, Below.refl _ _⟩
  go_enter Tryd.func3, Tryd.ntmps3
  go_wp2_with (go_at_call 7; refine (big_no _ _ _ _ hbig).mono ?_; rintro e w' ⟨rfl, rfl⟩)
  refine (drawcre_any _ _ _ _ H.out).mono ?_
  rintro e w1 ⟨q1, n1, c1, q2, n2, c2, l, m, key, data, rfl, hS, hk, hd, hB1⟩
  obtain ⟨R, hR⟩ := isCreate_some l m key data
  have HSP := Lib.hid (isCreate_sto hR)
  have HRI := Lib.hid hR
  clear hR
  obtain ⟨L, hL⟩ : ∃ L, resO R = L := ⟨_, rfl⟩
  obtain ⟨M, hM⟩ : ∃ M, resG R = M := ⟨_, rfl⟩
  obtain ⟨nl, hnl⟩ : ∃ n, L.length = n := ⟨_, rfl⟩
  obtain ⟨nm, hnm⟩ : ∃ n, M.length = n := ⟨_, rfl⟩
  obtain ⟨V, hV⟩ : ∃ V, R.2.1 = V := ⟨_, rfl⟩
  obtain ⟨C, hC⟩ : ∃ C, R.2.2 = C := ⟨_, rfl⟩
  rw [hL, hM] at HSP
  have hfew := HSP.out.few
  rw [hnl, hnm] at hfew
  have HLM := Lib.hid (fun w e w' => toLM hL hM hnl hnm hV hC (w := w) e w')
  have HF := Lib.hid (fun (h0 : C = 0) => cre_facts HRI.out (hC.trans h0) hL hM)
  have HVV := Lib.hid hV
  have HNL := Lib.hid hnl
  clear hL hM hnl hnm hV hC
  have HS := Lib.hid hS
  have HB1 := Lib.hid hB1
  have HKS := Lib.hid (show key.size ≤ maxLen by unfold maxLen; omega)
  have HDS := Lib.hid (show data.size ≤ maxLen by unfold maxLen; omega)
  have hf1 := hS.few1
  have hf2 := hS.few2
  have HLL := Lib.hid hS.at_.at_.o.length
  clear hS hB1 hk hd
  go_wp2_with fail
  have HS2 := Lib.hid (HS.out.keep (below_alloc (Below.refl _ _) (.cells #[.slice q1 n1 c1, .slice q2 n2 c2] 27)))
  refine ((pcre_any _ _ _ _ _ _ l m A key data R _ HS2.out.at_.at_ (by omega) (by omega) ((HTA.out.keep HB1.out).keep (below_alloc (Below.refl _ _) _)) HKS.out HDS.out HRI.out).mono (HLM.out _)).mono ?_
  rintro e w2 ⟨q3, c3, q4, c4, rfl, hB2, hK2⟩
  have HB2 := Lib.hid hB2
  have HK2 := Lib.hid hK2
  clear hB2 hK2
  have HSS := Lib.hid ((HS2.out.keep HB2.out).keep (below_alloc (Below.refl _ _) (.cells #[.slice q3 nl c3, .slice q4 nm c4] 27)))
  have s0 := (((Row.new w1 27 #[.slice q1 n1 c1, .slice q2 n2 c2]).keep HB2.out).alloc (.cells #[.slice q3 nl c3, .slice q4 nm c4] 27)).cell (j := 0) (by simp)
  have s1 := (((Row.new w1 27 #[.slice q1 n1 c1, .slice q2 n2 c2]).keep HB2.out).alloc (.cells #[.slice q3 nl c3, .slice q4 nm c4] 27)).cell (j := 1) (by simp)
  simp at s0 s1
  go_wp2_with fail
  clear s0 s1
  refine ((screate_any _ _ _ _ _ _ l m key data R _ HSS.out.at_ (by omega) (by omega) HKS.out HDS.out HRI.out).mono (HLM.out _)).mono ?_
  rintro e w3 ⟨q5, c5, q6, c6, rfl, hB3, hK3⟩
  have HP := Lib.hid (LP.mk' HB1.out HS.out HB2.out HK2.out hB3 hK3 HSP.out)
  clear hB3 hK3 HS2 HSS HK2 HS
  obtain ⟨S, hS⟩ : ∃ x, w1.heap.size = x := ⟨_, rfl⟩
  obtain ⟨T, hT⟩ : ∃ x, w2.heap.size = x := ⟨_, rfl⟩
  obtain ⟨U, hU⟩ : ∃ x, w3.heap.size = x := ⟨_, rfl⟩
  obtain ⟨w4, hw4⟩ : ∃ x, w3.alloc (.cells #[.slice q5 nl c5, .slice q6 nm c6] 27) = x := ⟨_, rfl⟩
  rw [hS, hT, hU, hw4] at HP
  obtain ⟨t0, t1⟩ := row_two HP.out.rt
  obtain ⟨u0, u1⟩ := row_two HP.out.ru
  go_wp2_with fail
  clear hw4 hS hT hU t0 t1 u0 u1 HB2 HB1
  obtain ⟨t0, t1⟩ := row_two HP.out.rt
  obtain ⟨u0, u1⟩ := row_two HP.out.ru
  obtain ⟨s0, s1⟩ := row_two HP.out.rs
  have HP := Lib.hid (HP.out.keep (below_drewN (Below.refl _ _) 1))
  go_wp2_with fail
  go_region_held3 (fun w' => w'.cell? ⟨T, 0, none⟩ = some (.slice q3 nl c3) ∧ w'.cell? ⟨T, 1, none⟩ = some (.slice q4 nm c4) ∧ w'.cell? ⟨U, 0, none⟩ = some (.slice q5 nl c5) ∧ w'.cell? ⟨U, 1, none⟩ = some (.slice q6 nm c6) ∧ w'.cell? ⟨S, 0, none⟩ = some (.slice q1 n1 c1) ∧ w'.cell? ⟨S, 1, none⟩ = some (.slice q2 n2 c2))
    (exact ⟨(row_two HP.out.rt).1, (row_two HP.out.rt).2, (row_two HP.out.ru).1, (row_two HP.out.ru).2, (row_two HP.out.rs).1, (row_two HP.out.rs).2⟩)
    (first
    | (go_at_call 11; refine (samesto_same _ _ _ _ nl _ _ nm _ _ L M _ HP.out.t.at_ HP.out.u).mono ?_; rintro e wa ⟨rfl, hB⟩; have HP := Lib.hid (HP.out.keep hB); clear hB)
    | (go_at_call 12; refine (storeok_any _ _ _ _ _ _ l m _ HP.out.s.at_.at_ (by omega) (by omega)).mono ?_; rintro e wb ⟨b1, rfl, hb1, hB⟩; have HP := Lib.hid (HP.out.keep hB); have HB1 := Lib.hid hb1; clear hB hb1)
    | (go_at_call 13; refine (sstoreok_any _ _ _ _ _ _ l m _ HP.out.s.at_.at_ (by omega) (by omega)).mono ?_; rintro e wc ⟨b2, rfl, hb2, hB⟩; have HP := Lib.hid (HP.out.keep hB); obtain rfl : b2 = b1 := (by have h1 := HB1.out; cases b1 <;> cases b2 <;> simp_all); clear hB hb2))
  by_cases h0 : C = 0
  · obtain ⟨hg, hgi, hvr, hv1, hv2, hln, hsp, hsp1⟩ := HF.out h0
    have HG := Lib.hid hg
    have HGI := Lib.hid hgi
    have HB2 := Lib.hid hsp
    obtain ⟨V0, hV0⟩ : ∃ V0, verB key l m = V0 := ⟨_, rfl⟩
    have HV0 := Lib.hid hV0
    rw [hV0] at hvr hv1 hv2
    have hvv : V = V0 + 1 := by rw [← HVV.out]; exact hvr
    have hnn : nl = n1 + 1 := by rw [← HNL.out, ← HLL.out]; exact hln
    rw [HVV.out] at HG
    subst hvv
    subst h0
    subst hnn
    clear hg hgi hvr hln HF hV0 hsp hsp1 t0 t1 u0 u1 s0 s1
    obtain ⟨t0, t1⟩ := row_two HP.out.rt
    go_wp2_with fail
    clear t0 t1
    refine (get_any _ _ _ _ _ _ L M key _ HP.out.t.at_).mono ?_
    rw [HG.out]
    rintro e w6 ⟨rfl, hB⟩
    have HP := Lib.hid ((HP.out.keep hB).al (.cells #[.string key, .int .i64 (V0 + 1), .string data] 35))
    have HO := Lib.hid (Row.new w6 35 #[.string key, .int .i64 (V0 + 1), .string data])
    obtain ⟨O, hO⟩ : ∃ x, w6.heap.size = x := ⟨_, rfl⟩
    obtain ⟨w7, hw7⟩ : ∃ x, w6.alloc (.cells #[.string key, .int .i64 (V0 + 1), .string data] 35) = x := ⟨_, rfl⟩
    rw [hw7] at HP HO
    rw [hO] at HO
    clear hB
    go_wp2_with fail
    clear hw7 hO
    go_loopw [14] (fun i wr => ∃ k : Nat, k ≤ n1 ∧ i = .int .i64 k ∧ Hid (LP w S T U q1 n1 c1 q2 n2 c2 l m q3 c3 q4 c4 q5 c5 q6 c6 (n1 + 1) nm L M wr ∧ Row wr O 35 #[.string key, .int .i64 (V0 + 1), .string data])) (fun i _ => n1 - (intOf i).toNat)
    case atStart => exact ⟨0, Nat.zero_le _, rfl, HP.out, HO.out⟩
    case round =>
      obtain ⟨k, hk, rfl, HX⟩ := hrel
      clear HP HO
      have HP := Lib.hid HX.out.1
      have HO := Lib.hid HX.out.2
      clear HX
      obtain ⟨s0, s1⟩ := row_two HP.out.rs
      by_cases hlt : k < n1
      · have hi0 : (0 : Int) ≤ (k : Int) := by omega
        have hi1 : (k : Int) < (n1 : Int) := by omega
        have HGK := Lib.hid (HGI.out k (by rw [HLL.out]; exact hlt))
        rcases HP.out.s.at_.at_.o.src with hz | ⟨b, off, rfl, hb, hc⟩
        · omega
        obtain ⟨o0, o1, o2⟩ := hc k hlt
        obtain ⟨kk, hkk⟩ : ∃ x, obj0 l k = x := ⟨_, rfl⟩
        obtain ⟨vv, hvv⟩ : ∃ x, obj1 l k = x := ⟨_, rfl⟩
        obtain ⟨dd, hdd⟩ : ∃ x, obj2 l k = x := ⟨_, rfl⟩
        rw [hkk] at o0 HGK
        rw [hvv] at o1 HGK
        rw [hdd] at o2 HGK
        have HKK := Lib.hid hkk
        have HVV2 := Lib.hid hvv
        have HDD := Lib.hid hdd
        clear hc hkk hvv hdd
        have HBB := Lib.hid hb
        obtain ⟨t0, t1⟩ := row_two HP.out.rt
        go_wp2_with fail
        clear s0 s1 o0 o1 o2 t0 t1 HBB hb
        refine wp_region_noPanic ?_
        have HP := Lib.hid (HP.out.keep (below_drewN (Below.refl _ _) 1))
        have HO := Lib.hid (HO.out.drewN 1)
        obtain ⟨v0, hv0⟩ : ∃ x, wr.drew = x := ⟨_, rfl⟩
        have HP : Hid (LP w S T U (some ⟨b, off, none⟩) n1 c1 q2 n2 c2 l m q3 c3 q4 c4 q5 c5 q6 c6 (n1 + 1) nm L M v0) := (by rw [← hv0]; exact HP)
        have HO : Hid (Row v0 O 35 #[.string key, .int .i64 (V0 + 1), .string data]) := (by rw [← hv0]; exact HO)
        refine wp_region_held_drew (S := (fun w' => (w'.cell? ⟨T, 0, none⟩ = some (.slice q3 (n1 + 1) c3) ∧ w'.cell? ⟨T, 1, none⟩ = some (.slice q4 nm c4)) ∧ w'.cell? ⟨S, 0, none⟩ = some (.slice (some ⟨b, off, none⟩) n1 c1) ∧ w'.cell? ⟨b, off + k * 3, none⟩ = some (.string kk))) (by kernel_rfl) (by rw [hv0]; exact ⟨row_two HP.out.rt, (row_two HP.out.rs).1, by rw [← HKK.out]; exact (HP.out.look rfl hlt).1⟩) (fun HS => ?_)
        rw [hv0] at HS ⊢
        clear hv0
        refine held_take (i := 0) (d := 100) (v := .agg #[.slice q3 (n1 + 1) c3, .slice q4 nm c4]) rfl rfl (by kernel_rfl) (by kernel_rfl) (by kernel_rfl) (by kernel_rfl) (fun wx hS => by have e0 := hS.1.1; have e1 := hS.1.2; go_simp) HS ?_
        refine held_take (i := 1) (d := 101) (v := .pointer (some ⟨S, 0, none⟩)) rfl rfl (by kernel_rfl) (by kernel_rfl) (by kernel_rfl) (by kernel_rfl) (fun wx hS => by go_simp) HS ?_
        refine held_take (i := 2) (d := 102) (v := .slice (some ⟨b, off, none⟩) n1 c1) rfl rfl (by kernel_rfl) (by kernel_rfl) (by kernel_rfl) (by kernel_rfl) (fun wx hS => by have e0 := hS.2.1; go_simp) HS ?_
        refine held_take (i := 3) (d := 103) (v := .int .i64 (k : Int)) rfl rfl (by kernel_rfl) (by kernel_rfl) (by kernel_rfl) (by kernel_rfl) (fun wx hS => by go_simp) HS ?_
        refine held_take (i := 4) (d := 104) (v := .pointer (some ⟨b, off + k * 3, none⟩)) rfl rfl (by kernel_rfl) (by kernel_rfl) (by kernel_rfl) (by kernel_rfl) (fun wx hS => by go_simp) HS ?_
        refine held_take (i := 5) (d := 105) (v := .pointer (some ⟨b, off + k * 3, none⟩)) rfl rfl (by kernel_rfl) (by kernel_rfl) (by kernel_rfl) (by kernel_rfl) (fun wx hS => by go_simp) HS ?_
        refine held_take (i := 6) (d := 106) (v := .string kk) rfl rfl (by kernel_rfl) (by kernel_rfl) (by kernel_rfl) (by kernel_rfl) (fun wx hS => by have e0 := hS.2.2; go_simp) HS ?_
        refine wpAnyH_ready (rs := [7, 11]) (by kernel_rfl) (by simp) (AllReadyH.cons rfl (fun K hK => ?_) (AllReadyH.cons rfl (fun K hK => ?_) AllReadyH.nil))
        · skip
          go_simp
          refine (get_any _ _ _ _ _ _ L M kk _ HP.out.t.at_).mono ?_
          rw [HGK.out]
          rintro e v1 ⟨rfl, hB⟩
          have HP := Lib.hid (HP.out.keep hB)
          have HO := Lib.hid (HO.out.keep hB)
          clear hB
          refine hK.out _ _ ⟨row_two HP.out.rt, (row_two HP.out.rs).1, by rw [← HKK.out]; exact (HP.out.look rfl hlt).1⟩ (fun HS => ?_)
          clear hK K
          refine held_take (i := 8) (d := 99) (v := .tuple #[.agg #[.string kk, .int .i64 vv, .string dd], .bool true]) rfl rfl (by kernel_rfl) (by kernel_rfl) (by kernel_rfl) (by kernel_rfl) (fun wx hS => by go_simp) HS ?_
          refine held_take (i := 9) (d := 108) (v := .agg #[.string kk, .int .i64 vv, .string dd]) rfl rfl (by kernel_rfl) (by kernel_rfl) (by kernel_rfl) (by kernel_rfl) (fun wx hS => by go_simp) HS ?_
          refine held_take (i := 10) (d := 109) (v := .bool true) rfl rfl (by kernel_rfl) (by kernel_rfl) (by kernel_rfl) (by kernel_rfl) (fun wx hS => by go_simp) HS ?_
          refine wpAnyH_ready (rs := [11]) (by kernel_rfl) (by simp) (AllReadyH.cons rfl (fun K hK => ?_) AllReadyH.nil)
          go_simp
          have HPB := HP
          have HOB := HO
          have HX := Lib.hid (Row.new v1 35 #[.string ⟨#[]⟩, .int .i64 0, .string ⟨#[]⟩])
          have HAB := Lib.hid (below_alloc (Below.refl v1.heap.size v1) (.cells #[.string ⟨#[]⟩, .int .i64 0, .string ⟨#[]⟩] 35))
          obtain ⟨X, hX⟩ : ∃ x, v1.heap.size = x := ⟨_, rfl⟩
          obtain ⟨v2, hv⟩ : ∃ x, v1.alloc (.cells #[.string ⟨#[]⟩, .int .i64 0, .string ⟨#[]⟩] 35) = x := ⟨_, rfl⟩
          have HXE := Lib.hid (show v1.heap.size ≤ X from Nat.le_of_eq hX)
          rw [hX, hv] at HX
          rw [hv] at HAB ⊢
          have HP := Lib.hid (HPB.out.keep HAB.out)
          have HO := Lib.hid (HOB.out.keep HAB.out)
          rw [hX]
          refine hK.out _ _ ⟨row_two HP.out.rt, (row_two HP.out.rs).1, by rw [← HKK.out]; exact (HP.out.look rfl hlt).1⟩ (fun HS => ?_)
          clear hK K hX hv
          refine wpAnyH_ready (rs := [12]) (by kernel_rfl) (by simp) (AllReadyH.cons rfl (fun K hK => ?_) AllReadyH.nil)
          have x0 := HX.out.cell (j := 0) (by simp)
          have x1 := HX.out.cell (j := 1) (by simp)
          have x2 := HX.out.cell (j := 2) (by simp)
          have xf0 := HX.out.free 0
          have xf1 := HX.out.free 1
          have xf2 := HX.out.free 2
          simp at x0 x1 x2
          go_simp
          have HX := Lib.hid (((HX.out.set 0 (.string kk)).set 1 (.int .i64 vv)).set 2 (.string dd))
          have HAB := Lib.hid (((HAB.out.setCell (p := ⟨X, 0, none⟩) HXE.out (.string kk)).setCell (p := ⟨X, 1, none⟩) HXE.out (.int .i64 vv)).setCell (p := ⟨X, 2, none⟩) HXE.out (.string dd))
          simp only [List.setIfInBounds_toArray, List.set_cons_zero, List.set_cons_succ] at HX
          obtain ⟨y, hy⟩ : ∃ x, ((v2.setCell ⟨X, 0, none⟩ (.string kk)).setCell ⟨X, 1, none⟩ (.int .i64 vv)).setCell ⟨X, 2, none⟩ (.string dd) = x := ⟨_, rfl⟩
          rw [hy] at HX HAB ⊢
          have HP := Lib.hid (HPB.out.keep HAB.out)
          have HO := Lib.hid (HOB.out.keep HAB.out)
          refine hK.out _ _ ⟨row_two HP.out.rt, (row_two HP.out.rs).1, by rw [← HKK.out]; exact (HP.out.look rfl hlt).1⟩ (fun HS => ?_)
          clear hK K x0 x1 x2 xf0 xf1 xf2 hy
          refine held_take (i := 13) (d := 16) (v := .bool true) rfl rfl (by kernel_rfl) (by kernel_rfl) (by kernel_rfl) (by kernel_rfl) (fun wx hS => by go_simp) HS ?_
          refine wpAnyH_done (by kernel_rfl) (NoPanic.normal ?_) _
          obtain ⟨s0, s1⟩ := row_two HP.out.rs
          obtain ⟨o0, o1, o2⟩ := HP.out.look rfl hlt
          rw [HKK.out] at o0
          rw [HVV2.out] at o1
          rw [HDD.out] at o2
          have x0 := HX.out.cell (j := 0) (by simp)
          have x1 := HX.out.cell (j := 1) (by simp)
          have x2 := HX.out.cell (j := 2) (by simp)
          simp at x0 x1 x2
          go_wp2_with fail
          go_quiet (fail)
          clear s0 s1 o0 o1 o2 x0 x1 x2
          go_wp2
          go_roundw
          case rel => exact ⟨k + 1, by omega, by go_num, HP.out.keep (below_drewN (Below.refl _ _) _), HO.out.drewN _⟩
          case measure => simp [intOf]; omega
        · skip
          go_simp
          have HPB := HP
          have HOB := HO
          have HX := Lib.hid (Row.new v0 35 #[.string ⟨#[]⟩, .int .i64 0, .string ⟨#[]⟩])
          have HAB := Lib.hid (below_alloc (Below.refl v0.heap.size v0) (.cells #[.string ⟨#[]⟩, .int .i64 0, .string ⟨#[]⟩] 35))
          obtain ⟨X, hX⟩ : ∃ x, v0.heap.size = x := ⟨_, rfl⟩
          obtain ⟨v1, hv⟩ : ∃ x, v0.alloc (.cells #[.string ⟨#[]⟩, .int .i64 0, .string ⟨#[]⟩] 35) = x := ⟨_, rfl⟩
          have HXE := Lib.hid (show v0.heap.size ≤ X from Nat.le_of_eq hX)
          rw [hX, hv] at HX
          rw [hv] at HAB ⊢
          have HP := Lib.hid (HPB.out.keep HAB.out)
          have HO := Lib.hid (HOB.out.keep HAB.out)
          rw [hX]
          refine hK.out _ _ ⟨row_two HP.out.rt, (row_two HP.out.rs).1, by rw [← HKK.out]; exact (HP.out.look rfl hlt).1⟩ (fun HS => ?_)
          clear hK K hX hv
          refine wpAnyH_ready (rs := [7]) (by kernel_rfl) (by simp) (AllReadyH.cons rfl (fun K hK => ?_) AllReadyH.nil)
          go_simp
          refine (get_any _ _ _ _ _ _ L M kk _ HP.out.t.at_).mono ?_
          rw [HGK.out]
          rintro e v2 ⟨rfl, hB⟩
          have HP := Lib.hid (HP.out.keep hB)
          have HO := Lib.hid (HO.out.keep hB)
          have HX := Lib.hid (HX.out.keep hB)
          have HAB := Lib.hid (below_via HAB.out hB)
          clear hB
          refine hK.out _ _ ⟨row_two HP.out.rt, (row_two HP.out.rs).1, by rw [← HKK.out]; exact (HP.out.look rfl hlt).1⟩ (fun HS => ?_)
          clear hK K
          refine held_take (i := 8) (d := 99) (v := .tuple #[.agg #[.string kk, .int .i64 vv, .string dd], .bool true]) rfl rfl (by kernel_rfl) (by kernel_rfl) (by kernel_rfl) (by kernel_rfl) (fun wx hS => by go_simp) HS ?_
          refine held_take (i := 9) (d := 108) (v := .agg #[.string kk, .int .i64 vv, .string dd]) rfl rfl (by kernel_rfl) (by kernel_rfl) (by kernel_rfl) (by kernel_rfl) (fun wx hS => by go_simp) HS ?_
          refine held_take (i := 10) (d := 109) (v := .bool true) rfl rfl (by kernel_rfl) (by kernel_rfl) (by kernel_rfl) (by kernel_rfl) (fun wx hS => by go_simp) HS ?_
          refine wpAnyH_ready (rs := [12]) (by kernel_rfl) (by simp) (AllReadyH.cons rfl (fun K hK => ?_) AllReadyH.nil)
          have x0 := HX.out.cell (j := 0) (by simp)
          have x1 := HX.out.cell (j := 1) (by simp)
          have x2 := HX.out.cell (j := 2) (by simp)
          have xf0 := HX.out.free 0
          have xf1 := HX.out.free 1
          have xf2 := HX.out.free 2
          simp at x0 x1 x2
          go_simp
          have HX := Lib.hid (((HX.out.set 0 (.string kk)).set 1 (.int .i64 vv)).set 2 (.string dd))
          have HAB := Lib.hid (((HAB.out.setCell (p := ⟨X, 0, none⟩) HXE.out (.string kk)).setCell (p := ⟨X, 1, none⟩) HXE.out (.int .i64 vv)).setCell (p := ⟨X, 2, none⟩) HXE.out (.string dd))
          simp only [List.setIfInBounds_toArray, List.set_cons_zero, List.set_cons_succ] at HX
          obtain ⟨y, hy⟩ : ∃ x, ((v2.setCell ⟨X, 0, none⟩ (.string kk)).setCell ⟨X, 1, none⟩ (.int .i64 vv)).setCell ⟨X, 2, none⟩ (.string dd) = x := ⟨_, rfl⟩
          rw [hy] at HX HAB ⊢
          have HP := Lib.hid (HPB.out.keep HAB.out)
          have HO := Lib.hid (HOB.out.keep HAB.out)
          refine hK.out _ _ ⟨row_two HP.out.rt, (row_two HP.out.rs).1, by rw [← HKK.out]; exact (HP.out.look rfl hlt).1⟩ (fun HS => ?_)
          clear hK K x0 x1 x2 xf0 xf1 xf2 hy
          refine held_take (i := 13) (d := 16) (v := .bool true) rfl rfl (by kernel_rfl) (by kernel_rfl) (by kernel_rfl) (by kernel_rfl) (fun wx hS => by go_simp) HS ?_
          refine wpAnyH_done (by kernel_rfl) (NoPanic.normal ?_) _
          obtain ⟨s0, s1⟩ := row_two HP.out.rs
          obtain ⟨o0, o1, o2⟩ := HP.out.look rfl hlt
          rw [HKK.out] at o0
          rw [HVV2.out] at o1
          rw [HDD.out] at o2
          have x0 := HX.out.cell (j := 0) (by simp)
          have x1 := HX.out.cell (j := 1) (by simp)
          have x2 := HX.out.cell (j := 2) (by simp)
          simp at x0 x1 x2
          go_wp2_with fail
          go_quiet (fail)
          clear s0 s1 o0 o1 o2 x0 x1 x2
          go_wp2
          go_roundw
          case rel => exact ⟨k + 1, by omega, by go_num, HP.out.keep (below_drewN (Below.refl _ _) _), HO.out.drewN _⟩
          case measure => simp [intOf]; omega
      · obtain rfl : k = n1 := by omega
        obtain ⟨t0, t1⟩ := row_two HP.out.rt
        have o0 := HO.out.cell (j := 0) (by simp)
        have o1 := HO.out.cell (j := 1) (by simp)
        have o2 := HO.out.cell (j := 2) (by simp)
        simp at o0 o1 o2
        go_wp2_with fail
        clear t0 t1 s0 s1 o0 o1 o2
        refine (ver_any _ _ _ _ _ _ l m key _ HP.out.s.at_.at_).mono ?_
        rw [HV0.out]
        rintro e w8 ⟨rfl, hB⟩
        have HP := Lib.hid (HP.out.keep hB)
        clear hB
        obtain ⟨t0, t1⟩ := row_two HP.out.rt
        obtain ⟨s0, s1⟩ := row_two HP.out.rs
        go_wp2_with fail
        clear t0 t1 s0 s1
        refine (storeok_any _ _ _ _ _ _ L M _ HP.out.t.at_ (by omega) (by omega)).mono ?_
        rintro e w9 ⟨bb, rfl, hbb, hB⟩
        obtain rfl : bb = true := hbb.2 HB2.out
        have HB := Lib.hid (below_via HP.out.below hB)
        clear hB hbb
        go_wp2
        go_ret
        exact ⟨rfl, HB.out⟩
  · have h0b : (C == 0) = false := by rw [beq_eq_false_iff_ne]; exact h0
    clear t0 t1 u0 u1 s0 s1
    have HP := Lib.hid (HP.out.keep (below_drewN (Below.refl _ _) 1))
    go_wp2_with fail
    go_region_held3 (fun w' => w'.cell? ⟨T, 0, none⟩ = some (.slice q3 nl c3) ∧ w'.cell? ⟨T, 1, none⟩ = some (.slice q4 nm c4) ∧ w'.cell? ⟨U, 0, none⟩ = some (.slice q5 nl c5) ∧ w'.cell? ⟨U, 1, none⟩ = some (.slice q6 nm c6) ∧ w'.cell? ⟨S, 0, none⟩ = some (.slice q1 n1 c1) ∧ w'.cell? ⟨S, 1, none⟩ = some (.slice q2 n2 c2))
      (exact ⟨(row_two HP.out.rt).1, (row_two HP.out.rt).2, (row_two HP.out.ru).1, (row_two HP.out.ru).2, (row_two HP.out.rs).1, (row_two HP.out.rs).2⟩)
      (first
    | (go_at_call 11; refine (samesto_same _ _ _ _ nl _ _ nm _ _ L M _ HP.out.t.at_ HP.out.u).mono ?_; rintro e wa ⟨rfl, hB⟩; have HP := Lib.hid (HP.out.keep hB); clear hB)
    | (go_at_call 12; refine (storeok_any _ _ _ _ _ _ l m _ HP.out.s.at_.at_ (by omega) (by omega)).mono ?_; rintro e wb ⟨b1, rfl, hb1, hB⟩; have HP := Lib.hid (HP.out.keep hB); have HB1 := Lib.hid hb1; clear hB hb1)
    | (go_at_call 13; refine (sstoreok_any _ _ _ _ _ _ l m _ HP.out.s.at_.at_ (by omega) (by omega)).mono ?_; rintro e wc ⟨b2, rfl, hb2, hB⟩; have HP := Lib.hid (HP.out.keep hB); obtain rfl : b2 = b1 := (by have h1 := HB1.out; cases b1 <;> cases b2 <;> simp_all); clear hB hb2))
    go_wp2
    go_ret
    exact ⟨rfl, HP.out.below⟩
end Go.Proofs.YtblpebdjbenphaaDoor
