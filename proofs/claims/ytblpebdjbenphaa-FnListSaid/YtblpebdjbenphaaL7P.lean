
/- The model's command l7Put on stores that may be read. Only new blocks are made. -/
import Derived.Test.YtblpebdjbenphaaL7K
namespace Go.Proofs.Ytblpebdjbenphaa
open Go.ChangeShapes Go.WideShapes Go.ChangeAt Go.RowKit
set_option linter.unusedVariables false
set_option maxRecDepth 100000

set_option maxHeartbeats 4000000 in
theorem l7put_any (a g : Option Addr) (la ca lg cg : Nat) (E : Els) (key : ByteArray) (ver : Int) (data : ByteArray) (w : World) (hE : EP E) (h : StoI w a la ca (objsOf E) g lg cg (gonsOf E)) :
    Calls Try.prog 44 #[.agg #[.slice a la ca, .slice g lg cg], .string key, .int .i64 ver, .string data] w (MadeSR (replE key ver data E) w) := by
  have HS := Lib.hid h
  have HE := Lib.hid hE
  have hm := h.capo.2
  have hm2 := h.capg.2
  have hca := h.capo.1
  have hcg := h.capg.1
  unfold maxLen at hm hm2
  have hla : (objsOf E).length = la := h.at_.o.length
  have hlg : (gonsOf E).length = lg := h.at_.d.length
  have hfew := hE.few
  have hsum := objs_gons_len E
  rw [hla, hlg] at hsum
  have HLA := Lib.hid hla
  have HLG := Lib.hid hlg
  obtain ⟨W0, hW0⟩ : ∃ W0, (w.alloc (.cells #[.slice a la ca, .slice g lg cg] 27)).alloc (.cells #[.slice none 0 0, .slice none 0 0] 27) = W0 := ⟨_, rfl⟩
  have HB := Lib.hid (show Below w.heap.size w W0 by rw [← hW0]; exact below_alloc (below_alloc (Below.refl _ _) _) _)
  have HX := Lib.hid (show Row W0 w.heap.size 27 #[.slice a la ca, .slice g lg cg] by rw [← hW0]; exact (row_new _ _ _).al _)
  have HR := Lib.hid (show Row W0 (w.heap.size + 1) 27 #[.slice none 0 0, .slice none 0 0] by rw [← hW0]; exact row_new1 _ _ _ _)
  have HW0 := Lib.hid hW0
  clear h hE hW0 hla hlg
  go_enter Try.func44, Try.ntmps44
  go_wp2_with fail
  rw [HW0.out]
  obtain ⟨p, hp⟩ : ∃ p, posT (okeys (objsOf E)) key = p := ⟨_, rfl⟩
  have hpl : p ≤ la := by
    have := posT_le (okeys (objsOf E)) key
    rw [hp, okeys_len, HLA.out] at this; exact this
  have HP := Lib.hid hp
  clear hp
  refine (l7find_any _ _ _ _ _ _ _ _ _ _ (HS.out.at_.keep HB.out)).mono ?_
  unfold MadeFound
  rw [HP.out, isO_look HE.out.inc]
  rintro e w1 ⟨rfl, hB⟩
  have HX := Lib.hid (HX.out.keep hB)
  have HR := Lib.hid (HR.out.keep hB)
  have HB := Lib.hid (below_via HB.out hB)
  clear hB HW0
  have x0 := HX.out.cell (j := 0) (by simp)
  have x1 := HX.out.cell (j := 1) (by simp)
  have r0 := HR.out.cell (j := 0) (by simp)
  have r1 := HR.out.cell (j := 1) (by simp)
  have f0 := HR.out.free 0
  have f1 := HR.out.free 1
  simp at x0 x1 r0 r1
  have HNO := Lib.hid (show ∀ c : Int, replE key ver data E = (E, 0, c) → c ≠ 0 → MadeSR (replE key ver data E) w (.returned (.tuple #[.agg #[.slice none 0 0, .slice none 0 0], .int .i64 0, .int .i64 c])) ((w1.setCell ⟨w.heap.size + 1, 0, none⟩ (.slice none 0 0)).setCell ⟨w.heap.size + 1, 1, none⟩ (.slice none 0 0)) from fun c hc h0 => by
    rw [hc]
    refine ⟨none, 0, 0, none, 0, 0, rfl, (HB.out.setCell (by show w.heap.size ≤ w.heap.size + 1; omega) _).setCell (by show w.heap.size ≤ w.heap.size + 1; omega) _, ?_⟩
    rw [(res_no (R := (E, 0, c)) h0).1, (res_no (R := (E, 0, c)) h0).2]
    exact StoK.nil _ _)
  have hbres := ((HR.out.set 0 (.slice none 0 0)).set 1 (.slice none 0 0))
  unfold Row at hbres
  have HBR := Lib.hid hbres
  clear hbres
  cases hob : obIs (lookE key E) with
  | false =>
    have HC := Lib.hid (repl_none (data := data) (ver := ver) hob)
    clear hob
    go_wp2
    have hb := HBR.out
    exact bodyPost_ret (v := .tuple #[.agg #[.slice none 0 0, .slice none 0 0], .int .i64 0, .int .i64 4]) (by simp [results, Try.results44, go_sem, World.cell?, hb]) rfl (HNO.out 4 HC.out (by decide))
  | true =>
    obtain ⟨e, hl, hg⟩ : ∃ e, lookE key E = some e ∧ e.2.2 = false := by
      cases hl : lookE key E with
      | none => rw [hl] at hob; cases hob
      | some e => rw [hl] at hob; exact ⟨e, rfl, by simpa [obIs] using hob⟩
    obtain ⟨v, dd, gg⟩ := e
    obtain rfl : gg = false := hg
    obtain ⟨hv1, hv2, hv3, hv4⟩ := ep_look HE.out hl
    simp only at hv1 hv2
    obtain ⟨hpl2, hra⟩ := obj_at_look HE.out.inc hl rfl
    unfold poO at hpl2 hra
    rw [HP.out] at hpl2 hra
    rw [HLA.out] at hpl2
    have HL := Lib.hid hl
    have hgv : obj1 (objsOf E) p = v := by unfold obj1; rw [List.getD_eq_getElem?_getD, hra]; rfl
    have HOB := Lib.hid hob
    clear hl hra hob hv3 hv4
    rcases HS.out.at_.o.src with h0 | ⟨gb, go, rfl, hgb, hga⟩
    · omega
    have hgc := (hga p hpl2).2.1
    rw [hgv] at hgc
    have gc := (HB.out.cell (p := ⟨gb, go + p * 3 + 1, none⟩) hgb).trans hgc
    clear hgb hgc hgv hga
    have hp0 : (0 : Int) ≤ (p : Int) := by omega
    have hp1 : (p : Int) < (la : Int) := by omega
    by_cases hv : v = ver
    · subst hv
      by_cases hf : v = 1000000
      · have HC := Lib.hid (repl_full (data := data) HL.out rfl rfl hf)
        subst hf
        go_wp2
        have hb := HBR.out
        exact bodyPost_ret (v := .tuple #[.agg #[.slice none 0 0, .slice none 0 0], .int .i64 0, .int .i64 3]) (by simp [results, Try.results44, go_sem, World.cell?, hb]) rfl (HNO.out 3 HC.out (by decide))
      · have HC := Lib.hid (repl_ok (data := data) HL.out rfl rfl hf)
        have hf2 : ((v : Int) == 1000000) = false := by rw [beq_eq_false_iff_ne]; exact hf
        go_wp2_with fail
        have HS0 := HS
        have HBR := Lib.hid (show BRow w #[.slice (some ⟨gb, go, none⟩) la ca, .slice g lg cg] w1.drew from ⟨HB.out.drew, HX.out, HR.out⟩)
        clear HB HX HR x0 x1 r0 r1 f0 f1 gc HNO
        refine wp_region_noPanic ?_
        refine wp_region_held_drew (S := (fun w' => Hid (BRow w #[.slice (some ⟨gb, go, none⟩) la ca, .slice g lg cg] w') ∧ w'.cell? ⟨w.heap.size, 0, none⟩ = some (.slice (some ⟨gb, go, none⟩) la ca) ∧ w'.cell? ⟨w.heap.size, 1, none⟩ = some (.slice g lg cg))) (by kernel_rfl) (⟨HBR, HBR.out.cells.1, HBR.out.cells.2⟩) (fun HS => ?_)
        obtain ⟨u0, hu⟩ : ∃ x, w1.drew = x := ⟨_, rfl⟩
        rw [hu] at HBR HS ⊢
        clear hu
        refine held_take (i := 1) (d := 39) (v := .pointer (some ⟨w.heap.size, 0, none⟩)) rfl rfl (by kernel_rfl) (by kernel_rfl) (by kernel_rfl) (by kernel_rfl) (fun wx hS => by go_simp) HS ?_
        refine held_take (i := 2) (d := 40) (v := .slice (some ⟨gb, go, none⟩) la ca) rfl rfl (by kernel_rfl) (by kernel_rfl) (by kernel_rfl) (by kernel_rfl) (fun wx hS => by have h0 := hS.2.1; go_simp) HS ?_
        refine held_take (i := 5) (d := 43) (v := .pointer (some ⟨w.heap.size, 1, none⟩)) rfl rfl (by kernel_rfl) (by kernel_rfl) (by kernel_rfl) (by kernel_rfl) (fun wx hS => by go_simp) HS ?_
        refine held_take (i := 6) (d := 44) (v := .slice g lg cg) rfl rfl (by kernel_rfl) (by kernel_rfl) (by kernel_rfl) (by kernel_rfl) (fun wx hS => by have h0 := hS.2.2; go_simp) HS ?_
        refine wpAnyH_ready (rs := [0, 4, 9]) (by kernel_rfl) (by simp) (AllReadyH.cons rfl (fun K hK => ?_) (AllReadyH.cons rfl (fun K hK => ?_) (AllReadyH.cons rfl (fun K hK => ?_) AllReadyH.nil)))
        · skip
          go_simp
          have HBR2 := Lib.hid (HBR.out.al (.cells #[] 31))
          have HNEW := Lib.hid (own_zeroObj (row_new u0 #[] 31) HBR.out.ge)
          obtain ⟨B38, hb38⟩ : ∃ x, u0.heap.size = x := ⟨_, rfl⟩
          obtain ⟨u1, hu2⟩ : ∃ x, u0.alloc (.cells #[] 31) = x := ⟨_, rfl⟩
          rw [hb38] at HNEW ⊢
          rw [hu2] at HBR2 HNEW ⊢
          clear hb38 hu2 HBR
          have HO38 := HNEW
          have HBR := HBR2
          clear HNEW HBR2
          refine hK.out _ _ (⟨HBR, HBR.out.cells.1, HBR.out.cells.2⟩) (fun HS => ?_)
          clear hK K
          refine wpAnyH_ready (rs := [3, 4, 9]) (by kernel_rfl) (by simp) (AllReadyH.cons rfl (fun K hK => ?_) (AllReadyH.cons rfl (fun K hK => ?_) (AllReadyH.cons rfl (fun K hK => ?_) AllReadyH.nil)))
          · skip
            refine step_append_obj rfl _ _ rfl (w.heap.size + 2) (.slice (some ⟨B38, 0, none⟩) 0 0) 0 [] rfl HO38.out _ la _ (objsOf E) rfl (HS0.out.at_.keep HBR.out.below).o HS0.out.nilo (by omega) HBR.out.ge ?_
            intro q1 c1 u2 hown hgrow
            simp only [List.nil_append] at hown
            have HO1 := Lib.hid hown
            have HBR2 := Lib.hid (HBR.out.grown HO38.out (Nat.le_refl _) hgrow)
            have HBR := HBR2
            clear hown hgrow HBR2 HO38
            refine hK.out _ _ (⟨HBR, HBR.out.cells.1, HBR.out.cells.2⟩) (fun HS => ?_)
            clear hK K
            refine wpAnyH_ready (rs := [4, 9]) (by kernel_rfl) (by simp) (AllReadyH.cons rfl (fun K hK => ?_) (AllReadyH.cons rfl (fun K hK => ?_) AllReadyH.nil))
            · skip
              go_simp
              have HBR2 := Lib.hid (HBR.out.al (.cells #[] 45))
              have HNEW := Lib.hid (own_zeroGone (row_new u2 #[] 45) HBR.out.ge)
              have HO1 := Lib.hid (own_below HO1.out (below_alloc (Below.refl _ _) (.cells #[] 45)))
              obtain ⟨B42, hb42⟩ : ∃ x, u2.heap.size = x := ⟨_, rfl⟩
              obtain ⟨u3, hu2⟩ : ∃ x, u2.alloc (.cells #[] 45) = x := ⟨_, rfl⟩
              rw [hb42] at HNEW ⊢
              rw [hu2] at HBR2 HNEW HO1 ⊢
              clear hb42 hu2 HBR
              have HO42 := HNEW
              have HBR := HBR2
              clear HNEW HBR2
              refine hK.out _ _ (⟨HBR, HBR.out.cells.1, HBR.out.cells.2⟩) (fun HS => ?_)
              clear hK K
              refine wpAnyH_ready (rs := [7, 9]) (by kernel_rfl) (by simp) (AllReadyH.cons rfl (fun K hK => ?_) (AllReadyH.cons rfl (fun K hK => ?_) AllReadyH.nil))
              · skip
                refine step_append_gone rfl _ _ rfl (w.heap.size + 2) (.slice (some ⟨B42, 0, none⟩) 0 0) 0 [] rfl HO42.out _ lg _ (gonsOf E) rfl (HS0.out.at_.keep HBR.out.below).d HS0.out.nilg (by omega) HBR.out.ge ?_
                intro q2 c2 u4 hown hgrow
                simp only [List.nil_append] at hown
                have HO2 := Lib.hid hown
                have HBR2 := Lib.hid (HBR.out.grown HO42.out (Nat.le_refl _) hgrow)
                have HO1 := Lib.hid (own_grown HO1.out hgrow (own_apartT HO1.out HO42.out (by decide)))
                have HBR := HBR2
                clear hown hgrow HBR2 HO42
                refine hK.out _ _ (⟨HBR, HBR.out.cells.1, HBR.out.cells.2⟩) (fun HS => ?_)
                clear hK K
                refine held_take (i := 8) (d := 46) (v := .agg #[.slice q1 (0 + la) c1, .slice q2 (0 + lg) c2]) rfl rfl (by kernel_rfl) (by kernel_rfl) (by kernel_rfl) (by kernel_rfl) (fun wx hS => by go_simp) HS ?_
                refine wpAnyH_ready (rs := [9]) (by kernel_rfl) (by simp) (AllReadyH.cons rfl (fun K hK => ?_) AllReadyH.nil)
                go_simp
                have HBR2 := Lib.hid (HBR.out.al (.cells #[.slice none 0 0, .slice none 0 0] 27))
                have HNEW := Lib.hid (row_new u4 #[.slice none 0 0, .slice none 0 0] 27)
                have HO1 := Lib.hid (own_below HO1.out (below_alloc (Below.refl _ _) (.cells #[.slice none 0 0, .slice none 0 0] 27)))
                have HO2 := Lib.hid (own_below HO2.out (below_alloc (Below.refl _ _) (.cells #[.slice none 0 0, .slice none 0 0] 27)))
                have HGE := Lib.hid HBR.out.ge
                obtain ⟨B13, hb13⟩ : ∃ x, u4.heap.size = x := ⟨_, rfl⟩
                obtain ⟨u5, hu2⟩ : ∃ x, u4.alloc (.cells #[.slice none 0 0, .slice none 0 0] 27) = x := ⟨_, rfl⟩
                rw [hb13] at HNEW HGE ⊢
                rw [hu2] at HBR2 HNEW HO1 HO2 ⊢
                clear hb13 hu2 HBR
                have HU := HNEW
                have HBR := HBR2
                have HUGE := HGE
                clear HNEW HBR2 HGE
                refine hK.out _ _ (⟨HBR, HBR.out.cells.1, HBR.out.cells.2⟩) (fun HS => ?_)
                clear hK K
                refine wpAnyH_ready (rs := [10]) (by kernel_rfl) (by simp) (AllReadyH.cons rfl (fun K hK => ?_) AllReadyH.nil)
                have k0 := HU.out.cell (j := 0) (by simp)
                have k1 := HU.out.cell (j := 1) (by simp)
                have kf0 := HU.out.free 0
                have kf1 := HU.out.free 1
                simp at k0 k1
                go_simp
                have HBS := Lib.hid ((HBR.out.set HUGE.out 0 (.slice q1 la c1)).set HUGE.out 1 (.slice q2 lg c2))
                refine hK.out _ _ (⟨HBS, HBS.out.cells.1, HBS.out.cells.2⟩) (fun HS => ?_)
                clear hK K k0 k1 kf0 kf1
                refine wpAnyH_done (by kernel_rfl) (NoPanic.normal ?_) _
                simp only [Nat.zero_add] at HO1 HO2
                have HUS := Lib.hid (show Row ((u5.setCell ⟨B13, 0, none⟩ (.slice q1 la c1)).setCell ⟨B13, 1, none⟩ (.slice q2 lg c2)) B13 27 #[.slice q1 la c1, .slice q2 lg c2] from (HU.out.set 0 _).set 1 _)
                have HP1 := Lib.hid (own_put (own_put HO1.out (own_ne_row HO1.out HU.out (by decide)) 0 (.slice q1 la c1)) (own_ne_row HO1.out HU.out (by decide)) 1 (.slice q2 lg c2))
                have HP2 := Lib.hid (own_put (own_put HO2.out (own_ne_row HO2.out HU.out (by decide)) 0 (.slice q1 la c1)) (own_ne_row HO2.out HU.out (by decide)) 1 (.slice q2 lg c2))
                obtain ⟨ws, hws⟩ : ∃ x, ((u5.setCell ⟨B13, 0, none⟩ (.slice q1 la c1)).setCell ⟨B13, 1, none⟩ (.slice q2 lg c2)) = x := ⟨_, rfl⟩
                rw [hws] at HUS HP1 HP2 HBS ⊢
                clear hws HO1 HO2 HU HBR HS
                obtain ⟨g1, cur, rfl, _, hg1, hr1, hc1, hc2, hs1, _⟩ := own_rowObj HP1.out (by omega)
                have a0 := hr1.cell (j := p * 3) (by omega)
                have a1 := hr1.cell (j := p * 3 + 1) (by omega)
                have a2 := hr1.cell (j := p * 3 + 2) (by omega)
                generalize cur[p * 3] = y0 at a0
                generalize cur[p * 3 + 1] = y1 at a1
                generalize cur[p * 3 + 2] = y2 at a2
                have b0 := hr1.free (p * 3)
                have b1 := hr1.free (p * 3 + 1)
                have b2 := hr1.free (p * 3 + 2)
                have hne : g1 ≠ B13 := fun he => own_ne_row HP1.out HUS.out (by decide) g1 rfl he.symm
                have hne2 := Ne.symm hne
                have d0 := HUS.out.cell (j := 0) (by simp)
                simp at d0
                have HU3 := Lib.hid (show Row (((ws.setCell ⟨g1, p * 3, none⟩ (.string key)).setCell ⟨g1, p * 3 + 1, none⟩ (.int .i64 (v + 1))).setCell ⟨g1, p * 3 + 2, none⟩ (.string data)) B13 27 #[.slice (some ⟨g1, 0, none⟩) la c1, .slice q2 lg c2] from ((HUS.out.put hne2 _ _).put hne2 _ _).put hne2 _ _)
                have HB3 := Lib.hid (show BRow w #[.slice (some ⟨gb, go, none⟩) la ca, .slice g lg cg] (((ws.setCell ⟨g1, p * 3, none⟩ (.string key)).setCell ⟨g1, p * 3 + 1, none⟩ (.int .i64 (v + 1))).setCell ⟨g1, p * 3 + 2, none⟩ (.string data)) from ((HBS.out.set hg1 _ _).set hg1 _ _).set hg1 _ _)
                have HQ1 := Lib.hid (own_setObj HP1.out hpl2 key (v + 1) data)
                have HQ2 := Lib.hid (own_put (own_put (own_put HP2.out (fun x hx he => own_ne_row HP2.out hr1 (by decide) x hx he) (p * 3) (.string key)) (fun x hx he => own_ne_row HP2.out hr1 (by decide) x hx he) (p * 3 + 1) (.int .i64 (v + 1))) (fun x hx he => own_ne_row HP2.out hr1 (by decide) x hx he) (p * 3 + 2) (.string data))
                have e0 := HU3.out.cell (j := 0) (by simp)
                have e1 := HU3.out.cell (j := 1) (by simp)
                have s0 := HB3.out.res.cell (j := 0) (by simp)
                have s1 := HB3.out.res.cell (j := 1) (by simp)
                have z0 := HB3.out.res.free 0
                have z1 := HB3.out.res.free 1
                simp at e0 e1 s0 s1
                clear hr1 hs1 hc1 hc2
                go_wp2
                have hb := ((HB3.out.res.set 0 (.slice (some ⟨g1, 0, none⟩) la c1)).set 1 (.slice q2 lg c2))
                unfold Row at hb
                have hL : ((objsOf E).set p (key, v + 1, data)).length = la := by rw [List.length_set]; exact HLA.out
                have hR : resO (replE key v data E) = (objsOf E).set p (key, v + 1, data) ∧ resG (replE key v data E) = gonsOf E := by
                  rw [HC.out]
                  refine ⟨?_, gons_same HE.out.inc (by rw [HL.out]; rfl)⟩
                  show objsOf (putE key (v + 1, data, false) E) = _
                  rw [objs_set HE.out.inc HOB.out]
                  unfold poO
                  rw [HP.out]
                exact bodyPost_ret (v := .tuple #[.agg #[.slice (some ⟨g1, 0, none⟩) la c1, .slice q2 lg c2], .int .i64 (v + 1), .int .i64 0]) (by simp [results, Try.results44, go_sem, World.cell?, hb]) rfl ⟨_, _, _, _, _, _, by rw [HC.out], (HB3.out.below.setCell (by show w.heap.size ≤ w.heap.size + 1; omega) _).setCell (by show w.heap.size ≤ w.heap.size + 1; omega) _, by rw [hR.1, hR.2]; exact made_res (made_k (w := w) HQ1.out HQ2.out (Nat.le_refl _) (Nat.le_refl _) hL HLG.out) _ _⟩
              · skip
                go_simp
                have HBR2 := Lib.hid (HBR.out.al (.cells #[.slice none 0 0, .slice none 0 0] 27))
                have HNEW := Lib.hid (row_new u3 #[.slice none 0 0, .slice none 0 0] 27)
                have HO1 := Lib.hid (own_below HO1.out (below_alloc (Below.refl _ _) (.cells #[.slice none 0 0, .slice none 0 0] 27)))
                have HO42 := Lib.hid (own_below HO42.out (below_alloc (Below.refl _ _) (.cells #[.slice none 0 0, .slice none 0 0] 27)))
                have HGE := Lib.hid HBR.out.ge
                obtain ⟨B13, hb13⟩ : ∃ x, u3.heap.size = x := ⟨_, rfl⟩
                obtain ⟨u4, hu2⟩ : ∃ x, u3.alloc (.cells #[.slice none 0 0, .slice none 0 0] 27) = x := ⟨_, rfl⟩
                rw [hb13] at HNEW HGE ⊢
                rw [hu2] at HBR2 HNEW HO1 HO42 ⊢
                clear hb13 hu2 HBR
                have HU := HNEW
                have HBR := HBR2
                have HUGE := HGE
                clear HNEW HBR2 HGE
                refine hK.out _ _ (⟨HBR, HBR.out.cells.1, HBR.out.cells.2⟩) (fun HS => ?_)
                clear hK K
                refine wpAnyH_ready (rs := [7]) (by kernel_rfl) (by simp) (AllReadyH.cons rfl (fun K hK => ?_) AllReadyH.nil)
                refine step_append_gone rfl _ _ rfl (w.heap.size + 2) (.slice (some ⟨B42, 0, none⟩) 0 0) 0 [] rfl HO42.out _ lg _ (gonsOf E) rfl (HS0.out.at_.keep HBR.out.below).d HS0.out.nilg (by omega) HBR.out.ge ?_
                intro q2 c2 u5 hown hgrow
                simp only [List.nil_append] at hown
                have HO2 := Lib.hid hown
                have HBR2 := Lib.hid (HBR.out.grown HO42.out (Nat.le_refl _) hgrow)
                have HO1 := Lib.hid (own_grown HO1.out hgrow (own_apartT HO1.out HO42.out (by decide)))
                have HU := Lib.hid (row_grownT HU.out HO42.out (by decide) hgrow)
                have HBR := HBR2
                clear hown hgrow HBR2 HO42
                refine hK.out _ _ (⟨HBR, HBR.out.cells.1, HBR.out.cells.2⟩) (fun HS => ?_)
                clear hK K
                refine held_take (i := 8) (d := 46) (v := .agg #[.slice q1 (0 + la) c1, .slice q2 (0 + lg) c2]) rfl rfl (by kernel_rfl) (by kernel_rfl) (by kernel_rfl) (by kernel_rfl) (fun wx hS => by go_simp) HS ?_
                refine wpAnyH_ready (rs := [10]) (by kernel_rfl) (by simp) (AllReadyH.cons rfl (fun K hK => ?_) AllReadyH.nil)
                have k0 := HU.out.cell (j := 0) (by simp)
                have k1 := HU.out.cell (j := 1) (by simp)
                have kf0 := HU.out.free 0
                have kf1 := HU.out.free 1
                simp at k0 k1
                go_simp
                have HBS := Lib.hid ((HBR.out.set HUGE.out 0 (.slice q1 la c1)).set HUGE.out 1 (.slice q2 lg c2))
                refine hK.out _ _ (⟨HBS, HBS.out.cells.1, HBS.out.cells.2⟩) (fun HS => ?_)
                clear hK K k0 k1 kf0 kf1
                refine wpAnyH_done (by kernel_rfl) (NoPanic.normal ?_) _
                simp only [Nat.zero_add] at HO1 HO2
                have HUS := Lib.hid (show Row ((u5.setCell ⟨B13, 0, none⟩ (.slice q1 la c1)).setCell ⟨B13, 1, none⟩ (.slice q2 lg c2)) B13 27 #[.slice q1 la c1, .slice q2 lg c2] from (HU.out.set 0 _).set 1 _)
                have HP1 := Lib.hid (own_put (own_put HO1.out (own_ne_row HO1.out HU.out (by decide)) 0 (.slice q1 la c1)) (own_ne_row HO1.out HU.out (by decide)) 1 (.slice q2 lg c2))
                have HP2 := Lib.hid (own_put (own_put HO2.out (own_ne_row HO2.out HU.out (by decide)) 0 (.slice q1 la c1)) (own_ne_row HO2.out HU.out (by decide)) 1 (.slice q2 lg c2))
                obtain ⟨ws, hws⟩ : ∃ x, ((u5.setCell ⟨B13, 0, none⟩ (.slice q1 la c1)).setCell ⟨B13, 1, none⟩ (.slice q2 lg c2)) = x := ⟨_, rfl⟩
                rw [hws] at HUS HP1 HP2 HBS ⊢
                clear hws HO1 HO2 HU HBR HS
                obtain ⟨g1, cur, rfl, _, hg1, hr1, hc1, hc2, hs1, _⟩ := own_rowObj HP1.out (by omega)
                have a0 := hr1.cell (j := p * 3) (by omega)
                have a1 := hr1.cell (j := p * 3 + 1) (by omega)
                have a2 := hr1.cell (j := p * 3 + 2) (by omega)
                generalize cur[p * 3] = y0 at a0
                generalize cur[p * 3 + 1] = y1 at a1
                generalize cur[p * 3 + 2] = y2 at a2
                have b0 := hr1.free (p * 3)
                have b1 := hr1.free (p * 3 + 1)
                have b2 := hr1.free (p * 3 + 2)
                have hne : g1 ≠ B13 := fun he => own_ne_row HP1.out HUS.out (by decide) g1 rfl he.symm
                have hne2 := Ne.symm hne
                have d0 := HUS.out.cell (j := 0) (by simp)
                simp at d0
                have HU3 := Lib.hid (show Row (((ws.setCell ⟨g1, p * 3, none⟩ (.string key)).setCell ⟨g1, p * 3 + 1, none⟩ (.int .i64 (v + 1))).setCell ⟨g1, p * 3 + 2, none⟩ (.string data)) B13 27 #[.slice (some ⟨g1, 0, none⟩) la c1, .slice q2 lg c2] from ((HUS.out.put hne2 _ _).put hne2 _ _).put hne2 _ _)
                have HB3 := Lib.hid (show BRow w #[.slice (some ⟨gb, go, none⟩) la ca, .slice g lg cg] (((ws.setCell ⟨g1, p * 3, none⟩ (.string key)).setCell ⟨g1, p * 3 + 1, none⟩ (.int .i64 (v + 1))).setCell ⟨g1, p * 3 + 2, none⟩ (.string data)) from ((HBS.out.set hg1 _ _).set hg1 _ _).set hg1 _ _)
                have HQ1 := Lib.hid (own_setObj HP1.out hpl2 key (v + 1) data)
                have HQ2 := Lib.hid (own_put (own_put (own_put HP2.out (fun x hx he => own_ne_row HP2.out hr1 (by decide) x hx he) (p * 3) (.string key)) (fun x hx he => own_ne_row HP2.out hr1 (by decide) x hx he) (p * 3 + 1) (.int .i64 (v + 1))) (fun x hx he => own_ne_row HP2.out hr1 (by decide) x hx he) (p * 3 + 2) (.string data))
                have e0 := HU3.out.cell (j := 0) (by simp)
                have e1 := HU3.out.cell (j := 1) (by simp)
                have s0 := HB3.out.res.cell (j := 0) (by simp)
                have s1 := HB3.out.res.cell (j := 1) (by simp)
                have z0 := HB3.out.res.free 0
                have z1 := HB3.out.res.free 1
                simp at e0 e1 s0 s1
                clear hr1 hs1 hc1 hc2
                go_wp2
                have hb := ((HB3.out.res.set 0 (.slice (some ⟨g1, 0, none⟩) la c1)).set 1 (.slice q2 lg c2))
                unfold Row at hb
                have hL : ((objsOf E).set p (key, v + 1, data)).length = la := by rw [List.length_set]; exact HLA.out
                have hR : resO (replE key v data E) = (objsOf E).set p (key, v + 1, data) ∧ resG (replE key v data E) = gonsOf E := by
                  rw [HC.out]
                  refine ⟨?_, gons_same HE.out.inc (by rw [HL.out]; rfl)⟩
                  show objsOf (putE key (v + 1, data, false) E) = _
                  rw [objs_set HE.out.inc HOB.out]
                  unfold poO
                  rw [HP.out]
                exact bodyPost_ret (v := .tuple #[.agg #[.slice (some ⟨g1, 0, none⟩) la c1, .slice q2 lg c2], .int .i64 (v + 1), .int .i64 0]) (by simp [results, Try.results44, go_sem, World.cell?, hb]) rfl ⟨_, _, _, _, _, _, by rw [HC.out], (HB3.out.below.setCell (by show w.heap.size ≤ w.heap.size + 1; omega) _).setCell (by show w.heap.size ≤ w.heap.size + 1; omega) _, by rw [hR.1, hR.2]; exact made_res (made_k (w := w) HQ1.out HQ2.out (Nat.le_refl _) (Nat.le_refl _) hL HLG.out) _ _⟩
            · skip
              go_simp
              have HBR2 := Lib.hid (HBR.out.al (.cells #[.slice none 0 0, .slice none 0 0] 27))
              have HNEW := Lib.hid (row_new u2 #[.slice none 0 0, .slice none 0 0] 27)
              have HO1 := Lib.hid (own_below HO1.out (below_alloc (Below.refl _ _) (.cells #[.slice none 0 0, .slice none 0 0] 27)))
              have HGE := Lib.hid HBR.out.ge
              obtain ⟨B13, hb13⟩ : ∃ x, u2.heap.size = x := ⟨_, rfl⟩
              obtain ⟨u3, hu2⟩ : ∃ x, u2.alloc (.cells #[.slice none 0 0, .slice none 0 0] 27) = x := ⟨_, rfl⟩
              rw [hb13] at HNEW HGE ⊢
              rw [hu2] at HBR2 HNEW HO1 ⊢
              clear hb13 hu2 HBR
              have HU := HNEW
              have HBR := HBR2
              have HUGE := HGE
              clear HNEW HBR2 HGE
              refine hK.out _ _ (⟨HBR, HBR.out.cells.1, HBR.out.cells.2⟩) (fun HS => ?_)
              clear hK K
              refine wpAnyH_ready (rs := [4]) (by kernel_rfl) (by simp) (AllReadyH.cons rfl (fun K hK => ?_) AllReadyH.nil)
              go_simp
              have HBR2 := Lib.hid (HBR.out.al (.cells #[] 45))
              have HNEW := Lib.hid (own_zeroGone (row_new u3 #[] 45) HBR.out.ge)
              have HO1 := Lib.hid (own_below HO1.out (below_alloc (Below.refl _ _) (.cells #[] 45)))
              have HU := Lib.hid (HU.out.al (.cells #[] 45))
              obtain ⟨B42, hb42⟩ : ∃ x, u3.heap.size = x := ⟨_, rfl⟩
              obtain ⟨u4, hu2⟩ : ∃ x, u3.alloc (.cells #[] 45) = x := ⟨_, rfl⟩
              rw [hb42] at HNEW ⊢
              rw [hu2] at HBR2 HNEW HO1 HU ⊢
              clear hb42 hu2 HBR
              have HO42 := HNEW
              have HBR := HBR2
              clear HNEW HBR2
              refine hK.out _ _ (⟨HBR, HBR.out.cells.1, HBR.out.cells.2⟩) (fun HS => ?_)
              clear hK K
              refine wpAnyH_ready (rs := [7]) (by kernel_rfl) (by simp) (AllReadyH.cons rfl (fun K hK => ?_) AllReadyH.nil)
              refine step_append_gone rfl _ _ rfl (w.heap.size + 2) (.slice (some ⟨B42, 0, none⟩) 0 0) 0 [] rfl HO42.out _ lg _ (gonsOf E) rfl (HS0.out.at_.keep HBR.out.below).d HS0.out.nilg (by omega) HBR.out.ge ?_
              intro q2 c2 u5 hown hgrow
              simp only [List.nil_append] at hown
              have HO2 := Lib.hid hown
              have HBR2 := Lib.hid (HBR.out.grown HO42.out (Nat.le_refl _) hgrow)
              have HO1 := Lib.hid (own_grown HO1.out hgrow (own_apartT HO1.out HO42.out (by decide)))
              have HU := Lib.hid (row_grownT HU.out HO42.out (by decide) hgrow)
              have HBR := HBR2
              clear hown hgrow HBR2 HO42
              refine hK.out _ _ (⟨HBR, HBR.out.cells.1, HBR.out.cells.2⟩) (fun HS => ?_)
              clear hK K
              refine held_take (i := 8) (d := 46) (v := .agg #[.slice q1 (0 + la) c1, .slice q2 (0 + lg) c2]) rfl rfl (by kernel_rfl) (by kernel_rfl) (by kernel_rfl) (by kernel_rfl) (fun wx hS => by go_simp) HS ?_
              refine wpAnyH_ready (rs := [10]) (by kernel_rfl) (by simp) (AllReadyH.cons rfl (fun K hK => ?_) AllReadyH.nil)
              have k0 := HU.out.cell (j := 0) (by simp)
              have k1 := HU.out.cell (j := 1) (by simp)
              have kf0 := HU.out.free 0
              have kf1 := HU.out.free 1
              simp at k0 k1
              go_simp
              have HBS := Lib.hid ((HBR.out.set HUGE.out 0 (.slice q1 la c1)).set HUGE.out 1 (.slice q2 lg c2))
              refine hK.out _ _ (⟨HBS, HBS.out.cells.1, HBS.out.cells.2⟩) (fun HS => ?_)
              clear hK K k0 k1 kf0 kf1
              refine wpAnyH_done (by kernel_rfl) (NoPanic.normal ?_) _
              simp only [Nat.zero_add] at HO1 HO2
              have HUS := Lib.hid (show Row ((u5.setCell ⟨B13, 0, none⟩ (.slice q1 la c1)).setCell ⟨B13, 1, none⟩ (.slice q2 lg c2)) B13 27 #[.slice q1 la c1, .slice q2 lg c2] from (HU.out.set 0 _).set 1 _)
              have HP1 := Lib.hid (own_put (own_put HO1.out (own_ne_row HO1.out HU.out (by decide)) 0 (.slice q1 la c1)) (own_ne_row HO1.out HU.out (by decide)) 1 (.slice q2 lg c2))
              have HP2 := Lib.hid (own_put (own_put HO2.out (own_ne_row HO2.out HU.out (by decide)) 0 (.slice q1 la c1)) (own_ne_row HO2.out HU.out (by decide)) 1 (.slice q2 lg c2))
              obtain ⟨ws, hws⟩ : ∃ x, ((u5.setCell ⟨B13, 0, none⟩ (.slice q1 la c1)).setCell ⟨B13, 1, none⟩ (.slice q2 lg c2)) = x := ⟨_, rfl⟩
              rw [hws] at HUS HP1 HP2 HBS ⊢
              clear hws HO1 HO2 HU HBR HS
              obtain ⟨g1, cur, rfl, _, hg1, hr1, hc1, hc2, hs1, _⟩ := own_rowObj HP1.out (by omega)
              have a0 := hr1.cell (j := p * 3) (by omega)
              have a1 := hr1.cell (j := p * 3 + 1) (by omega)
              have a2 := hr1.cell (j := p * 3 + 2) (by omega)
              generalize cur[p * 3] = y0 at a0
              generalize cur[p * 3 + 1] = y1 at a1
              generalize cur[p * 3 + 2] = y2 at a2
              have b0 := hr1.free (p * 3)
              have b1 := hr1.free (p * 3 + 1)
              have b2 := hr1.free (p * 3 + 2)
              have hne : g1 ≠ B13 := fun he => own_ne_row HP1.out HUS.out (by decide) g1 rfl he.symm
              have hne2 := Ne.symm hne
              have d0 := HUS.out.cell (j := 0) (by simp)
              simp at d0
              have HU3 := Lib.hid (show Row (((ws.setCell ⟨g1, p * 3, none⟩ (.string key)).setCell ⟨g1, p * 3 + 1, none⟩ (.int .i64 (v + 1))).setCell ⟨g1, p * 3 + 2, none⟩ (.string data)) B13 27 #[.slice (some ⟨g1, 0, none⟩) la c1, .slice q2 lg c2] from ((HUS.out.put hne2 _ _).put hne2 _ _).put hne2 _ _)
              have HB3 := Lib.hid (show BRow w #[.slice (some ⟨gb, go, none⟩) la ca, .slice g lg cg] (((ws.setCell ⟨g1, p * 3, none⟩ (.string key)).setCell ⟨g1, p * 3 + 1, none⟩ (.int .i64 (v + 1))).setCell ⟨g1, p * 3 + 2, none⟩ (.string data)) from ((HBS.out.set hg1 _ _).set hg1 _ _).set hg1 _ _)
              have HQ1 := Lib.hid (own_setObj HP1.out hpl2 key (v + 1) data)
              have HQ2 := Lib.hid (own_put (own_put (own_put HP2.out (fun x hx he => own_ne_row HP2.out hr1 (by decide) x hx he) (p * 3) (.string key)) (fun x hx he => own_ne_row HP2.out hr1 (by decide) x hx he) (p * 3 + 1) (.int .i64 (v + 1))) (fun x hx he => own_ne_row HP2.out hr1 (by decide) x hx he) (p * 3 + 2) (.string data))
              have e0 := HU3.out.cell (j := 0) (by simp)
              have e1 := HU3.out.cell (j := 1) (by simp)
              have s0 := HB3.out.res.cell (j := 0) (by simp)
              have s1 := HB3.out.res.cell (j := 1) (by simp)
              have z0 := HB3.out.res.free 0
              have z1 := HB3.out.res.free 1
              simp at e0 e1 s0 s1
              clear hr1 hs1 hc1 hc2
              go_wp2
              have hb := ((HB3.out.res.set 0 (.slice (some ⟨g1, 0, none⟩) la c1)).set 1 (.slice q2 lg c2))
              unfold Row at hb
              have hL : ((objsOf E).set p (key, v + 1, data)).length = la := by rw [List.length_set]; exact HLA.out
              have hR : resO (replE key v data E) = (objsOf E).set p (key, v + 1, data) ∧ resG (replE key v data E) = gonsOf E := by
                rw [HC.out]
                refine ⟨?_, gons_same HE.out.inc (by rw [HL.out]; rfl)⟩
                show objsOf (putE key (v + 1, data, false) E) = _
                rw [objs_set HE.out.inc HOB.out]
                unfold poO
                rw [HP.out]
              exact bodyPost_ret (v := .tuple #[.agg #[.slice (some ⟨g1, 0, none⟩) la c1, .slice q2 lg c2], .int .i64 (v + 1), .int .i64 0]) (by simp [results, Try.results44, go_sem, World.cell?, hb]) rfl ⟨_, _, _, _, _, _, by rw [HC.out], (HB3.out.below.setCell (by show w.heap.size ≤ w.heap.size + 1; omega) _).setCell (by show w.heap.size ≤ w.heap.size + 1; omega) _, by rw [hR.1, hR.2]; exact made_res (made_k (w := w) HQ1.out HQ2.out (Nat.le_refl _) (Nat.le_refl _) hL HLG.out) _ _⟩
          · skip
            go_simp
            have HBR2 := Lib.hid (HBR.out.al (.cells #[] 45))
            have HNEW := Lib.hid (own_zeroGone (row_new u1 #[] 45) HBR.out.ge)
            have HO38 := Lib.hid (own_below HO38.out (below_alloc (Below.refl _ _) (.cells #[] 45)))
            obtain ⟨B42, hb42⟩ : ∃ x, u1.heap.size = x := ⟨_, rfl⟩
            obtain ⟨u2, hu2⟩ : ∃ x, u1.alloc (.cells #[] 45) = x := ⟨_, rfl⟩
            rw [hb42] at HNEW ⊢
            rw [hu2] at HBR2 HNEW HO38 ⊢
            clear hb42 hu2 HBR
            have HO42 := HNEW
            have HBR := HBR2
            clear HNEW HBR2
            refine hK.out _ _ (⟨HBR, HBR.out.cells.1, HBR.out.cells.2⟩) (fun HS => ?_)
            clear hK K
            refine wpAnyH_ready (rs := [3, 9]) (by kernel_rfl) (by simp) (AllReadyH.cons rfl (fun K hK => ?_) (AllReadyH.cons rfl (fun K hK => ?_) AllReadyH.nil))
            · skip
              refine step_append_obj rfl _ _ rfl (w.heap.size + 2) (.slice (some ⟨B38, 0, none⟩) 0 0) 0 [] rfl HO38.out _ la _ (objsOf E) rfl (HS0.out.at_.keep HBR.out.below).o HS0.out.nilo (by omega) HBR.out.ge ?_
              intro q1 c1 u3 hown hgrow
              simp only [List.nil_append] at hown
              have HO1 := Lib.hid hown
              have HBR2 := Lib.hid (HBR.out.grown HO38.out (Nat.le_refl _) hgrow)
              have HO42 := Lib.hid (own_grown HO42.out hgrow (own_apartT HO42.out HO38.out (by decide)))
              have HBR := HBR2
              clear hown hgrow HBR2 HO38
              refine hK.out _ _ (⟨HBR, HBR.out.cells.1, HBR.out.cells.2⟩) (fun HS => ?_)
              clear hK K
              refine wpAnyH_ready (rs := [7, 9]) (by kernel_rfl) (by simp) (AllReadyH.cons rfl (fun K hK => ?_) (AllReadyH.cons rfl (fun K hK => ?_) AllReadyH.nil))
              · skip
                refine step_append_gone rfl _ _ rfl (w.heap.size + 2) (.slice (some ⟨B42, 0, none⟩) 0 0) 0 [] rfl HO42.out _ lg _ (gonsOf E) rfl (HS0.out.at_.keep HBR.out.below).d HS0.out.nilg (by omega) HBR.out.ge ?_
                intro q2 c2 u4 hown hgrow
                simp only [List.nil_append] at hown
                have HO2 := Lib.hid hown
                have HBR2 := Lib.hid (HBR.out.grown HO42.out (Nat.le_refl _) hgrow)
                have HO1 := Lib.hid (own_grown HO1.out hgrow (own_apartT HO1.out HO42.out (by decide)))
                have HBR := HBR2
                clear hown hgrow HBR2 HO42
                refine hK.out _ _ (⟨HBR, HBR.out.cells.1, HBR.out.cells.2⟩) (fun HS => ?_)
                clear hK K
                refine held_take (i := 8) (d := 46) (v := .agg #[.slice q1 (0 + la) c1, .slice q2 (0 + lg) c2]) rfl rfl (by kernel_rfl) (by kernel_rfl) (by kernel_rfl) (by kernel_rfl) (fun wx hS => by go_simp) HS ?_
                refine wpAnyH_ready (rs := [9]) (by kernel_rfl) (by simp) (AllReadyH.cons rfl (fun K hK => ?_) AllReadyH.nil)
                go_simp
                have HBR2 := Lib.hid (HBR.out.al (.cells #[.slice none 0 0, .slice none 0 0] 27))
                have HNEW := Lib.hid (row_new u4 #[.slice none 0 0, .slice none 0 0] 27)
                have HO1 := Lib.hid (own_below HO1.out (below_alloc (Below.refl _ _) (.cells #[.slice none 0 0, .slice none 0 0] 27)))
                have HO2 := Lib.hid (own_below HO2.out (below_alloc (Below.refl _ _) (.cells #[.slice none 0 0, .slice none 0 0] 27)))
                have HGE := Lib.hid HBR.out.ge
                obtain ⟨B13, hb13⟩ : ∃ x, u4.heap.size = x := ⟨_, rfl⟩
                obtain ⟨u5, hu2⟩ : ∃ x, u4.alloc (.cells #[.slice none 0 0, .slice none 0 0] 27) = x := ⟨_, rfl⟩
                rw [hb13] at HNEW HGE ⊢
                rw [hu2] at HBR2 HNEW HO1 HO2 ⊢
                clear hb13 hu2 HBR
                have HU := HNEW
                have HBR := HBR2
                have HUGE := HGE
                clear HNEW HBR2 HGE
                refine hK.out _ _ (⟨HBR, HBR.out.cells.1, HBR.out.cells.2⟩) (fun HS => ?_)
                clear hK K
                refine wpAnyH_ready (rs := [10]) (by kernel_rfl) (by simp) (AllReadyH.cons rfl (fun K hK => ?_) AllReadyH.nil)
                have k0 := HU.out.cell (j := 0) (by simp)
                have k1 := HU.out.cell (j := 1) (by simp)
                have kf0 := HU.out.free 0
                have kf1 := HU.out.free 1
                simp at k0 k1
                go_simp
                have HBS := Lib.hid ((HBR.out.set HUGE.out 0 (.slice q1 la c1)).set HUGE.out 1 (.slice q2 lg c2))
                refine hK.out _ _ (⟨HBS, HBS.out.cells.1, HBS.out.cells.2⟩) (fun HS => ?_)
                clear hK K k0 k1 kf0 kf1
                refine wpAnyH_done (by kernel_rfl) (NoPanic.normal ?_) _
                simp only [Nat.zero_add] at HO1 HO2
                have HUS := Lib.hid (show Row ((u5.setCell ⟨B13, 0, none⟩ (.slice q1 la c1)).setCell ⟨B13, 1, none⟩ (.slice q2 lg c2)) B13 27 #[.slice q1 la c1, .slice q2 lg c2] from (HU.out.set 0 _).set 1 _)
                have HP1 := Lib.hid (own_put (own_put HO1.out (own_ne_row HO1.out HU.out (by decide)) 0 (.slice q1 la c1)) (own_ne_row HO1.out HU.out (by decide)) 1 (.slice q2 lg c2))
                have HP2 := Lib.hid (own_put (own_put HO2.out (own_ne_row HO2.out HU.out (by decide)) 0 (.slice q1 la c1)) (own_ne_row HO2.out HU.out (by decide)) 1 (.slice q2 lg c2))
                obtain ⟨ws, hws⟩ : ∃ x, ((u5.setCell ⟨B13, 0, none⟩ (.slice q1 la c1)).setCell ⟨B13, 1, none⟩ (.slice q2 lg c2)) = x := ⟨_, rfl⟩
                rw [hws] at HUS HP1 HP2 HBS ⊢
                clear hws HO1 HO2 HU HBR HS
                obtain ⟨g1, cur, rfl, _, hg1, hr1, hc1, hc2, hs1, _⟩ := own_rowObj HP1.out (by omega)
                have a0 := hr1.cell (j := p * 3) (by omega)
                have a1 := hr1.cell (j := p * 3 + 1) (by omega)
                have a2 := hr1.cell (j := p * 3 + 2) (by omega)
                generalize cur[p * 3] = y0 at a0
                generalize cur[p * 3 + 1] = y1 at a1
                generalize cur[p * 3 + 2] = y2 at a2
                have b0 := hr1.free (p * 3)
                have b1 := hr1.free (p * 3 + 1)
                have b2 := hr1.free (p * 3 + 2)
                have hne : g1 ≠ B13 := fun he => own_ne_row HP1.out HUS.out (by decide) g1 rfl he.symm
                have hne2 := Ne.symm hne
                have d0 := HUS.out.cell (j := 0) (by simp)
                simp at d0
                have HU3 := Lib.hid (show Row (((ws.setCell ⟨g1, p * 3, none⟩ (.string key)).setCell ⟨g1, p * 3 + 1, none⟩ (.int .i64 (v + 1))).setCell ⟨g1, p * 3 + 2, none⟩ (.string data)) B13 27 #[.slice (some ⟨g1, 0, none⟩) la c1, .slice q2 lg c2] from ((HUS.out.put hne2 _ _).put hne2 _ _).put hne2 _ _)
                have HB3 := Lib.hid (show BRow w #[.slice (some ⟨gb, go, none⟩) la ca, .slice g lg cg] (((ws.setCell ⟨g1, p * 3, none⟩ (.string key)).setCell ⟨g1, p * 3 + 1, none⟩ (.int .i64 (v + 1))).setCell ⟨g1, p * 3 + 2, none⟩ (.string data)) from ((HBS.out.set hg1 _ _).set hg1 _ _).set hg1 _ _)
                have HQ1 := Lib.hid (own_setObj HP1.out hpl2 key (v + 1) data)
                have HQ2 := Lib.hid (own_put (own_put (own_put HP2.out (fun x hx he => own_ne_row HP2.out hr1 (by decide) x hx he) (p * 3) (.string key)) (fun x hx he => own_ne_row HP2.out hr1 (by decide) x hx he) (p * 3 + 1) (.int .i64 (v + 1))) (fun x hx he => own_ne_row HP2.out hr1 (by decide) x hx he) (p * 3 + 2) (.string data))
                have e0 := HU3.out.cell (j := 0) (by simp)
                have e1 := HU3.out.cell (j := 1) (by simp)
                have s0 := HB3.out.res.cell (j := 0) (by simp)
                have s1 := HB3.out.res.cell (j := 1) (by simp)
                have z0 := HB3.out.res.free 0
                have z1 := HB3.out.res.free 1
                simp at e0 e1 s0 s1
                clear hr1 hs1 hc1 hc2
                go_wp2
                have hb := ((HB3.out.res.set 0 (.slice (some ⟨g1, 0, none⟩) la c1)).set 1 (.slice q2 lg c2))
                unfold Row at hb
                have hL : ((objsOf E).set p (key, v + 1, data)).length = la := by rw [List.length_set]; exact HLA.out
                have hR : resO (replE key v data E) = (objsOf E).set p (key, v + 1, data) ∧ resG (replE key v data E) = gonsOf E := by
                  rw [HC.out]
                  refine ⟨?_, gons_same HE.out.inc (by rw [HL.out]; rfl)⟩
                  show objsOf (putE key (v + 1, data, false) E) = _
                  rw [objs_set HE.out.inc HOB.out]
                  unfold poO
                  rw [HP.out]
                exact bodyPost_ret (v := .tuple #[.agg #[.slice (some ⟨g1, 0, none⟩) la c1, .slice q2 lg c2], .int .i64 (v + 1), .int .i64 0]) (by simp [results, Try.results44, go_sem, World.cell?, hb]) rfl ⟨_, _, _, _, _, _, by rw [HC.out], (HB3.out.below.setCell (by show w.heap.size ≤ w.heap.size + 1; omega) _).setCell (by show w.heap.size ≤ w.heap.size + 1; omega) _, by rw [hR.1, hR.2]; exact made_res (made_k (w := w) HQ1.out HQ2.out (Nat.le_refl _) (Nat.le_refl _) hL HLG.out) _ _⟩
              · skip
                go_simp
                have HBR2 := Lib.hid (HBR.out.al (.cells #[.slice none 0 0, .slice none 0 0] 27))
                have HNEW := Lib.hid (row_new u3 #[.slice none 0 0, .slice none 0 0] 27)
                have HO42 := Lib.hid (own_below HO42.out (below_alloc (Below.refl _ _) (.cells #[.slice none 0 0, .slice none 0 0] 27)))
                have HO1 := Lib.hid (own_below HO1.out (below_alloc (Below.refl _ _) (.cells #[.slice none 0 0, .slice none 0 0] 27)))
                have HGE := Lib.hid HBR.out.ge
                obtain ⟨B13, hb13⟩ : ∃ x, u3.heap.size = x := ⟨_, rfl⟩
                obtain ⟨u4, hu2⟩ : ∃ x, u3.alloc (.cells #[.slice none 0 0, .slice none 0 0] 27) = x := ⟨_, rfl⟩
                rw [hb13] at HNEW HGE ⊢
                rw [hu2] at HBR2 HNEW HO42 HO1 ⊢
                clear hb13 hu2 HBR
                have HU := HNEW
                have HBR := HBR2
                have HUGE := HGE
                clear HNEW HBR2 HGE
                refine hK.out _ _ (⟨HBR, HBR.out.cells.1, HBR.out.cells.2⟩) (fun HS => ?_)
                clear hK K
                refine wpAnyH_ready (rs := [7]) (by kernel_rfl) (by simp) (AllReadyH.cons rfl (fun K hK => ?_) AllReadyH.nil)
                refine step_append_gone rfl _ _ rfl (w.heap.size + 2) (.slice (some ⟨B42, 0, none⟩) 0 0) 0 [] rfl HO42.out _ lg _ (gonsOf E) rfl (HS0.out.at_.keep HBR.out.below).d HS0.out.nilg (by omega) HBR.out.ge ?_
                intro q2 c2 u5 hown hgrow
                simp only [List.nil_append] at hown
                have HO2 := Lib.hid hown
                have HBR2 := Lib.hid (HBR.out.grown HO42.out (Nat.le_refl _) hgrow)
                have HO1 := Lib.hid (own_grown HO1.out hgrow (own_apartT HO1.out HO42.out (by decide)))
                have HU := Lib.hid (row_grownT HU.out HO42.out (by decide) hgrow)
                have HBR := HBR2
                clear hown hgrow HBR2 HO42
                refine hK.out _ _ (⟨HBR, HBR.out.cells.1, HBR.out.cells.2⟩) (fun HS => ?_)
                clear hK K
                refine held_take (i := 8) (d := 46) (v := .agg #[.slice q1 (0 + la) c1, .slice q2 (0 + lg) c2]) rfl rfl (by kernel_rfl) (by kernel_rfl) (by kernel_rfl) (by kernel_rfl) (fun wx hS => by go_simp) HS ?_
                refine wpAnyH_ready (rs := [10]) (by kernel_rfl) (by simp) (AllReadyH.cons rfl (fun K hK => ?_) AllReadyH.nil)
                have k0 := HU.out.cell (j := 0) (by simp)
                have k1 := HU.out.cell (j := 1) (by simp)
                have kf0 := HU.out.free 0
                have kf1 := HU.out.free 1
                simp at k0 k1
                go_simp
                have HBS := Lib.hid ((HBR.out.set HUGE.out 0 (.slice q1 la c1)).set HUGE.out 1 (.slice q2 lg c2))
                refine hK.out _ _ (⟨HBS, HBS.out.cells.1, HBS.out.cells.2⟩) (fun HS => ?_)
                clear hK K k0 k1 kf0 kf1
                refine wpAnyH_done (by kernel_rfl) (NoPanic.normal ?_) _
                simp only [Nat.zero_add] at HO1 HO2
                have HUS := Lib.hid (show Row ((u5.setCell ⟨B13, 0, none⟩ (.slice q1 la c1)).setCell ⟨B13, 1, none⟩ (.slice q2 lg c2)) B13 27 #[.slice q1 la c1, .slice q2 lg c2] from (HU.out.set 0 _).set 1 _)
                have HP1 := Lib.hid (own_put (own_put HO1.out (own_ne_row HO1.out HU.out (by decide)) 0 (.slice q1 la c1)) (own_ne_row HO1.out HU.out (by decide)) 1 (.slice q2 lg c2))
                have HP2 := Lib.hid (own_put (own_put HO2.out (own_ne_row HO2.out HU.out (by decide)) 0 (.slice q1 la c1)) (own_ne_row HO2.out HU.out (by decide)) 1 (.slice q2 lg c2))
                obtain ⟨ws, hws⟩ : ∃ x, ((u5.setCell ⟨B13, 0, none⟩ (.slice q1 la c1)).setCell ⟨B13, 1, none⟩ (.slice q2 lg c2)) = x := ⟨_, rfl⟩
                rw [hws] at HUS HP1 HP2 HBS ⊢
                clear hws HO1 HO2 HU HBR HS
                obtain ⟨g1, cur, rfl, _, hg1, hr1, hc1, hc2, hs1, _⟩ := own_rowObj HP1.out (by omega)
                have a0 := hr1.cell (j := p * 3) (by omega)
                have a1 := hr1.cell (j := p * 3 + 1) (by omega)
                have a2 := hr1.cell (j := p * 3 + 2) (by omega)
                generalize cur[p * 3] = y0 at a0
                generalize cur[p * 3 + 1] = y1 at a1
                generalize cur[p * 3 + 2] = y2 at a2
                have b0 := hr1.free (p * 3)
                have b1 := hr1.free (p * 3 + 1)
                have b2 := hr1.free (p * 3 + 2)
                have hne : g1 ≠ B13 := fun he => own_ne_row HP1.out HUS.out (by decide) g1 rfl he.symm
                have hne2 := Ne.symm hne
                have d0 := HUS.out.cell (j := 0) (by simp)
                simp at d0
                have HU3 := Lib.hid (show Row (((ws.setCell ⟨g1, p * 3, none⟩ (.string key)).setCell ⟨g1, p * 3 + 1, none⟩ (.int .i64 (v + 1))).setCell ⟨g1, p * 3 + 2, none⟩ (.string data)) B13 27 #[.slice (some ⟨g1, 0, none⟩) la c1, .slice q2 lg c2] from ((HUS.out.put hne2 _ _).put hne2 _ _).put hne2 _ _)
                have HB3 := Lib.hid (show BRow w #[.slice (some ⟨gb, go, none⟩) la ca, .slice g lg cg] (((ws.setCell ⟨g1, p * 3, none⟩ (.string key)).setCell ⟨g1, p * 3 + 1, none⟩ (.int .i64 (v + 1))).setCell ⟨g1, p * 3 + 2, none⟩ (.string data)) from ((HBS.out.set hg1 _ _).set hg1 _ _).set hg1 _ _)
                have HQ1 := Lib.hid (own_setObj HP1.out hpl2 key (v + 1) data)
                have HQ2 := Lib.hid (own_put (own_put (own_put HP2.out (fun x hx he => own_ne_row HP2.out hr1 (by decide) x hx he) (p * 3) (.string key)) (fun x hx he => own_ne_row HP2.out hr1 (by decide) x hx he) (p * 3 + 1) (.int .i64 (v + 1))) (fun x hx he => own_ne_row HP2.out hr1 (by decide) x hx he) (p * 3 + 2) (.string data))
                have e0 := HU3.out.cell (j := 0) (by simp)
                have e1 := HU3.out.cell (j := 1) (by simp)
                have s0 := HB3.out.res.cell (j := 0) (by simp)
                have s1 := HB3.out.res.cell (j := 1) (by simp)
                have z0 := HB3.out.res.free 0
                have z1 := HB3.out.res.free 1
                simp at e0 e1 s0 s1
                clear hr1 hs1 hc1 hc2
                go_wp2
                have hb := ((HB3.out.res.set 0 (.slice (some ⟨g1, 0, none⟩) la c1)).set 1 (.slice q2 lg c2))
                unfold Row at hb
                have hL : ((objsOf E).set p (key, v + 1, data)).length = la := by rw [List.length_set]; exact HLA.out
                have hR : resO (replE key v data E) = (objsOf E).set p (key, v + 1, data) ∧ resG (replE key v data E) = gonsOf E := by
                  rw [HC.out]
                  refine ⟨?_, gons_same HE.out.inc (by rw [HL.out]; rfl)⟩
                  show objsOf (putE key (v + 1, data, false) E) = _
                  rw [objs_set HE.out.inc HOB.out]
                  unfold poO
                  rw [HP.out]
                exact bodyPost_ret (v := .tuple #[.agg #[.slice (some ⟨g1, 0, none⟩) la c1, .slice q2 lg c2], .int .i64 (v + 1), .int .i64 0]) (by simp [results, Try.results44, go_sem, World.cell?, hb]) rfl ⟨_, _, _, _, _, _, by rw [HC.out], (HB3.out.below.setCell (by show w.heap.size ≤ w.heap.size + 1; omega) _).setCell (by show w.heap.size ≤ w.heap.size + 1; omega) _, by rw [hR.1, hR.2]; exact made_res (made_k (w := w) HQ1.out HQ2.out (Nat.le_refl _) (Nat.le_refl _) hL HLG.out) _ _⟩
            · skip
              go_simp
              have HBR2 := Lib.hid (HBR.out.al (.cells #[.slice none 0 0, .slice none 0 0] 27))
              have HNEW := Lib.hid (row_new u2 #[.slice none 0 0, .slice none 0 0] 27)
              have HO38 := Lib.hid (own_below HO38.out (below_alloc (Below.refl _ _) (.cells #[.slice none 0 0, .slice none 0 0] 27)))
              have HO42 := Lib.hid (own_below HO42.out (below_alloc (Below.refl _ _) (.cells #[.slice none 0 0, .slice none 0 0] 27)))
              have HGE := Lib.hid HBR.out.ge
              obtain ⟨B13, hb13⟩ : ∃ x, u2.heap.size = x := ⟨_, rfl⟩
              obtain ⟨u3, hu2⟩ : ∃ x, u2.alloc (.cells #[.slice none 0 0, .slice none 0 0] 27) = x := ⟨_, rfl⟩
              rw [hb13] at HNEW HGE ⊢
              rw [hu2] at HBR2 HNEW HO38 HO42 ⊢
              clear hb13 hu2 HBR
              have HU := HNEW
              have HBR := HBR2
              have HUGE := HGE
              clear HNEW HBR2 HGE
              refine hK.out _ _ (⟨HBR, HBR.out.cells.1, HBR.out.cells.2⟩) (fun HS => ?_)
              clear hK K
              refine wpAnyH_ready (rs := [3]) (by kernel_rfl) (by simp) (AllReadyH.cons rfl (fun K hK => ?_) AllReadyH.nil)
              refine step_append_obj rfl _ _ rfl (w.heap.size + 2) (.slice (some ⟨B38, 0, none⟩) 0 0) 0 [] rfl HO38.out _ la _ (objsOf E) rfl (HS0.out.at_.keep HBR.out.below).o HS0.out.nilo (by omega) HBR.out.ge ?_
              intro q1 c1 u4 hown hgrow
              simp only [List.nil_append] at hown
              have HO1 := Lib.hid hown
              have HBR2 := Lib.hid (HBR.out.grown HO38.out (Nat.le_refl _) hgrow)
              have HO42 := Lib.hid (own_grown HO42.out hgrow (own_apartT HO42.out HO38.out (by decide)))
              have HU := Lib.hid (row_grownT HU.out HO38.out (by decide) hgrow)
              have HBR := HBR2
              clear hown hgrow HBR2 HO38
              refine hK.out _ _ (⟨HBR, HBR.out.cells.1, HBR.out.cells.2⟩) (fun HS => ?_)
              clear hK K
              refine wpAnyH_ready (rs := [7]) (by kernel_rfl) (by simp) (AllReadyH.cons rfl (fun K hK => ?_) AllReadyH.nil)
              refine step_append_gone rfl _ _ rfl (w.heap.size + 2) (.slice (some ⟨B42, 0, none⟩) 0 0) 0 [] rfl HO42.out _ lg _ (gonsOf E) rfl (HS0.out.at_.keep HBR.out.below).d HS0.out.nilg (by omega) HBR.out.ge ?_
              intro q2 c2 u5 hown hgrow
              simp only [List.nil_append] at hown
              have HO2 := Lib.hid hown
              have HBR2 := Lib.hid (HBR.out.grown HO42.out (Nat.le_refl _) hgrow)
              have HU := Lib.hid (row_grownT HU.out HO42.out (by decide) hgrow)
              have HO1 := Lib.hid (own_grown HO1.out hgrow (own_apartT HO1.out HO42.out (by decide)))
              have HBR := HBR2
              clear hown hgrow HBR2 HO42
              refine hK.out _ _ (⟨HBR, HBR.out.cells.1, HBR.out.cells.2⟩) (fun HS => ?_)
              clear hK K
              refine held_take (i := 8) (d := 46) (v := .agg #[.slice q1 (0 + la) c1, .slice q2 (0 + lg) c2]) rfl rfl (by kernel_rfl) (by kernel_rfl) (by kernel_rfl) (by kernel_rfl) (fun wx hS => by go_simp) HS ?_
              refine wpAnyH_ready (rs := [10]) (by kernel_rfl) (by simp) (AllReadyH.cons rfl (fun K hK => ?_) AllReadyH.nil)
              have k0 := HU.out.cell (j := 0) (by simp)
              have k1 := HU.out.cell (j := 1) (by simp)
              have kf0 := HU.out.free 0
              have kf1 := HU.out.free 1
              simp at k0 k1
              go_simp
              have HBS := Lib.hid ((HBR.out.set HUGE.out 0 (.slice q1 la c1)).set HUGE.out 1 (.slice q2 lg c2))
              refine hK.out _ _ (⟨HBS, HBS.out.cells.1, HBS.out.cells.2⟩) (fun HS => ?_)
              clear hK K k0 k1 kf0 kf1
              refine wpAnyH_done (by kernel_rfl) (NoPanic.normal ?_) _
              simp only [Nat.zero_add] at HO1 HO2
              have HUS := Lib.hid (show Row ((u5.setCell ⟨B13, 0, none⟩ (.slice q1 la c1)).setCell ⟨B13, 1, none⟩ (.slice q2 lg c2)) B13 27 #[.slice q1 la c1, .slice q2 lg c2] from (HU.out.set 0 _).set 1 _)
              have HP1 := Lib.hid (own_put (own_put HO1.out (own_ne_row HO1.out HU.out (by decide)) 0 (.slice q1 la c1)) (own_ne_row HO1.out HU.out (by decide)) 1 (.slice q2 lg c2))
              have HP2 := Lib.hid (own_put (own_put HO2.out (own_ne_row HO2.out HU.out (by decide)) 0 (.slice q1 la c1)) (own_ne_row HO2.out HU.out (by decide)) 1 (.slice q2 lg c2))
              obtain ⟨ws, hws⟩ : ∃ x, ((u5.setCell ⟨B13, 0, none⟩ (.slice q1 la c1)).setCell ⟨B13, 1, none⟩ (.slice q2 lg c2)) = x := ⟨_, rfl⟩
              rw [hws] at HUS HP1 HP2 HBS ⊢
              clear hws HO1 HO2 HU HBR HS
              obtain ⟨g1, cur, rfl, _, hg1, hr1, hc1, hc2, hs1, _⟩ := own_rowObj HP1.out (by omega)
              have a0 := hr1.cell (j := p * 3) (by omega)
              have a1 := hr1.cell (j := p * 3 + 1) (by omega)
              have a2 := hr1.cell (j := p * 3 + 2) (by omega)
              generalize cur[p * 3] = y0 at a0
              generalize cur[p * 3 + 1] = y1 at a1
              generalize cur[p * 3 + 2] = y2 at a2
              have b0 := hr1.free (p * 3)
              have b1 := hr1.free (p * 3 + 1)
              have b2 := hr1.free (p * 3 + 2)
              have hne : g1 ≠ B13 := fun he => own_ne_row HP1.out HUS.out (by decide) g1 rfl he.symm
              have hne2 := Ne.symm hne
              have d0 := HUS.out.cell (j := 0) (by simp)
              simp at d0
              have HU3 := Lib.hid (show Row (((ws.setCell ⟨g1, p * 3, none⟩ (.string key)).setCell ⟨g1, p * 3 + 1, none⟩ (.int .i64 (v + 1))).setCell ⟨g1, p * 3 + 2, none⟩ (.string data)) B13 27 #[.slice (some ⟨g1, 0, none⟩) la c1, .slice q2 lg c2] from ((HUS.out.put hne2 _ _).put hne2 _ _).put hne2 _ _)
              have HB3 := Lib.hid (show BRow w #[.slice (some ⟨gb, go, none⟩) la ca, .slice g lg cg] (((ws.setCell ⟨g1, p * 3, none⟩ (.string key)).setCell ⟨g1, p * 3 + 1, none⟩ (.int .i64 (v + 1))).setCell ⟨g1, p * 3 + 2, none⟩ (.string data)) from ((HBS.out.set hg1 _ _).set hg1 _ _).set hg1 _ _)
              have HQ1 := Lib.hid (own_setObj HP1.out hpl2 key (v + 1) data)
              have HQ2 := Lib.hid (own_put (own_put (own_put HP2.out (fun x hx he => own_ne_row HP2.out hr1 (by decide) x hx he) (p * 3) (.string key)) (fun x hx he => own_ne_row HP2.out hr1 (by decide) x hx he) (p * 3 + 1) (.int .i64 (v + 1))) (fun x hx he => own_ne_row HP2.out hr1 (by decide) x hx he) (p * 3 + 2) (.string data))
              have e0 := HU3.out.cell (j := 0) (by simp)
              have e1 := HU3.out.cell (j := 1) (by simp)
              have s0 := HB3.out.res.cell (j := 0) (by simp)
              have s1 := HB3.out.res.cell (j := 1) (by simp)
              have z0 := HB3.out.res.free 0
              have z1 := HB3.out.res.free 1
              simp at e0 e1 s0 s1
              clear hr1 hs1 hc1 hc2
              go_wp2
              have hb := ((HB3.out.res.set 0 (.slice (some ⟨g1, 0, none⟩) la c1)).set 1 (.slice q2 lg c2))
              unfold Row at hb
              have hL : ((objsOf E).set p (key, v + 1, data)).length = la := by rw [List.length_set]; exact HLA.out
              have hR : resO (replE key v data E) = (objsOf E).set p (key, v + 1, data) ∧ resG (replE key v data E) = gonsOf E := by
                rw [HC.out]
                refine ⟨?_, gons_same HE.out.inc (by rw [HL.out]; rfl)⟩
                show objsOf (putE key (v + 1, data, false) E) = _
                rw [objs_set HE.out.inc HOB.out]
                unfold poO
                rw [HP.out]
              exact bodyPost_ret (v := .tuple #[.agg #[.slice (some ⟨g1, 0, none⟩) la c1, .slice q2 lg c2], .int .i64 (v + 1), .int .i64 0]) (by simp [results, Try.results44, go_sem, World.cell?, hb]) rfl ⟨_, _, _, _, _, _, by rw [HC.out], (HB3.out.below.setCell (by show w.heap.size ≤ w.heap.size + 1; omega) _).setCell (by show w.heap.size ≤ w.heap.size + 1; omega) _, by rw [hR.1, hR.2]; exact made_res (made_k (w := w) HQ1.out HQ2.out (Nat.le_refl _) (Nat.le_refl _) hL HLG.out) _ _⟩
          · skip
            go_simp
            have HBR2 := Lib.hid (HBR.out.al (.cells #[.slice none 0 0, .slice none 0 0] 27))
            have HNEW := Lib.hid (row_new u1 #[.slice none 0 0, .slice none 0 0] 27)
            have HO38 := Lib.hid (own_below HO38.out (below_alloc (Below.refl _ _) (.cells #[.slice none 0 0, .slice none 0 0] 27)))
            have HGE := Lib.hid HBR.out.ge
            obtain ⟨B13, hb13⟩ : ∃ x, u1.heap.size = x := ⟨_, rfl⟩
            obtain ⟨u2, hu2⟩ : ∃ x, u1.alloc (.cells #[.slice none 0 0, .slice none 0 0] 27) = x := ⟨_, rfl⟩
            rw [hb13] at HNEW HGE ⊢
            rw [hu2] at HBR2 HNEW HO38 ⊢
            clear hb13 hu2 HBR
            have HU := HNEW
            have HBR := HBR2
            have HUGE := HGE
            clear HNEW HBR2 HGE
            refine hK.out _ _ (⟨HBR, HBR.out.cells.1, HBR.out.cells.2⟩) (fun HS => ?_)
            clear hK K
            refine wpAnyH_ready (rs := [3, 4]) (by kernel_rfl) (by simp) (AllReadyH.cons rfl (fun K hK => ?_) (AllReadyH.cons rfl (fun K hK => ?_) AllReadyH.nil))
            · skip
              refine step_append_obj rfl _ _ rfl (w.heap.size + 2) (.slice (some ⟨B38, 0, none⟩) 0 0) 0 [] rfl HO38.out _ la _ (objsOf E) rfl (HS0.out.at_.keep HBR.out.below).o HS0.out.nilo (by omega) HBR.out.ge ?_
              intro q1 c1 u3 hown hgrow
              simp only [List.nil_append] at hown
              have HO1 := Lib.hid hown
              have HBR2 := Lib.hid (HBR.out.grown HO38.out (Nat.le_refl _) hgrow)
              have HU := Lib.hid (row_grownT HU.out HO38.out (by decide) hgrow)
              have HBR := HBR2
              clear hown hgrow HBR2 HO38
              refine hK.out _ _ (⟨HBR, HBR.out.cells.1, HBR.out.cells.2⟩) (fun HS => ?_)
              clear hK K
              refine wpAnyH_ready (rs := [4]) (by kernel_rfl) (by simp) (AllReadyH.cons rfl (fun K hK => ?_) AllReadyH.nil)
              go_simp
              have HBR2 := Lib.hid (HBR.out.al (.cells #[] 45))
              have HNEW := Lib.hid (own_zeroGone (row_new u3 #[] 45) HBR.out.ge)
              have HU := Lib.hid (HU.out.al (.cells #[] 45))
              have HO1 := Lib.hid (own_below HO1.out (below_alloc (Below.refl _ _) (.cells #[] 45)))
              obtain ⟨B42, hb42⟩ : ∃ x, u3.heap.size = x := ⟨_, rfl⟩
              obtain ⟨u4, hu2⟩ : ∃ x, u3.alloc (.cells #[] 45) = x := ⟨_, rfl⟩
              rw [hb42] at HNEW ⊢
              rw [hu2] at HBR2 HNEW HU HO1 ⊢
              clear hb42 hu2 HBR
              have HO42 := HNEW
              have HBR := HBR2
              clear HNEW HBR2
              refine hK.out _ _ (⟨HBR, HBR.out.cells.1, HBR.out.cells.2⟩) (fun HS => ?_)
              clear hK K
              refine wpAnyH_ready (rs := [7]) (by kernel_rfl) (by simp) (AllReadyH.cons rfl (fun K hK => ?_) AllReadyH.nil)
              refine step_append_gone rfl _ _ rfl (w.heap.size + 2) (.slice (some ⟨B42, 0, none⟩) 0 0) 0 [] rfl HO42.out _ lg _ (gonsOf E) rfl (HS0.out.at_.keep HBR.out.below).d HS0.out.nilg (by omega) HBR.out.ge ?_
              intro q2 c2 u5 hown hgrow
              simp only [List.nil_append] at hown
              have HO2 := Lib.hid hown
              have HBR2 := Lib.hid (HBR.out.grown HO42.out (Nat.le_refl _) hgrow)
              have HU := Lib.hid (row_grownT HU.out HO42.out (by decide) hgrow)
              have HO1 := Lib.hid (own_grown HO1.out hgrow (own_apartT HO1.out HO42.out (by decide)))
              have HBR := HBR2
              clear hown hgrow HBR2 HO42
              refine hK.out _ _ (⟨HBR, HBR.out.cells.1, HBR.out.cells.2⟩) (fun HS => ?_)
              clear hK K
              refine held_take (i := 8) (d := 46) (v := .agg #[.slice q1 (0 + la) c1, .slice q2 (0 + lg) c2]) rfl rfl (by kernel_rfl) (by kernel_rfl) (by kernel_rfl) (by kernel_rfl) (fun wx hS => by go_simp) HS ?_
              refine wpAnyH_ready (rs := [10]) (by kernel_rfl) (by simp) (AllReadyH.cons rfl (fun K hK => ?_) AllReadyH.nil)
              have k0 := HU.out.cell (j := 0) (by simp)
              have k1 := HU.out.cell (j := 1) (by simp)
              have kf0 := HU.out.free 0
              have kf1 := HU.out.free 1
              simp at k0 k1
              go_simp
              have HBS := Lib.hid ((HBR.out.set HUGE.out 0 (.slice q1 la c1)).set HUGE.out 1 (.slice q2 lg c2))
              refine hK.out _ _ (⟨HBS, HBS.out.cells.1, HBS.out.cells.2⟩) (fun HS => ?_)
              clear hK K k0 k1 kf0 kf1
              refine wpAnyH_done (by kernel_rfl) (NoPanic.normal ?_) _
              simp only [Nat.zero_add] at HO1 HO2
              have HUS := Lib.hid (show Row ((u5.setCell ⟨B13, 0, none⟩ (.slice q1 la c1)).setCell ⟨B13, 1, none⟩ (.slice q2 lg c2)) B13 27 #[.slice q1 la c1, .slice q2 lg c2] from (HU.out.set 0 _).set 1 _)
              have HP1 := Lib.hid (own_put (own_put HO1.out (own_ne_row HO1.out HU.out (by decide)) 0 (.slice q1 la c1)) (own_ne_row HO1.out HU.out (by decide)) 1 (.slice q2 lg c2))
              have HP2 := Lib.hid (own_put (own_put HO2.out (own_ne_row HO2.out HU.out (by decide)) 0 (.slice q1 la c1)) (own_ne_row HO2.out HU.out (by decide)) 1 (.slice q2 lg c2))
              obtain ⟨ws, hws⟩ : ∃ x, ((u5.setCell ⟨B13, 0, none⟩ (.slice q1 la c1)).setCell ⟨B13, 1, none⟩ (.slice q2 lg c2)) = x := ⟨_, rfl⟩
              rw [hws] at HUS HP1 HP2 HBS ⊢
              clear hws HO1 HO2 HU HBR HS
              obtain ⟨g1, cur, rfl, _, hg1, hr1, hc1, hc2, hs1, _⟩ := own_rowObj HP1.out (by omega)
              have a0 := hr1.cell (j := p * 3) (by omega)
              have a1 := hr1.cell (j := p * 3 + 1) (by omega)
              have a2 := hr1.cell (j := p * 3 + 2) (by omega)
              generalize cur[p * 3] = y0 at a0
              generalize cur[p * 3 + 1] = y1 at a1
              generalize cur[p * 3 + 2] = y2 at a2
              have b0 := hr1.free (p * 3)
              have b1 := hr1.free (p * 3 + 1)
              have b2 := hr1.free (p * 3 + 2)
              have hne : g1 ≠ B13 := fun he => own_ne_row HP1.out HUS.out (by decide) g1 rfl he.symm
              have hne2 := Ne.symm hne
              have d0 := HUS.out.cell (j := 0) (by simp)
              simp at d0
              have HU3 := Lib.hid (show Row (((ws.setCell ⟨g1, p * 3, none⟩ (.string key)).setCell ⟨g1, p * 3 + 1, none⟩ (.int .i64 (v + 1))).setCell ⟨g1, p * 3 + 2, none⟩ (.string data)) B13 27 #[.slice (some ⟨g1, 0, none⟩) la c1, .slice q2 lg c2] from ((HUS.out.put hne2 _ _).put hne2 _ _).put hne2 _ _)
              have HB3 := Lib.hid (show BRow w #[.slice (some ⟨gb, go, none⟩) la ca, .slice g lg cg] (((ws.setCell ⟨g1, p * 3, none⟩ (.string key)).setCell ⟨g1, p * 3 + 1, none⟩ (.int .i64 (v + 1))).setCell ⟨g1, p * 3 + 2, none⟩ (.string data)) from ((HBS.out.set hg1 _ _).set hg1 _ _).set hg1 _ _)
              have HQ1 := Lib.hid (own_setObj HP1.out hpl2 key (v + 1) data)
              have HQ2 := Lib.hid (own_put (own_put (own_put HP2.out (fun x hx he => own_ne_row HP2.out hr1 (by decide) x hx he) (p * 3) (.string key)) (fun x hx he => own_ne_row HP2.out hr1 (by decide) x hx he) (p * 3 + 1) (.int .i64 (v + 1))) (fun x hx he => own_ne_row HP2.out hr1 (by decide) x hx he) (p * 3 + 2) (.string data))
              have e0 := HU3.out.cell (j := 0) (by simp)
              have e1 := HU3.out.cell (j := 1) (by simp)
              have s0 := HB3.out.res.cell (j := 0) (by simp)
              have s1 := HB3.out.res.cell (j := 1) (by simp)
              have z0 := HB3.out.res.free 0
              have z1 := HB3.out.res.free 1
              simp at e0 e1 s0 s1
              clear hr1 hs1 hc1 hc2
              go_wp2
              have hb := ((HB3.out.res.set 0 (.slice (some ⟨g1, 0, none⟩) la c1)).set 1 (.slice q2 lg c2))
              unfold Row at hb
              have hL : ((objsOf E).set p (key, v + 1, data)).length = la := by rw [List.length_set]; exact HLA.out
              have hR : resO (replE key v data E) = (objsOf E).set p (key, v + 1, data) ∧ resG (replE key v data E) = gonsOf E := by
                rw [HC.out]
                refine ⟨?_, gons_same HE.out.inc (by rw [HL.out]; rfl)⟩
                show objsOf (putE key (v + 1, data, false) E) = _
                rw [objs_set HE.out.inc HOB.out]
                unfold poO
                rw [HP.out]
              exact bodyPost_ret (v := .tuple #[.agg #[.slice (some ⟨g1, 0, none⟩) la c1, .slice q2 lg c2], .int .i64 (v + 1), .int .i64 0]) (by simp [results, Try.results44, go_sem, World.cell?, hb]) rfl ⟨_, _, _, _, _, _, by rw [HC.out], (HB3.out.below.setCell (by show w.heap.size ≤ w.heap.size + 1; omega) _).setCell (by show w.heap.size ≤ w.heap.size + 1; omega) _, by rw [hR.1, hR.2]; exact made_res (made_k (w := w) HQ1.out HQ2.out (Nat.le_refl _) (Nat.le_refl _) hL HLG.out) _ _⟩
            · skip
              go_simp
              have HBR2 := Lib.hid (HBR.out.al (.cells #[] 45))
              have HNEW := Lib.hid (own_zeroGone (row_new u2 #[] 45) HBR.out.ge)
              have HO38 := Lib.hid (own_below HO38.out (below_alloc (Below.refl _ _) (.cells #[] 45)))
              have HU := Lib.hid (HU.out.al (.cells #[] 45))
              obtain ⟨B42, hb42⟩ : ∃ x, u2.heap.size = x := ⟨_, rfl⟩
              obtain ⟨u3, hu2⟩ : ∃ x, u2.alloc (.cells #[] 45) = x := ⟨_, rfl⟩
              rw [hb42] at HNEW ⊢
              rw [hu2] at HBR2 HNEW HO38 HU ⊢
              clear hb42 hu2 HBR
              have HO42 := HNEW
              have HBR := HBR2
              clear HNEW HBR2
              refine hK.out _ _ (⟨HBR, HBR.out.cells.1, HBR.out.cells.2⟩) (fun HS => ?_)
              clear hK K
              refine wpAnyH_ready (rs := [3]) (by kernel_rfl) (by simp) (AllReadyH.cons rfl (fun K hK => ?_) AllReadyH.nil)
              refine step_append_obj rfl _ _ rfl (w.heap.size + 2) (.slice (some ⟨B38, 0, none⟩) 0 0) 0 [] rfl HO38.out _ la _ (objsOf E) rfl (HS0.out.at_.keep HBR.out.below).o HS0.out.nilo (by omega) HBR.out.ge ?_
              intro q1 c1 u4 hown hgrow
              simp only [List.nil_append] at hown
              have HO1 := Lib.hid hown
              have HBR2 := Lib.hid (HBR.out.grown HO38.out (Nat.le_refl _) hgrow)
              have HU := Lib.hid (row_grownT HU.out HO38.out (by decide) hgrow)
              have HO42 := Lib.hid (own_grown HO42.out hgrow (own_apartT HO42.out HO38.out (by decide)))
              have HBR := HBR2
              clear hown hgrow HBR2 HO38
              refine hK.out _ _ (⟨HBR, HBR.out.cells.1, HBR.out.cells.2⟩) (fun HS => ?_)
              clear hK K
              refine wpAnyH_ready (rs := [7]) (by kernel_rfl) (by simp) (AllReadyH.cons rfl (fun K hK => ?_) AllReadyH.nil)
              refine step_append_gone rfl _ _ rfl (w.heap.size + 2) (.slice (some ⟨B42, 0, none⟩) 0 0) 0 [] rfl HO42.out _ lg _ (gonsOf E) rfl (HS0.out.at_.keep HBR.out.below).d HS0.out.nilg (by omega) HBR.out.ge ?_
              intro q2 c2 u5 hown hgrow
              simp only [List.nil_append] at hown
              have HO2 := Lib.hid hown
              have HBR2 := Lib.hid (HBR.out.grown HO42.out (Nat.le_refl _) hgrow)
              have HU := Lib.hid (row_grownT HU.out HO42.out (by decide) hgrow)
              have HO1 := Lib.hid (own_grown HO1.out hgrow (own_apartT HO1.out HO42.out (by decide)))
              have HBR := HBR2
              clear hown hgrow HBR2 HO42
              refine hK.out _ _ (⟨HBR, HBR.out.cells.1, HBR.out.cells.2⟩) (fun HS => ?_)
              clear hK K
              refine held_take (i := 8) (d := 46) (v := .agg #[.slice q1 (0 + la) c1, .slice q2 (0 + lg) c2]) rfl rfl (by kernel_rfl) (by kernel_rfl) (by kernel_rfl) (by kernel_rfl) (fun wx hS => by go_simp) HS ?_
              refine wpAnyH_ready (rs := [10]) (by kernel_rfl) (by simp) (AllReadyH.cons rfl (fun K hK => ?_) AllReadyH.nil)
              have k0 := HU.out.cell (j := 0) (by simp)
              have k1 := HU.out.cell (j := 1) (by simp)
              have kf0 := HU.out.free 0
              have kf1 := HU.out.free 1
              simp at k0 k1
              go_simp
              have HBS := Lib.hid ((HBR.out.set HUGE.out 0 (.slice q1 la c1)).set HUGE.out 1 (.slice q2 lg c2))
              refine hK.out _ _ (⟨HBS, HBS.out.cells.1, HBS.out.cells.2⟩) (fun HS => ?_)
              clear hK K k0 k1 kf0 kf1
              refine wpAnyH_done (by kernel_rfl) (NoPanic.normal ?_) _
              simp only [Nat.zero_add] at HO1 HO2
              have HUS := Lib.hid (show Row ((u5.setCell ⟨B13, 0, none⟩ (.slice q1 la c1)).setCell ⟨B13, 1, none⟩ (.slice q2 lg c2)) B13 27 #[.slice q1 la c1, .slice q2 lg c2] from (HU.out.set 0 _).set 1 _)
              have HP1 := Lib.hid (own_put (own_put HO1.out (own_ne_row HO1.out HU.out (by decide)) 0 (.slice q1 la c1)) (own_ne_row HO1.out HU.out (by decide)) 1 (.slice q2 lg c2))
              have HP2 := Lib.hid (own_put (own_put HO2.out (own_ne_row HO2.out HU.out (by decide)) 0 (.slice q1 la c1)) (own_ne_row HO2.out HU.out (by decide)) 1 (.slice q2 lg c2))
              obtain ⟨ws, hws⟩ : ∃ x, ((u5.setCell ⟨B13, 0, none⟩ (.slice q1 la c1)).setCell ⟨B13, 1, none⟩ (.slice q2 lg c2)) = x := ⟨_, rfl⟩
              rw [hws] at HUS HP1 HP2 HBS ⊢
              clear hws HO1 HO2 HU HBR HS
              obtain ⟨g1, cur, rfl, _, hg1, hr1, hc1, hc2, hs1, _⟩ := own_rowObj HP1.out (by omega)
              have a0 := hr1.cell (j := p * 3) (by omega)
              have a1 := hr1.cell (j := p * 3 + 1) (by omega)
              have a2 := hr1.cell (j := p * 3 + 2) (by omega)
              generalize cur[p * 3] = y0 at a0
              generalize cur[p * 3 + 1] = y1 at a1
              generalize cur[p * 3 + 2] = y2 at a2
              have b0 := hr1.free (p * 3)
              have b1 := hr1.free (p * 3 + 1)
              have b2 := hr1.free (p * 3 + 2)
              have hne : g1 ≠ B13 := fun he => own_ne_row HP1.out HUS.out (by decide) g1 rfl he.symm
              have hne2 := Ne.symm hne
              have d0 := HUS.out.cell (j := 0) (by simp)
              simp at d0
              have HU3 := Lib.hid (show Row (((ws.setCell ⟨g1, p * 3, none⟩ (.string key)).setCell ⟨g1, p * 3 + 1, none⟩ (.int .i64 (v + 1))).setCell ⟨g1, p * 3 + 2, none⟩ (.string data)) B13 27 #[.slice (some ⟨g1, 0, none⟩) la c1, .slice q2 lg c2] from ((HUS.out.put hne2 _ _).put hne2 _ _).put hne2 _ _)
              have HB3 := Lib.hid (show BRow w #[.slice (some ⟨gb, go, none⟩) la ca, .slice g lg cg] (((ws.setCell ⟨g1, p * 3, none⟩ (.string key)).setCell ⟨g1, p * 3 + 1, none⟩ (.int .i64 (v + 1))).setCell ⟨g1, p * 3 + 2, none⟩ (.string data)) from ((HBS.out.set hg1 _ _).set hg1 _ _).set hg1 _ _)
              have HQ1 := Lib.hid (own_setObj HP1.out hpl2 key (v + 1) data)
              have HQ2 := Lib.hid (own_put (own_put (own_put HP2.out (fun x hx he => own_ne_row HP2.out hr1 (by decide) x hx he) (p * 3) (.string key)) (fun x hx he => own_ne_row HP2.out hr1 (by decide) x hx he) (p * 3 + 1) (.int .i64 (v + 1))) (fun x hx he => own_ne_row HP2.out hr1 (by decide) x hx he) (p * 3 + 2) (.string data))
              have e0 := HU3.out.cell (j := 0) (by simp)
              have e1 := HU3.out.cell (j := 1) (by simp)
              have s0 := HB3.out.res.cell (j := 0) (by simp)
              have s1 := HB3.out.res.cell (j := 1) (by simp)
              have z0 := HB3.out.res.free 0
              have z1 := HB3.out.res.free 1
              simp at e0 e1 s0 s1
              clear hr1 hs1 hc1 hc2
              go_wp2
              have hb := ((HB3.out.res.set 0 (.slice (some ⟨g1, 0, none⟩) la c1)).set 1 (.slice q2 lg c2))
              unfold Row at hb
              have hL : ((objsOf E).set p (key, v + 1, data)).length = la := by rw [List.length_set]; exact HLA.out
              have hR : resO (replE key v data E) = (objsOf E).set p (key, v + 1, data) ∧ resG (replE key v data E) = gonsOf E := by
                rw [HC.out]
                refine ⟨?_, gons_same HE.out.inc (by rw [HL.out]; rfl)⟩
                show objsOf (putE key (v + 1, data, false) E) = _
                rw [objs_set HE.out.inc HOB.out]
                unfold poO
                rw [HP.out]
              exact bodyPost_ret (v := .tuple #[.agg #[.slice (some ⟨g1, 0, none⟩) la c1, .slice q2 lg c2], .int .i64 (v + 1), .int .i64 0]) (by simp [results, Try.results44, go_sem, World.cell?, hb]) rfl ⟨_, _, _, _, _, _, by rw [HC.out], (HB3.out.below.setCell (by show w.heap.size ≤ w.heap.size + 1; omega) _).setCell (by show w.heap.size ≤ w.heap.size + 1; omega) _, by rw [hR.1, hR.2]; exact made_res (made_k (w := w) HQ1.out HQ2.out (Nat.le_refl _) (Nat.le_refl _) hL HLG.out) _ _⟩
        · skip
          go_simp
          have HBR2 := Lib.hid (HBR.out.al (.cells #[] 45))
          have HNEW := Lib.hid (own_zeroGone (row_new u0 #[] 45) HBR.out.ge)
          obtain ⟨B42, hb42⟩ : ∃ x, u0.heap.size = x := ⟨_, rfl⟩
          obtain ⟨u1, hu2⟩ : ∃ x, u0.alloc (.cells #[] 45) = x := ⟨_, rfl⟩
          rw [hb42] at HNEW ⊢
          rw [hu2] at HBR2 HNEW ⊢
          clear hb42 hu2 HBR
          have HO42 := HNEW
          have HBR := HBR2
          clear HNEW HBR2
          refine hK.out _ _ (⟨HBR, HBR.out.cells.1, HBR.out.cells.2⟩) (fun HS => ?_)
          clear hK K
          refine wpAnyH_ready (rs := [0, 9]) (by kernel_rfl) (by simp) (AllReadyH.cons rfl (fun K hK => ?_) (AllReadyH.cons rfl (fun K hK => ?_) AllReadyH.nil))
          · skip
            go_simp
            have HBR2 := Lib.hid (HBR.out.al (.cells #[] 31))
            have HNEW := Lib.hid (own_zeroObj (row_new u1 #[] 31) HBR.out.ge)
            have HO42 := Lib.hid (own_below HO42.out (below_alloc (Below.refl _ _) (.cells #[] 31)))
            obtain ⟨B38, hb38⟩ : ∃ x, u1.heap.size = x := ⟨_, rfl⟩
            obtain ⟨u2, hu2⟩ : ∃ x, u1.alloc (.cells #[] 31) = x := ⟨_, rfl⟩
            rw [hb38] at HNEW ⊢
            rw [hu2] at HBR2 HNEW HO42 ⊢
            clear hb38 hu2 HBR
            have HO38 := HNEW
            have HBR := HBR2
            clear HNEW HBR2
            refine hK.out _ _ (⟨HBR, HBR.out.cells.1, HBR.out.cells.2⟩) (fun HS => ?_)
            clear hK K
            refine wpAnyH_ready (rs := [3, 9]) (by kernel_rfl) (by simp) (AllReadyH.cons rfl (fun K hK => ?_) (AllReadyH.cons rfl (fun K hK => ?_) AllReadyH.nil))
            · skip
              refine step_append_obj rfl _ _ rfl (w.heap.size + 2) (.slice (some ⟨B38, 0, none⟩) 0 0) 0 [] rfl HO38.out _ la _ (objsOf E) rfl (HS0.out.at_.keep HBR.out.below).o HS0.out.nilo (by omega) HBR.out.ge ?_
              intro q1 c1 u3 hown hgrow
              simp only [List.nil_append] at hown
              have HO1 := Lib.hid hown
              have HBR2 := Lib.hid (HBR.out.grown HO38.out (Nat.le_refl _) hgrow)
              have HO42 := Lib.hid (own_grown HO42.out hgrow (own_apartT HO42.out HO38.out (by decide)))
              have HBR := HBR2
              clear hown hgrow HBR2 HO38
              refine hK.out _ _ (⟨HBR, HBR.out.cells.1, HBR.out.cells.2⟩) (fun HS => ?_)
              clear hK K
              refine wpAnyH_ready (rs := [7, 9]) (by kernel_rfl) (by simp) (AllReadyH.cons rfl (fun K hK => ?_) (AllReadyH.cons rfl (fun K hK => ?_) AllReadyH.nil))
              · skip
                refine step_append_gone rfl _ _ rfl (w.heap.size + 2) (.slice (some ⟨B42, 0, none⟩) 0 0) 0 [] rfl HO42.out _ lg _ (gonsOf E) rfl (HS0.out.at_.keep HBR.out.below).d HS0.out.nilg (by omega) HBR.out.ge ?_
                intro q2 c2 u4 hown hgrow
                simp only [List.nil_append] at hown
                have HO2 := Lib.hid hown
                have HBR2 := Lib.hid (HBR.out.grown HO42.out (Nat.le_refl _) hgrow)
                have HO1 := Lib.hid (own_grown HO1.out hgrow (own_apartT HO1.out HO42.out (by decide)))
                have HBR := HBR2
                clear hown hgrow HBR2 HO42
                refine hK.out _ _ (⟨HBR, HBR.out.cells.1, HBR.out.cells.2⟩) (fun HS => ?_)
                clear hK K
                refine held_take (i := 8) (d := 46) (v := .agg #[.slice q1 (0 + la) c1, .slice q2 (0 + lg) c2]) rfl rfl (by kernel_rfl) (by kernel_rfl) (by kernel_rfl) (by kernel_rfl) (fun wx hS => by go_simp) HS ?_
                refine wpAnyH_ready (rs := [9]) (by kernel_rfl) (by simp) (AllReadyH.cons rfl (fun K hK => ?_) AllReadyH.nil)
                go_simp
                have HBR2 := Lib.hid (HBR.out.al (.cells #[.slice none 0 0, .slice none 0 0] 27))
                have HNEW := Lib.hid (row_new u4 #[.slice none 0 0, .slice none 0 0] 27)
                have HO1 := Lib.hid (own_below HO1.out (below_alloc (Below.refl _ _) (.cells #[.slice none 0 0, .slice none 0 0] 27)))
                have HO2 := Lib.hid (own_below HO2.out (below_alloc (Below.refl _ _) (.cells #[.slice none 0 0, .slice none 0 0] 27)))
                have HGE := Lib.hid HBR.out.ge
                obtain ⟨B13, hb13⟩ : ∃ x, u4.heap.size = x := ⟨_, rfl⟩
                obtain ⟨u5, hu2⟩ : ∃ x, u4.alloc (.cells #[.slice none 0 0, .slice none 0 0] 27) = x := ⟨_, rfl⟩
                rw [hb13] at HNEW HGE ⊢
                rw [hu2] at HBR2 HNEW HO1 HO2 ⊢
                clear hb13 hu2 HBR
                have HU := HNEW
                have HBR := HBR2
                have HUGE := HGE
                clear HNEW HBR2 HGE
                refine hK.out _ _ (⟨HBR, HBR.out.cells.1, HBR.out.cells.2⟩) (fun HS => ?_)
                clear hK K
                refine wpAnyH_ready (rs := [10]) (by kernel_rfl) (by simp) (AllReadyH.cons rfl (fun K hK => ?_) AllReadyH.nil)
                have k0 := HU.out.cell (j := 0) (by simp)
                have k1 := HU.out.cell (j := 1) (by simp)
                have kf0 := HU.out.free 0
                have kf1 := HU.out.free 1
                simp at k0 k1
                go_simp
                have HBS := Lib.hid ((HBR.out.set HUGE.out 0 (.slice q1 la c1)).set HUGE.out 1 (.slice q2 lg c2))
                refine hK.out _ _ (⟨HBS, HBS.out.cells.1, HBS.out.cells.2⟩) (fun HS => ?_)
                clear hK K k0 k1 kf0 kf1
                refine wpAnyH_done (by kernel_rfl) (NoPanic.normal ?_) _
                simp only [Nat.zero_add] at HO1 HO2
                have HUS := Lib.hid (show Row ((u5.setCell ⟨B13, 0, none⟩ (.slice q1 la c1)).setCell ⟨B13, 1, none⟩ (.slice q2 lg c2)) B13 27 #[.slice q1 la c1, .slice q2 lg c2] from (HU.out.set 0 _).set 1 _)
                have HP1 := Lib.hid (own_put (own_put HO1.out (own_ne_row HO1.out HU.out (by decide)) 0 (.slice q1 la c1)) (own_ne_row HO1.out HU.out (by decide)) 1 (.slice q2 lg c2))
                have HP2 := Lib.hid (own_put (own_put HO2.out (own_ne_row HO2.out HU.out (by decide)) 0 (.slice q1 la c1)) (own_ne_row HO2.out HU.out (by decide)) 1 (.slice q2 lg c2))
                obtain ⟨ws, hws⟩ : ∃ x, ((u5.setCell ⟨B13, 0, none⟩ (.slice q1 la c1)).setCell ⟨B13, 1, none⟩ (.slice q2 lg c2)) = x := ⟨_, rfl⟩
                rw [hws] at HUS HP1 HP2 HBS ⊢
                clear hws HO1 HO2 HU HBR HS
                obtain ⟨g1, cur, rfl, _, hg1, hr1, hc1, hc2, hs1, _⟩ := own_rowObj HP1.out (by omega)
                have a0 := hr1.cell (j := p * 3) (by omega)
                have a1 := hr1.cell (j := p * 3 + 1) (by omega)
                have a2 := hr1.cell (j := p * 3 + 2) (by omega)
                generalize cur[p * 3] = y0 at a0
                generalize cur[p * 3 + 1] = y1 at a1
                generalize cur[p * 3 + 2] = y2 at a2
                have b0 := hr1.free (p * 3)
                have b1 := hr1.free (p * 3 + 1)
                have b2 := hr1.free (p * 3 + 2)
                have hne : g1 ≠ B13 := fun he => own_ne_row HP1.out HUS.out (by decide) g1 rfl he.symm
                have hne2 := Ne.symm hne
                have d0 := HUS.out.cell (j := 0) (by simp)
                simp at d0
                have HU3 := Lib.hid (show Row (((ws.setCell ⟨g1, p * 3, none⟩ (.string key)).setCell ⟨g1, p * 3 + 1, none⟩ (.int .i64 (v + 1))).setCell ⟨g1, p * 3 + 2, none⟩ (.string data)) B13 27 #[.slice (some ⟨g1, 0, none⟩) la c1, .slice q2 lg c2] from ((HUS.out.put hne2 _ _).put hne2 _ _).put hne2 _ _)
                have HB3 := Lib.hid (show BRow w #[.slice (some ⟨gb, go, none⟩) la ca, .slice g lg cg] (((ws.setCell ⟨g1, p * 3, none⟩ (.string key)).setCell ⟨g1, p * 3 + 1, none⟩ (.int .i64 (v + 1))).setCell ⟨g1, p * 3 + 2, none⟩ (.string data)) from ((HBS.out.set hg1 _ _).set hg1 _ _).set hg1 _ _)
                have HQ1 := Lib.hid (own_setObj HP1.out hpl2 key (v + 1) data)
                have HQ2 := Lib.hid (own_put (own_put (own_put HP2.out (fun x hx he => own_ne_row HP2.out hr1 (by decide) x hx he) (p * 3) (.string key)) (fun x hx he => own_ne_row HP2.out hr1 (by decide) x hx he) (p * 3 + 1) (.int .i64 (v + 1))) (fun x hx he => own_ne_row HP2.out hr1 (by decide) x hx he) (p * 3 + 2) (.string data))
                have e0 := HU3.out.cell (j := 0) (by simp)
                have e1 := HU3.out.cell (j := 1) (by simp)
                have s0 := HB3.out.res.cell (j := 0) (by simp)
                have s1 := HB3.out.res.cell (j := 1) (by simp)
                have z0 := HB3.out.res.free 0
                have z1 := HB3.out.res.free 1
                simp at e0 e1 s0 s1
                clear hr1 hs1 hc1 hc2
                go_wp2
                have hb := ((HB3.out.res.set 0 (.slice (some ⟨g1, 0, none⟩) la c1)).set 1 (.slice q2 lg c2))
                unfold Row at hb
                have hL : ((objsOf E).set p (key, v + 1, data)).length = la := by rw [List.length_set]; exact HLA.out
                have hR : resO (replE key v data E) = (objsOf E).set p (key, v + 1, data) ∧ resG (replE key v data E) = gonsOf E := by
                  rw [HC.out]
                  refine ⟨?_, gons_same HE.out.inc (by rw [HL.out]; rfl)⟩
                  show objsOf (putE key (v + 1, data, false) E) = _
                  rw [objs_set HE.out.inc HOB.out]
                  unfold poO
                  rw [HP.out]
                exact bodyPost_ret (v := .tuple #[.agg #[.slice (some ⟨g1, 0, none⟩) la c1, .slice q2 lg c2], .int .i64 (v + 1), .int .i64 0]) (by simp [results, Try.results44, go_sem, World.cell?, hb]) rfl ⟨_, _, _, _, _, _, by rw [HC.out], (HB3.out.below.setCell (by show w.heap.size ≤ w.heap.size + 1; omega) _).setCell (by show w.heap.size ≤ w.heap.size + 1; omega) _, by rw [hR.1, hR.2]; exact made_res (made_k (w := w) HQ1.out HQ2.out (Nat.le_refl _) (Nat.le_refl _) hL HLG.out) _ _⟩
              · skip
                go_simp
                have HBR2 := Lib.hid (HBR.out.al (.cells #[.slice none 0 0, .slice none 0 0] 27))
                have HNEW := Lib.hid (row_new u3 #[.slice none 0 0, .slice none 0 0] 27)
                have HO42 := Lib.hid (own_below HO42.out (below_alloc (Below.refl _ _) (.cells #[.slice none 0 0, .slice none 0 0] 27)))
                have HO1 := Lib.hid (own_below HO1.out (below_alloc (Below.refl _ _) (.cells #[.slice none 0 0, .slice none 0 0] 27)))
                have HGE := Lib.hid HBR.out.ge
                obtain ⟨B13, hb13⟩ : ∃ x, u3.heap.size = x := ⟨_, rfl⟩
                obtain ⟨u4, hu2⟩ : ∃ x, u3.alloc (.cells #[.slice none 0 0, .slice none 0 0] 27) = x := ⟨_, rfl⟩
                rw [hb13] at HNEW HGE ⊢
                rw [hu2] at HBR2 HNEW HO42 HO1 ⊢
                clear hb13 hu2 HBR
                have HU := HNEW
                have HBR := HBR2
                have HUGE := HGE
                clear HNEW HBR2 HGE
                refine hK.out _ _ (⟨HBR, HBR.out.cells.1, HBR.out.cells.2⟩) (fun HS => ?_)
                clear hK K
                refine wpAnyH_ready (rs := [7]) (by kernel_rfl) (by simp) (AllReadyH.cons rfl (fun K hK => ?_) AllReadyH.nil)
                refine step_append_gone rfl _ _ rfl (w.heap.size + 2) (.slice (some ⟨B42, 0, none⟩) 0 0) 0 [] rfl HO42.out _ lg _ (gonsOf E) rfl (HS0.out.at_.keep HBR.out.below).d HS0.out.nilg (by omega) HBR.out.ge ?_
                intro q2 c2 u5 hown hgrow
                simp only [List.nil_append] at hown
                have HO2 := Lib.hid hown
                have HBR2 := Lib.hid (HBR.out.grown HO42.out (Nat.le_refl _) hgrow)
                have HO1 := Lib.hid (own_grown HO1.out hgrow (own_apartT HO1.out HO42.out (by decide)))
                have HU := Lib.hid (row_grownT HU.out HO42.out (by decide) hgrow)
                have HBR := HBR2
                clear hown hgrow HBR2 HO42
                refine hK.out _ _ (⟨HBR, HBR.out.cells.1, HBR.out.cells.2⟩) (fun HS => ?_)
                clear hK K
                refine held_take (i := 8) (d := 46) (v := .agg #[.slice q1 (0 + la) c1, .slice q2 (0 + lg) c2]) rfl rfl (by kernel_rfl) (by kernel_rfl) (by kernel_rfl) (by kernel_rfl) (fun wx hS => by go_simp) HS ?_
                refine wpAnyH_ready (rs := [10]) (by kernel_rfl) (by simp) (AllReadyH.cons rfl (fun K hK => ?_) AllReadyH.nil)
                have k0 := HU.out.cell (j := 0) (by simp)
                have k1 := HU.out.cell (j := 1) (by simp)
                have kf0 := HU.out.free 0
                have kf1 := HU.out.free 1
                simp at k0 k1
                go_simp
                have HBS := Lib.hid ((HBR.out.set HUGE.out 0 (.slice q1 la c1)).set HUGE.out 1 (.slice q2 lg c2))
                refine hK.out _ _ (⟨HBS, HBS.out.cells.1, HBS.out.cells.2⟩) (fun HS => ?_)
                clear hK K k0 k1 kf0 kf1
                refine wpAnyH_done (by kernel_rfl) (NoPanic.normal ?_) _
                simp only [Nat.zero_add] at HO1 HO2
                have HUS := Lib.hid (show Row ((u5.setCell ⟨B13, 0, none⟩ (.slice q1 la c1)).setCell ⟨B13, 1, none⟩ (.slice q2 lg c2)) B13 27 #[.slice q1 la c1, .slice q2 lg c2] from (HU.out.set 0 _).set 1 _)
                have HP1 := Lib.hid (own_put (own_put HO1.out (own_ne_row HO1.out HU.out (by decide)) 0 (.slice q1 la c1)) (own_ne_row HO1.out HU.out (by decide)) 1 (.slice q2 lg c2))
                have HP2 := Lib.hid (own_put (own_put HO2.out (own_ne_row HO2.out HU.out (by decide)) 0 (.slice q1 la c1)) (own_ne_row HO2.out HU.out (by decide)) 1 (.slice q2 lg c2))
                obtain ⟨ws, hws⟩ : ∃ x, ((u5.setCell ⟨B13, 0, none⟩ (.slice q1 la c1)).setCell ⟨B13, 1, none⟩ (.slice q2 lg c2)) = x := ⟨_, rfl⟩
                rw [hws] at HUS HP1 HP2 HBS ⊢
                clear hws HO1 HO2 HU HBR HS
                obtain ⟨g1, cur, rfl, _, hg1, hr1, hc1, hc2, hs1, _⟩ := own_rowObj HP1.out (by omega)
                have a0 := hr1.cell (j := p * 3) (by omega)
                have a1 := hr1.cell (j := p * 3 + 1) (by omega)
                have a2 := hr1.cell (j := p * 3 + 2) (by omega)
                generalize cur[p * 3] = y0 at a0
                generalize cur[p * 3 + 1] = y1 at a1
                generalize cur[p * 3 + 2] = y2 at a2
                have b0 := hr1.free (p * 3)
                have b1 := hr1.free (p * 3 + 1)
                have b2 := hr1.free (p * 3 + 2)
                have hne : g1 ≠ B13 := fun he => own_ne_row HP1.out HUS.out (by decide) g1 rfl he.symm
                have hne2 := Ne.symm hne
                have d0 := HUS.out.cell (j := 0) (by simp)
                simp at d0
                have HU3 := Lib.hid (show Row (((ws.setCell ⟨g1, p * 3, none⟩ (.string key)).setCell ⟨g1, p * 3 + 1, none⟩ (.int .i64 (v + 1))).setCell ⟨g1, p * 3 + 2, none⟩ (.string data)) B13 27 #[.slice (some ⟨g1, 0, none⟩) la c1, .slice q2 lg c2] from ((HUS.out.put hne2 _ _).put hne2 _ _).put hne2 _ _)
                have HB3 := Lib.hid (show BRow w #[.slice (some ⟨gb, go, none⟩) la ca, .slice g lg cg] (((ws.setCell ⟨g1, p * 3, none⟩ (.string key)).setCell ⟨g1, p * 3 + 1, none⟩ (.int .i64 (v + 1))).setCell ⟨g1, p * 3 + 2, none⟩ (.string data)) from ((HBS.out.set hg1 _ _).set hg1 _ _).set hg1 _ _)
                have HQ1 := Lib.hid (own_setObj HP1.out hpl2 key (v + 1) data)
                have HQ2 := Lib.hid (own_put (own_put (own_put HP2.out (fun x hx he => own_ne_row HP2.out hr1 (by decide) x hx he) (p * 3) (.string key)) (fun x hx he => own_ne_row HP2.out hr1 (by decide) x hx he) (p * 3 + 1) (.int .i64 (v + 1))) (fun x hx he => own_ne_row HP2.out hr1 (by decide) x hx he) (p * 3 + 2) (.string data))
                have e0 := HU3.out.cell (j := 0) (by simp)
                have e1 := HU3.out.cell (j := 1) (by simp)
                have s0 := HB3.out.res.cell (j := 0) (by simp)
                have s1 := HB3.out.res.cell (j := 1) (by simp)
                have z0 := HB3.out.res.free 0
                have z1 := HB3.out.res.free 1
                simp at e0 e1 s0 s1
                clear hr1 hs1 hc1 hc2
                go_wp2
                have hb := ((HB3.out.res.set 0 (.slice (some ⟨g1, 0, none⟩) la c1)).set 1 (.slice q2 lg c2))
                unfold Row at hb
                have hL : ((objsOf E).set p (key, v + 1, data)).length = la := by rw [List.length_set]; exact HLA.out
                have hR : resO (replE key v data E) = (objsOf E).set p (key, v + 1, data) ∧ resG (replE key v data E) = gonsOf E := by
                  rw [HC.out]
                  refine ⟨?_, gons_same HE.out.inc (by rw [HL.out]; rfl)⟩
                  show objsOf (putE key (v + 1, data, false) E) = _
                  rw [objs_set HE.out.inc HOB.out]
                  unfold poO
                  rw [HP.out]
                exact bodyPost_ret (v := .tuple #[.agg #[.slice (some ⟨g1, 0, none⟩) la c1, .slice q2 lg c2], .int .i64 (v + 1), .int .i64 0]) (by simp [results, Try.results44, go_sem, World.cell?, hb]) rfl ⟨_, _, _, _, _, _, by rw [HC.out], (HB3.out.below.setCell (by show w.heap.size ≤ w.heap.size + 1; omega) _).setCell (by show w.heap.size ≤ w.heap.size + 1; omega) _, by rw [hR.1, hR.2]; exact made_res (made_k (w := w) HQ1.out HQ2.out (Nat.le_refl _) (Nat.le_refl _) hL HLG.out) _ _⟩
            · skip
              go_simp
              have HBR2 := Lib.hid (HBR.out.al (.cells #[.slice none 0 0, .slice none 0 0] 27))
              have HNEW := Lib.hid (row_new u2 #[.slice none 0 0, .slice none 0 0] 27)
              have HO42 := Lib.hid (own_below HO42.out (below_alloc (Below.refl _ _) (.cells #[.slice none 0 0, .slice none 0 0] 27)))
              have HO38 := Lib.hid (own_below HO38.out (below_alloc (Below.refl _ _) (.cells #[.slice none 0 0, .slice none 0 0] 27)))
              have HGE := Lib.hid HBR.out.ge
              obtain ⟨B13, hb13⟩ : ∃ x, u2.heap.size = x := ⟨_, rfl⟩
              obtain ⟨u3, hu2⟩ : ∃ x, u2.alloc (.cells #[.slice none 0 0, .slice none 0 0] 27) = x := ⟨_, rfl⟩
              rw [hb13] at HNEW HGE ⊢
              rw [hu2] at HBR2 HNEW HO42 HO38 ⊢
              clear hb13 hu2 HBR
              have HU := HNEW
              have HBR := HBR2
              have HUGE := HGE
              clear HNEW HBR2 HGE
              refine hK.out _ _ (⟨HBR, HBR.out.cells.1, HBR.out.cells.2⟩) (fun HS => ?_)
              clear hK K
              refine wpAnyH_ready (rs := [3]) (by kernel_rfl) (by simp) (AllReadyH.cons rfl (fun K hK => ?_) AllReadyH.nil)
              refine step_append_obj rfl _ _ rfl (w.heap.size + 2) (.slice (some ⟨B38, 0, none⟩) 0 0) 0 [] rfl HO38.out _ la _ (objsOf E) rfl (HS0.out.at_.keep HBR.out.below).o HS0.out.nilo (by omega) HBR.out.ge ?_
              intro q1 c1 u4 hown hgrow
              simp only [List.nil_append] at hown
              have HO1 := Lib.hid hown
              have HBR2 := Lib.hid (HBR.out.grown HO38.out (Nat.le_refl _) hgrow)
              have HO42 := Lib.hid (own_grown HO42.out hgrow (own_apartT HO42.out HO38.out (by decide)))
              have HU := Lib.hid (row_grownT HU.out HO38.out (by decide) hgrow)
              have HBR := HBR2
              clear hown hgrow HBR2 HO38
              refine hK.out _ _ (⟨HBR, HBR.out.cells.1, HBR.out.cells.2⟩) (fun HS => ?_)
              clear hK K
              refine wpAnyH_ready (rs := [7]) (by kernel_rfl) (by simp) (AllReadyH.cons rfl (fun K hK => ?_) AllReadyH.nil)
              refine step_append_gone rfl _ _ rfl (w.heap.size + 2) (.slice (some ⟨B42, 0, none⟩) 0 0) 0 [] rfl HO42.out _ lg _ (gonsOf E) rfl (HS0.out.at_.keep HBR.out.below).d HS0.out.nilg (by omega) HBR.out.ge ?_
              intro q2 c2 u5 hown hgrow
              simp only [List.nil_append] at hown
              have HO2 := Lib.hid hown
              have HBR2 := Lib.hid (HBR.out.grown HO42.out (Nat.le_refl _) hgrow)
              have HU := Lib.hid (row_grownT HU.out HO42.out (by decide) hgrow)
              have HO1 := Lib.hid (own_grown HO1.out hgrow (own_apartT HO1.out HO42.out (by decide)))
              have HBR := HBR2
              clear hown hgrow HBR2 HO42
              refine hK.out _ _ (⟨HBR, HBR.out.cells.1, HBR.out.cells.2⟩) (fun HS => ?_)
              clear hK K
              refine held_take (i := 8) (d := 46) (v := .agg #[.slice q1 (0 + la) c1, .slice q2 (0 + lg) c2]) rfl rfl (by kernel_rfl) (by kernel_rfl) (by kernel_rfl) (by kernel_rfl) (fun wx hS => by go_simp) HS ?_
              refine wpAnyH_ready (rs := [10]) (by kernel_rfl) (by simp) (AllReadyH.cons rfl (fun K hK => ?_) AllReadyH.nil)
              have k0 := HU.out.cell (j := 0) (by simp)
              have k1 := HU.out.cell (j := 1) (by simp)
              have kf0 := HU.out.free 0
              have kf1 := HU.out.free 1
              simp at k0 k1
              go_simp
              have HBS := Lib.hid ((HBR.out.set HUGE.out 0 (.slice q1 la c1)).set HUGE.out 1 (.slice q2 lg c2))
              refine hK.out _ _ (⟨HBS, HBS.out.cells.1, HBS.out.cells.2⟩) (fun HS => ?_)
              clear hK K k0 k1 kf0 kf1
              refine wpAnyH_done (by kernel_rfl) (NoPanic.normal ?_) _
              simp only [Nat.zero_add] at HO1 HO2
              have HUS := Lib.hid (show Row ((u5.setCell ⟨B13, 0, none⟩ (.slice q1 la c1)).setCell ⟨B13, 1, none⟩ (.slice q2 lg c2)) B13 27 #[.slice q1 la c1, .slice q2 lg c2] from (HU.out.set 0 _).set 1 _)
              have HP1 := Lib.hid (own_put (own_put HO1.out (own_ne_row HO1.out HU.out (by decide)) 0 (.slice q1 la c1)) (own_ne_row HO1.out HU.out (by decide)) 1 (.slice q2 lg c2))
              have HP2 := Lib.hid (own_put (own_put HO2.out (own_ne_row HO2.out HU.out (by decide)) 0 (.slice q1 la c1)) (own_ne_row HO2.out HU.out (by decide)) 1 (.slice q2 lg c2))
              obtain ⟨ws, hws⟩ : ∃ x, ((u5.setCell ⟨B13, 0, none⟩ (.slice q1 la c1)).setCell ⟨B13, 1, none⟩ (.slice q2 lg c2)) = x := ⟨_, rfl⟩
              rw [hws] at HUS HP1 HP2 HBS ⊢
              clear hws HO1 HO2 HU HBR HS
              obtain ⟨g1, cur, rfl, _, hg1, hr1, hc1, hc2, hs1, _⟩ := own_rowObj HP1.out (by omega)
              have a0 := hr1.cell (j := p * 3) (by omega)
              have a1 := hr1.cell (j := p * 3 + 1) (by omega)
              have a2 := hr1.cell (j := p * 3 + 2) (by omega)
              generalize cur[p * 3] = y0 at a0
              generalize cur[p * 3 + 1] = y1 at a1
              generalize cur[p * 3 + 2] = y2 at a2
              have b0 := hr1.free (p * 3)
              have b1 := hr1.free (p * 3 + 1)
              have b2 := hr1.free (p * 3 + 2)
              have hne : g1 ≠ B13 := fun he => own_ne_row HP1.out HUS.out (by decide) g1 rfl he.symm
              have hne2 := Ne.symm hne
              have d0 := HUS.out.cell (j := 0) (by simp)
              simp at d0
              have HU3 := Lib.hid (show Row (((ws.setCell ⟨g1, p * 3, none⟩ (.string key)).setCell ⟨g1, p * 3 + 1, none⟩ (.int .i64 (v + 1))).setCell ⟨g1, p * 3 + 2, none⟩ (.string data)) B13 27 #[.slice (some ⟨g1, 0, none⟩) la c1, .slice q2 lg c2] from ((HUS.out.put hne2 _ _).put hne2 _ _).put hne2 _ _)
              have HB3 := Lib.hid (show BRow w #[.slice (some ⟨gb, go, none⟩) la ca, .slice g lg cg] (((ws.setCell ⟨g1, p * 3, none⟩ (.string key)).setCell ⟨g1, p * 3 + 1, none⟩ (.int .i64 (v + 1))).setCell ⟨g1, p * 3 + 2, none⟩ (.string data)) from ((HBS.out.set hg1 _ _).set hg1 _ _).set hg1 _ _)
              have HQ1 := Lib.hid (own_setObj HP1.out hpl2 key (v + 1) data)
              have HQ2 := Lib.hid (own_put (own_put (own_put HP2.out (fun x hx he => own_ne_row HP2.out hr1 (by decide) x hx he) (p * 3) (.string key)) (fun x hx he => own_ne_row HP2.out hr1 (by decide) x hx he) (p * 3 + 1) (.int .i64 (v + 1))) (fun x hx he => own_ne_row HP2.out hr1 (by decide) x hx he) (p * 3 + 2) (.string data))
              have e0 := HU3.out.cell (j := 0) (by simp)
              have e1 := HU3.out.cell (j := 1) (by simp)
              have s0 := HB3.out.res.cell (j := 0) (by simp)
              have s1 := HB3.out.res.cell (j := 1) (by simp)
              have z0 := HB3.out.res.free 0
              have z1 := HB3.out.res.free 1
              simp at e0 e1 s0 s1
              clear hr1 hs1 hc1 hc2
              go_wp2
              have hb := ((HB3.out.res.set 0 (.slice (some ⟨g1, 0, none⟩) la c1)).set 1 (.slice q2 lg c2))
              unfold Row at hb
              have hL : ((objsOf E).set p (key, v + 1, data)).length = la := by rw [List.length_set]; exact HLA.out
              have hR : resO (replE key v data E) = (objsOf E).set p (key, v + 1, data) ∧ resG (replE key v data E) = gonsOf E := by
                rw [HC.out]
                refine ⟨?_, gons_same HE.out.inc (by rw [HL.out]; rfl)⟩
                show objsOf (putE key (v + 1, data, false) E) = _
                rw [objs_set HE.out.inc HOB.out]
                unfold poO
                rw [HP.out]
              exact bodyPost_ret (v := .tuple #[.agg #[.slice (some ⟨g1, 0, none⟩) la c1, .slice q2 lg c2], .int .i64 (v + 1), .int .i64 0]) (by simp [results, Try.results44, go_sem, World.cell?, hb]) rfl ⟨_, _, _, _, _, _, by rw [HC.out], (HB3.out.below.setCell (by show w.heap.size ≤ w.heap.size + 1; omega) _).setCell (by show w.heap.size ≤ w.heap.size + 1; omega) _, by rw [hR.1, hR.2]; exact made_res (made_k (w := w) HQ1.out HQ2.out (Nat.le_refl _) (Nat.le_refl _) hL HLG.out) _ _⟩
          · skip
            go_simp
            have HBR2 := Lib.hid (HBR.out.al (.cells #[.slice none 0 0, .slice none 0 0] 27))
            have HNEW := Lib.hid (row_new u1 #[.slice none 0 0, .slice none 0 0] 27)
            have HO42 := Lib.hid (own_below HO42.out (below_alloc (Below.refl _ _) (.cells #[.slice none 0 0, .slice none 0 0] 27)))
            have HGE := Lib.hid HBR.out.ge
            obtain ⟨B13, hb13⟩ : ∃ x, u1.heap.size = x := ⟨_, rfl⟩
            obtain ⟨u2, hu2⟩ : ∃ x, u1.alloc (.cells #[.slice none 0 0, .slice none 0 0] 27) = x := ⟨_, rfl⟩
            rw [hb13] at HNEW HGE ⊢
            rw [hu2] at HBR2 HNEW HO42 ⊢
            clear hb13 hu2 HBR
            have HU := HNEW
            have HBR := HBR2
            have HUGE := HGE
            clear HNEW HBR2 HGE
            refine hK.out _ _ (⟨HBR, HBR.out.cells.1, HBR.out.cells.2⟩) (fun HS => ?_)
            clear hK K
            refine wpAnyH_ready (rs := [0]) (by kernel_rfl) (by simp) (AllReadyH.cons rfl (fun K hK => ?_) AllReadyH.nil)
            go_simp
            have HBR2 := Lib.hid (HBR.out.al (.cells #[] 31))
            have HNEW := Lib.hid (own_zeroObj (row_new u2 #[] 31) HBR.out.ge)
            have HO42 := Lib.hid (own_below HO42.out (below_alloc (Below.refl _ _) (.cells #[] 31)))
            have HU := Lib.hid (HU.out.al (.cells #[] 31))
            obtain ⟨B38, hb38⟩ : ∃ x, u2.heap.size = x := ⟨_, rfl⟩
            obtain ⟨u3, hu2⟩ : ∃ x, u2.alloc (.cells #[] 31) = x := ⟨_, rfl⟩
            rw [hb38] at HNEW ⊢
            rw [hu2] at HBR2 HNEW HO42 HU ⊢
            clear hb38 hu2 HBR
            have HO38 := HNEW
            have HBR := HBR2
            clear HNEW HBR2
            refine hK.out _ _ (⟨HBR, HBR.out.cells.1, HBR.out.cells.2⟩) (fun HS => ?_)
            clear hK K
            refine wpAnyH_ready (rs := [3]) (by kernel_rfl) (by simp) (AllReadyH.cons rfl (fun K hK => ?_) AllReadyH.nil)
            refine step_append_obj rfl _ _ rfl (w.heap.size + 2) (.slice (some ⟨B38, 0, none⟩) 0 0) 0 [] rfl HO38.out _ la _ (objsOf E) rfl (HS0.out.at_.keep HBR.out.below).o HS0.out.nilo (by omega) HBR.out.ge ?_
            intro q1 c1 u4 hown hgrow
            simp only [List.nil_append] at hown
            have HO1 := Lib.hid hown
            have HBR2 := Lib.hid (HBR.out.grown HO38.out (Nat.le_refl _) hgrow)
            have HO42 := Lib.hid (own_grown HO42.out hgrow (own_apartT HO42.out HO38.out (by decide)))
            have HU := Lib.hid (row_grownT HU.out HO38.out (by decide) hgrow)
            have HBR := HBR2
            clear hown hgrow HBR2 HO38
            refine hK.out _ _ (⟨HBR, HBR.out.cells.1, HBR.out.cells.2⟩) (fun HS => ?_)
            clear hK K
            refine wpAnyH_ready (rs := [7]) (by kernel_rfl) (by simp) (AllReadyH.cons rfl (fun K hK => ?_) AllReadyH.nil)
            refine step_append_gone rfl _ _ rfl (w.heap.size + 2) (.slice (some ⟨B42, 0, none⟩) 0 0) 0 [] rfl HO42.out _ lg _ (gonsOf E) rfl (HS0.out.at_.keep HBR.out.below).d HS0.out.nilg (by omega) HBR.out.ge ?_
            intro q2 c2 u5 hown hgrow
            simp only [List.nil_append] at hown
            have HO2 := Lib.hid hown
            have HBR2 := Lib.hid (HBR.out.grown HO42.out (Nat.le_refl _) hgrow)
            have HU := Lib.hid (row_grownT HU.out HO42.out (by decide) hgrow)
            have HO1 := Lib.hid (own_grown HO1.out hgrow (own_apartT HO1.out HO42.out (by decide)))
            have HBR := HBR2
            clear hown hgrow HBR2 HO42
            refine hK.out _ _ (⟨HBR, HBR.out.cells.1, HBR.out.cells.2⟩) (fun HS => ?_)
            clear hK K
            refine held_take (i := 8) (d := 46) (v := .agg #[.slice q1 (0 + la) c1, .slice q2 (0 + lg) c2]) rfl rfl (by kernel_rfl) (by kernel_rfl) (by kernel_rfl) (by kernel_rfl) (fun wx hS => by go_simp) HS ?_
            refine wpAnyH_ready (rs := [10]) (by kernel_rfl) (by simp) (AllReadyH.cons rfl (fun K hK => ?_) AllReadyH.nil)
            have k0 := HU.out.cell (j := 0) (by simp)
            have k1 := HU.out.cell (j := 1) (by simp)
            have kf0 := HU.out.free 0
            have kf1 := HU.out.free 1
            simp at k0 k1
            go_simp
            have HBS := Lib.hid ((HBR.out.set HUGE.out 0 (.slice q1 la c1)).set HUGE.out 1 (.slice q2 lg c2))
            refine hK.out _ _ (⟨HBS, HBS.out.cells.1, HBS.out.cells.2⟩) (fun HS => ?_)
            clear hK K k0 k1 kf0 kf1
            refine wpAnyH_done (by kernel_rfl) (NoPanic.normal ?_) _
            simp only [Nat.zero_add] at HO1 HO2
            have HUS := Lib.hid (show Row ((u5.setCell ⟨B13, 0, none⟩ (.slice q1 la c1)).setCell ⟨B13, 1, none⟩ (.slice q2 lg c2)) B13 27 #[.slice q1 la c1, .slice q2 lg c2] from (HU.out.set 0 _).set 1 _)
            have HP1 := Lib.hid (own_put (own_put HO1.out (own_ne_row HO1.out HU.out (by decide)) 0 (.slice q1 la c1)) (own_ne_row HO1.out HU.out (by decide)) 1 (.slice q2 lg c2))
            have HP2 := Lib.hid (own_put (own_put HO2.out (own_ne_row HO2.out HU.out (by decide)) 0 (.slice q1 la c1)) (own_ne_row HO2.out HU.out (by decide)) 1 (.slice q2 lg c2))
            obtain ⟨ws, hws⟩ : ∃ x, ((u5.setCell ⟨B13, 0, none⟩ (.slice q1 la c1)).setCell ⟨B13, 1, none⟩ (.slice q2 lg c2)) = x := ⟨_, rfl⟩
            rw [hws] at HUS HP1 HP2 HBS ⊢
            clear hws HO1 HO2 HU HBR HS
            obtain ⟨g1, cur, rfl, _, hg1, hr1, hc1, hc2, hs1, _⟩ := own_rowObj HP1.out (by omega)
            have a0 := hr1.cell (j := p * 3) (by omega)
            have a1 := hr1.cell (j := p * 3 + 1) (by omega)
            have a2 := hr1.cell (j := p * 3 + 2) (by omega)
            generalize cur[p * 3] = y0 at a0
            generalize cur[p * 3 + 1] = y1 at a1
            generalize cur[p * 3 + 2] = y2 at a2
            have b0 := hr1.free (p * 3)
            have b1 := hr1.free (p * 3 + 1)
            have b2 := hr1.free (p * 3 + 2)
            have hne : g1 ≠ B13 := fun he => own_ne_row HP1.out HUS.out (by decide) g1 rfl he.symm
            have hne2 := Ne.symm hne
            have d0 := HUS.out.cell (j := 0) (by simp)
            simp at d0
            have HU3 := Lib.hid (show Row (((ws.setCell ⟨g1, p * 3, none⟩ (.string key)).setCell ⟨g1, p * 3 + 1, none⟩ (.int .i64 (v + 1))).setCell ⟨g1, p * 3 + 2, none⟩ (.string data)) B13 27 #[.slice (some ⟨g1, 0, none⟩) la c1, .slice q2 lg c2] from ((HUS.out.put hne2 _ _).put hne2 _ _).put hne2 _ _)
            have HB3 := Lib.hid (show BRow w #[.slice (some ⟨gb, go, none⟩) la ca, .slice g lg cg] (((ws.setCell ⟨g1, p * 3, none⟩ (.string key)).setCell ⟨g1, p * 3 + 1, none⟩ (.int .i64 (v + 1))).setCell ⟨g1, p * 3 + 2, none⟩ (.string data)) from ((HBS.out.set hg1 _ _).set hg1 _ _).set hg1 _ _)
            have HQ1 := Lib.hid (own_setObj HP1.out hpl2 key (v + 1) data)
            have HQ2 := Lib.hid (own_put (own_put (own_put HP2.out (fun x hx he => own_ne_row HP2.out hr1 (by decide) x hx he) (p * 3) (.string key)) (fun x hx he => own_ne_row HP2.out hr1 (by decide) x hx he) (p * 3 + 1) (.int .i64 (v + 1))) (fun x hx he => own_ne_row HP2.out hr1 (by decide) x hx he) (p * 3 + 2) (.string data))
            have e0 := HU3.out.cell (j := 0) (by simp)
            have e1 := HU3.out.cell (j := 1) (by simp)
            have s0 := HB3.out.res.cell (j := 0) (by simp)
            have s1 := HB3.out.res.cell (j := 1) (by simp)
            have z0 := HB3.out.res.free 0
            have z1 := HB3.out.res.free 1
            simp at e0 e1 s0 s1
            clear hr1 hs1 hc1 hc2
            go_wp2
            have hb := ((HB3.out.res.set 0 (.slice (some ⟨g1, 0, none⟩) la c1)).set 1 (.slice q2 lg c2))
            unfold Row at hb
            have hL : ((objsOf E).set p (key, v + 1, data)).length = la := by rw [List.length_set]; exact HLA.out
            have hR : resO (replE key v data E) = (objsOf E).set p (key, v + 1, data) ∧ resG (replE key v data E) = gonsOf E := by
              rw [HC.out]
              refine ⟨?_, gons_same HE.out.inc (by rw [HL.out]; rfl)⟩
              show objsOf (putE key (v + 1, data, false) E) = _
              rw [objs_set HE.out.inc HOB.out]
              unfold poO
              rw [HP.out]
            exact bodyPost_ret (v := .tuple #[.agg #[.slice (some ⟨g1, 0, none⟩) la c1, .slice q2 lg c2], .int .i64 (v + 1), .int .i64 0]) (by simp [results, Try.results44, go_sem, World.cell?, hb]) rfl ⟨_, _, _, _, _, _, by rw [HC.out], (HB3.out.below.setCell (by show w.heap.size ≤ w.heap.size + 1; omega) _).setCell (by show w.heap.size ≤ w.heap.size + 1; omega) _, by rw [hR.1, hR.2]; exact made_res (made_k (w := w) HQ1.out HQ2.out (Nat.le_refl _) (Nat.le_refl _) hL HLG.out) _ _⟩
        · skip
          go_simp
          have HBR2 := Lib.hid (HBR.out.al (.cells #[.slice none 0 0, .slice none 0 0] 27))
          have HNEW := Lib.hid (row_new u0 #[.slice none 0 0, .slice none 0 0] 27)
          have HGE := Lib.hid HBR.out.ge
          obtain ⟨B13, hb13⟩ : ∃ x, u0.heap.size = x := ⟨_, rfl⟩
          obtain ⟨u1, hu2⟩ : ∃ x, u0.alloc (.cells #[.slice none 0 0, .slice none 0 0] 27) = x := ⟨_, rfl⟩
          rw [hb13] at HNEW HGE ⊢
          rw [hu2] at HBR2 HNEW ⊢
          clear hb13 hu2 HBR
          have HU := HNEW
          have HBR := HBR2
          have HUGE := HGE
          clear HNEW HBR2 HGE
          refine hK.out _ _ (⟨HBR, HBR.out.cells.1, HBR.out.cells.2⟩) (fun HS => ?_)
          clear hK K
          refine wpAnyH_ready (rs := [0, 4]) (by kernel_rfl) (by simp) (AllReadyH.cons rfl (fun K hK => ?_) (AllReadyH.cons rfl (fun K hK => ?_) AllReadyH.nil))
          · skip
            go_simp
            have HBR2 := Lib.hid (HBR.out.al (.cells #[] 31))
            have HNEW := Lib.hid (own_zeroObj (row_new u1 #[] 31) HBR.out.ge)
            have HU := Lib.hid (HU.out.al (.cells #[] 31))
            obtain ⟨B38, hb38⟩ : ∃ x, u1.heap.size = x := ⟨_, rfl⟩
            obtain ⟨u2, hu2⟩ : ∃ x, u1.alloc (.cells #[] 31) = x := ⟨_, rfl⟩
            rw [hb38] at HNEW ⊢
            rw [hu2] at HBR2 HNEW HU ⊢
            clear hb38 hu2 HBR
            have HO38 := HNEW
            have HBR := HBR2
            clear HNEW HBR2
            refine hK.out _ _ (⟨HBR, HBR.out.cells.1, HBR.out.cells.2⟩) (fun HS => ?_)
            clear hK K
            refine wpAnyH_ready (rs := [3, 4]) (by kernel_rfl) (by simp) (AllReadyH.cons rfl (fun K hK => ?_) (AllReadyH.cons rfl (fun K hK => ?_) AllReadyH.nil))
            · skip
              refine step_append_obj rfl _ _ rfl (w.heap.size + 2) (.slice (some ⟨B38, 0, none⟩) 0 0) 0 [] rfl HO38.out _ la _ (objsOf E) rfl (HS0.out.at_.keep HBR.out.below).o HS0.out.nilo (by omega) HBR.out.ge ?_
              intro q1 c1 u3 hown hgrow
              simp only [List.nil_append] at hown
              have HO1 := Lib.hid hown
              have HBR2 := Lib.hid (HBR.out.grown HO38.out (Nat.le_refl _) hgrow)
              have HU := Lib.hid (row_grownT HU.out HO38.out (by decide) hgrow)
              have HBR := HBR2
              clear hown hgrow HBR2 HO38
              refine hK.out _ _ (⟨HBR, HBR.out.cells.1, HBR.out.cells.2⟩) (fun HS => ?_)
              clear hK K
              refine wpAnyH_ready (rs := [4]) (by kernel_rfl) (by simp) (AllReadyH.cons rfl (fun K hK => ?_) AllReadyH.nil)
              go_simp
              have HBR2 := Lib.hid (HBR.out.al (.cells #[] 45))
              have HNEW := Lib.hid (own_zeroGone (row_new u3 #[] 45) HBR.out.ge)
              have HU := Lib.hid (HU.out.al (.cells #[] 45))
              have HO1 := Lib.hid (own_below HO1.out (below_alloc (Below.refl _ _) (.cells #[] 45)))
              obtain ⟨B42, hb42⟩ : ∃ x, u3.heap.size = x := ⟨_, rfl⟩
              obtain ⟨u4, hu2⟩ : ∃ x, u3.alloc (.cells #[] 45) = x := ⟨_, rfl⟩
              rw [hb42] at HNEW ⊢
              rw [hu2] at HBR2 HNEW HU HO1 ⊢
              clear hb42 hu2 HBR
              have HO42 := HNEW
              have HBR := HBR2
              clear HNEW HBR2
              refine hK.out _ _ (⟨HBR, HBR.out.cells.1, HBR.out.cells.2⟩) (fun HS => ?_)
              clear hK K
              refine wpAnyH_ready (rs := [7]) (by kernel_rfl) (by simp) (AllReadyH.cons rfl (fun K hK => ?_) AllReadyH.nil)
              refine step_append_gone rfl _ _ rfl (w.heap.size + 2) (.slice (some ⟨B42, 0, none⟩) 0 0) 0 [] rfl HO42.out _ lg _ (gonsOf E) rfl (HS0.out.at_.keep HBR.out.below).d HS0.out.nilg (by omega) HBR.out.ge ?_
              intro q2 c2 u5 hown hgrow
              simp only [List.nil_append] at hown
              have HO2 := Lib.hid hown
              have HBR2 := Lib.hid (HBR.out.grown HO42.out (Nat.le_refl _) hgrow)
              have HU := Lib.hid (row_grownT HU.out HO42.out (by decide) hgrow)
              have HO1 := Lib.hid (own_grown HO1.out hgrow (own_apartT HO1.out HO42.out (by decide)))
              have HBR := HBR2
              clear hown hgrow HBR2 HO42
              refine hK.out _ _ (⟨HBR, HBR.out.cells.1, HBR.out.cells.2⟩) (fun HS => ?_)
              clear hK K
              refine held_take (i := 8) (d := 46) (v := .agg #[.slice q1 (0 + la) c1, .slice q2 (0 + lg) c2]) rfl rfl (by kernel_rfl) (by kernel_rfl) (by kernel_rfl) (by kernel_rfl) (fun wx hS => by go_simp) HS ?_
              refine wpAnyH_ready (rs := [10]) (by kernel_rfl) (by simp) (AllReadyH.cons rfl (fun K hK => ?_) AllReadyH.nil)
              have k0 := HU.out.cell (j := 0) (by simp)
              have k1 := HU.out.cell (j := 1) (by simp)
              have kf0 := HU.out.free 0
              have kf1 := HU.out.free 1
              simp at k0 k1
              go_simp
              have HBS := Lib.hid ((HBR.out.set HUGE.out 0 (.slice q1 la c1)).set HUGE.out 1 (.slice q2 lg c2))
              refine hK.out _ _ (⟨HBS, HBS.out.cells.1, HBS.out.cells.2⟩) (fun HS => ?_)
              clear hK K k0 k1 kf0 kf1
              refine wpAnyH_done (by kernel_rfl) (NoPanic.normal ?_) _
              simp only [Nat.zero_add] at HO1 HO2
              have HUS := Lib.hid (show Row ((u5.setCell ⟨B13, 0, none⟩ (.slice q1 la c1)).setCell ⟨B13, 1, none⟩ (.slice q2 lg c2)) B13 27 #[.slice q1 la c1, .slice q2 lg c2] from (HU.out.set 0 _).set 1 _)
              have HP1 := Lib.hid (own_put (own_put HO1.out (own_ne_row HO1.out HU.out (by decide)) 0 (.slice q1 la c1)) (own_ne_row HO1.out HU.out (by decide)) 1 (.slice q2 lg c2))
              have HP2 := Lib.hid (own_put (own_put HO2.out (own_ne_row HO2.out HU.out (by decide)) 0 (.slice q1 la c1)) (own_ne_row HO2.out HU.out (by decide)) 1 (.slice q2 lg c2))
              obtain ⟨ws, hws⟩ : ∃ x, ((u5.setCell ⟨B13, 0, none⟩ (.slice q1 la c1)).setCell ⟨B13, 1, none⟩ (.slice q2 lg c2)) = x := ⟨_, rfl⟩
              rw [hws] at HUS HP1 HP2 HBS ⊢
              clear hws HO1 HO2 HU HBR HS
              obtain ⟨g1, cur, rfl, _, hg1, hr1, hc1, hc2, hs1, _⟩ := own_rowObj HP1.out (by omega)
              have a0 := hr1.cell (j := p * 3) (by omega)
              have a1 := hr1.cell (j := p * 3 + 1) (by omega)
              have a2 := hr1.cell (j := p * 3 + 2) (by omega)
              generalize cur[p * 3] = y0 at a0
              generalize cur[p * 3 + 1] = y1 at a1
              generalize cur[p * 3 + 2] = y2 at a2
              have b0 := hr1.free (p * 3)
              have b1 := hr1.free (p * 3 + 1)
              have b2 := hr1.free (p * 3 + 2)
              have hne : g1 ≠ B13 := fun he => own_ne_row HP1.out HUS.out (by decide) g1 rfl he.symm
              have hne2 := Ne.symm hne
              have d0 := HUS.out.cell (j := 0) (by simp)
              simp at d0
              have HU3 := Lib.hid (show Row (((ws.setCell ⟨g1, p * 3, none⟩ (.string key)).setCell ⟨g1, p * 3 + 1, none⟩ (.int .i64 (v + 1))).setCell ⟨g1, p * 3 + 2, none⟩ (.string data)) B13 27 #[.slice (some ⟨g1, 0, none⟩) la c1, .slice q2 lg c2] from ((HUS.out.put hne2 _ _).put hne2 _ _).put hne2 _ _)
              have HB3 := Lib.hid (show BRow w #[.slice (some ⟨gb, go, none⟩) la ca, .slice g lg cg] (((ws.setCell ⟨g1, p * 3, none⟩ (.string key)).setCell ⟨g1, p * 3 + 1, none⟩ (.int .i64 (v + 1))).setCell ⟨g1, p * 3 + 2, none⟩ (.string data)) from ((HBS.out.set hg1 _ _).set hg1 _ _).set hg1 _ _)
              have HQ1 := Lib.hid (own_setObj HP1.out hpl2 key (v + 1) data)
              have HQ2 := Lib.hid (own_put (own_put (own_put HP2.out (fun x hx he => own_ne_row HP2.out hr1 (by decide) x hx he) (p * 3) (.string key)) (fun x hx he => own_ne_row HP2.out hr1 (by decide) x hx he) (p * 3 + 1) (.int .i64 (v + 1))) (fun x hx he => own_ne_row HP2.out hr1 (by decide) x hx he) (p * 3 + 2) (.string data))
              have e0 := HU3.out.cell (j := 0) (by simp)
              have e1 := HU3.out.cell (j := 1) (by simp)
              have s0 := HB3.out.res.cell (j := 0) (by simp)
              have s1 := HB3.out.res.cell (j := 1) (by simp)
              have z0 := HB3.out.res.free 0
              have z1 := HB3.out.res.free 1
              simp at e0 e1 s0 s1
              clear hr1 hs1 hc1 hc2
              go_wp2
              have hb := ((HB3.out.res.set 0 (.slice (some ⟨g1, 0, none⟩) la c1)).set 1 (.slice q2 lg c2))
              unfold Row at hb
              have hL : ((objsOf E).set p (key, v + 1, data)).length = la := by rw [List.length_set]; exact HLA.out
              have hR : resO (replE key v data E) = (objsOf E).set p (key, v + 1, data) ∧ resG (replE key v data E) = gonsOf E := by
                rw [HC.out]
                refine ⟨?_, gons_same HE.out.inc (by rw [HL.out]; rfl)⟩
                show objsOf (putE key (v + 1, data, false) E) = _
                rw [objs_set HE.out.inc HOB.out]
                unfold poO
                rw [HP.out]
              exact bodyPost_ret (v := .tuple #[.agg #[.slice (some ⟨g1, 0, none⟩) la c1, .slice q2 lg c2], .int .i64 (v + 1), .int .i64 0]) (by simp [results, Try.results44, go_sem, World.cell?, hb]) rfl ⟨_, _, _, _, _, _, by rw [HC.out], (HB3.out.below.setCell (by show w.heap.size ≤ w.heap.size + 1; omega) _).setCell (by show w.heap.size ≤ w.heap.size + 1; omega) _, by rw [hR.1, hR.2]; exact made_res (made_k (w := w) HQ1.out HQ2.out (Nat.le_refl _) (Nat.le_refl _) hL HLG.out) _ _⟩
            · skip
              go_simp
              have HBR2 := Lib.hid (HBR.out.al (.cells #[] 45))
              have HNEW := Lib.hid (own_zeroGone (row_new u2 #[] 45) HBR.out.ge)
              have HU := Lib.hid (HU.out.al (.cells #[] 45))
              have HO38 := Lib.hid (own_below HO38.out (below_alloc (Below.refl _ _) (.cells #[] 45)))
              obtain ⟨B42, hb42⟩ : ∃ x, u2.heap.size = x := ⟨_, rfl⟩
              obtain ⟨u3, hu2⟩ : ∃ x, u2.alloc (.cells #[] 45) = x := ⟨_, rfl⟩
              rw [hb42] at HNEW ⊢
              rw [hu2] at HBR2 HNEW HU HO38 ⊢
              clear hb42 hu2 HBR
              have HO42 := HNEW
              have HBR := HBR2
              clear HNEW HBR2
              refine hK.out _ _ (⟨HBR, HBR.out.cells.1, HBR.out.cells.2⟩) (fun HS => ?_)
              clear hK K
              refine wpAnyH_ready (rs := [3]) (by kernel_rfl) (by simp) (AllReadyH.cons rfl (fun K hK => ?_) AllReadyH.nil)
              refine step_append_obj rfl _ _ rfl (w.heap.size + 2) (.slice (some ⟨B38, 0, none⟩) 0 0) 0 [] rfl HO38.out _ la _ (objsOf E) rfl (HS0.out.at_.keep HBR.out.below).o HS0.out.nilo (by omega) HBR.out.ge ?_
              intro q1 c1 u4 hown hgrow
              simp only [List.nil_append] at hown
              have HO1 := Lib.hid hown
              have HBR2 := Lib.hid (HBR.out.grown HO38.out (Nat.le_refl _) hgrow)
              have HU := Lib.hid (row_grownT HU.out HO38.out (by decide) hgrow)
              have HO42 := Lib.hid (own_grown HO42.out hgrow (own_apartT HO42.out HO38.out (by decide)))
              have HBR := HBR2
              clear hown hgrow HBR2 HO38
              refine hK.out _ _ (⟨HBR, HBR.out.cells.1, HBR.out.cells.2⟩) (fun HS => ?_)
              clear hK K
              refine wpAnyH_ready (rs := [7]) (by kernel_rfl) (by simp) (AllReadyH.cons rfl (fun K hK => ?_) AllReadyH.nil)
              refine step_append_gone rfl _ _ rfl (w.heap.size + 2) (.slice (some ⟨B42, 0, none⟩) 0 0) 0 [] rfl HO42.out _ lg _ (gonsOf E) rfl (HS0.out.at_.keep HBR.out.below).d HS0.out.nilg (by omega) HBR.out.ge ?_
              intro q2 c2 u5 hown hgrow
              simp only [List.nil_append] at hown
              have HO2 := Lib.hid hown
              have HBR2 := Lib.hid (HBR.out.grown HO42.out (Nat.le_refl _) hgrow)
              have HU := Lib.hid (row_grownT HU.out HO42.out (by decide) hgrow)
              have HO1 := Lib.hid (own_grown HO1.out hgrow (own_apartT HO1.out HO42.out (by decide)))
              have HBR := HBR2
              clear hown hgrow HBR2 HO42
              refine hK.out _ _ (⟨HBR, HBR.out.cells.1, HBR.out.cells.2⟩) (fun HS => ?_)
              clear hK K
              refine held_take (i := 8) (d := 46) (v := .agg #[.slice q1 (0 + la) c1, .slice q2 (0 + lg) c2]) rfl rfl (by kernel_rfl) (by kernel_rfl) (by kernel_rfl) (by kernel_rfl) (fun wx hS => by go_simp) HS ?_
              refine wpAnyH_ready (rs := [10]) (by kernel_rfl) (by simp) (AllReadyH.cons rfl (fun K hK => ?_) AllReadyH.nil)
              have k0 := HU.out.cell (j := 0) (by simp)
              have k1 := HU.out.cell (j := 1) (by simp)
              have kf0 := HU.out.free 0
              have kf1 := HU.out.free 1
              simp at k0 k1
              go_simp
              have HBS := Lib.hid ((HBR.out.set HUGE.out 0 (.slice q1 la c1)).set HUGE.out 1 (.slice q2 lg c2))
              refine hK.out _ _ (⟨HBS, HBS.out.cells.1, HBS.out.cells.2⟩) (fun HS => ?_)
              clear hK K k0 k1 kf0 kf1
              refine wpAnyH_done (by kernel_rfl) (NoPanic.normal ?_) _
              simp only [Nat.zero_add] at HO1 HO2
              have HUS := Lib.hid (show Row ((u5.setCell ⟨B13, 0, none⟩ (.slice q1 la c1)).setCell ⟨B13, 1, none⟩ (.slice q2 lg c2)) B13 27 #[.slice q1 la c1, .slice q2 lg c2] from (HU.out.set 0 _).set 1 _)
              have HP1 := Lib.hid (own_put (own_put HO1.out (own_ne_row HO1.out HU.out (by decide)) 0 (.slice q1 la c1)) (own_ne_row HO1.out HU.out (by decide)) 1 (.slice q2 lg c2))
              have HP2 := Lib.hid (own_put (own_put HO2.out (own_ne_row HO2.out HU.out (by decide)) 0 (.slice q1 la c1)) (own_ne_row HO2.out HU.out (by decide)) 1 (.slice q2 lg c2))
              obtain ⟨ws, hws⟩ : ∃ x, ((u5.setCell ⟨B13, 0, none⟩ (.slice q1 la c1)).setCell ⟨B13, 1, none⟩ (.slice q2 lg c2)) = x := ⟨_, rfl⟩
              rw [hws] at HUS HP1 HP2 HBS ⊢
              clear hws HO1 HO2 HU HBR HS
              obtain ⟨g1, cur, rfl, _, hg1, hr1, hc1, hc2, hs1, _⟩ := own_rowObj HP1.out (by omega)
              have a0 := hr1.cell (j := p * 3) (by omega)
              have a1 := hr1.cell (j := p * 3 + 1) (by omega)
              have a2 := hr1.cell (j := p * 3 + 2) (by omega)
              generalize cur[p * 3] = y0 at a0
              generalize cur[p * 3 + 1] = y1 at a1
              generalize cur[p * 3 + 2] = y2 at a2
              have b0 := hr1.free (p * 3)
              have b1 := hr1.free (p * 3 + 1)
              have b2 := hr1.free (p * 3 + 2)
              have hne : g1 ≠ B13 := fun he => own_ne_row HP1.out HUS.out (by decide) g1 rfl he.symm
              have hne2 := Ne.symm hne
              have d0 := HUS.out.cell (j := 0) (by simp)
              simp at d0
              have HU3 := Lib.hid (show Row (((ws.setCell ⟨g1, p * 3, none⟩ (.string key)).setCell ⟨g1, p * 3 + 1, none⟩ (.int .i64 (v + 1))).setCell ⟨g1, p * 3 + 2, none⟩ (.string data)) B13 27 #[.slice (some ⟨g1, 0, none⟩) la c1, .slice q2 lg c2] from ((HUS.out.put hne2 _ _).put hne2 _ _).put hne2 _ _)
              have HB3 := Lib.hid (show BRow w #[.slice (some ⟨gb, go, none⟩) la ca, .slice g lg cg] (((ws.setCell ⟨g1, p * 3, none⟩ (.string key)).setCell ⟨g1, p * 3 + 1, none⟩ (.int .i64 (v + 1))).setCell ⟨g1, p * 3 + 2, none⟩ (.string data)) from ((HBS.out.set hg1 _ _).set hg1 _ _).set hg1 _ _)
              have HQ1 := Lib.hid (own_setObj HP1.out hpl2 key (v + 1) data)
              have HQ2 := Lib.hid (own_put (own_put (own_put HP2.out (fun x hx he => own_ne_row HP2.out hr1 (by decide) x hx he) (p * 3) (.string key)) (fun x hx he => own_ne_row HP2.out hr1 (by decide) x hx he) (p * 3 + 1) (.int .i64 (v + 1))) (fun x hx he => own_ne_row HP2.out hr1 (by decide) x hx he) (p * 3 + 2) (.string data))
              have e0 := HU3.out.cell (j := 0) (by simp)
              have e1 := HU3.out.cell (j := 1) (by simp)
              have s0 := HB3.out.res.cell (j := 0) (by simp)
              have s1 := HB3.out.res.cell (j := 1) (by simp)
              have z0 := HB3.out.res.free 0
              have z1 := HB3.out.res.free 1
              simp at e0 e1 s0 s1
              clear hr1 hs1 hc1 hc2
              go_wp2
              have hb := ((HB3.out.res.set 0 (.slice (some ⟨g1, 0, none⟩) la c1)).set 1 (.slice q2 lg c2))
              unfold Row at hb
              have hL : ((objsOf E).set p (key, v + 1, data)).length = la := by rw [List.length_set]; exact HLA.out
              have hR : resO (replE key v data E) = (objsOf E).set p (key, v + 1, data) ∧ resG (replE key v data E) = gonsOf E := by
                rw [HC.out]
                refine ⟨?_, gons_same HE.out.inc (by rw [HL.out]; rfl)⟩
                show objsOf (putE key (v + 1, data, false) E) = _
                rw [objs_set HE.out.inc HOB.out]
                unfold poO
                rw [HP.out]
              exact bodyPost_ret (v := .tuple #[.agg #[.slice (some ⟨g1, 0, none⟩) la c1, .slice q2 lg c2], .int .i64 (v + 1), .int .i64 0]) (by simp [results, Try.results44, go_sem, World.cell?, hb]) rfl ⟨_, _, _, _, _, _, by rw [HC.out], (HB3.out.below.setCell (by show w.heap.size ≤ w.heap.size + 1; omega) _).setCell (by show w.heap.size ≤ w.heap.size + 1; omega) _, by rw [hR.1, hR.2]; exact made_res (made_k (w := w) HQ1.out HQ2.out (Nat.le_refl _) (Nat.le_refl _) hL HLG.out) _ _⟩
          · skip
            go_simp
            have HBR2 := Lib.hid (HBR.out.al (.cells #[] 45))
            have HNEW := Lib.hid (own_zeroGone (row_new u1 #[] 45) HBR.out.ge)
            have HU := Lib.hid (HU.out.al (.cells #[] 45))
            obtain ⟨B42, hb42⟩ : ∃ x, u1.heap.size = x := ⟨_, rfl⟩
            obtain ⟨u2, hu2⟩ : ∃ x, u1.alloc (.cells #[] 45) = x := ⟨_, rfl⟩
            rw [hb42] at HNEW ⊢
            rw [hu2] at HBR2 HNEW HU ⊢
            clear hb42 hu2 HBR
            have HO42 := HNEW
            have HBR := HBR2
            clear HNEW HBR2
            refine hK.out _ _ (⟨HBR, HBR.out.cells.1, HBR.out.cells.2⟩) (fun HS => ?_)
            clear hK K
            refine wpAnyH_ready (rs := [0]) (by kernel_rfl) (by simp) (AllReadyH.cons rfl (fun K hK => ?_) AllReadyH.nil)
            go_simp
            have HBR2 := Lib.hid (HBR.out.al (.cells #[] 31))
            have HNEW := Lib.hid (own_zeroObj (row_new u2 #[] 31) HBR.out.ge)
            have HU := Lib.hid (HU.out.al (.cells #[] 31))
            have HO42 := Lib.hid (own_below HO42.out (below_alloc (Below.refl _ _) (.cells #[] 31)))
            obtain ⟨B38, hb38⟩ : ∃ x, u2.heap.size = x := ⟨_, rfl⟩
            obtain ⟨u3, hu2⟩ : ∃ x, u2.alloc (.cells #[] 31) = x := ⟨_, rfl⟩
            rw [hb38] at HNEW ⊢
            rw [hu2] at HBR2 HNEW HU HO42 ⊢
            clear hb38 hu2 HBR
            have HO38 := HNEW
            have HBR := HBR2
            clear HNEW HBR2
            refine hK.out _ _ (⟨HBR, HBR.out.cells.1, HBR.out.cells.2⟩) (fun HS => ?_)
            clear hK K
            refine wpAnyH_ready (rs := [3]) (by kernel_rfl) (by simp) (AllReadyH.cons rfl (fun K hK => ?_) AllReadyH.nil)
            refine step_append_obj rfl _ _ rfl (w.heap.size + 2) (.slice (some ⟨B38, 0, none⟩) 0 0) 0 [] rfl HO38.out _ la _ (objsOf E) rfl (HS0.out.at_.keep HBR.out.below).o HS0.out.nilo (by omega) HBR.out.ge ?_
            intro q1 c1 u4 hown hgrow
            simp only [List.nil_append] at hown
            have HO1 := Lib.hid hown
            have HBR2 := Lib.hid (HBR.out.grown HO38.out (Nat.le_refl _) hgrow)
            have HU := Lib.hid (row_grownT HU.out HO38.out (by decide) hgrow)
            have HO42 := Lib.hid (own_grown HO42.out hgrow (own_apartT HO42.out HO38.out (by decide)))
            have HBR := HBR2
            clear hown hgrow HBR2 HO38
            refine hK.out _ _ (⟨HBR, HBR.out.cells.1, HBR.out.cells.2⟩) (fun HS => ?_)
            clear hK K
            refine wpAnyH_ready (rs := [7]) (by kernel_rfl) (by simp) (AllReadyH.cons rfl (fun K hK => ?_) AllReadyH.nil)
            refine step_append_gone rfl _ _ rfl (w.heap.size + 2) (.slice (some ⟨B42, 0, none⟩) 0 0) 0 [] rfl HO42.out _ lg _ (gonsOf E) rfl (HS0.out.at_.keep HBR.out.below).d HS0.out.nilg (by omega) HBR.out.ge ?_
            intro q2 c2 u5 hown hgrow
            simp only [List.nil_append] at hown
            have HO2 := Lib.hid hown
            have HBR2 := Lib.hid (HBR.out.grown HO42.out (Nat.le_refl _) hgrow)
            have HU := Lib.hid (row_grownT HU.out HO42.out (by decide) hgrow)
            have HO1 := Lib.hid (own_grown HO1.out hgrow (own_apartT HO1.out HO42.out (by decide)))
            have HBR := HBR2
            clear hown hgrow HBR2 HO42
            refine hK.out _ _ (⟨HBR, HBR.out.cells.1, HBR.out.cells.2⟩) (fun HS => ?_)
            clear hK K
            refine held_take (i := 8) (d := 46) (v := .agg #[.slice q1 (0 + la) c1, .slice q2 (0 + lg) c2]) rfl rfl (by kernel_rfl) (by kernel_rfl) (by kernel_rfl) (by kernel_rfl) (fun wx hS => by go_simp) HS ?_
            refine wpAnyH_ready (rs := [10]) (by kernel_rfl) (by simp) (AllReadyH.cons rfl (fun K hK => ?_) AllReadyH.nil)
            have k0 := HU.out.cell (j := 0) (by simp)
            have k1 := HU.out.cell (j := 1) (by simp)
            have kf0 := HU.out.free 0
            have kf1 := HU.out.free 1
            simp at k0 k1
            go_simp
            have HBS := Lib.hid ((HBR.out.set HUGE.out 0 (.slice q1 la c1)).set HUGE.out 1 (.slice q2 lg c2))
            refine hK.out _ _ (⟨HBS, HBS.out.cells.1, HBS.out.cells.2⟩) (fun HS => ?_)
            clear hK K k0 k1 kf0 kf1
            refine wpAnyH_done (by kernel_rfl) (NoPanic.normal ?_) _
            simp only [Nat.zero_add] at HO1 HO2
            have HUS := Lib.hid (show Row ((u5.setCell ⟨B13, 0, none⟩ (.slice q1 la c1)).setCell ⟨B13, 1, none⟩ (.slice q2 lg c2)) B13 27 #[.slice q1 la c1, .slice q2 lg c2] from (HU.out.set 0 _).set 1 _)
            have HP1 := Lib.hid (own_put (own_put HO1.out (own_ne_row HO1.out HU.out (by decide)) 0 (.slice q1 la c1)) (own_ne_row HO1.out HU.out (by decide)) 1 (.slice q2 lg c2))
            have HP2 := Lib.hid (own_put (own_put HO2.out (own_ne_row HO2.out HU.out (by decide)) 0 (.slice q1 la c1)) (own_ne_row HO2.out HU.out (by decide)) 1 (.slice q2 lg c2))
            obtain ⟨ws, hws⟩ : ∃ x, ((u5.setCell ⟨B13, 0, none⟩ (.slice q1 la c1)).setCell ⟨B13, 1, none⟩ (.slice q2 lg c2)) = x := ⟨_, rfl⟩
            rw [hws] at HUS HP1 HP2 HBS ⊢
            clear hws HO1 HO2 HU HBR HS
            obtain ⟨g1, cur, rfl, _, hg1, hr1, hc1, hc2, hs1, _⟩ := own_rowObj HP1.out (by omega)
            have a0 := hr1.cell (j := p * 3) (by omega)
            have a1 := hr1.cell (j := p * 3 + 1) (by omega)
            have a2 := hr1.cell (j := p * 3 + 2) (by omega)
            generalize cur[p * 3] = y0 at a0
            generalize cur[p * 3 + 1] = y1 at a1
            generalize cur[p * 3 + 2] = y2 at a2
            have b0 := hr1.free (p * 3)
            have b1 := hr1.free (p * 3 + 1)
            have b2 := hr1.free (p * 3 + 2)
            have hne : g1 ≠ B13 := fun he => own_ne_row HP1.out HUS.out (by decide) g1 rfl he.symm
            have hne2 := Ne.symm hne
            have d0 := HUS.out.cell (j := 0) (by simp)
            simp at d0
            have HU3 := Lib.hid (show Row (((ws.setCell ⟨g1, p * 3, none⟩ (.string key)).setCell ⟨g1, p * 3 + 1, none⟩ (.int .i64 (v + 1))).setCell ⟨g1, p * 3 + 2, none⟩ (.string data)) B13 27 #[.slice (some ⟨g1, 0, none⟩) la c1, .slice q2 lg c2] from ((HUS.out.put hne2 _ _).put hne2 _ _).put hne2 _ _)
            have HB3 := Lib.hid (show BRow w #[.slice (some ⟨gb, go, none⟩) la ca, .slice g lg cg] (((ws.setCell ⟨g1, p * 3, none⟩ (.string key)).setCell ⟨g1, p * 3 + 1, none⟩ (.int .i64 (v + 1))).setCell ⟨g1, p * 3 + 2, none⟩ (.string data)) from ((HBS.out.set hg1 _ _).set hg1 _ _).set hg1 _ _)
            have HQ1 := Lib.hid (own_setObj HP1.out hpl2 key (v + 1) data)
            have HQ2 := Lib.hid (own_put (own_put (own_put HP2.out (fun x hx he => own_ne_row HP2.out hr1 (by decide) x hx he) (p * 3) (.string key)) (fun x hx he => own_ne_row HP2.out hr1 (by decide) x hx he) (p * 3 + 1) (.int .i64 (v + 1))) (fun x hx he => own_ne_row HP2.out hr1 (by decide) x hx he) (p * 3 + 2) (.string data))
            have e0 := HU3.out.cell (j := 0) (by simp)
            have e1 := HU3.out.cell (j := 1) (by simp)
            have s0 := HB3.out.res.cell (j := 0) (by simp)
            have s1 := HB3.out.res.cell (j := 1) (by simp)
            have z0 := HB3.out.res.free 0
            have z1 := HB3.out.res.free 1
            simp at e0 e1 s0 s1
            clear hr1 hs1 hc1 hc2
            go_wp2
            have hb := ((HB3.out.res.set 0 (.slice (some ⟨g1, 0, none⟩) la c1)).set 1 (.slice q2 lg c2))
            unfold Row at hb
            have hL : ((objsOf E).set p (key, v + 1, data)).length = la := by rw [List.length_set]; exact HLA.out
            have hR : resO (replE key v data E) = (objsOf E).set p (key, v + 1, data) ∧ resG (replE key v data E) = gonsOf E := by
              rw [HC.out]
              refine ⟨?_, gons_same HE.out.inc (by rw [HL.out]; rfl)⟩
              show objsOf (putE key (v + 1, data, false) E) = _
              rw [objs_set HE.out.inc HOB.out]
              unfold poO
              rw [HP.out]
            exact bodyPost_ret (v := .tuple #[.agg #[.slice (some ⟨g1, 0, none⟩) la c1, .slice q2 lg c2], .int .i64 (v + 1), .int .i64 0]) (by simp [results, Try.results44, go_sem, World.cell?, hb]) rfl ⟨_, _, _, _, _, _, by rw [HC.out], (HB3.out.below.setCell (by show w.heap.size ≤ w.heap.size + 1; omega) _).setCell (by show w.heap.size ≤ w.heap.size + 1; omega) _, by rw [hR.1, hR.2]; exact made_res (made_k (w := w) HQ1.out HQ2.out (Nat.le_refl _) (Nat.le_refl _) hL HLG.out) _ _⟩
    · have HC := Lib.hid (repl_ver (data := data) HL.out rfl hv)
      have hv2 : ((v : Int) == ver) = false := by rw [beq_eq_false_iff_ne]; exact hv
      go_wp2
      have hb := HBR.out
      exact bodyPost_ret (v := .tuple #[.agg #[.slice none 0 0, .slice none 0 0], .int .i64 0, .int .i64 5]) (by simp [results, Try.results44, go_sem, World.cell?, hb]) rfl (HNO.out 5 HC.out (by decide))
end Go.Proofs.Ytblpebdjbenphaa
