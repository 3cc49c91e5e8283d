/- Texts put together, as a claim holds at most sixty files. -/
import Derived.Test.YtblpebdjbenphaaGreatDoorMg12
import Derived.StillTailTactics
import Derived.Test.YtblpebdjbenphaaGreatDoorMg7
import Derived.Test.YtblpebdjbenphaaGreatDoorL7P
namespace Go.Proofs.YtblpebdjbenphaaGreatDoor
open Go.ChangeShapes Go.WideShapes Go.ChangeAt Go.RowKit
set_option linter.unusedVariables false
set_option maxRecDepth 100000

set_option maxHeartbeats 4000000 in
theorem l7del_any (a g : Option Addr) (la ca lg cg : Nat) (E : Els) (key : ByteArray) (ver : Int) (w : World) (hE : EP E) (h : StoI w a la ca (objsOf E) g lg cg (gonsOf E)) :
    Calls Tryz.prog 23 #[.agg #[.slice a la ca, .slice g lg cg], .string key, .int .i64 ver] w (MadeSD (delE key ver E) w) := by
  have HS := Lib.hid h
  have HE := Lib.hid hE
  have hm := h.capo.2
  have hm2 := h.capg.2
  have hca := h.capo.1
  have hcg := h.capg.1
  unfold maxLen at hm hm2
  have hla : (objsOf E).length = la := h.at_.o.length
  have hlg : (gonsOf E).length = lg := h.at_.d.length
  have hfew := hE.few
  have hsum := objs_gons_len E
  rw [hla, hlg] at hsum
  have HLA := Lib.hid hla
  have HLG := Lib.hid hlg
  obtain ⟨W0, hW0⟩ : ∃ W0, (w.alloc (.cells #[.slice a la ca, .slice g lg cg] 27)).alloc (.cells #[.slice none 0 0, .slice none 0 0] 27) = W0 := ⟨_, rfl⟩
  have HB := Lib.hid (show Below w.heap.size w W0 by rw [← hW0]; exact below_alloc (below_alloc (Below.refl _ _) _) _)
  have HX := Lib.hid (show Row W0 w.heap.size 27 #[.slice a la ca, .slice g lg cg] by rw [← hW0]; exact (row_new _ _ _).al _)
  have HR := Lib.hid (show Row W0 (w.heap.size + 1) 27 #[.slice none 0 0, .slice none 0 0] by rw [← hW0]; exact row_new1 _ _ _ _)
  have HW0 := Lib.hid hW0
  clear h hE hW0 hla hlg
  go_enter Tryz.func23, Tryz.ntmps23
  go_wp2_with fail
  rw [HW0.out]
  obtain ⟨p, hp⟩ : ∃ p, posT (okeys (objsOf E)) key = p := ⟨_, rfl⟩
  have hpl : p ≤ la := by
    have := posT_le (okeys (objsOf E)) key
    rw [hp, okeys_len, HLA.out] at this; exact this
  have HP := Lib.hid hp
  clear hp
  refine (l7find_any _ _ _ _ _ _ _ _ _ _ (HS.out.at_.keep HB.out)).mono ?_
  unfold MadeFound
  rw [HP.out, isO_look HE.out.inc]
  rintro e w1 ⟨rfl, hB⟩
  have HX := Lib.hid (HX.out.keep hB)
  have HR := Lib.hid (HR.out.keep hB)
  have HB := Lib.hid (below_via HB.out hB)
  clear hB HW0
  have x0 := HX.out.cell (j := 0) (by simp)
  have x1 := HX.out.cell (j := 1) (by simp)
  have r0 := HR.out.cell (j := 0) (by simp)
  have r1 := HR.out.cell (j := 1) (by simp)
  have f0 := HR.out.free 0
  have f1 := HR.out.free 1
  simp at x0 x1 r0 r1
  have HNO := Lib.hid (show ∀ c : Int, delE key ver E = (E, 0, c) → c ≠ 0 → MadeSD (delE key ver E) w (.returned (.tuple #[.agg #[.slice none 0 0, .slice none 0 0], .int .i64 c])) ((w1.setCell ⟨w.heap.size + 1, 0, none⟩ (.slice none 0 0)).setCell ⟨w.heap.size + 1, 1, none⟩ (.slice none 0 0)) from fun c hc h0 => by
    rw [hc]
    refine ⟨none, 0, 0, none, 0, 0, rfl, (HB.out.setCell (by show w.heap.size ≤ w.heap.size + 1; omega) _).setCell (by show w.heap.size ≤ w.heap.size + 1; omega) _, ?_⟩
    rw [(res_no (R := (E, 0, c)) h0).1, (res_no (R := (E, 0, c)) h0).2]
    exact StoK.nil _ _)
  have hbres := ((HR.out.set 0 (.slice none 0 0)).set 1 (.slice none 0 0))
  unfold Row at hbres
  have HBR := Lib.hid hbres
  clear hbres
  cases hob : obIs (lookE key E) with
  | false =>
    have HC := Lib.hid (del_none (ver := ver) hob)
    clear hob
    go_wp2
    have hb := HBR.out
    exact bodyPost_ret (v := .tuple #[.agg #[.slice none 0 0, .slice none 0 0], .int .i64 4]) (by simp [results, Tryz.results23, go_sem, World.cell?, hb]) rfl (HNO.out 4 HC.out (by decide))
  | true =>
    obtain ⟨e, hl, hg⟩ : ∃ e, lookE key E = some e ∧ e.2.2 = false := by
      cases hl : lookE key E with
      | none => rw [hl] at hob; cases hob
      | some e => rw [hl] at hob; exact ⟨e, rfl, by simpa [obIs] using hob⟩
    obtain ⟨v, dd, gg⟩ := e
    obtain rfl : gg = false := hg
    obtain ⟨hv1, hv2, hv3, hv4⟩ := ep_look HE.out hl
    simp only at hv1 hv2
    obtain ⟨hpl2, hra⟩ := obj_at_look HE.out.inc hl rfl
    unfold poO at hpl2 hra
    rw [HP.out] at hpl2 hra
    rw [HLA.out] at hpl2
    have HL := Lib.hid hl
    have hgv : obj1 (objsOf E) p = v := by unfold obj1; rw [List.getD_eq_getElem?_getD, hra]; rfl
    have HOB := Lib.hid hob
    clear hl hra hob hv3 hv4
    rcases HS.out.at_.o.src with h0 | ⟨gb, go, rfl, hgb, hga⟩
    · omega
    have hgc := (hga p hpl2).2.1
    rw [hgv] at hgc
    have gc := (HB.out.cell (p := ⟨gb, go + p * 3 + 1, none⟩) hgb).trans hgc
    clear hgb hgc hgv hga
    have hp0 : (0 : Int) ≤ (p : Int) := by omega
    have hp1 : (p : Int) < (la : Int) := by omega
    by_cases hv : v = ver
    · subst hv
      have HC := Lib.hid (del_ok HL.out rfl rfl)
      go_wp2_with fail
      obtain ⟨r, hr⟩ : ∃ r, posT (gkeys (gonsOf E)) key = r := ⟨_, rfl⟩
      have hrl : r ≤ lg := by
        have := posT_le (gkeys (gonsOf E)) key
        rw [hr, gkeys_len, HLG.out] at this; exact this
      have HRR := Lib.hid hr
      clear hr
      refine (l7gone_any _ _ _ _ _ _ _ _ _ _ (HS.out.at_.keep HB.out)).mono ?_
      unfold MadeFound
      rw [HRR.out, isG_look HE.out.inc]
      rintro e w2 ⟨rfl, hB⟩
      have HX := Lib.hid (HX.out.keep hB)
      have HR := Lib.hid (HR.out.keep hB)
      have HB := Lib.hid (below_via HB.out hB)
      have HS0 := HS
      have HBR := Lib.hid (show BRow w #[.slice (some ⟨gb, go, none⟩) la ca, .slice g lg cg] w2.drew from ⟨HB.out.drew, HX.out, HR.out⟩)
      have hp2 : (p : Int) ≤ (ca : Int) := by omega
      have hp3 : (0 : Int) ≤ (p : Int) + 1 := by omega
      have hp4 : (p : Int) + 1 ≤ (la : Int) := by omega
      have hp5 : ((p : Int) + 1).toNat = p + 1 := by omega
      have hp6 : IntKind.i64.wrap ((p : Int) + 1) = (p : Int) + 1 := IntWalk.i64_in _ (by omega)
      have hp7 : ¬ ca = 0 := by omega
      have hr0 : (0 : Int) ≤ (r : Int) := by omega
      have hr1 : (r : Int) ≤ (cg : Int) := by omega
      have hr2 : (r : Int) ≤ (lg : Int) := by omega
      clear hB HB HX HR x0 x1 r0 r1 f0 f1 gc HNO
      go_wp2_with fail
      refine wp_region_noPanic ?_
      refine wp_region_held_drew (S := (fun w' => Hid (BRow w #[.slice (some ⟨gb, go, none⟩) la ca, .slice g lg cg] w') ∧ w'.cell? ⟨w.heap.size, 0, none⟩ = some (.slice (some ⟨gb, go, none⟩) la ca) ∧ w'.cell? ⟨w.heap.size, 1, none⟩ = some (.slice g lg cg))) (by kernel_rfl) (⟨HBR, HBR.out.cells.1, HBR.out.cells.2⟩) (fun HS => ?_)
      obtain ⟨u0, hu⟩ : ∃ x, w2.drew = x := ⟨_, rfl⟩
      rw [hu] at HBR HS ⊢
      clear hu
      refine held_take (i := 1) (d := 40) (v := .pointer (some ⟨w.heap.size, 0, none⟩)) rfl rfl (by kernel_rfl) (by kernel_rfl) (by kernel_rfl) (by kernel_rfl) (fun wx hS => by go_simp) HS ?_
      refine held_take (i := 2) (d := 41) (v := .slice (some ⟨gb, go, none⟩) la ca) rfl rfl (by kernel_rfl) (by kernel_rfl) (by kernel_rfl) (by kernel_rfl) (fun wx hS => by have h0 := hS.2.1; go_simp) HS ?_
      refine held_take (i := 3) (d := 42) (v := .int .i64 (p : Int)) rfl rfl (by kernel_rfl) (by kernel_rfl) (by kernel_rfl) (by kernel_rfl) (fun wx hS => by go_simp) HS ?_
      refine held_take (i := 4) (d := 43) (v := .slice (some ⟨gb, go, none⟩) p ca) rfl rfl (by kernel_rfl) (by kernel_rfl) (by kernel_rfl) (by kernel_rfl) (fun wx hS => by go_simp) HS ?_
      refine held_take (i := 6) (d := 45) (v := .pointer (some ⟨w.heap.size, 0, none⟩)) rfl rfl (by kernel_rfl) (by kernel_rfl) (by kernel_rfl) (by kernel_rfl) (fun wx hS => by go_simp) HS ?_
      refine held_take (i := 7) (d := 46) (v := .slice (some ⟨gb, go, none⟩) la ca) rfl rfl (by kernel_rfl) (by kernel_rfl) (by kernel_rfl) (by kernel_rfl) (fun wx hS => by have h0 := hS.2.1; go_simp) HS ?_
      refine held_take (i := 8) (d := 47) (v := .int .i64 (p : Int)) rfl rfl (by kernel_rfl) (by kernel_rfl) (by kernel_rfl) (by kernel_rfl) (fun wx hS => by go_simp) HS ?_
      refine held_take (i := 9) (d := 48) (v := .int .i64 ((p : Int) + 1)) rfl rfl (by kernel_rfl) (by kernel_rfl) (by kernel_rfl) (by kernel_rfl) (fun wx hS => by go_simp) HS ?_
      refine held_take (i := 10) (d := 49) (v := .slice (if ca = p + 1 then some ⟨gb, go, none⟩ else some ⟨gb, go + (p + 1) * 3, none⟩) (la - (p + 1)) (ca - (p + 1))) rfl rfl (by kernel_rfl) (by kernel_rfl) (by kernel_rfl) (by kernel_rfl) (fun wx hS => by go_simp) HS ?_
      refine wpAnyH_ready (rs := [0, 13]) (by kernel_rfl) (by simp) (AllReadyH.cons rfl (fun K hK => ?_) (AllReadyH.cons rfl (fun K hK => ?_) AllReadyH.nil))
      · skip
        go_simp
        have HBR2 := Lib.hid (HBR.out.al (.cells #[] 34))
        have HNEW := Lib.hid (own_zeroObj (row_new u0 #[] 34) HBR.out.ge)
        obtain ⟨B39, hb39⟩ : ∃ x, u0.heap.size = x := ⟨_, rfl⟩
        obtain ⟨u1, hu2⟩ : ∃ x, u0.alloc (.cells #[] 34) = x := ⟨_, rfl⟩
        rw [hb39] at HNEW ⊢
        rw [hu2] at HBR2 HNEW ⊢
        clear hb39 hu2 HBR
        have HO39 := HNEW
        have HBR := HBR2
        clear HNEW HBR2
        refine hK.out _ _ (⟨HBR, HBR.out.cells.1, HBR.out.cells.2⟩) (fun HS => ?_)
        clear hK K
        refine wpAnyH_ready (rs := [5, 13]) (by kernel_rfl) (by simp) (AllReadyH.cons rfl (fun K hK => ?_) (AllReadyH.cons rfl (fun K hK => ?_) AllReadyH.nil))
        · skip
          refine step_append_obj rfl _ _ rfl (w.heap.size + 2) (.slice (some ⟨B39, 0, none⟩) 0 0) 0 [] rfl HO39.out _ p _ ((objsOf E).take p) rfl (objs_take (HS0.out.at_.keep HBR.out.below).o hpl) (fun e => by cases e) (by omega) HBR.out.ge ?_
          intro q1 c1 u2 hown hgrow
          simp only [List.nil_append, Nat.zero_add] at hown
          rw [Nat.zero_add]
          have HO1 := Lib.hid hown
          have HBR2 := Lib.hid (HBR.out.grown HO39.out (Nat.le_refl _) hgrow)
          have HBR := HBR2
          clear hown hgrow HBR2 HO39
          refine hK.out _ _ (⟨HBR, HBR.out.cells.1, HBR.out.cells.2⟩) (fun HS => ?_)
          clear hK K
          refine wpAnyH_ready (rs := [11, 13]) (by kernel_rfl) (by simp) (AllReadyH.cons rfl (fun K hK => ?_) (AllReadyH.cons rfl (fun K hK => ?_) AllReadyH.nil))
          · skip
            refine step_append_obj rfl _ _ rfl (w.heap.size + 2) (.slice q1 p c1) p ((objsOf E).take p) rfl HO1.out _ (la - (p + 1)) _ ((objsOf E).drop (p + 1)) rfl (by have hd := objs_dropA (k := p + 1) (HS0.out.at_.keep HBR.out.below).o (by omega) hca; simpa [addr_add] using hd) (by intro e; split at e <;> cases e) (by omega) HBR.out.ge ?_
            intro q2 c2 u3 hown hgrow
            skip
            have HO2 := Lib.hid hown
            have HBR2 := Lib.hid (HBR.out.grown HO1.out (Nat.le_refl _) hgrow)
            have HBR := HBR2
            clear hown hgrow HBR2 HO1
            refine hK.out _ _ (⟨HBR, HBR.out.cells.1, HBR.out.cells.2⟩) (fun HS => ?_)
            clear hK K
            refine held_take (i := 12) (d := 51) (v := .agg #[.slice q2 (p + (la - (p + 1))) c2, .slice none 0 0]) rfl rfl (by kernel_rfl) (by kernel_rfl) (by kernel_rfl) (by kernel_rfl) (fun wx hS => by go_simp) HS ?_
            refine wpAnyH_ready (rs := [13]) (by kernel_rfl) (by simp) (AllReadyH.cons rfl (fun K hK => ?_) AllReadyH.nil)
            go_simp
            have HBR2 := Lib.hid (HBR.out.al (.cells #[.slice none 0 0, .slice none 0 0] 27))
            have HNEW := Lib.hid (row_new u3 #[.slice none 0 0, .slice none 0 0] 27)
            have HO2 := Lib.hid (own_below HO2.out (below_alloc (Below.refl _ _) (.cells #[.slice none 0 0, .slice none 0 0] 27)))
            have HGE := Lib.hid HBR.out.ge
            obtain ⟨B12, hb12⟩ : ∃ x, u3.heap.size = x := ⟨_, rfl⟩
            obtain ⟨u4, hu2⟩ : ∃ x, u3.alloc (.cells #[.slice none 0 0, .slice none 0 0] 27) = x := ⟨_, rfl⟩
            rw [hb12] at HNEW HGE ⊢
            rw [hu2] at HBR2 HNEW HO2 ⊢
            clear hb12 hu2 HBR
            have HU := HNEW
            have HBR := HBR2
            have HUGE := HGE
            clear HNEW HBR2 HGE
            refine hK.out _ _ (⟨HBR, HBR.out.cells.1, HBR.out.cells.2⟩) (fun HS => ?_)
            clear hK K
            refine wpAnyH_ready (rs := [14]) (by kernel_rfl) (by simp) (AllReadyH.cons rfl (fun K hK => ?_) AllReadyH.nil)
            have k0 := HU.out.cell (j := 0) (by simp)
            have k1 := HU.out.cell (j := 1) (by simp)
            have kf0 := HU.out.free 0
            have kf1 := HU.out.free 1
            simp at k0 k1
            go_simp
            have HBS := Lib.hid ((HBR.out.set HUGE.out 0 (.slice q2 (p + (la - (p + 1))) c2)).set HUGE.out 1 (.slice none 0 0))
            refine hK.out _ _ (⟨HBS, HBS.out.cells.1, HBS.out.cells.2⟩) (fun HS => ?_)
            clear hK K k0 k1 kf0 kf1
            refine wpAnyH_done (by kernel_rfl) (NoPanic.normal ?_) _
            have HUS := Lib.hid (show Row ((u4.setCell ⟨B12, 0, none⟩ (.slice q2 (p + (la - (p + 1))) c2)).setCell ⟨B12, 1, none⟩ (.slice none 0 0)) B12 27 #[.slice q2 (p + (la - (p + 1))) c2, .slice none 0 0] from (HU.out.set 0 _).set 1 _)
            have HG2 := Lib.hid (own_put (own_put HO2.out (own_ne_row HO2.out HU.out (by decide)) 0 (.slice q2 (p + (la - (p + 1))) c2)) (own_ne_row HO2.out HU.out (by decide)) 1 (.slice none 0 0))
            obtain ⟨ws, hws⟩ : ∃ x, ((u4.setCell ⟨B12, 0, none⟩ (.slice q2 (p + (la - (p + 1))) c2)).setCell ⟨B12, 1, none⟩ (.slice none 0 0)) = x := ⟨_, rfl⟩
            rw [hws] at HUS HG2 HBS ⊢
            obtain ⟨zz, hzz⟩ : ∃ q : Option Addr, (if ca = p + 1 then some (⟨gb, go, none⟩ : Addr) else some ⟨gb, go + (p + 1) * 3, none⟩) = q := ⟨_, rfl⟩
            rw [hzz]
            obtain ⟨nn, hnn⟩ : ∃ x, p + (la - (p + 1)) = x := ⟨_, rfl⟩
            have HNN := Lib.hid hnn
            rw [hnn] at HUS HG2 ⊢
            have HC2 := Lib.hid (show CStep w B12 #[.slice (some ⟨gb, go, none⟩) la ca, .slice g lg cg] #[.slice q2 nn c2, .slice none 0 0] ws from ⟨HBS.out.below, HBS.out.box, HBS.out.res, HUS.out, HUGE.out⟩)
            clear hws hzz hnn HO2 HU HBR HS HBS HUS
            obtain ⟨x1, hx1⟩ : ∃ v : Value, .slice (some ⟨gb, go, none⟩) la ca = v := ⟨_, rfl⟩
            have hhx1 : x1 = x1 := rfl
            have HU2 := Lib.hid HC2.out.lt
            have HCA := Lib.hid (HC2.out.al (.cells #[] 57))
            have HOA := Lib.hid (own_zeroGone (row_new ws #[] 57) (Nat.le_refl _))
            have HGA := Lib.hid (own_below HG2.out (below_alloc (Below.refl _ _) (.cells #[] 57)))
            have hx1b := HCA.out.cell.2
            clear hx1 hhx1 x1
            go_wp2_with (first
              | (at_builtin; ((refine append1_gone rfl _ _ rfl ws.heap.size (.slice q7 r c7) r ((gonsOf E).take r) rfl (own_below HO7.out (below_alloc (Below.refl _ _) _)) w7.heap.size _ key v rfl (gone_new w7 key v _) (by omega) (Nat.le_trans HZ7.out (by simp)) ?_); intro q8 c8 w8 hown hgrow; have HO7a := Lib.hid (own_below HO7.out (below_alloc (Below.refl _ _) (.cells #[.string key, .int .i64 v] 57))); have HC8 := Lib.hid ((HC7.out.al (.cells #[.string key, .int .i64 v] 57)).grown HO7a.out HU2.out hgrow); have HG8 := Lib.hid (own_grown (own_below HG7.out (below_alloc (Below.refl _ _) (.cells #[.string key, .int .i64 v] 57))) hgrow (own_apart HG2.out (own_lt HG2.out) HO7a.out)); have HO8 := Lib.hid hown; have HZ8 := Lib.hid (Nat.le_trans (Nat.le_trans HZ7.out (by simp)) hgrow.size); obtain ⟨o0, o1⟩ := HC8.out.ocell; have of1 := HC8.out.out.free 1; clear hown hgrow))
              | (at_builtin; ((refine append_gone rfl _ _ rfl ws.heap.size (.slice (some ⟨ws.heap.size, 0, none⟩) 0 0) 0 [] rfl HOA.out _ r _ ((gonsOf E).take r) rfl (by have hd := gones_take (HS0.out.at_.keep HCA.out.below).d hrl; first | exact hd | (simpa using gones_takeA (ca := cg) (n := 2) hd)) (by first | exact HS0.out.nilg | (simpa using nil_takeA (n := 2) HS0.out.nilg)) (by omega) (by simp) ?_); intro q7 c7 w7 hown hgrow; simp only [Nat.zero_add, List.nil_append] at hown; have HC7 := Lib.hid (HCA.out.grown HOA.out HU2.out hgrow); have HG7 := Lib.hid (own_grown HGA.out hgrow (own_apart HG2.out (own_lt HG2.out) HOA.out)); have HO7 := Lib.hid hown; have HZ7 := Lib.hid (Nat.le_trans (by simp : ws.heap.size ≤ (ws.alloc (.cells #[] 57)).heap.size) hgrow.size); clear hown hgrow)))
            obtain ⟨Y, hY⟩ : ∃ Y, ws.heap.size = Y := ⟨_, rfl⟩
            have HUY := Lib.hid (show B12 < Y by rw [← hY]; exact HU2.out)
            have HY2 := Lib.hid (show w.heap.size + 2 ≤ Y by have := HUY.out; have := HUGE.out; omega)
            have HGY := Lib.hid (show ∀ g, (Value.slice q2 nn c2).ownBlock = some g → g < Y from fun g hg => by rw [← hY]; exact own_lt HG2.out g hg)
            rw [hY] at HO8 HZ8
            clear HCA HOA HGA hx1b HC7 HG7 HO7 HZ7 hY HG2 HC2 HU2
            have HG9 := Lib.hid (own_put HG8.out (own_ne_row HG8.out HC8.out.out (by decide)) 1 (.slice q8 (r + 1) c8))
            have HZ9 := Lib.hid (show Y ≤ (w8.setCell ⟨B12, 1, none⟩ (.slice q8 (r + 1) c8)).heap.size by have := HZ8.out; simpa [World.setCell] using this)
            obtain ⟨y, hy⟩ : ∃ y, w8.setCell ⟨B12, 1, none⟩ (.slice q8 (r + 1) c8) = y := ⟨_, rfl⟩
            have HCY := Lib.hid (show CStep w B12 #[.slice (some ⟨gb, go, none⟩) la ca, .slice g lg cg] #[.slice q2 nn c2, .slice q8 (r + 1) c8] y by rw [← hy]; exact HC8.out.set 1 _)
            have HOY := Lib.hid (show y.ownsRow Y 57 2 (.slice q8 (r + 1) c8) (r + 1) (cellsGone ((gonsOf E).take r ++ [(key, v)])) by rw [← hy]; exact own_put HO8.out (fun g hg => by have := (HO8.out.lt g hg).1; have := HUY.out; omega) 1 _)
            rw [hy] at HG9 HZ9 ⊢
            clear hy HG8 HO8 HC8 o0 o1 of1
            have k1 := HCY.out.cell.2
            obtain ⟨u0, u1⟩ := HCY.out.ocell
            obtain ⟨yd, hyd⟩ : ∃ x, y.drew = x := ⟨_, rfl⟩
            have HYD := Lib.hid hyd
            have HCD := Lib.hid (show CStep w B12 #[.slice (some ⟨gb, go, none⟩) la ca, .slice g lg cg] #[.slice q2 nn c2, .slice q8 (r + 1) c8] yd by rw [← hyd]; exact HCY.out.drew)
            have HOD := Lib.hid (show yd.ownsRow Y 57 2 (.slice q8 (r + 1) c8) (r + 1) (cellsGone ((gonsOf E).take r ++ [(key, v)])) by rw [← hyd]; exact own_below HOY.out (Below.refl _ _).drew)
            have HGD := Lib.hid (show yd.ownsRow (w.heap.size + 2) 34 3 (.slice q2 nn c2) nn (cellsObj ((objsOf E).take p ++ (objsOf E).drop (p + 1))) by rw [← hyd]; exact own_below HG9.out (Below.refl _ _).drew)
            have HYZ := Lib.hid (show Y ≤ yd.heap.size by rw [← hyd]; exact HZ9.out)
            clear hyd
            go_still_tail 6, (by kernel_rfl)
            change wpList _ _ _ _ _ y.drew
            rw [HYD.out]
            clear k1 u0 u1 HYD HCY HOY HG9
            go_wp2_with (first
          | (at_builtin; ((refine append_gone rfl _ _ rfl Y (.slice q8 (r + 1) c8) (r + 1) ((gonsOf E).take r ++ [(key, v)]) rfl HOD.out _ (lg - r) _ ((gonsOf E).drop r) rfl (by have hd := gones_dropA (k := r) (HS0.out.at_.keep HCD.out.below).d hrl hcg; simpa using hd) (by first | exact nil_dropA HS0.out.nilg | (simpa using nil_dropA (k := r) (n := 2) HS0.out.nilg)) (by omega) HYZ.out ?_); intro q9 c9 w9 hown hgrow; have HC9 := Lib.hid (HCD.out.grown HOD.out HUY.out hgrow); have HO9 := Lib.hid hown; have HGZ := Lib.hid (own_grown HGD.out hgrow (own_apart HGD.out HGY.out HOD.out)); have v1 := HC9.out.ocell.2; have vf := HC9.out.out.free 1; have HCS := Lib.hid (show CStep w B12 #[.slice (some ⟨gb, go, none⟩) la ca, .slice g lg cg] #[.slice q2 nn c2, .slice q9 (r + 1 + (lg - r)) c9] (w9.setCell ⟨B12, 1, none⟩ (.slice q9 (r + 1 + (lg - r)) c9)) from HC9.out.set 1 _); have s0 := HCS.out.res.cell (j := 0) (by simp); have s1 := HCS.out.res.cell (j := 1) (by simp); have z0 := HCS.out.res.free 0; have z1 := HCS.out.res.free 1; simp at s0 s1; have t0 := HCS.out.ocell.1; have t1 := HCS.out.ocell.2; clear hown hgrow)))
            all_goals
              have hO := own_put HO9.out (fun g hg => by have := (HO9.out.lt g hg).1; have := HUY.out; omega) 1 (.slice q9 (r + 1 + (lg - r)) c9) (X := B12)
              have hG := own_put HGZ.out (own_ne_row HGZ.out HC9.out.out (by decide)) 1 (.slice q9 (r + 1 + (lg - r)) c9)
              have hL : ((gonsOf E).take r ++ [(key, v)] ++ (gonsOf E).drop r).length = r + 1 + (lg - r) := by
                simp only [List.length_append, List.length_take, List.length_drop, HLG.out, List.length_cons, List.length_nil]; omega
              have hM : ((objsOf E).take p ++ (objsOf E).drop (p + 1)).length = nn := by
                rw [← HNN.out]
                simp only [List.length_append, List.length_take, List.length_drop, HLA.out]; omega
              have hK := made_k (w := w) hG hO (Nat.le_refl _) HY2.out hM hL
              have hR : resO (delE key v E) = (objsOf E).take p ++ (objsOf E).drop (p + 1) ∧ resG (delE key v E) = (gonsOf E).take r ++ [(key, v)] ++ (gonsOf E).drop r := by
                rw [HC.out]
                refine ⟨?_, ?_⟩
                · show objsOf (putE key (v, ⟨#[]⟩, true) E) = _
                  rw [objs_del HE.out.inc HOB.out]
                  unfold poO
                  rw [HP.out]
                · show gonsOf (putE key (v, ⟨#[]⟩, true) E) = _
                  rw [gons_ins HE.out.inc (by rw [HL.out]; rfl)]
                  unfold poG
                  rw [HRR.out, List.append_assoc]; rfl
              have hb := ((HCS.out.res.set 0 (.slice q2 nn c2)).set 1 (.slice q9 (r + 1 + (lg - r)) c9))
              unfold Row at hb
              exact bodyPost_ret (v := .tuple #[.agg #[.slice q2 nn c2, .slice q9 (r + 1 + (lg - r)) c9], .int .i64 0]) (by simp [results, Tryz.results23, go_sem, World.cell?, hb]) rfl ⟨_, _, _, _, _, _, by rw [HC.out], (HCS.out.below.setCell (by show w.heap.size ≤ w.heap.size + 1; omega) _).setCell (by show w.heap.size ≤ w.heap.size + 1; omega) _, by rw [hR.1, hR.2]; exact made_res hK _ _⟩
          · skip
            go_simp
            have HBR2 := Lib.hid (HBR.out.al (.cells #[.slice none 0 0, .slice none 0 0] 27))
            have HNEW := Lib.hid (row_new u2 #[.slice none 0 0, .slice none 0 0] 27)
            have HO1 := Lib.hid (own_below HO1.out (below_alloc (Below.refl _ _) (.cells #[.slice none 0 0, .slice none 0 0] 27)))
            have HGE := Lib.hid HBR.out.ge
            obtain ⟨B12, hb12⟩ : ∃ x, u2.heap.size = x := ⟨_, rfl⟩
            obtain ⟨u3, hu2⟩ : ∃ x, u2.alloc (.cells #[.slice none 0 0, .slice none 0 0] 27) = x := ⟨_, rfl⟩
            rw [hb12] at HNEW HGE ⊢
            rw [hu2] at HBR2 HNEW HO1 ⊢
            clear hb12 hu2 HBR
            have HU := HNEW
            have HBR := HBR2
            have HUGE := HGE
            clear HNEW HBR2 HGE
            refine hK.out _ _ (⟨HBR, HBR.out.cells.1, HBR.out.cells.2⟩) (fun HS => ?_)
            clear hK K
            refine wpAnyH_ready (rs := [11]) (by kernel_rfl) (by simp) (AllReadyH.cons rfl (fun K hK => ?_) AllReadyH.nil)
            refine step_append_obj rfl _ _ rfl (w.heap.size + 2) (.slice q1 p c1) p ((objsOf E).take p) rfl HO1.out _ (la - (p + 1)) _ ((objsOf E).drop (p + 1)) rfl (by have hd := objs_dropA (k := p + 1) (HS0.out.at_.keep HBR.out.below).o (by omega) hca; simpa [addr_add] using hd) (by intro e; split at e <;> cases e) (by omega) HBR.out.ge ?_
            intro q2 c2 u4 hown hgrow
            skip
            have HO2 := Lib.hid hown
            have HBR2 := Lib.hid (HBR.out.grown HO1.out (Nat.le_refl _) hgrow)
            have HU := Lib.hid (row_grownT HU.out HO1.out (by decide) hgrow)
            have HBR := HBR2
            clear hown hgrow HBR2 HO1
            refine hK.out _ _ (⟨HBR, HBR.out.cells.1, HBR.out.cells.2⟩) (fun HS => ?_)
            clear hK K
            refine held_take (i := 12) (d := 51) (v := .agg #[.slice q2 (p + (la - (p + 1))) c2, .slice none 0 0]) rfl rfl (by kernel_rfl) (by kernel_rfl) (by kernel_rfl) (by kernel_rfl) (fun wx hS => by go_simp) HS ?_
            refine wpAnyH_ready (rs := [14]) (by kernel_rfl) (by simp) (AllReadyH.cons rfl (fun K hK => ?_) AllReadyH.nil)
            have k0 := HU.out.cell (j := 0) (by simp)
            have k1 := HU.out.cell (j := 1) (by simp)
            have kf0 := HU.out.free 0
            have kf1 := HU.out.free 1
            simp at k0 k1
            go_simp
            have HBS := Lib.hid ((HBR.out.set HUGE.out 0 (.slice q2 (p + (la - (p + 1))) c2)).set HUGE.out 1 (.slice none 0 0))
            refine hK.out _ _ (⟨HBS, HBS.out.cells.1, HBS.out.cells.2⟩) (fun HS => ?_)
            clear hK K k0 k1 kf0 kf1
            refine wpAnyH_done (by kernel_rfl) (NoPanic.normal ?_) _
            have HUS := Lib.hid (show Row ((u4.setCell ⟨B12, 0, none⟩ (.slice q2 (p + (la - (p + 1))) c2)).setCell ⟨B12, 1, none⟩ (.slice none 0 0)) B12 27 #[.slice q2 (p + (la - (p + 1))) c2, .slice none 0 0] from (HU.out.set 0 _).set 1 _)
            have HG2 := Lib.hid (own_put (own_put HO2.out (own_ne_row HO2.out HU.out (by decide)) 0 (.slice q2 (p + (la - (p + 1))) c2)) (own_ne_row HO2.out HU.out (by decide)) 1 (.slice none 0 0))
            obtain ⟨ws, hws⟩ : ∃ x, ((u4.setCell ⟨B12, 0, none⟩ (.slice q2 (p + (la - (p + 1))) c2)).setCell ⟨B12, 1, none⟩ (.slice none 0 0)) = x := ⟨_, rfl⟩
            rw [hws] at HUS HG2 HBS ⊢
            obtain ⟨zz, hzz⟩ : ∃ q : Option Addr, (if ca = p + 1 then some (⟨gb, go, none⟩ : Addr) else some ⟨gb, go + (p + 1) * 3, none⟩) = q := ⟨_, rfl⟩
            rw [hzz]
            obtain ⟨nn, hnn⟩ : ∃ x, p + (la - (p + 1)) = x := ⟨_, rfl⟩
            have HNN := Lib.hid hnn
            rw [hnn] at HUS HG2 ⊢
            have HC2 := Lib.hid (show CStep w B12 #[.slice (some ⟨gb, go, none⟩) la ca, .slice g lg cg] #[.slice q2 nn c2, .slice none 0 0] ws from ⟨HBS.out.below, HBS.out.box, HBS.out.res, HUS.out, HUGE.out⟩)
            clear hws hzz hnn HO2 HU HBR HS HBS HUS
            obtain ⟨x1, hx1⟩ : ∃ v : Value, .slice (some ⟨gb, go, none⟩) la ca = v := ⟨_, rfl⟩
            have hhx1 : x1 = x1 := rfl
            have HU2 := Lib.hid HC2.out.lt
            have HCA := Lib.hid (HC2.out.al (.cells #[] 57))
            have HOA := Lib.hid (own_zeroGone (row_new ws #[] 57) (Nat.le_refl _))
            have HGA := Lib.hid (own_below HG2.out (below_alloc (Below.refl _ _) (.cells #[] 57)))
            have hx1b := HCA.out.cell.2
            clear hx1 hhx1 x1
            go_wp2_with (first
              | (at_builtin; ((refine append1_gone rfl _ _ rfl ws.heap.size (.slice q7 r c7) r ((gonsOf E).take r) rfl (own_below HO7.out (below_alloc (Below.refl _ _) _)) w7.heap.size _ key v rfl (gone_new w7 key v _) (by omega) (Nat.le_trans HZ7.out (by simp)) ?_); intro q8 c8 w8 hown hgrow; have HO7a := Lib.hid (own_below HO7.out (below_alloc (Below.refl _ _) (.cells #[.string key, .int .i64 v] 57))); have HC8 := Lib.hid ((HC7.out.al (.cells #[.string key, .int .i64 v] 57)).grown HO7a.out HU2.out hgrow); have HG8 := Lib.hid (own_grown (own_below HG7.out (below_alloc (Below.refl _ _) (.cells #[.string key, .int .i64 v] 57))) hgrow (own_apart HG2.out (own_lt HG2.out) HO7a.out)); have HO8 := Lib.hid hown; have HZ8 := Lib.hid (Nat.le_trans (Nat.le_trans HZ7.out (by simp)) hgrow.size); obtain ⟨o0, o1⟩ := HC8.out.ocell; have of1 := HC8.out.out.free 1; clear hown hgrow))
              | (at_builtin; ((refine append_gone rfl _ _ rfl ws.heap.size (.slice (some ⟨ws.heap.size, 0, none⟩) 0 0) 0 [] rfl HOA.out _ r _ ((gonsOf E).take r) rfl (by have hd := gones_take (HS0.out.at_.keep HCA.out.below).d hrl; first | exact hd | (simpa using gones_takeA (ca := cg) (n := 2) hd)) (by first | exact HS0.out.nilg | (simpa using nil_takeA (n := 2) HS0.out.nilg)) (by omega) (by simp) ?_); intro q7 c7 w7 hown hgrow; simp only [Nat.zero_add, List.nil_append] at hown; have HC7 := Lib.hid (HCA.out.grown HOA.out HU2.out hgrow); have HG7 := Lib.hid (own_grown HGA.out hgrow (own_apart HG2.out (own_lt HG2.out) HOA.out)); have HO7 := Lib.hid hown; have HZ7 := Lib.hid (Nat.le_trans (by simp : ws.heap.size ≤ (ws.alloc (.cells #[] 57)).heap.size) hgrow.size); clear hown hgrow)))
            obtain ⟨Y, hY⟩ : ∃ Y, ws.heap.size = Y := ⟨_, rfl⟩
            have HUY := Lib.hid (show B12 < Y by rw [← hY]; exact HU2.out)
            have HY2 := Lib.hid (show w.heap.size + 2 ≤ Y by have := HUY.out; have := HUGE.out; omega)
            have HGY := Lib.hid (show ∀ g, (Value.slice q2 nn c2).ownBlock = some g → g < Y from fun g hg => by rw [← hY]; exact own_lt HG2.out g hg)
            rw [hY] at HO8 HZ8
            clear HCA HOA HGA hx1b HC7 HG7 HO7 HZ7 hY HG2 HC2 HU2
            have HG9 := Lib.hid (own_put HG8.out (own_ne_row HG8.out HC8.out.out (by decide)) 1 (.slice q8 (r + 1) c8))
            have HZ9 := Lib.hid (show Y ≤ (w8.setCell ⟨B12, 1, none⟩ (.slice q8 (r + 1) c8)).heap.size by have := HZ8.out; simpa [World.setCell] using this)
            obtain ⟨y, hy⟩ : ∃ y, w8.setCell ⟨B12, 1, none⟩ (.slice q8 (r + 1) c8) = y := ⟨_, rfl⟩
            have HCY := Lib.hid (show CStep w B12 #[.slice (some ⟨gb, go, none⟩) la ca, .slice g lg cg] #[.slice q2 nn c2, .slice q8 (r + 1) c8] y by rw [← hy]; exact HC8.out.set 1 _)
            have HOY := Lib.hid (show y.ownsRow Y 57 2 (.slice q8 (r + 1) c8) (r + 1) (cellsGone ((gonsOf E).take r ++ [(key, v)])) by rw [← hy]; exact own_put HO8.out (fun g hg => by have := (HO8.out.lt g hg).1; have := HUY.out; omega) 1 _)
            rw [hy] at HG9 HZ9 ⊢
            clear hy HG8 HO8 HC8 o0 o1 of1
            have k1 := HCY.out.cell.2
            obtain ⟨u0, u1⟩ := HCY.out.ocell
            obtain ⟨yd, hyd⟩ : ∃ x, y.drew = x := ⟨_, rfl⟩
            have HYD := Lib.hid hyd
            have HCD := Lib.hid (show CStep w B12 #[.slice (some ⟨gb, go, none⟩) la ca, .slice g lg cg] #[.slice q2 nn c2, .slice q8 (r + 1) c8] yd by rw [← hyd]; exact HCY.out.drew)
            have HOD := Lib.hid (show yd.ownsRow Y 57 2 (.slice q8 (r + 1) c8) (r + 1) (cellsGone ((gonsOf E).take r ++ [(key, v)])) by rw [← hyd]; exact own_below HOY.out (Below.refl _ _).drew)
            have HGD := Lib.hid (show yd.ownsRow (w.heap.size + 2) 34 3 (.slice q2 nn c2) nn (cellsObj ((objsOf E).take p ++ (objsOf E).drop (p + 1))) by rw [← hyd]; exact own_below HG9.out (Below.refl _ _).drew)
            have HYZ := Lib.hid (show Y ≤ yd.heap.size by rw [← hyd]; exact HZ9.out)
            clear hyd
            go_still_tail 6, (by kernel_rfl)
            change wpList _ _ _ _ _ y.drew
            rw [HYD.out]
            clear k1 u0 u1 HYD HCY HOY HG9
            go_wp2_with (first
          | (at_builtin; ((refine append_gone rfl _ _ rfl Y (.slice q8 (r + 1) c8) (r + 1) ((gonsOf E).take r ++ [(key, v)]) rfl HOD.out _ (lg - r) _ ((gonsOf E).drop r) rfl (by have hd := gones_dropA (k := r) (HS0.out.at_.keep HCD.out.below).d hrl hcg; simpa using hd) (by first | exact nil_dropA HS0.out.nilg | (simpa using nil_dropA (k := r) (n := 2) HS0.out.nilg)) (by omega) HYZ.out ?_); intro q9 c9 w9 hown hgrow; have HC9 := Lib.hid (HCD.out.grown HOD.out HUY.out hgrow); have HO9 := Lib.hid hown; have HGZ := Lib.hid (own_grown HGD.out hgrow (own_apart HGD.out HGY.out HOD.out)); have v1 := HC9.out.ocell.2; have vf := HC9.out.out.free 1; have HCS := Lib.hid (show CStep w B12 #[.slice (some ⟨gb, go, none⟩) la ca, .slice g lg cg] #[.slice q2 nn c2, .slice q9 (r + 1 + (lg - r)) c9] (w9.setCell ⟨B12, 1, none⟩ (.slice q9 (r + 1 + (lg - r)) c9)) from HC9.out.set 1 _); have s0 := HCS.out.res.cell (j := 0) (by simp); have s1 := HCS.out.res.cell (j := 1) (by simp); have z0 := HCS.out.res.free 0; have z1 := HCS.out.res.free 1; simp at s0 s1; have t0 := HCS.out.ocell.1; have t1 := HCS.out.ocell.2; clear hown hgrow)))
            all_goals
              have hO := own_put HO9.out (fun g hg => by have := (HO9.out.lt g hg).1; have := HUY.out; omega) 1 (.slice q9 (r + 1 + (lg - r)) c9) (X := B12)
              have hG := own_put HGZ.out (own_ne_row HGZ.out HC9.out.out (by decide)) 1 (.slice q9 (r + 1 + (lg - r)) c9)
              have hL : ((gonsOf E).take r ++ [(key, v)] ++ (gonsOf E).drop r).length = r + 1 + (lg - r) := by
                simp only [List.length_append, List.length_take, List.length_drop, HLG.out, List.length_cons, List.length_nil]; omega
              have hM : ((objsOf E).take p ++ (objsOf E).drop (p + 1)).length = nn := by
                rw [← HNN.out]
                simp only [List.length_append, List.length_take, List.length_drop, HLA.out]; omega
              have hK := made_k (w := w) hG hO (Nat.le_refl _) HY2.out hM hL
              have hR : resO (delE key v E) = (objsOf E).take p ++ (objsOf E).drop (p + 1) ∧ resG (delE key v E) = (gonsOf E).take r ++ [(key, v)] ++ (gonsOf E).drop r := by
                rw [HC.out]
                refine ⟨?_, ?_⟩
                · show objsOf (putE key (v, ⟨#[]⟩, true) E) = _
                  rw [objs_del HE.out.inc HOB.out]
                  unfold poO
                  rw [HP.out]
                · show gonsOf (putE key (v, ⟨#[]⟩, true) E) = _
                  rw [gons_ins HE.out.inc (by rw [HL.out]; rfl)]
                  unfold poG
                  rw [HRR.out, List.append_assoc]; rfl
              have hb := ((HCS.out.res.set 0 (.slice q2 nn c2)).set 1 (.slice q9 (r + 1 + (lg - r)) c9))
              unfold Row at hb
              exact bodyPost_ret (v := .tuple #[.agg #[.slice q2 nn c2, .slice q9 (r + 1 + (lg - r)) c9], .int .i64 0]) (by simp [results, Tryz.results23, go_sem, World.cell?, hb]) rfl ⟨_, _, _, _, _, _, by rw [HC.out], (HCS.out.below.setCell (by show w.heap.size ≤ w.heap.size + 1; omega) _).setCell (by show w.heap.size ≤ w.heap.size + 1; omega) _, by rw [hR.1, hR.2]; exact made_res hK _ _⟩
        · skip
          go_simp
          have HBR2 := Lib.hid (HBR.out.al (.cells #[.slice none 0 0, .slice none 0 0] 27))
          have HNEW := Lib.hid (row_new u1 #[.slice none 0 0, .slice none 0 0] 27)
          have HO39 := Lib.hid (own_below HO39.out (below_alloc (Below.refl _ _) (.cells #[.slice none 0 0, .slice none 0 0] 27)))
          have HGE := Lib.hid HBR.out.ge
          obtain ⟨B12, hb12⟩ : ∃ x, u1.heap.size = x := ⟨_, rfl⟩
          obtain ⟨u2, hu2⟩ : ∃ x, u1.alloc (.cells #[.slice none 0 0, .slice none 0 0] 27) = x := ⟨_, rfl⟩
          rw [hb12] at HNEW HGE ⊢
          rw [hu2] at HBR2 HNEW HO39 ⊢
          clear hb12 hu2 HBR
          have HU := HNEW
          have HBR := HBR2
          have HUGE := HGE
          clear HNEW HBR2 HGE
          refine hK.out _ _ (⟨HBR, HBR.out.cells.1, HBR.out.cells.2⟩) (fun HS => ?_)
          clear hK K
          refine wpAnyH_ready (rs := [5]) (by kernel_rfl) (by simp) (AllReadyH.cons rfl (fun K hK => ?_) AllReadyH.nil)
          refine step_append_obj rfl _ _ rfl (w.heap.size + 2) (.slice (some ⟨B39, 0, none⟩) 0 0) 0 [] rfl HO39.out _ p _ ((objsOf E).take p) rfl (objs_take (HS0.out.at_.keep HBR.out.below).o hpl) (fun e => by cases e) (by omega) HBR.out.ge ?_
          intro q1 c1 u3 hown hgrow
          simp only [List.nil_append, Nat.zero_add] at hown
          rw [Nat.zero_add]
          have HO1 := Lib.hid hown
          have HBR2 := Lib.hid (HBR.out.grown HO39.out (Nat.le_refl _) hgrow)
          have HU := Lib.hid (row_grownT HU.out HO39.out (by decide) hgrow)
          have HBR := HBR2
          clear hown hgrow HBR2 HO39
          refine hK.out _ _ (⟨HBR, HBR.out.cells.1, HBR.out.cells.2⟩) (fun HS => ?_)
          clear hK K
          refine wpAnyH_ready (rs := [11]) (by kernel_rfl) (by simp) (AllReadyH.cons rfl (fun K hK => ?_) AllReadyH.nil)
          refine step_append_obj rfl _ _ rfl (w.heap.size + 2) (.slice q1 p c1) p ((objsOf E).take p) rfl HO1.out _ (la - (p + 1)) _ ((objsOf E).drop (p + 1)) rfl (by have hd := objs_dropA (k := p + 1) (HS0.out.at_.keep HBR.out.below).o (by omega) hca; simpa [addr_add] using hd) (by intro e; split at e <;> cases e) (by omega) HBR.out.ge ?_
          intro q2 c2 u4 hown hgrow
          skip
          have HO2 := Lib.hid hown
          have HBR2 := Lib.hid (HBR.out.grown HO1.out (Nat.le_refl _) hgrow)
          have HU := Lib.hid (row_grownT HU.out HO1.out (by decide) hgrow)
          have HBR := HBR2
          clear hown hgrow HBR2 HO1
          refine hK.out _ _ (⟨HBR, HBR.out.cells.1, HBR.out.cells.2⟩) (fun HS => ?_)
          clear hK K
          refine held_take (i := 12) (d := 51) (v := .agg #[.slice q2 (p + (la - (p + 1))) c2, .slice none 0 0]) rfl rfl (by kernel_rfl) (by kernel_rfl) (by kernel_rfl) (by kernel_rfl) (fun wx hS => by go_simp) HS ?_
          refine wpAnyH_ready (rs := [14]) (by kernel_rfl) (by simp) (AllReadyH.cons rfl (fun K hK => ?_) AllReadyH.nil)
          have k0 := HU.out.cell (j := 0) (by simp)
          have k1 := HU.out.cell (j := 1) (by simp)
          have kf0 := HU.out.free 0
          have kf1 := HU.out.free 1
          simp at k0 k1
          go_simp
          have HBS := Lib.hid ((HBR.out.set HUGE.out 0 (.slice q2 (p + (la - (p + 1))) c2)).set HUGE.out 1 (.slice none 0 0))
          refine hK.out _ _ (⟨HBS, HBS.out.cells.1, HBS.out.cells.2⟩) (fun HS => ?_)
          clear hK K k0 k1 kf0 kf1
          refine wpAnyH_done (by kernel_rfl) (NoPanic.normal ?_) _
          have HUS := Lib.hid (show Row ((u4.setCell ⟨B12, 0, none⟩ (.slice q2 (p + (la - (p + 1))) c2)).setCell ⟨B12, 1, none⟩ (.slice none 0 0)) B12 27 #[.slice q2 (p + (la - (p + 1))) c2, .slice none 0 0] from (HU.out.set 0 _).set 1 _)
          have HG2 := Lib.hid (own_put (own_put HO2.out (own_ne_row HO2.out HU.out (by decide)) 0 (.slice q2 (p + (la - (p + 1))) c2)) (own_ne_row HO2.out HU.out (by decide)) 1 (.slice none 0 0))
          obtain ⟨ws, hws⟩ : ∃ x, ((u4.setCell ⟨B12, 0, none⟩ (.slice q2 (p + (la - (p + 1))) c2)).setCell ⟨B12, 1, none⟩ (.slice none 0 0)) = x := ⟨_, rfl⟩
          rw [hws] at HUS HG2 HBS ⊢
          obtain ⟨zz, hzz⟩ : ∃ q : Option Addr, (if ca = p + 1 then some (⟨gb, go, none⟩ : Addr) else some ⟨gb, go + (p + 1) * 3, none⟩) = q := ⟨_, rfl⟩
          rw [hzz]
          obtain ⟨nn, hnn⟩ : ∃ x, p + (la - (p + 1)) = x := ⟨_, rfl⟩
          have HNN := Lib.hid hnn
          rw [hnn] at HUS HG2 ⊢
          have HC2 := Lib.hid (show CStep w B12 #[.slice (some ⟨gb, go, none⟩) la ca, .slice g lg cg] #[.slice q2 nn c2, .slice none 0 0] ws from ⟨HBS.out.below, HBS.out.box, HBS.out.res, HUS.out, HUGE.out⟩)
          clear hws hzz hnn HO2 HU HBR HS HBS HUS
          obtain ⟨x1, hx1⟩ : ∃ v : Value, .slice (some ⟨gb, go, none⟩) la ca = v := ⟨_, rfl⟩
          have hhx1 : x1 = x1 := rfl
          have HU2 := Lib.hid HC2.out.lt
          have HCA := Lib.hid (HC2.out.al (.cells #[] 57))
          have HOA := Lib.hid (own_zeroGone (row_new ws #[] 57) (Nat.le_refl _))
          have HGA := Lib.hid (own_below HG2.out (below_alloc (Below.refl _ _) (.cells #[] 57)))
          have hx1b := HCA.out.cell.2
          clear hx1 hhx1 x1
          go_wp2_with (first
            | (at_builtin; ((refine append1_gone rfl _ _ rfl ws.heap.size (.slice q7 r c7) r ((gonsOf E).take r) rfl (own_below HO7.out (below_alloc (Below.refl _ _) _)) w7.heap.size _ key v rfl (gone_new w7 key v _) (by omega) (Nat.le_trans HZ7.out (by simp)) ?_); intro q8 c8 w8 hown hgrow; have HO7a := Lib.hid (own_below HO7.out (below_alloc (Below.refl _ _) (.cells #[.string key, .int .i64 v] 57))); have HC8 := Lib.hid ((HC7.out.al (.cells #[.string key, .int .i64 v] 57)).grown HO7a.out HU2.out hgrow); have HG8 := Lib.hid (own_grown (own_below HG7.out (below_alloc (Below.refl _ _) (.cells #[.string key, .int .i64 v] 57))) hgrow (own_apart HG2.out (own_lt HG2.out) HO7a.out)); have HO8 := Lib.hid hown; have HZ8 := Lib.hid (Nat.le_trans (Nat.le_trans HZ7.out (by simp)) hgrow.size); obtain ⟨o0, o1⟩ := HC8.out.ocell; have of1 := HC8.out.out.free 1; clear hown hgrow))
            | (at_builtin; ((refine append_gone rfl _ _ rfl ws.heap.size (.slice (some ⟨ws.heap.size, 0, none⟩) 0 0) 0 [] rfl HOA.out _ r _ ((gonsOf E).take r) rfl (by have hd := gones_take (HS0.out.at_.keep HCA.out.below).d hrl; first | exact hd | (simpa using gones_takeA (ca := cg) (n := 2) hd)) (by first | exact HS0.out.nilg | (simpa using nil_takeA (n := 2) HS0.out.nilg)) (by omega) (by simp) ?_); intro q7 c7 w7 hown hgrow; simp only [Nat.zero_add, List.nil_append] at hown; have HC7 := Lib.hid (HCA.out.grown HOA.out HU2.out hgrow); have HG7 := Lib.hid (own_grown HGA.out hgrow (own_apart HG2.out (own_lt HG2.out) HOA.out)); have HO7 := Lib.hid hown; have HZ7 := Lib.hid (Nat.le_trans (by simp : ws.heap.size ≤ (ws.alloc (.cells #[] 57)).heap.size) hgrow.size); clear hown hgrow)))
          obtain ⟨Y, hY⟩ : ∃ Y, ws.heap.size = Y := ⟨_, rfl⟩
          have HUY := Lib.hid (show B12 < Y by rw [← hY]; exact HU2.out)
          have HY2 := Lib.hid (show w.heap.size + 2 ≤ Y by have := HUY.out; have := HUGE.out; omega)
          have HGY := Lib.hid (show ∀ g, (Value.slice q2 nn c2).ownBlock = some g → g < Y from fun g hg => by rw [← hY]; exact own_lt HG2.out g hg)
          rw [hY] at HO8 HZ8
          clear HCA HOA HGA hx1b HC7 HG7 HO7 HZ7 hY HG2 HC2 HU2
          have HG9 := Lib.hid (own_put HG8.out (own_ne_row HG8.out HC8.out.out (by decide)) 1 (.slice q8 (r + 1) c8))
          have HZ9 := Lib.hid (show Y ≤ (w8.setCell ⟨B12, 1, none⟩ (.slice q8 (r + 1) c8)).heap.size by have := HZ8.out; simpa [World.setCell] using this)
          obtain ⟨y, hy⟩ : ∃ y, w8.setCell ⟨B12, 1, none⟩ (.slice q8 (r + 1) c8) = y := ⟨_, rfl⟩
          have HCY := Lib.hid (show CStep w B12 #[.slice (some ⟨gb, go, none⟩) la ca, .slice g lg cg] #[.slice q2 nn c2, .slice q8 (r + 1) c8] y by rw [← hy]; exact HC8.out.set 1 _)
          have HOY := Lib.hid (show y.ownsRow Y 57 2 (.slice q8 (r + 1) c8) (r + 1) (cellsGone ((gonsOf E).take r ++ [(key, v)])) by rw [← hy]; exact own_put HO8.out (fun g hg => by have := (HO8.out.lt g hg).1; have := HUY.out; omega) 1 _)
          rw [hy] at HG9 HZ9 ⊢
          clear hy HG8 HO8 HC8 o0 o1 of1
          have k1 := HCY.out.cell.2
          obtain ⟨u0, u1⟩ := HCY.out.ocell
          obtain ⟨yd, hyd⟩ : ∃ x, y.drew = x := ⟨_, rfl⟩
          have HYD := Lib.hid hyd
          have HCD := Lib.hid (show CStep w B12 #[.slice (some ⟨gb, go, none⟩) la ca, .slice g lg cg] #[.slice q2 nn c2, .slice q8 (r + 1) c8] yd by rw [← hyd]; exact HCY.out.drew)
          have HOD := Lib.hid (show yd.ownsRow Y 57 2 (.slice q8 (r + 1) c8) (r + 1) (cellsGone ((gonsOf E).take r ++ [(key, v)])) by rw [← hyd]; exact own_below HOY.out (Below.refl _ _).drew)
          have HGD := Lib.hid (show yd.ownsRow (w.heap.size + 2) 34 3 (.slice q2 nn c2) nn (cellsObj ((objsOf E).take p ++ (objsOf E).drop (p + 1))) by rw [← hyd]; exact own_below HG9.out (Below.refl _ _).drew)
          have HYZ := Lib.hid (show Y ≤ yd.heap.size by rw [← hyd]; exact HZ9.out)
          clear hyd
          go_still_tail 6, (by kernel_rfl)
          change wpList _ _ _ _ _ y.drew
          rw [HYD.out]
          clear k1 u0 u1 HYD HCY HOY HG9
          go_wp2_with (first
          | (at_builtin; ((refine append_gone rfl _ _ rfl Y (.slice q8 (r + 1) c8) (r + 1) ((gonsOf E).take r ++ [(key, v)]) rfl HOD.out _ (lg - r) _ ((gonsOf E).drop r) rfl (by have hd := gones_dropA (k := r) (HS0.out.at_.keep HCD.out.below).d hrl hcg; simpa using hd) (by first | exact nil_dropA HS0.out.nilg | (simpa using nil_dropA (k := r) (n := 2) HS0.out.nilg)) (by omega) HYZ.out ?_); intro q9 c9 w9 hown hgrow; have HC9 := Lib.hid (HCD.out.grown HOD.out HUY.out hgrow); have HO9 := Lib.hid hown; have HGZ := Lib.hid (own_grown HGD.out hgrow (own_apart HGD.out HGY.out HOD.out)); have v1 := HC9.out.ocell.2; have vf := HC9.out.out.free 1; have HCS := Lib.hid (show CStep w B12 #[.slice (some ⟨gb, go, none⟩) la ca, .slice g lg cg] #[.slice q2 nn c2, .slice q9 (r + 1 + (lg - r)) c9] (w9.setCell ⟨B12, 1, none⟩ (.slice q9 (r + 1 + (lg - r)) c9)) from HC9.out.set 1 _); have s0 := HCS.out.res.cell (j := 0) (by simp); have s1 := HCS.out.res.cell (j := 1) (by simp); have z0 := HCS.out.res.free 0; have z1 := HCS.out.res.free 1; simp at s0 s1; have t0 := HCS.out.ocell.1; have t1 := HCS.out.ocell.2; clear hown hgrow)))
          all_goals
            have hO := own_put HO9.out (fun g hg => by have := (HO9.out.lt g hg).1; have := HUY.out; omega) 1 (.slice q9 (r + 1 + (lg - r)) c9) (X := B12)
            have hG := own_put HGZ.out (own_ne_row HGZ.out HC9.out.out (by decide)) 1 (.slice q9 (r + 1 + (lg - r)) c9)
            have hL : ((gonsOf E).take r ++ [(key, v)] ++ (gonsOf E).drop r).length = r + 1 + (lg - r) := by
              simp only [List.length_append, List.length_take, List.length_drop, HLG.out, List.length_cons, List.length_nil]; omega
            have hM : ((objsOf E).take p ++ (objsOf E).drop (p + 1)).length = nn := by
              rw [← HNN.out]
              simp only [List.length_append, List.length_take, List.length_drop, HLA.out]; omega
            have hK := made_k (w := w) hG hO (Nat.le_refl _) HY2.out hM hL
            have hR : resO (delE key v E) = (objsOf E).take p ++ (objsOf E).drop (p + 1) ∧ resG (delE key v E) = (gonsOf E).take r ++ [(key, v)] ++ (gonsOf E).drop r := by
              rw [HC.out]
              refine ⟨?_, ?_⟩
              · show objsOf (putE key (v, ⟨#[]⟩, true) E) = _
                rw [objs_del HE.out.inc HOB.out]
                unfold poO
                rw [HP.out]
              · show gonsOf (putE key (v, ⟨#[]⟩, true) E) = _
                rw [gons_ins HE.out.inc (by rw [HL.out]; rfl)]
                unfold poG
                rw [HRR.out, List.append_assoc]; rfl
            have hb := ((HCS.out.res.set 0 (.slice q2 nn c2)).set 1 (.slice q9 (r + 1 + (lg - r)) c9))
            unfold Row at hb
            exact bodyPost_ret (v := .tuple #[.agg #[.slice q2 nn c2, .slice q9 (r + 1 + (lg - r)) c9], .int .i64 0]) (by simp [results, Tryz.results23, go_sem, World.cell?, hb]) rfl ⟨_, _, _, _, _, _, by rw [HC.out], (HCS.out.below.setCell (by show w.heap.size ≤ w.heap.size + 1; omega) _).setCell (by show w.heap.size ≤ w.heap.size + 1; omega) _, by rw [hR.1, hR.2]; exact made_res hK _ _⟩
      · skip
        go_simp
        have HBR2 := Lib.hid (HBR.out.al (.cells #[.slice none 0 0, .slice none 0 0] 27))
        have HNEW := Lib.hid (row_new u0 #[.slice none 0 0, .slice none 0 0] 27)
        have HGE := Lib.hid HBR.out.ge
        obtain ⟨B12, hb12⟩ : ∃ x, u0.heap.size = x := ⟨_, rfl⟩
        obtain ⟨u1, hu2⟩ : ∃ x, u0.alloc (.cells #[.slice none 0 0, .slice none 0 0] 27) = x := ⟨_, rfl⟩
        rw [hb12] at HNEW HGE ⊢
        rw [hu2] at HBR2 HNEW ⊢
        clear hb12 hu2 HBR
        have HU := HNEW
        have HBR := HBR2
        have HUGE := HGE
        clear HNEW HBR2 HGE
        refine hK.out _ _ (⟨HBR, HBR.out.cells.1, HBR.out.cells.2⟩) (fun HS => ?_)
        clear hK K
        refine wpAnyH_ready (rs := [0]) (by kernel_rfl) (by simp) (AllReadyH.cons rfl (fun K hK => ?_) AllReadyH.nil)
        go_simp
        have HBR2 := Lib.hid (HBR.out.al (.cells #[] 34))
        have HNEW := Lib.hid (own_zeroObj (row_new u1 #[] 34) HBR.out.ge)
        have HU := Lib.hid (HU.out.al (.cells #[] 34))
        obtain ⟨B39, hb39⟩ : ∃ x, u1.heap.size = x := ⟨_, rfl⟩
        obtain ⟨u2, hu2⟩ : ∃ x, u1.alloc (.cells #[] 34) = x := ⟨_, rfl⟩
        rw [hb39] at HNEW ⊢
        rw [hu2] at HBR2 HNEW HU ⊢
        clear hb39 hu2 HBR
        have HO39 := HNEW
        have HBR := HBR2
        clear HNEW HBR2
        refine hK.out _ _ (⟨HBR, HBR.out.cells.1, HBR.out.cells.2⟩) (fun HS => ?_)
        clear hK K
        refine wpAnyH_ready (rs := [5]) (by kernel_rfl) (by simp) (AllReadyH.cons rfl (fun K hK => ?_) AllReadyH.nil)
        refine step_append_obj rfl _ _ rfl (w.heap.size + 2) (.slice (some ⟨B39, 0, none⟩) 0 0) 0 [] rfl HO39.out _ p _ ((objsOf E).take p) rfl (objs_take (HS0.out.at_.keep HBR.out.below).o hpl) (fun e => by cases e) (by omega) HBR.out.ge ?_
        intro q1 c1 u3 hown hgrow
        simp only [List.nil_append, Nat.zero_add] at hown
        rw [Nat.zero_add]
        have HO1 := Lib.hid hown
        have HBR2 := Lib.hid (HBR.out.grown HO39.out (Nat.le_refl _) hgrow)
        have HU := Lib.hid (row_grownT HU.out HO39.out (by decide) hgrow)
        have HBR := HBR2
        clear hown hgrow HBR2 HO39
        refine hK.out _ _ (⟨HBR, HBR.out.cells.1, HBR.out.cells.2⟩) (fun HS => ?_)
        clear hK K
        refine wpAnyH_ready (rs := [11]) (by kernel_rfl) (by simp) (AllReadyH.cons rfl (fun K hK => ?_) AllReadyH.nil)
        refine step_append_obj rfl _ _ rfl (w.heap.size + 2) (.slice q1 p c1) p ((objsOf E).take p) rfl HO1.out _ (la - (p + 1)) _ ((objsOf E).drop (p + 1)) rfl (by have hd := objs_dropA (k := p + 1) (HS0.out.at_.keep HBR.out.below).o (by omega) hca; simpa [addr_add] using hd) (by intro e; split at e <;> cases e) (by omega) HBR.out.ge ?_
        intro q2 c2 u4 hown hgrow
        skip
        have HO2 := Lib.hid hown
        have HBR2 := Lib.hid (HBR.out.grown HO1.out (Nat.le_refl _) hgrow)
        have HU := Lib.hid (row_grownT HU.out HO1.out (by decide) hgrow)
        have HBR := HBR2
        clear hown hgrow HBR2 HO1
        refine hK.out _ _ (⟨HBR, HBR.out.cells.1, HBR.out.cells.2⟩) (fun HS => ?_)
        clear hK K
        refine held_take (i := 12) (d := 51) (v := .agg #[.slice q2 (p + (la - (p + 1))) c2, .slice none 0 0]) rfl rfl (by kernel_rfl) (by kernel_rfl) (by kernel_rfl) (by kernel_rfl) (fun wx hS => by go_simp) HS ?_
        refine wpAnyH_ready (rs := [14]) (by kernel_rfl) (by simp) (AllReadyH.cons rfl (fun K hK => ?_) AllReadyH.nil)
        have k0 := HU.out.cell (j := 0) (by simp)
        have k1 := HU.out.cell (j := 1) (by simp)
        have kf0 := HU.out.free 0
        have kf1 := HU.out.free 1
        simp at k0 k1
        go_simp
        have HBS := Lib.hid ((HBR.out.set HUGE.out 0 (.slice q2 (p + (la - (p + 1))) c2)).set HUGE.out 1 (.slice none 0 0))
        refine hK.out _ _ (⟨HBS, HBS.out.cells.1, HBS.out.cells.2⟩) (fun HS => ?_)
        clear hK K k0 k1 kf0 kf1
        refine wpAnyH_done (by kernel_rfl) (NoPanic.normal ?_) _
        have HUS := Lib.hid (show Row ((u4.setCell ⟨B12, 0, none⟩ (.slice q2 (p + (la - (p + 1))) c2)).setCell ⟨B12, 1, none⟩ (.slice none 0 0)) B12 27 #[.slice q2 (p + (la - (p + 1))) c2, .slice none 0 0] from (HU.out.set 0 _).set 1 _)
        have HG2 := Lib.hid (own_put (own_put HO2.out (own_ne_row HO2.out HU.out (by decide)) 0 (.slice q2 (p + (la - (p + 1))) c2)) (own_ne_row HO2.out HU.out (by decide)) 1 (.slice none 0 0))
        obtain ⟨ws, hws⟩ : ∃ x, ((u4.setCell ⟨B12, 0, none⟩ (.slice q2 (p + (la - (p + 1))) c2)).setCell ⟨B12, 1, none⟩ (.slice none 0 0)) = x := ⟨_, rfl⟩
        rw [hws] at HUS HG2 HBS ⊢
        obtain ⟨zz, hzz⟩ : ∃ q : Option Addr, (if ca = p + 1 then some (⟨gb, go, none⟩ : Addr) else some ⟨gb, go + (p + 1) * 3, none⟩) = q := ⟨_, rfl⟩
        rw [hzz]
        obtain ⟨nn, hnn⟩ : ∃ x, p + (la - (p + 1)) = x := ⟨_, rfl⟩
        have HNN := Lib.hid hnn
        rw [hnn] at HUS HG2 ⊢
        have HC2 := Lib.hid (show CStep w B12 #[.slice (some ⟨gb, go, none⟩) la ca, .slice g lg cg] #[.slice q2 nn c2, .slice none 0 0] ws from ⟨HBS.out.below, HBS.out.box, HBS.out.res, HUS.out, HUGE.out⟩)
        clear hws hzz hnn HO2 HU HBR HS HBS HUS
        obtain ⟨x1, hx1⟩ : ∃ v : Value, .slice (some ⟨gb, go, none⟩) la ca = v := ⟨_, rfl⟩
        have hhx1 : x1 = x1 := rfl
        have HU2 := Lib.hid HC2.out.lt
        have HCA := Lib.hid (HC2.out.al (.cells #[] 57))
        have HOA := Lib.hid (own_zeroGone (row_new ws #[] 57) (Nat.le_refl _))
        have HGA := Lib.hid (own_below HG2.out (below_alloc (Below.refl _ _) (.cells #[] 57)))
        have hx1b := HCA.out.cell.2
        clear hx1 hhx1 x1
        go_wp2_with (first
          | (at_builtin; ((refine append1_gone rfl _ _ rfl ws.heap.size (.slice q7 r c7) r ((gonsOf E).take r) rfl (own_below HO7.out (below_alloc (Below.refl _ _) _)) w7.heap.size _ key v rfl (gone_new w7 key v _) (by omega) (Nat.le_trans HZ7.out (by simp)) ?_); intro q8 c8 w8 hown hgrow; have HO7a := Lib.hid (own_below HO7.out (below_alloc (Below.refl _ _) (.cells #[.string key, .int .i64 v] 57))); have HC8 := Lib.hid ((HC7.out.al (.cells #[.string key, .int .i64 v] 57)).grown HO7a.out HU2.out hgrow); have HG8 := Lib.hid (own_grown (own_below HG7.out (below_alloc (Below.refl _ _) (.cells #[.string key, .int .i64 v] 57))) hgrow (own_apart HG2.out (own_lt HG2.out) HO7a.out)); have HO8 := Lib.hid hown; have HZ8 := Lib.hid (Nat.le_trans (Nat.le_trans HZ7.out (by simp)) hgrow.size); obtain ⟨o0, o1⟩ := HC8.out.ocell; have of1 := HC8.out.out.free 1; clear hown hgrow))
          | (at_builtin; ((refine append_gone rfl _ _ rfl ws.heap.size (.slice (some ⟨ws.heap.size, 0, none⟩) 0 0) 0 [] rfl HOA.out _ r _ ((gonsOf E).take r) rfl (by have hd := gones_take (HS0.out.at_.keep HCA.out.below).d hrl; first | exact hd | (simpa using gones_takeA (ca := cg) (n := 2) hd)) (by first | exact HS0.out.nilg | (simpa using nil_takeA (n := 2) HS0.out.nilg)) (by omega) (by simp) ?_); intro q7 c7 w7 hown hgrow; simp only [Nat.zero_add, List.nil_append] at hown; have HC7 := Lib.hid (HCA.out.grown HOA.out HU2.out hgrow); have HG7 := Lib.hid (own_grown HGA.out hgrow (own_apart HG2.out (own_lt HG2.out) HOA.out)); have HO7 := Lib.hid hown; have HZ7 := Lib.hid (Nat.le_trans (by simp : ws.heap.size ≤ (ws.alloc (.cells #[] 57)).heap.size) hgrow.size); clear hown hgrow)))
        obtain ⟨Y, hY⟩ : ∃ Y, ws.heap.size = Y := ⟨_, rfl⟩
        have HUY := Lib.hid (show B12 < Y by rw [← hY]; exact HU2.out)
        have HY2 := Lib.hid (show w.heap.size + 2 ≤ Y by have := HUY.out; have := HUGE.out; omega)
        have HGY := Lib.hid (show ∀ g, (Value.slice q2 nn c2).ownBlock = some g → g < Y from fun g hg => by rw [← hY]; exact own_lt HG2.out g hg)
        rw [hY] at HO8 HZ8
        clear HCA HOA HGA hx1b HC7 HG7 HO7 HZ7 hY HG2 HC2 HU2
        have HG9 := Lib.hid (own_put HG8.out (own_ne_row HG8.out HC8.out.out (by decide)) 1 (.slice q8 (r + 1) c8))
        have HZ9 := Lib.hid (show Y ≤ (w8.setCell ⟨B12, 1, none⟩ (.slice q8 (r + 1) c8)).heap.size by have := HZ8.out; simpa [World.setCell] using this)
        obtain ⟨y, hy⟩ : ∃ y, w8.setCell ⟨B12, 1, none⟩ (.slice q8 (r + 1) c8) = y := ⟨_, rfl⟩
        have HCY := Lib.hid (show CStep w B12 #[.slice (some ⟨gb, go, none⟩) la ca, .slice g lg cg] #[.slice q2 nn c2, .slice q8 (r + 1) c8] y by rw [← hy]; exact HC8.out.set 1 _)
        have HOY := Lib.hid (show y.ownsRow Y 57 2 (.slice q8 (r + 1) c8) (r + 1) (cellsGone ((gonsOf E).take r ++ [(key, v)])) by rw [← hy]; exact own_put HO8.out (fun g hg => by have := (HO8.out.lt g hg).1; have := HUY.out; omega) 1 _)
        rw [hy] at HG9 HZ9 ⊢
        clear hy HG8 HO8 HC8 o0 o1 of1
        have k1 := HCY.out.cell.2
        obtain ⟨u0, u1⟩ := HCY.out.ocell
        obtain ⟨yd, hyd⟩ : ∃ x, y.drew = x := ⟨_, rfl⟩
        have HYD := Lib.hid hyd
        have HCD := Lib.hid (show CStep w B12 #[.slice (some ⟨gb, go, none⟩) la ca, .slice g lg cg] #[.slice q2 nn c2, .slice q8 (r + 1) c8] yd by rw [← hyd]; exact HCY.out.drew)
        have HOD := Lib.hid (show yd.ownsRow Y 57 2 (.slice q8 (r + 1) c8) (r + 1) (cellsGone ((gonsOf E).take r ++ [(key, v)])) by rw [← hyd]; exact own_below HOY.out (Below.refl _ _).drew)
        have HGD := Lib.hid (show yd.ownsRow (w.heap.size + 2) 34 3 (.slice q2 nn c2) nn (cellsObj ((objsOf E).take p ++ (objsOf E).drop (p + 1))) by rw [← hyd]; exact own_below HG9.out (Below.refl _ _).drew)
        have HYZ := Lib.hid (show Y ≤ yd.heap.size by rw [← hyd]; exact HZ9.out)
        clear hyd
        go_still_tail 6, (by kernel_rfl)
        change wpList _ _ _ _ _ y.drew
        rw [HYD.out]
        clear k1 u0 u1 HYD HCY HOY HG9
        go_wp2_with (first
          | (at_builtin; ((refine append_gone rfl _ _ rfl Y (.slice q8 (r + 1) c8) (r + 1) ((gonsOf E).take r ++ [(key, v)]) rfl HOD.out _ (lg - r) _ ((gonsOf E).drop r) rfl (by have hd := gones_dropA (k := r) (HS0.out.at_.keep HCD.out.below).d hrl hcg; simpa using hd) (by first | exact nil_dropA HS0.out.nilg | (simpa using nil_dropA (k := r) (n := 2) HS0.out.nilg)) (by omega) HYZ.out ?_); intro q9 c9 w9 hown hgrow; have HC9 := Lib.hid (HCD.out.grown HOD.out HUY.out hgrow); have HO9 := Lib.hid hown; have HGZ := Lib.hid (own_grown HGD.out hgrow (own_apart HGD.out HGY.out HOD.out)); have v1 := HC9.out.ocell.2; have vf := HC9.out.out.free 1; have HCS := Lib.hid (show CStep w B12 #[.slice (some ⟨gb, go, none⟩) la ca, .slice g lg cg] #[.slice q2 nn c2, .slice q9 (r + 1 + (lg - r)) c9] (w9.setCell ⟨B12, 1, none⟩ (.slice q9 (r + 1 + (lg - r)) c9)) from HC9.out.set 1 _); have s0 := HCS.out.res.cell (j := 0) (by simp); have s1 := HCS.out.res.cell (j := 1) (by simp); have z0 := HCS.out.res.free 0; have z1 := HCS.out.res.free 1; simp at s0 s1; have t0 := HCS.out.ocell.1; have t1 := HCS.out.ocell.2; clear hown hgrow)))
        all_goals
          have hO := own_put HO9.out (fun g hg => by have := (HO9.out.lt g hg).1; have := HUY.out; omega) 1 (.slice q9 (r + 1 + (lg - r)) c9) (X := B12)
          have hG := own_put HGZ.out (own_ne_row HGZ.out HC9.out.out (by decide)) 1 (.slice q9 (r + 1 + (lg - r)) c9)
          have hL : ((gonsOf E).take r ++ [(key, v)] ++ (gonsOf E).drop r).length = r + 1 + (lg - r) := by
            simp only [List.length_append, List.length_take, List.length_drop, HLG.out, List.length_cons, List.length_nil]; omega
          have hM : ((objsOf E).take p ++ (objsOf E).drop (p + 1)).length = nn := by
            rw [← HNN.out]
            simp only [List.length_append, List.length_take, List.length_drop, HLA.out]; omega
          have hK := made_k (w := w) hG hO (Nat.le_refl _) HY2.out hM hL
          have hR : resO (delE key v E) = (objsOf E).take p ++ (objsOf E).drop (p + 1) ∧ resG (delE key v E) = (gonsOf E).take r ++ [(key, v)] ++ (gonsOf E).drop r := by
            rw [HC.out]
            refine ⟨?_, ?_⟩
            · show objsOf (putE key (v, ⟨#[]⟩, true) E) = _
              rw [objs_del HE.out.inc HOB.out]
              unfold poO
              rw [HP.out]
            · show gonsOf (putE key (v, ⟨#[]⟩, true) E) = _
              rw [gons_ins HE.out.inc (by rw [HL.out]; rfl)]
              unfold poG
              rw [HRR.out, List.append_assoc]; rfl
          have hb := ((HCS.out.res.set 0 (.slice q2 nn c2)).set 1 (.slice q9 (r + 1 + (lg - r)) c9))
          unfold Row at hb
          exact bodyPost_ret (v := .tuple #[.agg #[.slice q2 nn c2, .slice q9 (r + 1 + (lg - r)) c9], .int .i64 0]) (by simp [results, Tryz.results23, go_sem, World.cell?, hb]) rfl ⟨_, _, _, _, _, _, by rw [HC.out], (HCS.out.below.setCell (by show w.heap.size ≤ w.heap.size + 1; omega) _).setCell (by show w.heap.size ≤ w.heap.size + 1; omega) _, by rw [hR.1, hR.2]; exact made_res hK _ _⟩
    · have HC := Lib.hid (del_ver HL.out rfl hv)
      have hv2 : ((v : Int) == ver) = false := by rw [beq_eq_false_iff_ne]; exact hv
      go_wp2
      have hb := HBR.out
      exact bodyPost_ret (v := .tuple #[.agg #[.slice none 0 0, .slice none 0 0], .int .i64 5]) (by simp [results, Tryz.results23, go_sem, World.cell?, hb]) rfl (HNO.out 5 HC.out (by decide))
end Go.Proofs.YtblpebdjbenphaaGreatDoor
namespace Go.Proofs.YtblpebdjbenphaaGreatDoor
open Go.ChangeShapes Go.WideShapes Go.ChangeAt Go.RowKit
set_option linter.unusedVariables false
set_option maxRecDepth 100000

/-- What the model has seen of the objects. -/
def SeenO (l : Objs) (k : Nat) : Prop := ∀ j, j < k → objOk l j ∧ (0 < j → (obj0 l (j - 1)).toList < (obj0 l j).toList)
def SeenG (l : Objs) (m : Gones) (k : Nat) : Prop := ∀ j, j < k → gonOk m j ∧ (0 < j → (gone0 m (j - 1)).toList < (gone0 m j).toList) ∧ isT (okeys l) (gone0 m j) = false
theorem seenO_inc {l : Objs} (h : SeenO l l.length) : IncT (okeys l) := inc_adj (fun i hi => by
  rw [okeys_at, okeys_at]
  rw [okeys_len] at hi
  exact (h (i + 1) hi).2 (by omega))
theorem seenG_inc {l : Objs} {m : Gones} (h : SeenG l m m.length) : IncT (gkeys m) := inc_adj (fun i hi => by
  rw [gkeys_at, gkeys_at]
  rw [gkeys_len] at hi
  exact (h (i + 1) hi).2.1 (by omega))
theorem mem_txt {l : Txts} {s : ByteArray} (h : s ∈ l) : ∃ i, i < l.length ∧ s = txt l i := by
  obtain ⟨i, hi, rfl⟩ := List.getElem_of_mem h
  exact ⟨i, hi, txt_get _ _ hi⟩
theorem txt_mem {l : Txts} {i : Nat} (h : i < l.length) : txt l i ∈ l := by rw [← txt_get l i h]; exact List.getElem_mem _
theorem sto_seen {l : Objs} {m : Gones} (h0 : l.length + m.length ≤ 1100) (h1 : SeenO l l.length) (h2 : SeenG l m m.length) : StoP l m := by
  refine ⟨h0, fun i hi => (h1 i hi).1, fun i hi => (h2 i hi).1, seenO_inc h1, seenG_inc h2, ?_⟩
  intro a ha b hb he
  obtain ⟨i, hi, rfl⟩ := mem_txt hb
  have := (h2 i (by rw [gkeys_len] at hi; exact hi)).2.2
  rw [gkeys_at] at he
  rw [← Bool.not_eq_true, isT_iff (seenO_inc h1)] at this
  exact this ⟨a, ha, he⟩
theorem sto_not_obj {l : Objs} {m : Gones} {k : Nat} (hk : k < l.length) (h : ¬ objOk l k) : ¬ StoP l m := fun hs => h (hs.objs k hk)
theorem sto_not_gon {l : Objs} {m : Gones} {k : Nat} (hk : k < m.length) (h : ¬ gonOk m k) : ¬ StoP l m := fun hs => h (hs.gons k hk)
theorem sto_not_oinc {l : Objs} {m : Gones} {k : Nat} (hk : k + 1 < l.length) (h : ltT (obj0 l k) (obj0 l (k + 1)) = false) : ¬ StoP l m := fun hs =>
  inc_not (l := okeys l) (i := k) (by rw [okeys_len]; exact hk) (by rw [okeys_at, okeys_at]; exact h) hs.oinc
theorem sto_not_ginc {l : Objs} {m : Gones} {k : Nat} (hk : k + 1 < m.length) (h : ltT (gone0 m k) (gone0 m (k + 1)) = false) : ¬ StoP l m := fun hs =>
  inc_not (l := gkeys m) (i := k) (by rw [gkeys_len]; exact hk) (by rw [gkeys_at, gkeys_at]; exact h) hs.ginc
theorem sto_not_apart {l : Objs} {m : Gones} {k : Nat} (hk : k < m.length) (h : isT (okeys l) (gone0 m k) = true) : ¬ StoP l m := fun hs => by
  obtain ⟨s, h1, h2⟩ := (isT_iff hs.oinc).1 h
  exact hs.apart s h1 _ (txt_mem (l := gkeys m) (i := k) (by rw [gkeys_len]; exact hk)) (by rw [gkeys_at]; exact h2)
theorem l7find_is {a g : Option Addr} {la ca lg cg : Nat} {l : Objs} {m : Gones} {key : ByteArray} {w : World} {b : Bool} (h : StoAt w a la l g lg m) (hb : isT (okeys l) key = b) :
    Calls Tryz.prog 41 #[.agg #[.slice a la ca, .slice g lg cg], .string key] w fun e w' => e = .returned (.tuple #[.int .i64 (posT (okeys l) key : Nat), .bool b]) ∧ Below w.heap.size w w' := by
  have := l7find_any a g la ca lg cg l m key w h
  unfold MadeFound at this
  rw [hb] at this
  exact this
theorem says_no {p : Prop} {w w' : World} (h : ¬ p) (hB : Below w.heap.size w w') : SaysB p w (.returned (.bool false)) w' := ⟨false, rfl, by simp [h], hB⟩
theorem says_yes {p : Prop} {w w' : World} (h : p) (hB : Below w.heap.size w w') : SaysB p w (.returned (.bool true)) w' := ⟨true, rfl, by simp [h], hB⟩

theorem same_quiet {f : FuncId} {args : Array Value} {w : World} {n : Nat} {b c : Bool} (h : Calls Tryz.prog f args (w.drewN n) (SameBool b (w.drewN n))) (hb : b = c) :
    Calls Tryz.prog f args (w.drewN n) fun e w'' => e = .returned (.bool c) ∧ ∃ m, w'' = w.drewN m := h.mono fun _ _ ⟨he, hw⟩ => ⟨by rw [he, hb], n, hw.symm⟩

set_option maxHeartbeats 4000000 in
theorem sstoreok_any (a g : Option Addr) (la ca lg cg : Nat) (l : Objs) (m : Gones) (w : World) (h : StoAt w a la l g lg m) (hla : la ≤ 1048576) (hlg : lg ≤ 1048576) :
    Calls Tryz.prog 20 #[.agg #[.slice a la ca, .slice g lg cg]] w (SaysB (StoP l m) w) := by
  have hm := h.o.max
  have hm2 := h.d.max
  unfold maxLen at hm hm2
  have HS := Lib.hid h
  have HL := Lib.hid h.o.length
  have HLG := Lib.hid h.d.length
  clear h
  by_cases hfew : 1100 < la + lg
  · have HN := Lib.hid (show ¬ StoP l m from fun hs => by have := hs.few; rw [HL.out, HLG.out] at this; omega)
    have hf : (1100 : Int) < (la : Int) + (lg : Int) := by omega
    go_enter Tryz.func20, Tryz.ntmps20
    go_wp2
    go_ret
    exact says_no HN.out (below_alloc (Below.refl _ _) _)
  have hf : ¬ (1100 : Int) < (la : Int) + (lg : Int) := by omega
  go_enter Tryz.func20, Tryz.ntmps20
  go_wp2
  go_loopw [3, 4] (fun i o wr => ∃ k : Nat, k ≤ la ∧ i = .int .i64 k ∧ Hid (GD w #[.slice a la ca, .slice g lg cg] wr ∧ SeenO l k)) (fun i _ _ => la - (intOf i).toNat)
  case atStart => exact ⟨0, Nat.zero_le _, rfl, ⟨below_alloc (Below.refl _ _) _, row_new _ _ _⟩, fun j hj => by omega⟩
  case round =>
    obtain ⟨k, hk, rfl, HW⟩ := hrel
    have b0 := HW.out.1.box.cell (j := 0) (by simp)
    have b1 := HW.out.1.box.cell (j := 1) (by simp)
    simp at b0 b1
    by_cases hlt : k < la
    · rcases HS.out.o.src with hz | ⟨b, off, rfl, hb, hc⟩
      · omega
      · have c0 := (HW.out.1.below.cell (p := ⟨b, off + k * 3, none⟩) hb).trans (hc k hlt).1
        have c1 := (HW.out.1.below.cell (p := ⟨b, off + k * 3 + 1, none⟩) hb).trans (hc k hlt).2.1
        have c2 := (HW.out.1.below.cell (p := ⟨b, off + k * 3 + 2, none⟩) hb).trans (hc k hlt).2.2
        have hi1 : (k : Int) < (la : Int) := by omega
        have hi0 : (0 : Int) ≤ (k : Int) := by omega
        have hsz : (obj0 l k).size ≤ maxLen ∧ (obj2 l k).size ≤ maxLen := HS.out.o.keys k hlt
        have HSZ := Lib.hid hsz.1
        have hd0 := hsz.2
        unfold maxLen at hd0
        clear hsz
        have hkl : k < l.length := by rw [HL.out]; exact hlt
        have HBK := Lib.hid (below_alloc HW.out.1.below (.cells #[.string (obj0 l k), .int .i64 (obj1 l k), .string (obj2 l k)] 34))
        have HC := Lib.hid hc
        have HBB := Lib.hid hb
        clear hc hb
        cases hkey : keyB (obj0 l k) with
        | false =>
          have HN := Lib.hid (sto_not_obj (m := m) hkl (fun h => by rw [h.1] at hkey; cases hkey))
          have HK := Lib.hid hkey
          clear hkey
          go_wp2_with fail
          go_quiet ((go_at_call 21; exact same_quiet (l7key_any _ _ HSZ.out) HK.out))
          go_wp2
          go_ret
          exact says_no HN.out (below_drewN HBK.out _)
        | true =>
          have HK := Lib.hid hkey
          cases hver : inB (obj1 l k) 1 1000000 with
          | false =>
            have HN := Lib.hid (sto_not_obj (m := m) hkl (fun h => by rw [h.2.1] at hver; cases hver))
            have HV := Lib.hid hver
            clear hkey hver
            go_wp2_with fail
            go_quiet ((first | (go_at_call 21; exact same_quiet (l7key_any _ _ HSZ.out) HK.out) | (go_at_call 22; exact same_quiet (l7ver_any _ _) HV.out)))
            go_wp2
            go_ret
            exact says_no HN.out (below_drewN HBK.out _)
          | true =>
            have HV := Lib.hid hver
            by_cases hd : (30000 : Int) < ((obj2 l k).size : Int)
            · have HN := Lib.hid (sto_not_obj (m := m) hkl (fun h => by have := h.2.2; omega))
              clear hkey hver
              go_wp2_with fail
              go_quiet ((first | (go_at_call 21; exact same_quiet (l7key_any _ _ HSZ.out) HK.out) | (go_at_call 22; exact same_quiet (l7ver_any _ _) HV.out)))
              go_wp2
              go_ret
              exact says_no HN.out (below_drewN HBK.out _)
            · have HOK := Lib.hid (show objOk l k from ⟨hkey, hver, by omega⟩)
              clear hkey hver
              have hd2 : decide ((30000 : Int) < ((obj2 l k).size : Int)) = false := by simpa using hd
              by_cases hk0 : 0 < k
              · obtain ⟨p, hp1, hp2⟩ : ∃ p : Nat, (k : Int) - 1 = (p : Int) ∧ p + 1 = k := ⟨k - 1, by omega, by omega⟩
                have d0 := (HBK.out.cell (p := ⟨b, off + p * 3, none⟩) HBB.out).trans (HC.out p (by omega)).1
                have e0 := (HW.out.1.box.al (.cells #[.string (obj0 l k), .int .i64 (obj1 l k), .string (obj2 l k)] 34)).cell (j := 0) (by simp)
                simp at e0
                have hm0 : (0 : Int) ≤ (p : Int) := by omega
                have hmn : (p : Int) < (la : Int) := by omega
                have hg1 : decide ((0 : Int) < (k : Int)) = true := by simp; omega
                cases hlt2 : Op.bytesLess (obj0 l p).toList (obj0 l k).toList with
                | false =>
                  have HN := Lib.hid (sto_not_oinc (m := m) (k := p) (by rw [hp2]; exact hkl) (by rw [hp2]; exact hlt2))
                  go_wp2_with fail
                  have hw1 : IntKind.i64.wrap (p : Int) = (p : Int) := IntWalk.i64_in _ (by omega)
                  have HP2 := Lib.hid hp2
                  clear hp2
                  go_quiet ((first | (go_at_call 21; exact same_quiet (l7key_any _ _ HSZ.out) HK.out) | (go_at_call 22; exact same_quiet (l7ver_any _ _) HV.out)))
                  clear hw1
                  go_wp2
                  go_ret
                  exact says_no HN.out (below_drewN HBK.out _)
                | true =>
                  have HSN := Lib.hid (show SeenO l (k + 1) from fun j hj => by
                    rcases Nat.lt_or_ge j k with h | h
                    · exact HW.out.2 j h
                    · obtain rfl : j = k := by omega
                      exact ⟨HOK.out, fun _ => by rw [show j - 1 = p by omega]; exact (bltIff _ _).1 hlt2⟩)
                  go_wp2_with fail
                  have hw1 : IntKind.i64.wrap (p : Int) = (p : Int) := IntWalk.i64_in _ (by omega)
                  have HP2 := Lib.hid hp2
                  clear hp2
                  go_quiet ((first | (go_at_call 21; exact same_quiet (l7key_any _ _ HSZ.out) HK.out) | (go_at_call 22; exact same_quiet (l7ver_any _ _) HV.out)))
                  clear hw1
                  go_wp2
                  go_roundw
                  case rel => exact ⟨k + 1, by omega, by go_num, ⟨below_drewN HBK.out _, (HW.out.1.box.al _).keep (below_drewN (Below.refl _ _) _)⟩, HSN.out⟩
                  case measure => simp [intOf]; omega
              · have HSN := Lib.hid (show SeenO l (k + 1) from fun j hj => by
                  rcases Nat.lt_or_ge j k with h | h
                  · exact HW.out.2 j h
                  · obtain rfl : j = k := by omega
                    exact ⟨HOK.out, fun h => by omega⟩)
                have hg1 : decide ((0 : Int) < (k : Int)) = false := by simp; omega
                have hg2 : decide (0 < k) = false := by simp; omega
                go_wp2_with fail
                go_quiet ((first | (go_at_call 21; exact same_quiet (l7key_any _ _ HSZ.out) HK.out) | (go_at_call 22; exact same_quiet (l7ver_any _ _) HV.out)))
                go_wp2
                go_roundw
                case rel => exact ⟨k + 1, by omega, by go_num, ⟨below_drewN HBK.out _, (HW.out.1.box.al _).keep (below_drewN (Below.refl _ _) _)⟩, HSN.out⟩
                case measure => simp [intOf]; omega
    · obtain rfl : k = la := by omega
      have HSO := Lib.hid (show SeenO l l.length by rw [HL.out]; exact HW.out.2)
      go_wp2
      have HWB := Lib.hid HW.out.1
      clear HW b0 b1
      go_loopw [5, 6, 7, 8] (fun i o x y wr => ∃ j : Nat, j ≤ lg ∧ i = .int .i64 j ∧ Hid (GD w #[.slice a k ca, .slice g lg cg] wr ∧ SeenG l m j)) (fun i _ _ _ _ => lg - (intOf i).toNat)
      case atStart => exact ⟨0, Nat.zero_le _, rfl, HWB.out, fun j hj => by omega⟩
      case round =>
        obtain ⟨j, hj, rfl, HW⟩ := hrel
        clear HWB
        have b0 := HW.out.1.box.cell (j := 0) (by simp)
        have b1 := HW.out.1.box.cell (j := 1) (by simp)
        simp at b0 b1
        by_cases hlt : j < lg
        · rcases HS.out.d.src with hz | ⟨b, off, rfl, hb, hc⟩
          · omega
          · have c0 := (HW.out.1.below.cell (p := ⟨b, off + j * 2, none⟩) hb).trans (hc j hlt).1
            have c1 := (HW.out.1.below.cell (p := ⟨b, off + j * 2 + 1, none⟩) hb).trans (hc j hlt).2
            have hi1 : (j : Int) < (lg : Int) := by omega
            have hi0 : (0 : Int) ≤ (j : Int) := by omega
            have HSZ := Lib.hid (HS.out.d.keys j hlt)
            have hkl : j < m.length := by rw [HLG.out]; exact hlt
            have HBK := Lib.hid (below_alloc HW.out.1.below (.cells #[.string (gone0 m j), .int .i64 (gone1 m j)] 57))
            have HC := Lib.hid hc
            have HBB := Lib.hid hb
            clear hc hb
            cases hkey : keyB (gone0 m j) with
            | false =>
              have HN := Lib.hid (sto_not_gon (l := l) hkl (fun h => by rw [h.1] at hkey; cases hkey))
              have HK := Lib.hid hkey
              clear hkey
              go_wp2_with fail
              go_quiet ((go_at_call 21; exact same_quiet (l7key_any _ _ HSZ.out) HK.out))
              go_wp2
              go_ret
              exact says_no HN.out (below_drewN HBK.out _)
            | true =>
              have HK := Lib.hid hkey
              cases hver : inB (gone1 m j) 1 1000000 with
              | false =>
                have HN := Lib.hid (sto_not_gon (l := l) hkl (fun h => by rw [h.2] at hver; cases hver))
                have HV := Lib.hid hver
                clear hkey hver
                go_wp2_with fail
                go_quiet ((first | (go_at_call 21; exact same_quiet (l7key_any _ _ HSZ.out) HK.out) | (go_at_call 22; exact same_quiet (l7ver_any _ _) HV.out)))
                go_wp2
                go_ret
                exact says_no HN.out (below_drewN HBK.out _)
              | true =>
                have HV := Lib.hid hver
                have HOK := Lib.hid (show gonOk m j from ⟨hkey, hver⟩)
                clear hkey hver
                have e0 := (HW.out.1.box.al (.cells #[.string (gone0 m j), .int .i64 (gone1 m j)] 57)).cell (j := 0) (by simp)
                have e1 := (HW.out.1.box.al (.cells #[.string (gone0 m j), .int .i64 (gone1 m j)] 57)).cell (j := 1) (by simp)
                simp at e0 e1
                by_cases hk0 : 0 < j
                · obtain ⟨p, hp1, hp2⟩ : ∃ p : Nat, (j : Int) - 1 = (p : Int) ∧ p + 1 = j := ⟨j - 1, by omega, by omega⟩
                  have d0 := (HBK.out.cell (p := ⟨b, off + p * 2, none⟩) HBB.out).trans (HC.out p (by omega)).1
                  have hm0 : (0 : Int) ≤ (p : Int) := by omega
                  have hmn : (p : Int) < (lg : Int) := by omega
                  have hg1 : decide ((0 : Int) < (j : Int)) = true := by simp; omega
                  cases hlt2 : Op.bytesLess (gone0 m p).toList (gone0 m j).toList with
                  | false =>
                    have HN := Lib.hid (sto_not_ginc (l := l) (k := p) (by rw [hp2]; exact hkl) (by rw [hp2]; exact hlt2))
                    go_wp2_with fail
                    have hw1 : IntKind.i64.wrap (p : Int) = (p : Int) := IntWalk.i64_in _ (by omega)
                    have HP2 := Lib.hid hp2
                    clear hp2
                    go_quiet ((first | (go_at_call 21; exact same_quiet (l7key_any _ _ HSZ.out) HK.out) | (go_at_call 22; exact same_quiet (l7ver_any _ _) HV.out)))
                    clear hw1
                    go_wp2
                    go_ret
                    exact says_no HN.out (below_drewN HBK.out _)
                  | true =>
                    have HLT := Lib.hid (show 0 < j → (gone0 m (j - 1)).toList < (gone0 m j).toList from fun _ => by rw [show j - 1 = p by omega]; exact (bltIff _ _).1 hlt2)
                    cases his : isT (okeys l) (gone0 m j) with
                    | true =>
                      have HN := Lib.hid (sto_not_apart hkl his)
                      have HIS := Lib.hid his
                      clear his
                      go_wp2_with fail
                      have hw1 : IntKind.i64.wrap (p : Int) = (p : Int) := IntWalk.i64_in _ (by omega)
                      have HP2 := Lib.hid hp2
                      clear hp2
                      go_quiet ((first | (go_at_call 21; exact same_quiet (l7key_any _ _ HSZ.out) HK.out) | (go_at_call 22; exact same_quiet (l7ver_any _ _) HV.out)))
                      clear hw1 hp1 hlt2
                      go_wp2_with (go_at_call 41; refine (l7find_is (g := some ⟨b, off, none⟩) (HS.out.keep (below_drewN HBK.out _)) HIS.out).mono ?_; rintro e w3 ⟨rfl, hB⟩; have HB3 := Lib.hid (below_via (below_drewN HBK.out _) hB); clear hB)
                      go_ret
                      exact says_no HN.out HB3.out
                    | false =>
                      have HSN := Lib.hid (show SeenG l m (j + 1) from fun i hi => by
                        rcases Nat.lt_or_ge i j with h | h
                        · exact HW.out.2 i h
                        · obtain rfl : i = j := by omega
                          exact ⟨HOK.out, HLT.out, his⟩)
                      have HIS := Lib.hid his
                      clear his
                      go_wp2_with fail
                      have hw1 : IntKind.i64.wrap (p : Int) = (p : Int) := IntWalk.i64_in _ (by omega)
                      have HP2 := Lib.hid hp2
                      clear hp2
                      go_quiet ((first | (go_at_call 21; exact same_quiet (l7key_any _ _ HSZ.out) HK.out) | (go_at_call 22; exact same_quiet (l7ver_any _ _) HV.out)))
                      clear hw1 hp1 hlt2
                      go_wp2_with (go_at_call 41; refine (l7find_is (g := some ⟨b, off, none⟩) (HS.out.keep (below_drewN HBK.out _)) HIS.out).mono ?_; rintro e w3 ⟨rfl, hB⟩; have HB3 := Lib.hid (below_via (below_drewN HBK.out _) hB); have HX3 := Lib.hid (((HW.out.1.box.al (.cells #[.string (gone0 m j), .int .i64 (gone1 m j)] 57)).keep (below_drewN (Below.refl _ _) _)).keep hB); clear hB)
                      go_roundw
                      case rel => exact ⟨j + 1, by omega, by go_num, ⟨HB3.out, HX3.out⟩, HSN.out⟩
                      case measure => simp [intOf]; omega
                · have hg1 : decide ((0 : Int) < (j : Int)) = false := by simp; omega
                  have hg2 : decide (0 < j) = false := by simp; omega
                  cases his : isT (okeys l) (gone0 m j) with
                  | true =>
                    have HN := Lib.hid (sto_not_apart hkl his)
                    have HIS := Lib.hid his
                    clear his
                    go_wp2_with fail
                    go_quiet ((first | (go_at_call 21; exact same_quiet (l7key_any _ _ HSZ.out) HK.out) | (go_at_call 22; exact same_quiet (l7ver_any _ _) HV.out)))
                    go_wp2_with (go_at_call 41; refine (l7find_is (g := some ⟨b, off, none⟩) (HS.out.keep (below_drewN HBK.out _)) HIS.out).mono ?_; rintro e w3 ⟨rfl, hB⟩; have HB3 := Lib.hid (below_via (below_drewN HBK.out _) hB); clear hB)
                    go_ret
                    exact says_no HN.out HB3.out
                  | false =>
                    have HSN := Lib.hid (show SeenG l m (j + 1) from fun i hi => by
                      rcases Nat.lt_or_ge i j with h | h
                      · exact HW.out.2 i h
                      · obtain rfl : i = j := by omega
                        exact ⟨HOK.out, fun h => absurd h hk0, his⟩)
                    have HIS := Lib.hid his
                    clear his
                    go_wp2_with fail
                    go_quiet ((first | (go_at_call 21; exact same_quiet (l7key_any _ _ HSZ.out) HK.out) | (go_at_call 22; exact same_quiet (l7ver_any _ _) HV.out)))
                    go_wp2_with (go_at_call 41; refine (l7find_is (g := some ⟨b, off, none⟩) (HS.out.keep (below_drewN HBK.out _)) HIS.out).mono ?_; rintro e w3 ⟨rfl, hB⟩; have HB3 := Lib.hid (below_via (below_drewN HBK.out _) hB); have HX3 := Lib.hid (((HW.out.1.box.al (.cells #[.string (gone0 m j), .int .i64 (gone1 m j)] 57)).keep (below_drewN (Below.refl _ _) _)).keep hB); clear hB)
                    go_roundw
                    case rel => exact ⟨j + 1, by omega, by go_num, ⟨HB3.out, HX3.out⟩, HSN.out⟩
                    case measure => simp [intOf]; omega
        · obtain rfl : j = lg := by omega
          have HY := Lib.hid (show StoP l m from sto_seen (by rw [HL.out, HLG.out]; omega) HSO.out (by rw [HLG.out]; exact HW.out.2))
          go_wp2
          go_ret
          exact says_yes HY.out HW.out.1.below
end Go.Proofs.YtblpebdjbenphaaGreatDoor
namespace Go.Proofs.YtblpebdjbenphaaGreatDoor
open Go.ChangeShapes Go.WideShapes Go.ChangeAt Go.RowKit
set_option linter.unusedVariables false
set_option maxRecDepth 100000

theorem sizeKey {s : ByteArray} (h : keyB s = true) : s.size ≤ maxLen := by have := key_len h; unfold maxLen; omega
/-- What Create, Put and Del come to: R. -/
def IsCreate (l : Objs) (m : Gones) (key data : ByteArray) (R : Els × Int × Int) : Prop := (StoP l m ∧ keyB key = true ∧ data.size ≤ 30000 → R = createE key data (elsOf l m)) ∧ (¬ (StoP l m ∧ keyB key = true ∧ data.size ≤ 30000) → R = ([], 0, 1))
def IsPut (l : Objs) (m : Gones) (key : ByteArray) (ver : Int) (data : ByteArray) (R : Els × Int × Int) : Prop := (StoP l m ∧ keyB key = true ∧ inB ver 1 1000000 = true ∧ data.size ≤ 30000 → R = replE key ver data (elsOf l m)) ∧ (¬ (StoP l m ∧ keyB key = true ∧ inB ver 1 1000000 = true ∧ data.size ≤ 30000) → R = ([], 0, 1))
def IsDel (l : Objs) (m : Gones) (key : ByteArray) (ver : Int) (R : Els × Int × Int) : Prop := (StoP l m ∧ keyB key = true ∧ inB ver 1 1000000 = true → R = delE key ver (elsOf l m)) ∧ (¬ (StoP l m ∧ keyB key = true ∧ inB ver 1 1000000 = true) → R = ([], 0, 1))
theorem isCreate_some (l : Objs) (m : Gones) (key data : ByteArray) : ∃ R, IsCreate l m key data R := by
  by_cases h : StoP l m ∧ keyB key = true ∧ data.size ≤ 30000
  · exact ⟨_, fun _ => rfl, fun k => absurd h k⟩
  · exact ⟨_, fun k => absurd k h, fun _ => rfl⟩
theorem isPut_some (l : Objs) (m : Gones) (key : ByteArray) (ver : Int) (data : ByteArray) : ∃ R, IsPut l m key ver data R := by
  by_cases h : StoP l m ∧ keyB key = true ∧ inB ver 1 1000000 = true ∧ data.size ≤ 30000
  · exact ⟨_, fun _ => rfl, fun k => absurd h k⟩
  · exact ⟨_, fun k => absurd k h, fun _ => rfl⟩
theorem isDel_some (l : Objs) (m : Gones) (key : ByteArray) (ver : Int) : ∃ R, IsDel l m key ver R := by
  by_cases h : StoP l m ∧ keyB key = true ∧ inB ver 1 1000000 = true
  · exact ⟨_, fun _ => rfl, fun k => absurd h k⟩
  · exact ⟨_, fun k => absurd k h, fun _ => rfl⟩
theorem StoI.els {w : World} {a g : Option Addr} {la ca lg cg : Nat} {l : Objs} {m : Gones} (h : StoI w a la ca l g lg cg m) : StoI w a la ca (objsOf (elsOf l m)) g lg cg (gonsOf (elsOf l m)) := by rw [els_back.1, els_back.2]; exact h
set_option maxHeartbeats 4000000 in
theorem sdel_any (a g : Option Addr) (la ca lg cg : Nat) (l : Objs) (m : Gones) (key : ByteArray) (ver : Int) (R : Els × Int × Int) (w : World) (h : StoI w a la ca l g lg cg m) (hla : la ≤ 1048576) (hlg : lg ≤ 1048576) (hks : key.size ≤ maxLen) (hR : IsDel l m key ver R) :
    Calls Tryz.prog 8 #[.agg #[.slice a la ca, .slice g lg cg], .string key, .int .i64 ver] w (MadeSD R w) := by
  have HS := Lib.hid h
  have HRI := Lib.hid hR
  have HKS := Lib.hid hks
  clear h hR hks
  obtain ⟨W0, hW0⟩ : ∃ W0, (w.alloc (.cells #[.slice a la ca, .slice g lg cg] 27)).alloc (.cells #[.slice none 0 0, .slice none 0 0] 27) = W0 := ⟨_, rfl⟩
  have HBR := Lib.hid (show BRow w #[.slice a la ca, .slice g lg cg] W0 by rw [← hW0]; exact ⟨below_alloc (below_alloc (Below.refl _ _) _) _, (row_new _ _ _).al _, row_new1 _ _ _ _⟩)
  have HW0 := Lib.hid hW0
  clear hW0
  go_enter Tryz.func8, Tryz.ntmps8
  go_wp2_with fail
  rw [HW0.out]
  refine (sstoreok_any _ _ _ _ _ _ l m _ (HS.out.at_.keep HBR.out.below) hla hlg).mono ?_
  rintro e w1 ⟨b1, rfl, hb1, hB⟩
  have HBR := Lib.hid (HBR.out.keep hB)
  have HP := Lib.hid hb1
  clear hB hb1 HW0
  obtain ⟨x0, x1⟩ := HBR.out.cells
  have r0 := HBR.out.res.cell (j := 0) (by simp)
  have r1 := HBR.out.res.cell (j := 1) (by simp)
  have f0 := HBR.out.res.free 0
  have f1 := HBR.out.res.free 1
  simp at r0 r1
  have hbr := ((HBR.out.res.set 0 (.slice none 0 0)).set 1 (.slice none 0 0))
  unfold Row at hbr
  have HRB := Lib.hid hbr
  clear hbr
  have HNO := Lib.hid (show R = ([], 0, 1) → MadeSD R w (.returned (.tuple #[.agg #[.slice none 0 0, .slice none 0 0], .int .i64 1])) ((w1.setCell ⟨w.heap.size + 1, 0, none⟩ (.slice none 0 0)).setCell ⟨w.heap.size + 1, 1, none⟩ (.slice none 0 0)) from fun hc => by
    rw [hc]
    refine ⟨none, 0, 0, none, 0, 0, rfl, (HBR.out.below.setCell (by show w.heap.size ≤ w.heap.size + 1; omega) _).setCell (by show w.heap.size ≤ w.heap.size + 1; omega) _, ?_⟩
    exact StoK.nil _ _)
  cases b1 with
  | false =>
    go_wp2
    have hb := HRB.out
    exact bodyPost_ret (v := .tuple #[.agg #[.slice none 0 0, .slice none 0 0], .int .i64 1]) (by simp [results, Tryz.results8, go_sem, World.cell?, hb]) rfl (HNO.out (HRI.out.2 (fun hh => by have := HP.out.2 hh.1; cases this)))
  | true =>
    cases hk : keyB key with
    | false =>
      have HK := Lib.hid hk
      clear hk
      go_wp2_with (first | (go_at_call 21; refine (l7key_any _ _ HKS.out).mono ?_; rw [HK.out]; rintro e w2 ⟨rfl, rfl⟩))
      have hb := HRB.out
      exact bodyPost_ret (v := .tuple #[.agg #[.slice none 0 0, .slice none 0 0], .int .i64 1]) (by simp [results, Tryz.results8, go_sem, World.cell?, hb]) rfl (HNO.out (HRI.out.2 (fun hh => by have h1 := hh.2.1; rw [HK.out] at h1; cases h1)))
    | true =>
      have HK := Lib.hid hk
      clear hk
      cases hv : inB ver 1 1000000 with
      | false =>
        have HV := Lib.hid hv
        clear hv
        go_wp2_with (first | (go_at_call 21; refine (l7key_any _ _ HKS.out).mono ?_; rw [HK.out]; rintro e w2 ⟨rfl, rfl⟩) | (go_at_call 22; refine (l7ver_any _ _).mono ?_; rw [HV.out]; rintro e w2 ⟨rfl, rfl⟩))
        have hb := HRB.out
        exact bodyPost_ret (v := .tuple #[.agg #[.slice none 0 0, .slice none 0 0], .int .i64 1]) (by simp [results, Tryz.results8, go_sem, World.cell?, hb]) rfl (HNO.out (HRI.out.2 (fun hh => by have h1 := hh.2.2; rw [HV.out] at h1; cases h1)))
      | true =>
        have HV := Lib.hid hv
        clear hv
        have HRE := Lib.hid (HRI.out.1 ⟨HP.out.1 rfl, HK.out, HV.out⟩)
        have HEP := Lib.hid (ep_of (HP.out.1 rfl))
        go_wp2_with (first | (go_at_call 21; refine (l7key_any _ _ HKS.out).mono ?_; rw [HK.out]; rintro e w2 ⟨rfl, rfl⟩) | (go_at_call 22; refine (l7ver_any _ _).mono ?_; rw [HV.out]; rintro e w2 ⟨rfl, rfl⟩))
        refine (l7del_any _ _ _ _ _ _ (elsOf l m) key ver _ HEP.out (HS.out.keep HBR.out.below).els).mono ?_
        rw [← HRE.out]
        rintro e w2 ⟨q1, n1, c1, q2, n2, c2, rfl, hB, hK⟩
        have HK2 := Lib.hid hK
        have HBQ := Lib.hid (HBR.out.keep hB)
        have HSZ := Lib.hid HBR.out.ge
        clear hB hK x0 x1 r0 r1 f0 f1
        have r0 := HBQ.out.res.cell (j := 0) (by simp)
        have r1 := HBQ.out.res.cell (j := 1) (by simp)
        have f0 := HBQ.out.res.free 0
        have f1 := HBQ.out.res.free 1
        simp at r0 r1
        go_wp2
        have hb := ((HBQ.out.res.set 0 (.slice q1 n1 c1)).set 1 (.slice q2 n2 c2))
        unfold Row at hb
        exact bodyPost_ret (v := .tuple #[.agg #[.slice q1 n1 c1, .slice q2 n2 c2], .int .i64 R.2.2]) (by simp [results, Tryz.results8, go_sem, World.cell?, hb]) rfl ⟨_, _, _, _, _, _, rfl, (HBQ.out.below.setCell (by show w.heap.size ≤ w.heap.size + 1; omega) _).setCell (by show w.heap.size ≤ w.heap.size + 1; omega) _, made_res (HK2.out.low HSZ.out) _ _⟩

end Go.Proofs.YtblpebdjbenphaaGreatDoor
