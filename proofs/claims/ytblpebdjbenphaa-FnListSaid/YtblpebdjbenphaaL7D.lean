
/- The model's command l7Del on stores that may be read. Only new blocks are made. -/
import Derived.Test.YtblpebdjbenphaaL7K
import Derived.StillTailTactics
namespace Go.Proofs.Ytblpebdjbenphaa
open Go.ChangeShapes Go.WideShapes Go.ChangeAt Go.RowKit
set_option linter.unusedVariables false
set_option maxRecDepth 100000

set_option maxHeartbeats 4000000 in
theorem l7del_any (a g : Option Addr) (la ca lg cg : Nat) (E : Els) (key : ByteArray) (ver : Int) (w : World) (hE : EP E) (h : StoI w a la ca (objsOf E) g lg cg (gonsOf E)) :
    Calls Try.prog 45 #[.agg #[.slice a la ca, .slice g lg cg], .string key, .int .i64 ver] w (MadeSD (delE key ver E) w) := by
  have HS := Lib.hid h
  have HE := Lib.hid hE
  have hm := h.capo.2
  have hm2 := h.capg.2
  have hca := h.capo.1
  have hcg := h.capg.1
  unfold maxLen at hm hm2
  have hla : (objsOf E).length = la := h.at_.o.length
  have hlg : (gonsOf E).length = lg := h.at_.d.length
  have hfew := hE.few
  have hsum := objs_gons_len E
  rw [hla, hlg] at hsum
  have HLA := Lib.hid hla
  have HLG := Lib.hid hlg
  obtain ⟨W0, hW0⟩ : ∃ W0, (w.alloc (.cells #[.slice a la ca, .slice g lg cg] 27)).alloc (.cells #[.slice none 0 0, .slice none 0 0] 27) = W0 := ⟨_, rfl⟩
  have HB := Lib.hid (show Below w.heap.size w W0 by rw [← hW0]; exact below_alloc (below_alloc (Below.refl _ _) _) _)
  have HX := Lib.hid (show Row W0 w.heap.size 27 #[.slice a la ca, .slice g lg cg] by rw [← hW0]; exact (row_new _ _ _).al _)
  have HR := Lib.hid (show Row W0 (w.heap.size + 1) 27 #[.slice none 0 0, .slice none 0 0] by rw [← hW0]; exact row_new1 _ _ _ _)
  have HW0 := Lib.hid hW0
  clear h hE hW0 hla hlg
  go_enter Try.func45, Try.ntmps45
  go_wp2_with fail
  rw [HW0.out]
  obtain ⟨p, hp⟩ : ∃ p, posT (okeys (objsOf E)) key = p := ⟨_, rfl⟩
  have hpl : p ≤ la := by
    have := posT_le (okeys (objsOf E)) key
    rw [hp, okeys_len, HLA.out] at this; exact this
  have HP := Lib.hid hp
  clear hp
  refine (l7find_any _ _ _ _ _ _ _ _ _ _ (HS.out.at_.keep HB.out)).mono ?_
  unfold MadeFound
  rw [HP.out, isO_look HE.out.inc]
  rintro e w1 ⟨rfl, hB⟩
  have HX := Lib.hid (HX.out.keep hB)
  have HR := Lib.hid (HR.out.keep hB)
  have HB := Lib.hid (below_via HB.out hB)
  clear hB HW0
  have x0 := HX.out.cell (j := 0) (by simp)
  have x1 := HX.out.cell (j := 1) (by simp)
  have r0 := HR.out.cell (j := 0) (by simp)
  have r1 := HR.out.cell (j := 1) (by simp)
  have f0 := HR.out.free 0
  have f1 := HR.out.free 1
  simp at x0 x1 r0 r1
  have HNO := Lib.hid (show ∀ c : Int, delE key ver E = (E, 0, c) → c ≠ 0 → MadeSD (delE key ver E) w (.returned (.tuple #[.agg #[.slice none 0 0, .slice none 0 0], .int .i64 c])) ((w1.setCell ⟨w.heap.size + 1, 0, none⟩ (.slice none 0 0)).setCell ⟨w.heap.size + 1, 1, none⟩ (.slice none 0 0)) from fun c hc h0 => by
    rw [hc]
    refine ⟨none, 0, 0, none, 0, 0, rfl, (HB.out.setCell (by show w.heap.size ≤ w.heap.size + 1; omega) _).setCell (by show w.heap.size ≤ w.heap.size + 1; omega) _, ?_⟩
    rw [(res_no (R := (E, 0, c)) h0).1, (res_no (R := (E, 0, c)) h0).2]
    exact StoK.nil _ _)
  have hbres := ((HR.out.set 0 (.slice none 0 0)).set 1 (.slice none 0 0))
  unfold Row at hbres
  have HBR := Lib.hid hbres
  clear hbres
  cases hob : obIs (lookE key E) with
  | false =>
    have HC := Lib.hid (del_none (ver := ver) hob)
    clear hob
    go_wp2
    have hb := HBR.out
    exact bodyPost_ret (v := .tuple #[.agg #[.slice none 0 0, .slice none 0 0], .int .i64 4]) (by simp [results, Try.results45, go_sem, World.cell?, hb]) rfl (HNO.out 4 HC.out (by decide))
  | true =>
    obtain ⟨e, hl, hg⟩ : ∃ e, lookE key E = some e ∧ e.2.2 = false := by
      cases hl : lookE key E with
      | none => rw [hl] at hob; cases hob
      | some e => rw [hl] at hob; exact ⟨e, rfl, by simpa [obIs] using hob⟩
    obtain ⟨v, dd, gg⟩ := e
    obtain rfl : gg = false := hg
    obtain ⟨hv1, hv2, hv3, hv4⟩ := ep_look HE.out hl
    simp only at hv1 hv2
    obtain ⟨hpl2, hra⟩ := obj_at_look HE.out.inc hl rfl
    unfold poO at hpl2 hra
    rw [HP.out] at hpl2 hra
    rw [HLA.out] at hpl2
    have HL := Lib.hid hl
    have hgv : obj1 (objsOf E) p = v := by unfold obj1; rw [List.getD_eq_getElem?_getD, hra]; rfl
    have HOB := Lib.hid hob
    clear hl hra hob hv3 hv4
    rcases HS.out.at_.o.src with h0 | ⟨gb, go, rfl, hgb, hga⟩
    · omega
    have hgc := (hga p hpl2).2.1
    rw [hgv] at hgc
    have gc := (HB.out.cell (p := ⟨gb, go + p * 3 + 1, none⟩) hgb).trans hgc
    clear hgb hgc hgv hga
    have hp0 : (0 : Int) ≤ (p : Int) := by omega
    have hp1 : (p : Int) < (la : Int) := by omega
    by_cases hv : v = ver
    · subst hv
      have HC := Lib.hid (del_ok HL.out rfl rfl)
      go_wp2_with fail
      obtain ⟨r, hr⟩ : ∃ r, posT (gkeys (gonsOf E)) key = r := ⟨_, rfl⟩
      have hrl : r ≤ lg := by
        have := posT_le (gkeys (gonsOf E)) key
        rw [hr, gkeys_len, HLG.out] at this; exact this
      have HRR := Lib.hid hr
      clear hr
      refine (l7gone_any _ _ _ _ _ _ _ _ _ _ (HS.out.at_.keep HB.out)).mono ?_
      unfold MadeFound
      rw [HRR.out, isG_look HE.out.inc]
      rintro e w2 ⟨rfl, hB⟩
      have HX := Lib.hid (HX.out.keep hB)
      have HR := Lib.hid (HR.out.keep hB)
      have HB := Lib.hid (below_via HB.out hB)
      have HS0 := HS
      have HBR := Lib.hid (show BRow w #[.slice (some ⟨gb, go, none⟩) la ca, .slice g lg cg] w2.drew from ⟨HB.out.drew, HX.out, HR.out⟩)
      have hp2 : (p : Int) ≤ (ca : Int) := by omega
      have hp3 : (0 : Int) ≤ (p : Int) + 1 := by omega
      have hp4 : (p : Int) + 1 ≤ (la : Int) := by omega
      have hp5 : ((p : Int) + 1).toNat = p + 1 := by omega
      have hp6 : IntKind.i64.wrap ((p : Int) + 1) = (p : Int) + 1 := IntWalk.i64_in _ (by omega)
      have hp7 : ¬ ca = 0 := by omega
      have hr0 : (0 : Int) ≤ (r : Int) := by omega
      have hr1 : (r : Int) ≤ (cg : Int) := by omega
      have hr2 : (r : Int) ≤ (lg : Int) := by omega
      clear hB HB HX HR x0 x1 r0 r1 f0 f1 gc HNO
      go_wp2_with fail
      refine wp_region_noPanic ?_
      refine wp_region_held_drew (S := (fun w' => Hid (BRow w #[.slice (some ⟨gb, go, none⟩) la ca, .slice g lg cg] w') ∧ w'.cell? ⟨w.heap.size, 0, none⟩ = some (.slice (some ⟨gb, go, none⟩) la ca) ∧ w'.cell? ⟨w.heap.size, 1, none⟩ = some (.slice g lg cg))) (by kernel_rfl) (⟨HBR, HBR.out.cells.1, HBR.out.cells.2⟩) (fun HS => ?_)
      obtain ⟨u0, hu⟩ : ∃ x, w2.drew = x := ⟨_, rfl⟩
      rw [hu] at HBR HS ⊢
      clear hu
      refine held_take (i := 1) (d := 40) (v := .pointer (some ⟨w.heap.size, 0, none⟩)) rfl rfl (by kernel_rfl) (by kernel_rfl) (by kernel_rfl) (by kernel_rfl) (fun wx hS => by go_simp) HS ?_
      refine held_take (i := 2) (d := 41) (v := .slice (some ⟨gb, go, none⟩) la ca) rfl rfl (by kernel_rfl) (by kernel_rfl) (by kernel_rfl) (by kernel_rfl) (fun wx hS => by have h0 := hS.2.1; go_simp) HS ?_
      refine held_take (i := 3) (d := 42) (v := .int .i64 (p : Int)) rfl rfl (by kernel_rfl) (by kernel_rfl) (by kernel_rfl) (by kernel_rfl) (fun wx hS => by go_simp) HS ?_
      refine held_take (i := 4) (d := 43) (v := .slice (some ⟨gb, go, none⟩) p ca) rfl rfl (by kernel_rfl) (by kernel_rfl) (by kernel_rfl) (by kernel_rfl) (fun wx hS => by go_simp) HS ?_
      refine held_take (i := 6) (d := 45) (v := .pointer (some ⟨w.heap.size, 0, none⟩)) rfl rfl (by kernel_rfl) (by kernel_rfl) (by kernel_rfl) (by kernel_rfl) (fun wx hS => by go_simp) HS ?_
      refine held_take (i := 7) (d := 46) (v := .slice (some ⟨gb, go, none⟩) la ca) rfl rfl (by kernel_rfl) (by kernel_rfl) (by kernel_rfl) (by kernel_rfl) (fun wx hS => by have h0 := hS.2.1; go_simp) HS ?_
      refine held_take (i := 8) (d := 47) (v := .int .i64 (p : Int)) rfl rfl (by kernel_rfl) (by kernel_rfl) (by kernel_rfl) (by kernel_rfl) (fun wx hS => by go_simp) HS ?_
      refine held_take (i := 9) (d := 48) (v := .int .i64 ((p : Int) + 1)) rfl rfl (by kernel_rfl) (by kernel_rfl) (by kernel_rfl) (by kernel_rfl) (fun wx hS => by go_simp) HS ?_
      refine held_take (i := 10) (d := 49) (v := .slice (if ca = p + 1 then some ⟨gb, go, none⟩ else some ⟨gb, go + (p + 1) * 3, none⟩) (la - (p + 1)) (ca - (p + 1))) rfl rfl (by kernel_rfl) (by kernel_rfl) (by kernel_rfl) (by kernel_rfl) (fun wx hS => by go_simp) HS ?_
      refine wpAnyH_ready (rs := [0, 13]) (by kernel_rfl) (by simp) (AllReadyH.cons rfl (fun K hK => ?_) (AllReadyH.cons rfl (fun K hK => ?_) AllReadyH.nil))
      · skip
        go_simp
        have HBR2 := Lib.hid (HBR.out.al (.cells #[] 31))
        have HNEW := Lib.hid (own_zeroObj (row_new u0 #[] 31) HBR.out.ge)
        obtain ⟨B39, hb39⟩ : ∃ x, u0.heap.size = x := ⟨_, rfl⟩
        obtain ⟨u1, hu2⟩ : ∃ x, u0.alloc (.cells #[] 31) = x := ⟨_, rfl⟩
        rw [hb39] at HNEW ⊢
        rw [hu2] at HBR2 HNEW ⊢
        clear hb39 hu2 HBR
        have HO39 := HNEW
        have HBR := HBR2
        clear HNEW HBR2
        refine hK.out _ _ (⟨HBR, HBR.out.cells.1, HBR.out.cells.2⟩) (fun HS => ?_)
        clear hK K
        refine wpAnyH_ready (rs := [5, 13]) (by kernel_rfl) (by simp) (AllReadyH.cons rfl (fun K hK => ?_) (AllReadyH.cons rfl (fun K hK => ?_) AllReadyH.nil))
        · skip
          refine step_append_obj rfl _ _ rfl (w.heap.size + 2) (.slice (some ⟨B39, 0, none⟩) 0 0) 0 [] rfl HO39.out _ p _ ((objsOf E).take p) rfl (objs_take (HS0.out.at_.keep HBR.out.below).o hpl) (fun e => by cases e) (by omega) HBR.out.ge ?_
          intro q1 c1 u2 hown hgrow
          simp only [List.nil_append, Nat.zero_add] at hown
          rw [Nat.zero_add]
          have HO1 := Lib.hid hown
          have HBR2 := Lib.hid (HBR.out.grown HO39.out (Nat.le_refl _) hgrow)
          have HBR := HBR2
          clear hown hgrow HBR2 HO39
          refine hK.out _ _ (⟨HBR, HBR.out.cells.1, HBR.out.cells.2⟩) (fun HS => ?_)
          clear hK K
          refine wpAnyH_ready (rs := [11, 13]) (by kernel_rfl) (by simp) (AllReadyH.cons rfl (fun K hK => ?_) (AllReadyH.cons rfl (fun K hK => ?_) AllReadyH.nil))
          · skip
            refine step_append_obj rfl _ _ rfl (w.heap.size + 2) (.slice q1 p c1) p ((objsOf E).take p) rfl HO1.out _ (la - (p + 1)) _ ((objsOf E).drop (p + 1)) rfl (by have hd := objs_dropA (k := p + 1) (HS0.out.at_.keep HBR.out.below).o (by omega) hca; simpa [addr_add] using hd) (by intro e; split at e <;> cases e) (by omega) HBR.out.ge ?_
            intro q2 c2 u3 hown hgrow
            skip
            have HO2 := Lib.hid hown
            have HBR2 := Lib.hid (HBR.out.grown HO1.out (Nat.le_refl _) hgrow)
            have HBR := HBR2
            clear hown hgrow HBR2 HO1
            refine hK.out _ _ (⟨HBR, HBR.out.cells.1, HBR.out.cells.2⟩) (fun HS => ?_)
            clear hK K
            refine held_take (i := 12) (d := 51) (v := .agg #[.slice q2 (p + (la - (p + 1))) c2, .slice none 0 0]) rfl rfl (by kernel_rfl) (by kernel_rfl) (by kernel_rfl) (by kernel_rfl) (fun wx hS => by go_simp) HS ?_
            refine wpAnyH_ready (rs := [13]) (by kernel_rfl) (by simp) (AllReadyH.cons rfl (fun K hK => ?_) AllReadyH.nil)
            go_simp
            have HBR2 := Lib.hid (HBR.out.al (.cells #[.slice none 0 0, .slice none 0 0] 27))
            have HNEW := Lib.hid (row_new u3 #[.slice none 0 0, .slice none 0 0] 27)
            have HO2 := Lib.hid (own_below HO2.out (below_alloc (Below.refl _ _) (.cells #[.slice none 0 0, .slice none 0 0] 27)))
            have HGE := Lib.hid HBR.out.ge
            obtain ⟨B12, hb12⟩ : ∃ x, u3.heap.size = x := ⟨_, rfl⟩
            obtain ⟨u4, hu2⟩ : ∃ x, u3.alloc (.cells #[.slice none 0 0, .slice none 0 0] 27) = x := ⟨_, rfl⟩
            rw [hb12] at HNEW HGE ⊢
            rw [hu2] at HBR2 HNEW HO2 ⊢
            clear hb12 hu2 HBR
            have HU := HNEW
            have HBR := HBR2
            have HUGE := HGE
            clear HNEW HBR2 HGE
            refine hK.out _ _ (⟨HBR, HBR.out.cells.1, HBR.out.cells.2⟩) (fun HS => ?_)
            clear hK K
            refine wpAnyH_ready (rs := [14]) (by kernel_rfl) (by simp) (AllReadyH.cons rfl (fun K hK => ?_) AllReadyH.nil)
            have k0 := HU.out.cell (j := 0) (by simp)
            have k1 := HU.out.cell (j := 1) (by simp)
            have kf0 := HU.out.free 0
            have kf1 := HU.out.free 1
            simp at k0 k1
            go_simp
            have HBS := Lib.hid ((HBR.out.set HUGE.out 0 (.slice q2 (p + (la - (p + 1))) c2)).set HUGE.out 1 (.slice none 0 0))
            refine hK.out _ _ (⟨HBS, HBS.out.cells.1, HBS.out.cells.2⟩) (fun HS => ?_)
            clear hK K k0 k1 kf0 kf1
            refine wpAnyH_done (by kernel_rfl) (NoPanic.normal ?_) _
            have HUS := Lib.hid (show Row ((u4.setCell ⟨B12, 0, none⟩ (.slice q2 (p + (la - (p + 1))) c2)).setCell ⟨B12, 1, none⟩ (.slice none 0 0)) B12 27 #[.slice q2 (p + (la - (p + 1))) c2, .slice none 0 0] from (HU.out.set 0 _).set 1 _)
            have HG2 := Lib.hid (own_put (own_put HO2.out (own_ne_row HO2.out HU.out (by decide)) 0 (.slice q2 (p + (la - (p + 1))) c2)) (own_ne_row HO2.out HU.out (by decide)) 1 (.slice none 0 0))
            obtain ⟨ws, hws⟩ : ∃ x, ((u4.setCell ⟨B12, 0, none⟩ (.slice q2 (p + (la - (p + 1))) c2)).setCell ⟨B12, 1, none⟩ (.slice none 0 0)) = x := ⟨_, rfl⟩
            rw [hws] at HUS HG2 HBS ⊢
            obtain ⟨zz, hzz⟩ : ∃ q : Option Addr, (if ca = p + 1 then some (⟨gb, go, none⟩ : Addr) else some ⟨gb, go + (p + 1) * 3, none⟩) = q := ⟨_, rfl⟩
            rw [hzz]
            obtain ⟨nn, hnn⟩ : ∃ x, p + (la - (p + 1)) = x := ⟨_, rfl⟩
            have HNN := Lib.hid hnn
            rw [hnn] at HUS HG2 ⊢
            have HC2 := Lib.hid (show CStep w B12 #[.slice (some ⟨gb, go, none⟩) la ca, .slice g lg cg] #[.slice q2 nn c2, .slice none 0 0] ws from ⟨HBS.out.below, HBS.out.box, HBS.out.res, HUS.out, HUGE.out⟩)
            clear hws hzz hnn HO2 HU HBR HS HBS HUS
            obtain ⟨x1, hx1⟩ : ∃ v : Value, .slice (some ⟨gb, go, none⟩) la ca = v := ⟨_, rfl⟩
            have hhx1 : x1 = x1 := rfl
            have HU2 := Lib.hid HC2.out.lt
            have HCA := Lib.hid (HC2.out.al (.cells #[] 45))
            have HOA := Lib.hid (own_zeroGone (row_new ws #[] 45) (Nat.le_refl _))
            have HGA := Lib.hid (own_below HG2.out (below_alloc (Below.refl _ _) (.cells #[] 45)))
            have hx1b := HCA.out.cell.2
            clear hx1 hhx1 x1
            go_wp2_with (first
              | (at_builtin; ((refine append1_gone rfl _ _ rfl ws.heap.size (.slice q7 r c7) r ((gonsOf E).take r) rfl (own_below HO7.out (below_alloc (Below.refl _ _) _)) w7.heap.size _ key v rfl (gone_new w7 key v _) (by omega) (Nat.le_trans HZ7.out (by simp)) ?_); intro q8 c8 w8 hown hgrow; have HO7a := Lib.hid (own_below HO7.out (below_alloc (Below.refl _ _) (.cells #[.string key, .int .i64 v] 45))); have HC8 := Lib.hid ((HC7.out.al (.cells #[.string key, .int .i64 v] 45)).grown HO7a.out HU2.out hgrow); have HG8 := Lib.hid (own_grown (own_below HG7.out (below_alloc (Below.refl _ _) (.cells #[.string key, .int .i64 v] 45))) hgrow (own_apart HG2.out (own_lt HG2.out) HO7a.out)); have HO8 := Lib.hid hown; have HZ8 := Lib.hid (Nat.le_trans (Nat.le_trans HZ7.out (by simp)) hgrow.size); obtain ⟨o0, o1⟩ := HC8.out.ocell; have of1 := HC8.out.out.free 1; clear hown hgrow))
              | (at_builtin; ((refine append_gone rfl _ _ rfl ws.heap.size (.slice (some ⟨ws.heap.size, 0, none⟩) 0 0) 0 [] rfl HOA.out _ r _ ((gonsOf E).take r) rfl (by have hd := gones_take (HS0.out.at_.keep HCA.out.below).d hrl; first | exact hd | (simpa using gones_takeA (ca := cg) (n := 2) hd)) (by first | exact HS0.out.nilg | (simpa using nil_takeA (n := 2) HS0.out.nilg)) (by omega) (by simp) ?_); intro q7 c7 w7 hown hgrow; simp only [Nat.zero_add, List.nil_append] at hown; have HC7 := Lib.hid (HCA.out.grown HOA.out HU2.out hgrow); have HG7 := Lib.hid (own_grown HGA.out hgrow (own_apart HG2.out (own_lt HG2.out) HOA.out)); have HO7 := Lib.hid hown; have HZ7 := Lib.hid (Nat.le_trans (by simp : ws.heap.size ≤ (ws.alloc (.cells #[] 45)).heap.size) hgrow.size); clear hown hgrow)))
            obtain ⟨Y, hY⟩ : ∃ Y, ws.heap.size = Y := ⟨_, rfl⟩
            have HUY := Lib.hid (show B12 < Y by rw [← hY]; exact HU2.out)
            have HY2 := Lib.hid (show w.heap.size + 2 ≤ Y by have := HUY.out; have := HUGE.out; omega)
            have HGY := Lib.hid (show ∀ g, (Value.slice q2 nn c2).ownBlock = some g → g < Y from fun g hg => by rw [← hY]; exact own_lt HG2.out g hg)
            rw [hY] at HO8 HZ8
            clear HCA HOA HGA hx1b HC7 HG7 HO7 HZ7 hY HG2 HC2 HU2
            have HG9 := Lib.hid (own_put HG8.out (own_ne_row HG8.out HC8.out.out (by decide)) 1 (.slice q8 (r + 1) c8))
            have HZ9 := Lib.hid (show Y ≤ (w8.setCell ⟨B12, 1, none⟩ (.slice q8 (r + 1) c8)).heap.size by have := HZ8.out; simpa [World.setCell] using this)
            obtain ⟨y, hy⟩ : ∃ y, w8.setCell ⟨B12, 1, none⟩ (.slice q8 (r + 1) c8) = y := ⟨_, rfl⟩
            have HCY := Lib.hid (show CStep w B12 #[.slice (some ⟨gb, go, none⟩) la ca, .slice g lg cg] #[.slice q2 nn c2, .slice q8 (r + 1) c8] y by rw [← hy]; exact HC8.out.set 1 _)
            have HOY := Lib.hid (show y.ownsRow Y 45 2 (.slice q8 (r + 1) c8) (r + 1) (cellsGone ((gonsOf E).take r ++ [(key, v)])) by rw [← hy]; exact own_put HO8.out (fun g hg => by have := (HO8.out.lt g hg).1; have := HUY.out; omega) 1 _)
            rw [hy] at HG9 HZ9 ⊢
            clear hy HG8 HO8 HC8 o0 o1 of1
            have k1 := HCY.out.cell.2
            obtain ⟨u0, u1⟩ := HCY.out.ocell
            obtain ⟨yd, hyd⟩ : ∃ x, y.drew = x := ⟨_, rfl⟩
            have HYD := Lib.hid hyd
            have HCD := Lib.hid (show CStep w B12 #[.slice (some ⟨gb, go, none⟩) la ca, .slice g lg cg] #[.slice q2 nn c2, .slice q8 (r + 1) c8] yd by rw [← hyd]; exact HCY.out.drew)
            have HOD := Lib.hid (show yd.ownsRow Y 45 2 (.slice q8 (r + 1) c8) (r + 1) (cellsGone ((gonsOf E).take r ++ [(key, v)])) by rw [← hyd]; exact own_below HOY.out (Below.refl _ _).drew)
            have HGD := Lib.hid (show yd.ownsRow (w.heap.size + 2) 31 3 (.slice q2 nn c2) nn (cellsObj ((objsOf E).take p ++ (objsOf E).drop (p + 1))) by rw [← hyd]; exact own_below HG9.out (Below.refl _ _).drew)
            have HYZ := Lib.hid (show Y ≤ yd.heap.size by rw [← hyd]; exact HZ9.out)
            clear hyd
            go_still_tail 6, (by kernel_rfl)
            change wpList _ _ _ _ _ y.drew
            rw [HYD.out]
            clear k1 u0 u1 HYD HCY HOY HG9
            go_wp2_with (first
          | (at_builtin; ((refine append_gone rfl _ _ rfl Y (.slice q8 (r + 1) c8) (r + 1) ((gonsOf E).take r ++ [(key, v)]) rfl HOD.out _ (lg - r) _ ((gonsOf E).drop r) rfl (by have hd := gones_dropA (k := r) (HS0.out.at_.keep HCD.out.below).d hrl hcg; simpa using hd) (by first | exact nil_dropA HS0.out.nilg | (simpa using nil_dropA (k := r) (n := 2) HS0.out.nilg)) (by omega) HYZ.out ?_); intro q9 c9 w9 hown hgrow; have HC9 := Lib.hid (HCD.out.grown HOD.out HUY.out hgrow); have HO9 := Lib.hid hown; have HGZ := Lib.hid (own_grown HGD.out hgrow (own_apart HGD.out HGY.out HOD.out)); have v1 := HC9.out.ocell.2; have vf := HC9.out.out.free 1; have HCS := Lib.hid (show CStep w B12 #[.slice (some ⟨gb, go, none⟩) la ca, .slice g lg cg] #[.slice q2 nn c2, .slice q9 (r + 1 + (lg - r)) c9] (w9.setCell ⟨B12, 1, none⟩ (.slice q9 (r + 1 + (lg - r)) c9)) from HC9.out.set 1 _); have s0 := HCS.out.res.cell (j := 0) (by simp); have s1 := HCS.out.res.cell (j := 1) (by simp); have z0 := HCS.out.res.free 0; have z1 := HCS.out.res.free 1; simp at s0 s1; have t0 := HCS.out.ocell.1; have t1 := HCS.out.ocell.2; clear hown hgrow)))
            all_goals
              have hO := own_put HO9.out (fun g hg => by have := (HO9.out.lt g hg).1; have := HUY.out; omega) 1 (.slice q9 (r + 1 + (lg - r)) c9) (X := B12)
              have hG := own_put HGZ.out (own_ne_row HGZ.out HC9.out.out (by decide)) 1 (.slice q9 (r + 1 + (lg - r)) c9)
              have hL : ((gonsOf E).take r ++ [(key, v)] ++ (gonsOf E).drop r).length = r + 1 + (lg - r) := by
                simp only [List.length_append, List.length_take, List.length_drop, HLG.out, List.length_cons, List.length_nil]; omega
              have hM : ((objsOf E).take p ++ (objsOf E).drop (p + 1)).length = nn := by
                rw [← HNN.out]
                simp only [List.length_append, List.length_take, List.length_drop, HLA.out]; omega
              have hK := made_k (w := w) hG hO (Nat.le_refl _) HY2.out hM hL
              have hR : resO (delE key v E) = (objsOf E).take p ++ (objsOf E).drop (p + 1) ∧ resG (delE key v E) = (gonsOf E).take r ++ [(key, v)] ++ (gonsOf E).drop r := by
                rw [HC.out]
                refine ⟨?_, ?_⟩
                · show objsOf (putE key (v, ⟨#[]⟩, true) E) = _
                  rw [objs_del HE.out.inc HOB.out]
                  unfold poO
                  rw [HP.out]
                · show gonsOf (putE key (v, ⟨#[]⟩, true) E) = _
                  rw [gons_ins HE.out.inc (by rw [HL.out]; rfl)]
                  unfold poG
                  rw [HRR.out, List.append_assoc]; rfl
              have hb := ((HCS.out.res.set 0 (.slice q2 nn c2)).set 1 (.slice q9 (r + 1 + (lg - r)) c9))
              unfold Row at hb
              exact bodyPost_ret (v := .tuple #[.agg #[.slice q2 nn c2, .slice q9 (r + 1 + (lg - r)) c9], .int .i64 0]) (by simp [results, Try.results45, go_sem, World.cell?, hb]) rfl ⟨_, _, _, _, _, _, by rw [HC.out], (HCS.out.below.setCell (by show w.heap.size ≤ w.heap.size + 1; omega) _).setCell (by show w.heap.size ≤ w.heap.size + 1; omega) _, by rw [hR.1, hR.2]; exact made_res hK _ _⟩
          · skip
            go_simp
            have HBR2 := Lib.hid (HBR.out.al (.cells #[.slice none 0 0, .slice none 0 0] 27))
            have HNEW := Lib.hid (row_new u2 #[.slice none 0 0, .slice none 0 0] 27)
            have HO1 := Lib.hid (own_below HO1.out (below_alloc (Below.refl _ _) (.cells #[.slice none 0 0, .slice none 0 0] 27)))
            have HGE := Lib.hid HBR.out.ge
            obtain ⟨B12, hb12⟩ : ∃ x, u2.heap.size = x := ⟨_, rfl⟩
            obtain ⟨u3, hu2⟩ : ∃ x, u2.alloc (.cells #[.slice none 0 0, .slice none 0 0] 27) = x := ⟨_, rfl⟩
            rw [hb12] at HNEW HGE ⊢
            rw [hu2] at HBR2 HNEW HO1 ⊢
            clear hb12 hu2 HBR
            have HU := HNEW
            have HBR := HBR2
            have HUGE := HGE
            clear HNEW HBR2 HGE
            refine hK.out _ _ (⟨HBR, HBR.out.cells.1, HBR.out.cells.2⟩) (fun HS => ?_)
            clear hK K
            refine wpAnyH_ready (rs := [11]) (by kernel_rfl) (by simp) (AllReadyH.cons rfl (fun K hK => ?_) AllReadyH.nil)
            refine step_append_obj rfl _ _ rfl (w.heap.size + 2) (.slice q1 p c1) p ((objsOf E).take p) rfl HO1.out _ (la - (p + 1)) _ ((objsOf E).drop (p + 1)) rfl (by have hd := objs_dropA (k := p + 1) (HS0.out.at_.keep HBR.out.below).o (by omega) hca; simpa [addr_add] using hd) (by intro e; split at e <;> cases e) (by omega) HBR.out.ge ?_
            intro q2 c2 u4 hown hgrow
            skip
            have HO2 := Lib.hid hown
            have HBR2 := Lib.hid (HBR.out.grown HO1.out (Nat.le_refl _) hgrow)
            have HU := Lib.hid (row_grownT HU.out HO1.out (by decide) hgrow)
            have HBR := HBR2
            clear hown hgrow HBR2 HO1
            refine hK.out _ _ (⟨HBR, HBR.out.cells.1, HBR.out.cells.2⟩) (fun HS => ?_)
            clear hK K
            refine held_take (i := 12) (d := 51) (v := .agg #[.slice q2 (p + (la - (p + 1))) c2, .slice none 0 0]) rfl rfl (by kernel_rfl) (by kernel_rfl) (by kernel_rfl) (by kernel_rfl) (fun wx hS => by go_simp) HS ?_
            refine wpAnyH_ready (rs := [14]) (by kernel_rfl) (by simp) (AllReadyH.cons rfl (fun K hK => ?_) AllReadyH.nil)
            have k0 := HU.out.cell (j := 0) (by simp)
            have k1 := HU.out.cell (j := 1) (by simp)
            have kf0 := HU.out.free 0
            have kf1 := HU.out.free 1
            simp at k0 k1
            go_simp
            have HBS := Lib.hid ((HBR.out.set HUGE.out 0 (.slice q2 (p + (la - (p + 1))) c2)).set HUGE.out 1 (.slice none 0 0))
            refine hK.out _ _ (⟨HBS, HBS.out.cells.1, HBS.out.cells.2⟩) (fun HS => ?_)
            clear hK K k0 k1 kf0 kf1
            refine wpAnyH_done (by kernel_rfl) (NoPanic.normal ?_) _
            have HUS := Lib.hid (show Row ((u4.setCell ⟨B12, 0, none⟩ (.slice q2 (p + (la - (p + 1))) c2)).setCell ⟨B12, 1, none⟩ (.slice none 0 0)) B12 27 #[.slice q2 (p + (la - (p + 1))) c2, .slice none 0 0] from (HU.out.set 0 _).set 1 _)
            have HG2 := Lib.hid (own_put (own_put HO2.out (own_ne_row HO2.out HU.out (by decide)) 0 (.slice q2 (p + (la - (p + 1))) c2)) (own_ne_row HO2.out HU.out (by decide)) 1 (.slice none 0 0))
            obtain ⟨ws, hws⟩ : ∃ x, ((u4.setCell ⟨B12, 0, none⟩ (.slice q2 (p + (la - (p + 1))) c2)).setCell ⟨B12, 1, none⟩ (.slice none 0 0)) = x := ⟨_, rfl⟩
            rw [hws] at HUS HG2 HBS ⊢
            obtain ⟨zz, hzz⟩ : ∃ q : Option Addr, (if ca = p + 1 then some (⟨gb, go, none⟩ : Addr) else some ⟨gb, go + (p + 1) * 3, none⟩) = q := ⟨_, rfl⟩
            rw [hzz]
            obtain ⟨nn, hnn⟩ : ∃ x, p + (la - (p + 1)) = x := ⟨_, rfl⟩
            have HNN := Lib.hid hnn
            rw [hnn] at HUS HG2 ⊢
            have HC2 := Lib.hid (show CStep w B12 #[.slice (some ⟨gb, go, none⟩) la ca, .slice g lg cg] #[.slice q2 nn c2, .slice none 0 0] ws from ⟨HBS.out.below, HBS.out.box, HBS.out.res, HUS.out, HUGE.out⟩)
            clear hws hzz hnn HO2 HU HBR HS HBS HUS
            obtain ⟨x1, hx1⟩ : ∃ v : Value, .slice (some ⟨gb, go, none⟩) la ca = v := ⟨_, rfl⟩
            have hhx1 : x1 = x1 := rfl
            have HU2 := Lib.hid HC2.out.lt
            have HCA := Lib.hid (HC2.out.al (.cells #[] 45))
            have HOA := Lib.hid (own_zeroGone (row_new ws #[] 45) (Nat.le_refl _))
            have HGA := Lib.hid (own_below HG2.out (below_alloc (Below.refl _ _) (.cells #[] 45)))
            have hx1b := HCA.out.cell.2
            clear hx1 hhx1 x1
            go_wp2_with (first
              | (at_builtin; ((refine append1_gone rfl _ _ rfl ws.heap.size (.slice q7 r c7) r ((gonsOf E).take r) rfl (own_below HO7.out (below_alloc (Below.refl _ _) _)) w7.heap.size _ key v rfl (gone_new w7 key v _) (by omega) (Nat.le_trans HZ7.out (by simp)) ?_); intro q8 c8 w8 hown hgrow; have HO7a := Lib.hid (own_below HO7.out (below_alloc (Below.refl _ _) (.cells #[.string key, .int .i64 v] 45))); have HC8 := Lib.hid ((HC7.out.al (.cells #[.string key, .int .i64 v] 45)).grown HO7a.out HU2.out hgrow); have HG8 := Lib.hid (own_grown (own_below HG7.out (below_alloc (Below.refl _ _) (.cells #[.string key, .int .i64 v] 45))) hgrow (own_apart HG2.out (own_lt HG2.out) HO7a.out)); have HO8 := Lib.hid hown; have HZ8 := Lib.hid (Nat.le_trans (Nat.le_trans HZ7.out (by simp)) hgrow.size); obtain ⟨o0, o1⟩ := HC8.out.ocell; have of1 := HC8.out.out.free 1; clear hown hgrow))
              | (at_builtin; ((refine append_gone rfl _ _ rfl ws.heap.size (.slice (some ⟨ws.heap.size, 0, none⟩) 0 0) 0 [] rfl HOA.out _ r _ ((gonsOf E).take r) rfl (by have hd := gones_take (HS0.out.at_.keep HCA.out.below).d hrl; first | exact hd | (simpa using gones_takeA (ca := cg) (n := 2) hd)) (by first | exact HS0.out.nilg | (simpa using nil_takeA (n := 2) HS0.out.nilg)) (by omega) (by simp) ?_); intro q7 c7 w7 hown hgrow; simp only [Nat.zero_add, List.nil_append] at hown; have HC7 := Lib.hid (HCA.out.grown HOA.out HU2.out hgrow); have HG7 := Lib.hid (own_grown HGA.out hgrow (own_apart HG2.out (own_lt HG2.out) HOA.out)); have HO7 := Lib.hid hown; have HZ7 := Lib.hid (Nat.le_trans (by simp : ws.heap.size ≤ (ws.alloc (.cells #[] 45)).heap.size) hgrow.size); clear hown hgrow)))
            obtain ⟨Y, hY⟩ : ∃ Y, ws.heap.size = Y := ⟨_, rfl⟩
            have HUY := Lib.hid (show B12 < Y by rw [← hY]; exact HU2.out)
            have HY2 := Lib.hid (show w.heap.size + 2 ≤ Y by have := HUY.out; have := HUGE.out; omega)
            have HGY := Lib.hid (show ∀ g, (Value.slice q2 nn c2).ownBlock = some g → g < Y from fun g hg => by rw [← hY]; exact own_lt HG2.out g hg)
            rw [hY] at HO8 HZ8
            clear HCA HOA HGA hx1b HC7 HG7 HO7 HZ7 hY HG2 HC2 HU2
            have HG9 := Lib.hid (own_put HG8.out (own_ne_row HG8.out HC8.out.out (by decide)) 1 (.slice q8 (r + 1) c8))
            have HZ9 := Lib.hid (show Y ≤ (w8.setCell ⟨B12, 1, none⟩ (.slice q8 (r + 1) c8)).heap.size by have := HZ8.out; simpa [World.setCell] using this)
            obtain ⟨y, hy⟩ : ∃ y, w8.setCell ⟨B12, 1, none⟩ (.slice q8 (r + 1) c8) = y := ⟨_, rfl⟩
            have HCY := Lib.hid (show CStep w B12 #[.slice (some ⟨gb, go, none⟩) la ca, .slice g lg cg] #[.slice q2 nn c2, .slice q8 (r + 1) c8] y by rw [← hy]; exact HC8.out.set 1 _)
            have HOY := Lib.hid (show y.ownsRow Y 45 2 (.slice q8 (r + 1) c8) (r + 1) (cellsGone ((gonsOf E).take r ++ [(key, v)])) by rw [← hy]; exact own_put HO8.out (fun g hg => by have := (HO8.out.lt g hg).1; have := HUY.out; omega) 1 _)
            rw [hy] at HG9 HZ9 ⊢
            clear hy HG8 HO8 HC8 o0 o1 of1
            have k1 := HCY.out.cell.2
            obtain ⟨u0, u1⟩ := HCY.out.ocell
            obtain ⟨yd, hyd⟩ : ∃ x, y.drew = x := ⟨_, rfl⟩
            have HYD := Lib.hid hyd
            have HCD := Lib.hid (show CStep w B12 #[.slice (some ⟨gb, go, none⟩) la ca, .slice g lg cg] #[.slice q2 nn c2, .slice q8 (r + 1) c8] yd by rw [← hyd]; exact HCY.out.drew)
            have HOD := Lib.hid (show yd.ownsRow Y 45 2 (.slice q8 (r + 1) c8) (r + 1) (cellsGone ((gonsOf E).take r ++ [(key, v)])) by rw [← hyd]; exact own_below HOY.out (Below.refl _ _).drew)
            have HGD := Lib.hid (show yd.ownsRow (w.heap.size + 2) 31 3 (.slice q2 nn c2) nn (cellsObj ((objsOf E).take p ++ (objsOf E).drop (p + 1))) by rw [← hyd]; exact own_below HG9.out (Below.refl _ _).drew)
            have HYZ := Lib.hid (show Y ≤ yd.heap.size by rw [← hyd]; exact HZ9.out)
            clear hyd
            go_still_tail 6, (by kernel_rfl)
            change wpList _ _ _ _ _ y.drew
            rw [HYD.out]
            clear k1 u0 u1 HYD HCY HOY HG9
            go_wp2_with (first
          | (at_builtin; ((refine append_gone rfl _ _ rfl Y (.slice q8 (r + 1) c8) (r + 1) ((gonsOf E).take r ++ [(key, v)]) rfl HOD.out _ (lg - r) _ ((gonsOf E).drop r) rfl (by have hd := gones_dropA (k := r) (HS0.out.at_.keep HCD.out.below).d hrl hcg; simpa using hd) (by first | exact nil_dropA HS0.out.nilg | (simpa using nil_dropA (k := r) (n := 2) HS0.out.nilg)) (by omega) HYZ.out ?_); intro q9 c9 w9 hown hgrow; have HC9 := Lib.hid (HCD.out.grown HOD.out HUY.out hgrow); have HO9 := Lib.hid hown; have HGZ := Lib.hid (own_grown HGD.out hgrow (own_apart HGD.out HGY.out HOD.out)); have v1 := HC9.out.ocell.2; have vf := HC9.out.out.free 1; have HCS := Lib.hid (show CStep w B12 #[.slice (some ⟨gb, go, none⟩) la ca, .slice g lg cg] #[.slice q2 nn c2, .slice q9 (r + 1 + (lg - r)) c9] (w9.setCell ⟨B12, 1, none⟩ (.slice q9 (r + 1 + (lg - r)) c9)) from HC9.out.set 1 _); have s0 := HCS.out.res.cell (j := 0) (by simp); have s1 := HCS.out.res.cell (j := 1) (by simp); have z0 := HCS.out.res.free 0; have z1 := HCS.out.res.free 1; simp at s0 s1; have t0 := HCS.out.ocell.1; have t1 := HCS.out.ocell.2; clear hown hgrow)))
            all_goals
              have hO := own_put HO9.out (fun g hg => by have := (HO9.out.lt g hg).1; have := HUY.out; omega) 1 (.slice q9 (r + 1 + (lg - r)) c9) (X := B12)
              have hG := own_put HGZ.out (own_ne_row HGZ.out HC9.out.out (by decide)) 1 (.slice q9 (r + 1 + (lg - r)) c9)
              have hL : ((gonsOf E).take r ++ [(key, v)] ++ (gonsOf E).drop r).length = r + 1 + (lg - r) := by
                simp only [List.length_append, List.length_take, List.length_drop, HLG.out, List.length_cons, List.length_nil]; omega
              have hM : ((objsOf E).take p ++ (objsOf E).drop (p + 1)).length = nn := by
                rw [← HNN.out]
                simp only [List.length_append, List.length_take, List.length_drop, HLA.out]; omega
              have hK := made_k (w := w) hG hO (Nat.le_refl _) HY2.out hM hL
              have hR : resO (delE key v E) = (objsOf E).take p ++ (objsOf E).drop (p + 1) ∧ resG (delE key v E) = (gonsOf E).take r ++ [(key, v)] ++ (gonsOf E).drop r := by
                rw [HC.out]
                refine ⟨?_, ?_⟩
                · show objsOf (putE key (v, ⟨#[]⟩, true) E) = _
                  rw [objs_del HE.out.inc HOB.out]
                  unfold poO
                  rw [HP.out]
                · show gonsOf (putE key (v, ⟨#[]⟩, true) E) = _
                  rw [gons_ins HE.out.inc (by rw [HL.out]; rfl)]
                  unfold poG
                  rw [HRR.out, List.append_assoc]; rfl
              have hb := ((HCS.out.res.set 0 (.slice q2 nn c2)).set 1 (.slice q9 (r + 1 + (lg - r)) c9))
              unfold Row at hb
              exact bodyPost_ret (v := .tuple #[.agg #[.slice q2 nn c2, .slice q9 (r + 1 + (lg - r)) c9], .int .i64 0]) (by simp [results, Try.results45, go_sem, World.cell?, hb]) rfl ⟨_, _, _, _, _, _, by rw [HC.out], (HCS.out.below.setCell (by show w.heap.size ≤ w.heap.size + 1; omega) _).setCell (by show w.heap.size ≤ w.heap.size + 1; omega) _, by rw [hR.1, hR.2]; exact made_res hK _ _⟩
        · skip
          go_simp
          have HBR2 := Lib.hid (HBR.out.al (.cells #[.slice none 0 0, .slice none 0 0] 27))
          have HNEW := Lib.hid (row_new u1 #[.slice none 0 0, .slice none 0 0] 27)
          have HO39 := Lib.hid (own_below HO39.out (below_alloc (Below.refl _ _) (.cells #[.slice none 0 0, .slice none 0 0] 27)))
          have HGE := Lib.hid HBR.out.ge
          obtain ⟨B12, hb12⟩ : ∃ x, u1.heap.size = x := ⟨_, rfl⟩
          obtain ⟨u2, hu2⟩ : ∃ x, u1.alloc (.cells #[.slice none 0 0, .slice none 0 0] 27) = x := ⟨_, rfl⟩
          rw [hb12] at HNEW HGE ⊢
          rw [hu2] at HBR2 HNEW HO39 ⊢
          clear hb12 hu2 HBR
          have HU := HNEW
          have HBR := HBR2
          have HUGE := HGE
          clear HNEW HBR2 HGE
          refine hK.out _ _ (⟨HBR, HBR.out.cells.1, HBR.out.cells.2⟩) (fun HS => ?_)
          clear hK K
          refine wpAnyH_ready (rs := [5]) (by kernel_rfl) (by simp) (AllReadyH.cons rfl (fun K hK => ?_) AllReadyH.nil)
          refine step_append_obj rfl _ _ rfl (w.heap.size + 2) (.slice (some ⟨B39, 0, none⟩) 0 0) 0 [] rfl HO39.out _ p _ ((objsOf E).take p) rfl (objs_take (HS0.out.at_.keep HBR.out.below).o hpl) (fun e => by cases e) (by omega) HBR.out.ge ?_
          intro q1 c1 u3 hown hgrow
          simp only [List.nil_append, Nat.zero_add] at hown
          rw [Nat.zero_add]
          have HO1 := Lib.hid hown
          have HBR2 := Lib.hid (HBR.out.grown HO39.out (Nat.le_refl _) hgrow)
          have HU := Lib.hid (row_grownT HU.out HO39.out (by decide) hgrow)
          have HBR := HBR2
          clear hown hgrow HBR2 HO39
          refine hK.out _ _ (⟨HBR, HBR.out.cells.1, HBR.out.cells.2⟩) (fun HS => ?_)
          clear hK K
          refine wpAnyH_ready (rs := [11]) (by kernel_rfl) (by simp) (AllReadyH.cons rfl (fun K hK => ?_) AllReadyH.nil)
          refine step_append_obj rfl _ _ rfl (w.heap.size + 2) (.slice q1 p c1) p ((objsOf E).take p) rfl HO1.out _ (la - (p + 1)) _ ((objsOf E).drop (p + 1)) rfl (by have hd := objs_dropA (k := p + 1) (HS0.out.at_.keep HBR.out.below).o (by omega) hca; simpa [addr_add] using hd) (by intro e; split at e <;> cases e) (by omega) HBR.out.ge ?_
          intro q2 c2 u4 hown hgrow
          skip
          have HO2 := Lib.hid hown
          have HBR2 := Lib.hid (HBR.out.grown HO1.out (Nat.le_refl _) hgrow)
          have HU := Lib.hid (row_grownT HU.out HO1.out (by decide) hgrow)
          have HBR := HBR2
          clear hown hgrow HBR2 HO1
          refine hK.out _ _ (⟨HBR, HBR.out.cells.1, HBR.out.cells.2⟩) (fun HS => ?_)
          clear hK K
          refine held_take (i := 12) (d := 51) (v := .agg #[.slice q2 (p + (la - (p + 1))) c2, .slice none 0 0]) rfl rfl (by kernel_rfl) (by kernel_rfl) (by kernel_rfl) (by kernel_rfl) (fun wx hS => by go_simp) HS ?_
          refine wpAnyH_ready (rs := [14]) (by kernel_rfl) (by simp) (AllReadyH.cons rfl (fun K hK => ?_) AllReadyH.nil)
          have k0 := HU.out.cell (j := 0) (by simp)
          have k1 := HU.out.cell (j := 1) (by simp)
          have kf0 := HU.out.free 0
          have kf1 := HU.out.free 1
          simp at k0 k1
          go_simp
          have HBS := Lib.hid ((HBR.out.set HUGE.out 0 (.slice q2 (p + (la - (p + 1))) c2)).set HUGE.out 1 (.slice none 0 0))
          refine hK.out _ _ (⟨HBS, HBS.out.cells.1, HBS.out.cells.2⟩) (fun HS => ?_)
          clear hK K k0 k1 kf0 kf1
          refine wpAnyH_done (by kernel_rfl) (NoPanic.normal ?_) _
          have HUS := Lib.hid (show Row ((u4.setCell ⟨B12, 0, none⟩ (.slice q2 (p + (la - (p + 1))) c2)).setCell ⟨B12, 1, none⟩ (.slice none 0 0)) B12 27 #[.slice q2 (p + (la - (p + 1))) c2, .slice none 0 0] from (HU.out.set 0 _).set 1 _)
          have HG2 := Lib.hid (own_put (own_put HO2.out (own_ne_row HO2.out HU.out (by decide)) 0 (.slice q2 (p + (la - (p + 1))) c2)) (own_ne_row HO2.out HU.out (by decide)) 1 (.slice none 0 0))
          obtain ⟨ws, hws⟩ : ∃ x, ((u4.setCell ⟨B12, 0, none⟩ (.slice q2 (p + (la - (p + 1))) c2)).setCell ⟨B12, 1, none⟩ (.slice none 0 0)) = x := ⟨_, rfl⟩
          rw [hws] at HUS HG2 HBS ⊢
          obtain ⟨zz, hzz⟩ : ∃ q : Option Addr, (if ca = p + 1 then some (⟨gb, go, none⟩ : Addr) else some ⟨gb, go + (p + 1) * 3, none⟩) = q := ⟨_, rfl⟩
          rw [hzz]
          obtain ⟨nn, hnn⟩ : ∃ x, p + (la - (p + 1)) = x := ⟨_, rfl⟩
          have HNN := Lib.hid hnn
          rw [hnn] at HUS HG2 ⊢
          have HC2 := Lib.hid (show CStep w B12 #[.slice (some ⟨gb, go, none⟩) la ca, .slice g lg cg] #[.slice q2 nn c2, .slice none 0 0] ws from ⟨HBS.out.below, HBS.out.box, HBS.out.res, HUS.out, HUGE.out⟩)
          clear hws hzz hnn HO2 HU HBR HS HBS HUS
          obtain ⟨x1, hx1⟩ : ∃ v : Value, .slice (some ⟨gb, go, none⟩) la ca = v := ⟨_, rfl⟩
          have hhx1 : x1 = x1 := rfl
          have HU2 := Lib.hid HC2.out.lt
          have HCA := Lib.hid (HC2.out.al (.cells #[] 45))
          have HOA := Lib.hid (own_zeroGone (row_new ws #[] 45) (Nat.le_refl _))
          have HGA := Lib.hid (own_below HG2.out (below_alloc (Below.refl _ _) (.cells #[] 45)))
          have hx1b := HCA.out.cell.2
          clear hx1 hhx1 x1
          go_wp2_with (first
            | (at_builtin; ((refine append1_gone rfl _ _ rfl ws.heap.size (.slice q7 r c7) r ((gonsOf E).take r) rfl (own_below HO7.out (below_alloc (Below.refl _ _) _)) w7.heap.size _ key v rfl (gone_new w7 key v _) (by omega) (Nat.le_trans HZ7.out (by simp)) ?_); intro q8 c8 w8 hown hgrow; have HO7a := Lib.hid (own_below HO7.out (below_alloc (Below.refl _ _) (.cells #[.string key, .int .i64 v] 45))); have HC8 := Lib.hid ((HC7.out.al (.cells #[.string key, .int .i64 v] 45)).grown HO7a.out HU2.out hgrow); have HG8 := Lib.hid (own_grown (own_below HG7.out (below_alloc (Below.refl _ _) (.cells #[.string key, .int .i64 v] 45))) hgrow (own_apart HG2.out (own_lt HG2.out) HO7a.out)); have HO8 := Lib.hid hown; have HZ8 := Lib.hid (Nat.le_trans (Nat.le_trans HZ7.out (by simp)) hgrow.size); obtain ⟨o0, o1⟩ := HC8.out.ocell; have of1 := HC8.out.out.free 1; clear hown hgrow))
            | (at_builtin; ((refine append_gone rfl _ _ rfl ws.heap.size (.slice (some ⟨ws.heap.size, 0, none⟩) 0 0) 0 [] rfl HOA.out _ r _ ((gonsOf E).take r) rfl (by have hd := gones_take (HS0.out.at_.keep HCA.out.below).d hrl; first | exact hd | (simpa using gones_takeA (ca := cg) (n := 2) hd)) (by first | exact HS0.out.nilg | (simpa using nil_takeA (n := 2) HS0.out.nilg)) (by omega) (by simp) ?_); intro q7 c7 w7 hown hgrow; simp only [Nat.zero_add, List.nil_append] at hown; have HC7 := Lib.hid (HCA.out.grown HOA.out HU2.out hgrow); have HG7 := Lib.hid (own_grown HGA.out hgrow (own_apart HG2.out (own_lt HG2.out) HOA.out)); have HO7 := Lib.hid hown; have HZ7 := Lib.hid (Nat.le_trans (by simp : ws.heap.size ≤ (ws.alloc (.cells #[] 45)).heap.size) hgrow.size); clear hown hgrow)))
          obtain ⟨Y, hY⟩ : ∃ Y, ws.heap.size = Y := ⟨_, rfl⟩
          have HUY := Lib.hid (show B12 < Y by rw [← hY]; exact HU2.out)
          have HY2 := Lib.hid (show w.heap.size + 2 ≤ Y by have := HUY.out; have := HUGE.out; omega)
          have HGY := Lib.hid (show ∀ g, (Value.slice q2 nn c2).ownBlock = some g → g < Y from fun g hg => by rw [← hY]; exact own_lt HG2.out g hg)
          rw [hY] at HO8 HZ8
          clear HCA HOA HGA hx1b HC7 HG7 HO7 HZ7 hY HG2 HC2 HU2
          have HG9 := Lib.hid (own_put HG8.out (own_ne_row HG8.out HC8.out.out (by decide)) 1 (.slice q8 (r + 1) c8))
          have HZ9 := Lib.hid (show Y ≤ (w8.setCell ⟨B12, 1, none⟩ (.slice q8 (r + 1) c8)).heap.size by have := HZ8.out; simpa [World.setCell] using this)
          obtain ⟨y, hy⟩ : ∃ y, w8.setCell ⟨B12, 1, none⟩ (.slice q8 (r + 1) c8) = y := ⟨_, rfl⟩
          have HCY := Lib.hid (show CStep w B12 #[.slice (some ⟨gb, go, none⟩) la ca, .slice g lg cg] #[.slice q2 nn c2, .slice q8 (r + 1) c8] y by rw [← hy]; exact HC8.out.set 1 _)
          have HOY := Lib.hid (show y.ownsRow Y 45 2 (.slice q8 (r + 1) c8) (r + 1) (cellsGone ((gonsOf E).take r ++ [(key, v)])) by rw [← hy]; exact own_put HO8.out (fun g hg => by have := (HO8.out.lt g hg).1; have := HUY.out; omega) 1 _)
          rw [hy] at HG9 HZ9 ⊢
          clear hy HG8 HO8 HC8 o0 o1 of1
          have k1 := HCY.out.cell.2
          obtain ⟨u0, u1⟩ := HCY.out.ocell
          obtain ⟨yd, hyd⟩ : ∃ x, y.drew = x := ⟨_, rfl⟩
          have HYD := Lib.hid hyd
          have HCD := Lib.hid (show CStep w B12 #[.slice (some ⟨gb, go, none⟩) la ca, .slice g lg cg] #[.slice q2 nn c2, .slice q8 (r + 1) c8] yd by rw [← hyd]; exact HCY.out.drew)
          have HOD := Lib.hid (show yd.ownsRow Y 45 2 (.slice q8 (r + 1) c8) (r + 1) (cellsGone ((gonsOf E).take r ++ [(key, v)])) by rw [← hyd]; exact own_below HOY.out (Below.refl _ _).drew)
          have HGD := Lib.hid (show yd.ownsRow (w.heap.size + 2) 31 3 (.slice q2 nn c2) nn (cellsObj ((objsOf E).take p ++ (objsOf E).drop (p + 1))) by rw [← hyd]; exact own_below HG9.out (Below.refl _ _).drew)
          have HYZ := Lib.hid (show Y ≤ yd.heap.size by rw [← hyd]; exact HZ9.out)
          clear hyd
          go_still_tail 6, (by kernel_rfl)
          change wpList _ _ _ _ _ y.drew
          rw [HYD.out]
          clear k1 u0 u1 HYD HCY HOY HG9
          go_wp2_with (first
          | (at_builtin; ((refine append_gone rfl _ _ rfl Y (.slice q8 (r + 1) c8) (r + 1) ((gonsOf E).take r ++ [(key, v)]) rfl HOD.out _ (lg - r) _ ((gonsOf E).drop r) rfl (by have hd := gones_dropA (k := r) (HS0.out.at_.keep HCD.out.below).d hrl hcg; simpa using hd) (by first | exact nil_dropA HS0.out.nilg | (simpa using nil_dropA (k := r) (n := 2) HS0.out.nilg)) (by omega) HYZ.out ?_); intro q9 c9 w9 hown hgrow; have HC9 := Lib.hid (HCD.out.grown HOD.out HUY.out hgrow); have HO9 := Lib.hid hown; have HGZ := Lib.hid (own_grown HGD.out hgrow (own_apart HGD.out HGY.out HOD.out)); have v1 := HC9.out.ocell.2; have vf := HC9.out.out.free 1; have HCS := Lib.hid (show CStep w B12 #[.slice (some ⟨gb, go, none⟩) la ca, .slice g lg cg] #[.slice q2 nn c2, .slice q9 (r + 1 + (lg - r)) c9] (w9.setCell ⟨B12, 1, none⟩ (.slice q9 (r + 1 + (lg - r)) c9)) from HC9.out.set 1 _); have s0 := HCS.out.res.cell (j := 0) (by simp); have s1 := HCS.out.res.cell (j := 1) (by simp); have z0 := HCS.out.res.free 0; have z1 := HCS.out.res.free 1; simp at s0 s1; have t0 := HCS.out.ocell.1; have t1 := HCS.out.ocell.2; clear hown hgrow)))
          all_goals
            have hO := own_put HO9.out (fun g hg => by have := (HO9.out.lt g hg).1; have := HUY.out; omega) 1 (.slice q9 (r + 1 + (lg - r)) c9) (X := B12)
            have hG := own_put HGZ.out (own_ne_row HGZ.out HC9.out.out (by decide)) 1 (.slice q9 (r + 1 + (lg - r)) c9)
            have hL : ((gonsOf E).take r ++ [(key, v)] ++ (gonsOf E).drop r).length = r + 1 + (lg - r) := by
              simp only [List.length_append, List.length_take, List.length_drop, HLG.out, List.length_cons, List.length_nil]; omega
            have hM : ((objsOf E).take p ++ (objsOf E).drop (p + 1)).length = nn := by
              rw [← HNN.out]
              simp only [List.length_append, List.length_take, List.length_drop, HLA.out]; omega
            have hK := made_k (w := w) hG hO (Nat.le_refl _) HY2.out hM hL
            have hR : resO (delE key v E) = (objsOf E).take p ++ (objsOf E).drop (p + 1) ∧ resG (delE key v E) = (gonsOf E).take r ++ [(key, v)] ++ (gonsOf E).drop r := by
              rw [HC.out]
              refine ⟨?_, ?_⟩
              · show objsOf (putE key (v, ⟨#[]⟩, true) E) = _
                rw [objs_del HE.out.inc HOB.out]
                unfold poO
                rw [HP.out]
              · show gonsOf (putE key (v, ⟨#[]⟩, true) E) = _
                rw [gons_ins HE.out.inc (by rw [HL.out]; rfl)]
                unfold poG
                rw [HRR.out, List.append_assoc]; rfl
            have hb := ((HCS.out.res.set 0 (.slice q2 nn c2)).set 1 (.slice q9 (r + 1 + (lg - r)) c9))
            unfold Row at hb
            exact bodyPost_ret (v := .tuple #[.agg #[.slice q2 nn c2, .slice q9 (r + 1 + (lg - r)) c9], .int .i64 0]) (by simp [results, Try.results45, go_sem, World.cell?, hb]) rfl ⟨_, _, _, _, _, _, by rw [HC.out], (HCS.out.below.setCell (by show w.heap.size ≤ w.heap.size + 1; omega) _).setCell (by show w.heap.size ≤ w.heap.size + 1; omega) _, by rw [hR.1, hR.2]; exact made_res hK _ _⟩
      · skip
        go_simp
        have HBR2 := Lib.hid (HBR.out.al (.cells #[.slice none 0 0, .slice none 0 0] 27))
        have HNEW := Lib.hid (row_new u0 #[.slice none 0 0, .slice none 0 0] 27)
        have HGE := Lib.hid HBR.out.ge
        obtain ⟨B12, hb12⟩ : ∃ x, u0.heap.size = x := ⟨_, rfl⟩
        obtain ⟨u1, hu2⟩ : ∃ x, u0.alloc (.cells #[.slice none 0 0, .slice none 0 0] 27) = x := ⟨_, rfl⟩
        rw [hb12] at HNEW HGE ⊢
        rw [hu2] at HBR2 HNEW ⊢
        clear hb12 hu2 HBR
        have HU := HNEW
        have HBR := HBR2
        have HUGE := HGE
        clear HNEW HBR2 HGE
        refine hK.out _ _ (⟨HBR, HBR.out.cells.1, HBR.out.cells.2⟩) (fun HS => ?_)
        clear hK K
        refine wpAnyH_ready (rs := [0]) (by kernel_rfl) (by simp) (AllReadyH.cons rfl (fun K hK => ?_) AllReadyH.nil)
        go_simp
        have HBR2 := Lib.hid (HBR.out.al (.cells #[] 31))
        have HNEW := Lib.hid (own_zeroObj (row_new u1 #[] 31) HBR.out.ge)
        have HU := Lib.hid (HU.out.al (.cells #[] 31))
        obtain ⟨B39, hb39⟩ : ∃ x, u1.heap.size = x := ⟨_, rfl⟩
        obtain ⟨u2, hu2⟩ : ∃ x, u1.alloc (.cells #[] 31) = x := ⟨_, rfl⟩
        rw [hb39] at HNEW ⊢
        rw [hu2] at HBR2 HNEW HU ⊢
        clear hb39 hu2 HBR
        have HO39 := HNEW
        have HBR := HBR2
        clear HNEW HBR2
        refine hK.out _ _ (⟨HBR, HBR.out.cells.1, HBR.out.cells.2⟩) (fun HS => ?_)
        clear hK K
        refine wpAnyH_ready (rs := [5]) (by kernel_rfl) (by simp) (AllReadyH.cons rfl (fun K hK => ?_) AllReadyH.nil)
        refine step_append_obj rfl _ _ rfl (w.heap.size + 2) (.slice (some ⟨B39, 0, none⟩) 0 0) 0 [] rfl HO39.out _ p _ ((objsOf E).take p) rfl (objs_take (HS0.out.at_.keep HBR.out.below).o hpl) (fun e => by cases e) (by omega) HBR.out.ge ?_
        intro q1 c1 u3 hown hgrow
        simp only [List.nil_append, Nat.zero_add] at hown
        rw [Nat.zero_add]
        have HO1 := Lib.hid hown
        have HBR2 := Lib.hid (HBR.out.grown HO39.out (Nat.le_refl _) hgrow)
        have HU := Lib.hid (row_grownT HU.out HO39.out (by decide) hgrow)
        have HBR := HBR2
        clear hown hgrow HBR2 HO39
        refine hK.out _ _ (⟨HBR, HBR.out.cells.1, HBR.out.cells.2⟩) (fun HS => ?_)
        clear hK K
        refine wpAnyH_ready (rs := [11]) (by kernel_rfl) (by simp) (AllReadyH.cons rfl (fun K hK => ?_) AllReadyH.nil)
        refine step_append_obj rfl _ _ rfl (w.heap.size + 2) (.slice q1 p c1) p ((objsOf E).take p) rfl HO1.out _ (la - (p + 1)) _ ((objsOf E).drop (p + 1)) rfl (by have hd := objs_dropA (k := p + 1) (HS0.out.at_.keep HBR.out.below).o (by omega) hca; simpa [addr_add] using hd) (by intro e; split at e <;> cases e) (by omega) HBR.out.ge ?_
        intro q2 c2 u4 hown hgrow
        skip
        have HO2 := Lib.hid hown
        have HBR2 := Lib.hid (HBR.out.grown HO1.out (Nat.le_refl _) hgrow)
        have HU := Lib.hid (row_grownT HU.out HO1.out (by decide) hgrow)
        have HBR := HBR2
        clear hown hgrow HBR2 HO1
        refine hK.out _ _ (⟨HBR, HBR.out.cells.1, HBR.out.cells.2⟩) (fun HS => ?_)
        clear hK K
        refine held_take (i := 12) (d := 51) (v := .agg #[.slice q2 (p + (la - (p + 1))) c2, .slice none 0 0]) rfl rfl (by kernel_rfl) (by kernel_rfl) (by kernel_rfl) (by kernel_rfl) (fun wx hS => by go_simp) HS ?_
        refine wpAnyH_ready (rs := [14]) (by kernel_rfl) (by simp) (AllReadyH.cons rfl (fun K hK => ?_) AllReadyH.nil)
        have k0 := HU.out.cell (j := 0) (by simp)
        have k1 := HU.out.cell (j := 1) (by simp)
        have kf0 := HU.out.free 0
        have kf1 := HU.out.free 1
        simp at k0 k1
        go_simp
        have HBS := Lib.hid ((HBR.out.set HUGE.out 0 (.slice q2 (p + (la - (p + 1))) c2)).set HUGE.out 1 (.slice none 0 0))
        refine hK.out _ _ (⟨HBS, HBS.out.cells.1, HBS.out.cells.2⟩) (fun HS => ?_)
        clear hK K k0 k1 kf0 kf1
        refine wpAnyH_done (by kernel_rfl) (NoPanic.normal ?_) _
        have HUS := Lib.hid (show Row ((u4.setCell ⟨B12, 0, none⟩ (.slice q2 (p + (la - (p + 1))) c2)).setCell ⟨B12, 1, none⟩ (.slice none 0 0)) B12 27 #[.slice q2 (p + (la - (p + 1))) c2, .slice none 0 0] from (HU.out.set 0 _).set 1 _)
        have HG2 := Lib.hid (own_put (own_put HO2.out (own_ne_row HO2.out HU.out (by decide)) 0 (.slice q2 (p + (la - (p + 1))) c2)) (own_ne_row HO2.out HU.out (by decide)) 1 (.slice none 0 0))
        obtain ⟨ws, hws⟩ : ∃ x, ((u4.setCell ⟨B12, 0, none⟩ (.slice q2 (p + (la - (p + 1))) c2)).setCell ⟨B12, 1, none⟩ (.slice none 0 0)) = x := ⟨_, rfl⟩
        rw [hws] at HUS HG2 HBS ⊢
        obtain ⟨zz, hzz⟩ : ∃ q : Option Addr, (if ca = p + 1 then some (⟨gb, go, none⟩ : Addr) else some ⟨gb, go + (p + 1) * 3, none⟩) = q := ⟨_, rfl⟩
        rw [hzz]
        obtain ⟨nn, hnn⟩ : ∃ x, p + (la - (p + 1)) = x := ⟨_, rfl⟩
        have HNN := Lib.hid hnn
        rw [hnn] at HUS HG2 ⊢
        have HC2 := Lib.hid (show CStep w B12 #[.slice (some ⟨gb, go, none⟩) la ca, .slice g lg cg] #[.slice q2 nn c2, .slice none 0 0] ws from ⟨HBS.out.below, HBS.out.box, HBS.out.res, HUS.out, HUGE.out⟩)
        clear hws hzz hnn HO2 HU HBR HS HBS HUS
        obtain ⟨x1, hx1⟩ : ∃ v : Value, .slice (some ⟨gb, go, none⟩) la ca = v := ⟨_, rfl⟩
        have hhx1 : x1 = x1 := rfl
        have HU2 := Lib.hid HC2.out.lt
        have HCA := Lib.hid (HC2.out.al (.cells #[] 45))
        have HOA := Lib.hid (own_zeroGone (row_new ws #[] 45) (Nat.le_refl _))
        have HGA := Lib.hid (own_below HG2.out (below_alloc (Below.refl _ _) (.cells #[] 45)))
        have hx1b := HCA.out.cell.2
        clear hx1 hhx1 x1
        go_wp2_with (first
          | (at_builtin; ((refine append1_gone rfl _ _ rfl ws.heap.size (.slice q7 r c7) r ((gonsOf E).take r) rfl (own_below HO7.out (below_alloc (Below.refl _ _) _)) w7.heap.size _ key v rfl (gone_new w7 key v _) (by omega) (Nat.le_trans HZ7.out (by simp)) ?_); intro q8 c8 w8 hown hgrow; have HO7a := Lib.hid (own_below HO7.out (below_alloc (Below.refl _ _) (.cells #[.string key, .int .i64 v] 45))); have HC8 := Lib.hid ((HC7.out.al (.cells #[.string key, .int .i64 v] 45)).grown HO7a.out HU2.out hgrow); have HG8 := Lib.hid (own_grown (own_below HG7.out (below_alloc (Below.refl _ _) (.cells #[.string key, .int .i64 v] 45))) hgrow (own_apart HG2.out (own_lt HG2.out) HO7a.out)); have HO8 := Lib.hid hown; have HZ8 := Lib.hid (Nat.le_trans (Nat.le_trans HZ7.out (by simp)) hgrow.size); obtain ⟨o0, o1⟩ := HC8.out.ocell; have of1 := HC8.out.out.free 1; clear hown hgrow))
          | (at_builtin; ((refine append_gone rfl _ _ rfl ws.heap.size (.slice (some ⟨ws.heap.size, 0, none⟩) 0 0) 0 [] rfl HOA.out _ r _ ((gonsOf E).take r) rfl (by have hd := gones_take (HS0.out.at_.keep HCA.out.below).d hrl; first | exact hd | (simpa using gones_takeA (ca := cg) (n := 2) hd)) (by first | exact HS0.out.nilg | (simpa using nil_takeA (n := 2) HS0.out.nilg)) (by omega) (by simp) ?_); intro q7 c7 w7 hown hgrow; simp only [Nat.zero_add, List.nil_append] at hown; have HC7 := Lib.hid (HCA.out.grown HOA.out HU2.out hgrow); have HG7 := Lib.hid (own_grown HGA.out hgrow (own_apart HG2.out (own_lt HG2.out) HOA.out)); have HO7 := Lib.hid hown; have HZ7 := Lib.hid (Nat.le_trans (by simp : ws.heap.size ≤ (ws.alloc (.cells #[] 45)).heap.size) hgrow.size); clear hown hgrow)))
        obtain ⟨Y, hY⟩ : ∃ Y, ws.heap.size = Y := ⟨_, rfl⟩
        have HUY := Lib.hid (show B12 < Y by rw [← hY]; exact HU2.out)
        have HY2 := Lib.hid (show w.heap.size + 2 ≤ Y by have := HUY.out; have := HUGE.out; omega)
        have HGY := Lib.hid (show ∀ g, (Value.slice q2 nn c2).ownBlock = some g → g < Y from fun g hg => by rw [← hY]; exact own_lt HG2.out g hg)
        rw [hY] at HO8 HZ8
        clear HCA HOA HGA hx1b HC7 HG7 HO7 HZ7 hY HG2 HC2 HU2
        have HG9 := Lib.hid (own_put HG8.out (own_ne_row HG8.out HC8.out.out (by decide)) 1 (.slice q8 (r + 1) c8))
        have HZ9 := Lib.hid (show Y ≤ (w8.setCell ⟨B12, 1, none⟩ (.slice q8 (r + 1) c8)).heap.size by have := HZ8.out; simpa [World.setCell] using this)
        obtain ⟨y, hy⟩ : ∃ y, w8.setCell ⟨B12, 1, none⟩ (.slice q8 (r + 1) c8) = y := ⟨_, rfl⟩
        have HCY := Lib.hid (show CStep w B12 #[.slice (some ⟨gb, go, none⟩) la ca, .slice g lg cg] #[.slice q2 nn c2, .slice q8 (r + 1) c8] y by rw [← hy]; exact HC8.out.set 1 _)
        have HOY := Lib.hid (show y.ownsRow Y 45 2 (.slice q8 (r + 1) c8) (r + 1) (cellsGone ((gonsOf E).take r ++ [(key, v)])) by rw [← hy]; exact own_put HO8.out (fun g hg => by have := (HO8.out.lt g hg).1; have := HUY.out; omega) 1 _)
        rw [hy] at HG9 HZ9 ⊢
        clear hy HG8 HO8 HC8 o0 o1 of1
        have k1 := HCY.out.cell.2
        obtain ⟨u0, u1⟩ := HCY.out.ocell
        obtain ⟨yd, hyd⟩ : ∃ x, y.drew = x := ⟨_, rfl⟩
        have HYD := Lib.hid hyd
        have HCD := Lib.hid (show CStep w B12 #[.slice (some ⟨gb, go, none⟩) la ca, .slice g lg cg] #[.slice q2 nn c2, .slice q8 (r + 1) c8] yd by rw [← hyd]; exact HCY.out.drew)
        have HOD := Lib.hid (show yd.ownsRow Y 45 2 (.slice q8 (r + 1) c8) (r + 1) (cellsGone ((gonsOf E).take r ++ [(key, v)])) by rw [← hyd]; exact own_below HOY.out (Below.refl _ _).drew)
        have HGD := Lib.hid (show yd.ownsRow (w.heap.size + 2) 31 3 (.slice q2 nn c2) nn (cellsObj ((objsOf E).take p ++ (objsOf E).drop (p + 1))) by rw [← hyd]; exact own_below HG9.out (Below.refl _ _).drew)
        have HYZ := Lib.hid (show Y ≤ yd.heap.size by rw [← hyd]; exact HZ9.out)
        clear hyd
        go_still_tail 6, (by kernel_rfl)
        change wpList _ _ _ _ _ y.drew
        rw [HYD.out]
        clear k1 u0 u1 HYD HCY HOY HG9
        go_wp2_with (first
          | (at_builtin; ((refine append_gone rfl _ _ rfl Y (.slice q8 (r + 1) c8) (r + 1) ((gonsOf E).take r ++ [(key, v)]) rfl HOD.out _ (lg - r) _ ((gonsOf E).drop r) rfl (by have hd := gones_dropA (k := r) (HS0.out.at_.keep HCD.out.below).d hrl hcg; simpa using hd) (by first | exact nil_dropA HS0.out.nilg | (simpa using nil_dropA (k := r) (n := 2) HS0.out.nilg)) (by omega) HYZ.out ?_); intro q9 c9 w9 hown hgrow; have HC9 := Lib.hid (HCD.out.grown HOD.out HUY.out hgrow); have HO9 := Lib.hid hown; have HGZ := Lib.hid (own_grown HGD.out hgrow (own_apart HGD.out HGY.out HOD.out)); have v1 := HC9.out.ocell.2; have vf := HC9.out.out.free 1; have HCS := Lib.hid (show CStep w B12 #[.slice (some ⟨gb, go, none⟩) la ca, .slice g lg cg] #[.slice q2 nn c2, .slice q9 (r + 1 + (lg - r)) c9] (w9.setCell ⟨B12, 1, none⟩ (.slice q9 (r + 1 + (lg - r)) c9)) from HC9.out.set 1 _); have s0 := HCS.out.res.cell (j := 0) (by simp); have s1 := HCS.out.res.cell (j := 1) (by simp); have z0 := HCS.out.res.free 0; have z1 := HCS.out.res.free 1; simp at s0 s1; have t0 := HCS.out.ocell.1; have t1 := HCS.out.ocell.2; clear hown hgrow)))
        all_goals
          have hO := own_put HO9.out (fun g hg => by have := (HO9.out.lt g hg).1; have := HUY.out; omega) 1 (.slice q9 (r + 1 + (lg - r)) c9) (X := B12)
          have hG := own_put HGZ.out (own_ne_row HGZ.out HC9.out.out (by decide)) 1 (.slice q9 (r + 1 + (lg - r)) c9)
          have hL : ((gonsOf E).take r ++ [(key, v)] ++ (gonsOf E).drop r).length = r + 1 + (lg - r) := by
            simp only [List.length_append, List.length_take, List.length_drop, HLG.out, List.length_cons, List.length_nil]; omega
          have hM : ((objsOf E).take p ++ (objsOf E).drop (p + 1)).length = nn := by
            rw [← HNN.out]
            simp only [List.length_append, List.length_take, List.length_drop, HLA.out]; omega
          have hK := made_k (w := w) hG hO (Nat.le_refl _) HY2.out hM hL
          have hR : resO (delE key v E) = (objsOf E).take p ++ (objsOf E).drop (p + 1) ∧ resG (delE key v E) = (gonsOf E).take r ++ [(key, v)] ++ (gonsOf E).drop r := by
            rw [HC.out]
            refine ⟨?_, ?_⟩
            · show objsOf (putE key (v, ⟨#[]⟩, true) E) = _
              rw [objs_del HE.out.inc HOB.out]
              unfold poO
              rw [HP.out]
            · show gonsOf (putE key (v, ⟨#[]⟩, true) E) = _
              rw [gons_ins HE.out.inc (by rw [HL.out]; rfl)]
              unfold poG
              rw [HRR.out, List.append_assoc]; rfl
          have hb := ((HCS.out.res.set 0 (.slice q2 nn c2)).set 1 (.slice q9 (r + 1 + (lg - r)) c9))
          unfold Row at hb
          exact bodyPost_ret (v := .tuple #[.agg #[.slice q2 nn c2, .slice q9 (r + 1 + (lg - r)) c9], .int .i64 0]) (by simp [results, Try.results45, go_sem, World.cell?, hb]) rfl ⟨_, _, _, _, _, _, by rw [HC.out], (HCS.out.below.setCell (by show w.heap.size ≤ w.heap.size + 1; omega) _).setCell (by show w.heap.size ≤ w.heap.size + 1; omega) _, by rw [hR.1, hR.2]; exact made_res hK _ _⟩
    · have HC := Lib.hid (del_ver HL.out rfl hv)
      have hv2 : ((v : Int) == ver) = false := by rw [beq_eq_false_iff_ne]; exact hv
      go_wp2
      have hb := HBR.out
      exact bodyPost_ret (v := .tuple #[.agg #[.slice none 0 0, .slice none 0 0], .int .i64 5]) (by simp [results, Try.results45, go_sem, World.cell?, hb]) rfl (HNO.out 5 HC.out (by decide))
end Go.Proofs.Ytblpebdjbenphaa
