
/- The model's command l7Create on stores that may be read. Only new blocks are made. -/
import Derived.Test.YtblpebdjbenphaaL7K
import Derived.StillTailTactics
namespace Go.Proofs.Ytblpebdjbenphaa
open Go.ChangeShapes Go.WideShapes Go.ChangeAt Go.RowKit
set_option linter.unusedVariables false
set_option maxRecDepth 100000

set_option maxHeartbeats 4000000 in
theorem l7create_any (a g : Option Addr) (la ca lg cg : Nat) (E : Els) (key data : ByteArray) (w : World) (hE : EP E) (h : StoI w a la ca (objsOf E) g lg cg (gonsOf E)) :
    Calls Try.prog 43 #[.agg #[.slice a la ca, .slice g lg cg], .string key, .string data] w (MadeSR (createE key data E) w) := by
  have HS := Lib.hid h
  have HE := Lib.hid hE
  have hm := h.capo.2
  have hm2 := h.capg.2
  have hca := h.capo.1
  have hcg := h.capg.1
  unfold maxLen at hm hm2
  have hla : (objsOf E).length = la := h.at_.o.length
  have hlg : (gonsOf E).length = lg := h.at_.d.length
  have hfew := hE.few
  have hsum := objs_gons_len E
  rw [hla, hlg] at hsum
  have HLA := Lib.hid hla
  have HLG := Lib.hid hlg
  obtain ⟨W0, hW0⟩ : ∃ W0, (w.alloc (.cells #[.slice a la ca, .slice g lg cg] 27)).alloc (.cells #[.slice none 0 0, .slice none 0 0] 27) = W0 := ⟨_, rfl⟩
  have HB := Lib.hid (show Below w.heap.size w W0 by rw [← hW0]; exact below_alloc (below_alloc (Below.refl _ _) _) _)
  have HX := Lib.hid (show Row W0 w.heap.size 27 #[.slice a la ca, .slice g lg cg] by rw [← hW0]; exact (row_new _ _ _).al _)
  have HR := Lib.hid (show Row W0 (w.heap.size + 1) 27 #[.slice none 0 0, .slice none 0 0] by rw [← hW0]; exact row_new1 _ _ _ _)
  have HW0 := Lib.hid hW0
  clear h hE hW0 hla hlg
  go_enter Try.func43, Try.ntmps43
  go_wp2_with fail
  rw [HW0.out]
  obtain ⟨p, hp⟩ : ∃ p, posT (okeys (objsOf E)) key = p := ⟨_, rfl⟩
  obtain ⟨r, hr⟩ : ∃ r, posT (gkeys (gonsOf E)) key = r := ⟨_, rfl⟩
  have hpl : p ≤ la := by
    have := posT_le (okeys (objsOf E)) key
    rw [hp, okeys_len, HLA.out] at this; exact this
  have hrl : r ≤ lg := by
    have := posT_le (gkeys (gonsOf E)) key
    rw [hr, gkeys_len, HLG.out] at this; exact this
  have HP := Lib.hid hp
  have HRR := Lib.hid hr
  clear hp hr
  refine (l7find_any _ _ _ _ _ _ _ _ _ _ (HS.out.at_.keep HB.out)).mono ?_
  unfold MadeFound
  rw [HP.out, isO_look HE.out.inc]
  rintro e w1 ⟨rfl, hB⟩
  have HX := Lib.hid (HX.out.keep hB)
  have HR := Lib.hid (HR.out.keep hB)
  have HB := Lib.hid (below_via HB.out hB)
  clear hB HW0
  have x0 := HX.out.cell (j := 0) (by simp)
  have x1 := HX.out.cell (j := 1) (by simp)
  have r0 := HR.out.cell (j := 0) (by simp)
  have r1 := HR.out.cell (j := 1) (by simp)
  have f0 := HR.out.free 0
  have f1 := HR.out.free 1
  simp at x0 x1 r0 r1
  cases hob : obIs (lookE key E) with
  | true =>
    obtain ⟨e, hl, hg⟩ : ∃ e, lookE key E = some e ∧ e.2.2 = false := by
      cases hl : lookE key E with
      | none => rw [hl] at hob; cases hob
      | some e => rw [hl] at hob; exact ⟨e, rfl, by simpa [obIs] using hob⟩
    have HC := Lib.hid (create_there (data := data) hl hg)
    clear hob hl hg e
    go_wp2
    have hb := ((HR.out.set 0 (.slice none 0 0)).set 1 (.slice none 0 0))
    unfold Row at hb
    exact bodyPost_ret (v := .tuple #[.agg #[.slice none 0 0, .slice none 0 0], .int .i64 0, .int .i64 2]) (by simp [results, Try.results43, go_sem, World.cell?, hb]) rfl ⟨none, 0, 0, none, 0, 0, by rw [HC.out], (HB.out.setCell (by show w.heap.size ≤ w.heap.size + 1; omega) _).setCell (by show w.heap.size ≤ w.heap.size + 1; omega) _, by rw [HC.out]; exact StoK.nil _ _⟩
  | false =>
    have HOB := Lib.hid hob
    clear hob
    go_wp2_with fail
    refine (l7gone_any _ _ _ _ _ _ _ _ _ _ (HS.out.at_.keep HB.out)).mono ?_
    unfold MadeFound
    rw [HRR.out, isG_look HE.out.inc]
    rintro e w2 ⟨rfl, hB⟩
    have HX := Lib.hid (HX.out.keep hB)
    have HR := Lib.hid (HR.out.keep hB)
    have HB := Lib.hid (below_via HB.out hB)
    clear hB x0 x1 r0 r1 f0 f1
    have x1 := ((HX.out.al (.cells #[] 45)).cell (j := 1) (by simp))
    simp at x1
    have HXq := Lib.hid (HX.out.al (.cells #[] 45))
    have HRq := Lib.hid (HR.out.al (.cells #[] 45))
    have HBq := Lib.hid (below_alloc HB.out (.cells #[] 45))
    have HZ := Lib.hid (show w.heap.size + 1 < w2.heap.size from HR.out.lt)
    have HO := Lib.hid (own_zeroGone (row_new w2 #[] 45) (show w.heap.size + 2 ≤ w2.heap.size from HZ.out))
    have hp0 : (0 : Int) ≤ (p : Int) := by omega
    have hp1 : (p : Int) ≤ (ca : Int) := by omega
    have hp2 : (p : Int) ≤ (la : Int) := by omega
    cases hgb : goIs (lookE key E)
    case' true =>
      obtain ⟨e, hl, hg⟩ : ∃ e, lookE key E = some e ∧ e.2.2 = true := by
        cases hl : lookE key E with
        | none => rw [hl] at hgb; cases hgb
        | some e => rw [hl] at hgb; exact ⟨e, rfl, by simpa [goIs] using hgb⟩
      obtain ⟨v, dd, gg⟩ := e
      obtain rfl : gg = true := hg
      obtain ⟨hv1, hv2, hv3, hv4⟩ := ep_look HE.out hl
      simp only at hv1 hv2
      obtain ⟨hrl2, hra⟩ := gon_at_look HE.out.inc hl rfl
      unfold poG at hrl2 hra
      rw [HRR.out] at hrl2 hra
      rw [HLG.out] at hrl2
      have HL := Lib.hid hl
      have hgv : gone1 (gonsOf E) r = v := by unfold gone1; rw [List.getD_eq_getElem?_getD, hra]; rfl
      have HGM := Lib.hid (show ∀ V : Int, gonsOf (putE key (V, data, false) E) = (gonsOf E).take r ++ (gonsOf E).drop (r + 1) from fun V => by
        rw [gons_del HE.out.inc hgb]
        unfold poG
        rw [HRR.out])
      have hgl : ((gonsOf E).take r ++ (gonsOf E).drop (r + 1)).length = r + (lg - (r + 1)) := by
        rw [List.length_append, List.length_take, List.length_drop, HLG.out]; omega
      have HGLN := Lib.hid hgl
      clear hl hra hgb hgl hv3 hv4
      rcases HS.out.at_.d.src with h0 | ⟨gb, go, rfl, hgb, hga⟩
      · omega
      have hgc := (hga r hrl2).2
      rw [hgv] at hgc
      have HGC := Lib.hid (And.intro hgb hgc)
      clear hgb hgc hgv hga
      go_wp2_with (at_builtin; (refine append_gone rfl _ _ rfl (w.heap.size + 2) _ 0 [] rfl HO.out (some ⟨gb, go, none⟩) lg cg (gonsOf E) rfl (HS.out.at_.keep HBq.out).d HS.out.nilg (by omega) (Nat.le_trans (show w.heap.size + 2 ≤ w2.heap.size from HZ.out) (by simp)) ?_); intro q2 c2 w3 hown hgrow; simp only [Nat.zero_add, List.nil_append] at hown; have HO2 := Lib.hid hown; have HX3 := Lib.hid (HXq.out.grown hgrow (own_ne_of HO.out (by omega))); have HR3 := Lib.hid (HRq.out.grown hgrow (own_ne_of HO.out (by omega))); have HB3 := Lib.hid (HBq.out.grown hgrow HBq.out.size (own_ge_of HO.out (by omega))); have y1 := ((HX3.out.al (.cells #[.slice none 0 0, .slice q2 lg c2] 27)).cell (j := 1) (by simp)); simp at y1; have gc := ((below_alloc HB3.out (.cells #[.slice none 0 0, .slice q2 lg c2] 27)).cell (p := ⟨gb, go + r * 2 + 1, none⟩) HGC.out.1).trans HGC.out.2; clear hown hgrow x1)
      obtain ⟨U, hU⟩ : ∃ U, w3.heap.size = U := ⟨_, rfl⟩
      obtain ⟨u, hu⟩ : ∃ u, w3.alloc (.cells #[.slice none 0 0, .slice q2 lg c2] 27) = u := ⟨_, rfl⟩
      have HC := Lib.hid (show CStep w U #[.slice a la ca, .slice (some ⟨gb, go, none⟩) lg cg] #[.slice none 0 0, .slice q2 lg c2] u from ⟨by rw [← hu]; exact below_alloc HB3.out _, by rw [← hu]; exact HX3.out.al _, by rw [← hu]; exact HR3.out.al _, by rw [← hu, ← hU]; exact row_new _ _ _, by rw [← hU]; exact HR3.out.lt⟩)
      rw [hU, hu]
      clear hU hu y1 gc HO HO2 HX HR HB HX3 HR3 HB3 HXq HRq HBq HZ
      have HSD := Lib.hid ((HC.out.al (.cells #[] 45)).drew)
      have HOW := Lib.hid (own_zeroGone (w := (u.alloc (.cells #[] 45)).drew) (row_new u #[] 45) (show U + 1 ≤ u.heap.size from HC.out.lt))
      have hi0 : (0 : Int) ≤ (r : Int) := by omega
      have hi1 : (r : Int) ≤ (cg : Int) := by omega
      have hi2 : (0 : Int) ≤ (r : Int) + 1 := by omega
      have hi3 : (r : Int) + 1 ≤ (lg : Int) := by omega
      have hi4 : ((r : Int) + 1).toNat = r + 1 := by omega
      have hi5 : ¬ cg = 0 := by omega
      have hi7 : (r : Int) ≤ (r : Int) + 1 := by omega
      have hi6 : IntKind.i64.wrap ((r : Int) + 1) = (r : Int) + 1 := IntWalk.i64_in _ (by omega)
      go_region_held3 (fun w' => Hid (∃ ob, CStep w U #[.slice a la ca, .slice (some ⟨gb, go, none⟩) lg cg] ob w') ∧ w'.cell? ⟨w.heap.size, 1, none⟩ = some (.slice (some ⟨gb, go, none⟩) lg cg))
        (first | exact ⟨Lib.hid ⟨_, HC.out.drew⟩, HC.out.drew.cell.2⟩ | exact ⟨Lib.hid ⟨_, HSD.out⟩, HSD.out.cell.2⟩ | exact ⟨Lib.hid ⟨_, HC5.out⟩, HC5.out.cell.2⟩ | exact ⟨Lib.hid ⟨_, HC6.out⟩, HC6.out.cell.2⟩ | exact ⟨Lib.hid ⟨_, HC6.out.set 1 _⟩, (HC6.out.set 1 _).cell.2⟩)
        (first
          | ((refine step_append_gone rfl _ _ rfl (U + 1) (.slice (some ⟨u.heap.size, 0, none⟩) 0 0) 0 [] rfl HOW.out _ r _ ((gonsOf E).take r) rfl (gones_take (HS.out.at_.keep HSD.out.below).d (by omega)) (fun e => by cases e) (by omega) HSD.out.lt ?_); intro q4 c4 w5 hown hgrow; have HC5 := Lib.hid (HSD.out.grown HOW.out (Nat.lt_succ_self _) hgrow); simp only [List.nil_append] at hown; have HO5 := Lib.hid hown; clear hown hgrow)
          | ((refine step_append_gone rfl _ _ rfl (U + 1) (.slice q4 (0 + r) c4) (0 + r) ((gonsOf E).take r) rfl HO5.out _ (lg - (r + 1)) _ ((gonsOf E).drop (r + 1)) rfl (by have hd := gones_dropA (k := r + 1) (HS.out.at_.keep HC5.out.below).d (by omega) hcg; simpa [addr_add] using hd) (by intro e; split at e <;> cases e) (by omega) HC5.out.lt ?_); intro q6 c6 w6 hown hgrow; have HC6 := Lib.hid (HC5.out.grown HO5.out (Nat.lt_succ_self _) hgrow); simp only [Nat.zero_add] at hown; have HO6 := Lib.hid hown; obtain ⟨o0, o1⟩ := HC6.out.ocell; have of1 := HC6.out.out.free 1; clear hown hgrow))
      obtain ⟨u2, hu2⟩ : ∃ x, w6.setCell ⟨U, 1, none⟩ (.slice q6 (r + (lg - (r + 1))) c6) = x := ⟨_, rfl⟩
      have HC2 := Lib.hid (show CStep w U #[.slice a la ca, .slice (some ⟨gb, go, none⟩) lg cg] #[.slice none 0 0, .slice q6 (r + (lg - (r + 1))) c6] u2 by rw [← hu2]; exact HC6.out.set 1 _)
      have HG2 := Lib.hid (show u2.ownsRow (w.heap.size + 2) 45 2 (.slice q6 (r + (lg - (r + 1))) c6) (r + (lg - (r + 1))) (cellsGone ((gonsOf E).take r ++ (gonsOf E).drop (r + 1))) by
        rw [← hu2]
        exact own_low (own_put HO6.out (fun g hg => by have := (HO6.out.lt g hg).1; omega) 1 _) (by have := HC6.out.big; omega))
      rw [hu2]
      obtain ⟨zz, hzz⟩ : ∃ q : Option Addr, (if cg = r + 1 then some (⟨gb, go, none⟩ : Addr) else some ⟨gb, go + (r + 1) * 2, none⟩) = q := ⟨_, rfl⟩
      rw [hzz]
      clear hzz hu2 o0 o1 of1 HO6 HC6 HC5 HO5 HSD HOW HC
      obtain ⟨V, hV⟩ : ∃ V, v + 1 = V := ⟨_, rfl⟩
      rw [hV]
      have HV1 := Lib.hid hV
      have hV1 : 1 ≤ V := by omega
      have hV2 : V ≤ 1000001 := by omega
      have HCR := Lib.hid (show (1000000 < V → createE key data E = (E, 0, 3)) ∧ (¬ 1000000 < V → createE key data E = (putE key (V, data, false) E, V, 0)) from ⟨fun h => create_full HL.out rfl (by show v = _; omega), fun h => by rw [← hV]; exact create_again HL.out rfl (by show v ≠ _; omega)⟩)
      have HGM := Lib.hid (HGM.out V)
      obtain ⟨nn, hnn⟩ : ∃ nn, r + (lg - (r + 1)) = nn := ⟨_, rfl⟩
      rw [hnn] at HG2 HC2 HGLN ⊢
      obtain ⟨M, hM⟩ : ∃ M, (gonsOf E).take r ++ (gonsOf E).drop (r + 1) = M := ⟨_, rfl⟩
      rw [hM] at HG2 HGM HGLN
      obtain ⟨gad, hgad⟩ : ∃ q : Option Addr, some (⟨gb, go, none⟩ : Addr) = q := ⟨_, rfl⟩
      rw [hgad] at HC2 HS ⊢
      clear hV hnn hM HV1 hgad hi0 hi1 hi2 hi3 hi4 hi5 hi6 hi7 HL HGC hv1 hv2
      by_cases hfull : 1000000 < V
      · have HCF := Lib.hid (HCR.out.1 hfull)
        have r0 := HC2.out.res.cell (j := 0) (by simp)
        have r1 := HC2.out.res.cell (j := 1) (by simp)
        have f0 := HC2.out.res.free 0
        have f1 := HC2.out.res.free 1
        simp at r0 r1
        go_wp2
        have hb := ((HC2.out.res.set 0 (.slice none 0 0)).set 1 (.slice none 0 0))
        unfold Row at hb
        exact bodyPost_ret (v := .tuple #[.agg #[.slice none 0 0, .slice none 0 0], .int .i64 0, .int .i64 3]) (by simp [results, Try.results43, go_sem, World.cell?, hb]) rfl ⟨none, 0, 0, none, 0, 0, by rw [HCF.out], (HC2.out.below.setCell (by show w.heap.size ≤ w.heap.size + 1; omega) _).setCell (by show w.heap.size ≤ w.heap.size + 1; omega) _, by rw [HCF.out]; exact StoK.nil _ _⟩
      have HCN := Lib.hid (HCR.out.2 hfull)
      clear HCR
      have HU2 := Lib.hid HC2.out.lt
      have HCA := Lib.hid (HC2.out.al (.cells #[] 31))
      have HOA := Lib.hid (own_zeroObj (row_new u2 #[] 31) (Nat.le_refl _))
      have HGA := Lib.hid (own_below HG2.out (below_alloc (Below.refl _ _) (.cells #[] 31)))
      have hx0 := HCA.out.cell.1
      go_wp2_with (first
        | (at_builtin; ((refine append1_obj rfl _ _ rfl u2.heap.size (.slice q7 p c7) p ((objsOf E).take p) rfl (own_below HO7.out (below_alloc (Below.refl _ _) _)) w7.heap.size _ key (V) data rfl (obj_new w7 key (V) data _) (by omega) (Nat.le_trans HZ7.out (by simp)) ?_); intro q8 c8 w8 hown hgrow; have HO7a := Lib.hid (own_below HO7.out (below_alloc (Below.refl _ _) (.cells #[.string key, .int .i64 (V), .string data] 31))); have HC8 := Lib.hid ((HC7.out.al (.cells #[.string key, .int .i64 (V), .string data] 31)).grown HO7a.out HU2.out hgrow); have HG8 := Lib.hid (own_grown (own_below HG7.out (below_alloc (Below.refl _ _) (.cells #[.string key, .int .i64 (V), .string data] 31))) hgrow (own_apart HG2.out (own_lt HG2.out) HO7a.out)); have HO8 := Lib.hid hown; have HZ8 := Lib.hid (Nat.le_trans (Nat.le_trans HZ7.out (by simp)) hgrow.size); obtain ⟨o0, o1⟩ := HC8.out.ocell; have of0 := HC8.out.out.free 0; clear hown hgrow))
        | (at_builtin; ((refine append_obj rfl _ _ rfl u2.heap.size (.slice (some ⟨u2.heap.size, 0, none⟩) 0 0) 0 [] rfl HOA.out _ p _ ((objsOf E).take p) rfl (by have hd := objs_take (HS.out.at_.keep HCA.out.below).o hpl; first | exact hd | (simpa using objs_takeA (ca := ca) (n := 3) hd)) (by first | exact HS.out.nilo | (simpa using nil_takeA (n := 3) HS.out.nilo)) (by omega) (by simp) ?_); intro q7 c7 w7 hown hgrow; simp only [Nat.zero_add, List.nil_append] at hown; have HC7 := Lib.hid (HCA.out.grown HOA.out HU2.out hgrow); have HG7 := Lib.hid (own_grown HGA.out hgrow (own_apart HG2.out (own_lt HG2.out) HOA.out)); have HO7 := Lib.hid hown; have HZ7 := Lib.hid (Nat.le_trans (by simp : u2.heap.size ≤ (u2.alloc (.cells #[] 31)).heap.size) hgrow.size); clear hown hgrow)))
      have HY := Lib.hid HG2.out
      obtain ⟨Y, hY⟩ : ∃ Y, u2.heap.size = Y := ⟨_, rfl⟩
      rw [hY] at HO8 HU2 HZ8
      have HUY := Lib.hid (show U < Y from HU2.out)
      have HY2 := Lib.hid (show w.heap.size + 2 ≤ Y by have := HC2.out.big; have := HU2.out; omega)
      have HGY := Lib.hid (show ∀ g, (Value.slice q6 nn c6).ownBlock = some g → g < Y from fun g hg => by rw [← hY]; exact own_lt HG2.out g hg)
      obtain ⟨x2, hx2⟩ : ∃ v : Value, Value.slice gad lg cg = v := ⟨_, rfl⟩
      rw [hx2] at HC8
      clear HCA HOA HGA hx0 HC7 HG7 HO7 HZ7 HY hY HG2 HC2 hx2
    case' false =>
      have hl : lookE key E = none := by
        cases hl : lookE key E with
        | none => rfl
        | some e =>
          have h1 := HOB.out
          rw [hl] at h1 hgb
          simp only [obIs, goIs] at h1 hgb
          rw [hgb] at h1
          cases h1
      have HL := Lib.hid hl
      have HGM0 := Lib.hid (show ∀ V : Int, gonsOf (putE key (V, data, false) E) = gonsOf E from fun V => gons_same HE.out.inc hgb)
      clear hl hgb
      by_cases hfull0 : E.length = 1100
      · have hf : (1100 : Int) ≤ (la : Int) + (lg : Int) := by omega
        have HCR := Lib.hid (create_room (data := data) HL.out hfull0)
        go_wp2_with (at_builtin; (refine append_gone rfl _ _ rfl (w.heap.size + 2) _ 0 [] rfl HO.out g lg cg (gonsOf E) rfl (HS.out.at_.keep HBq.out).d HS.out.nilg (by omega) (Nat.le_trans (show w.heap.size + 2 ≤ w2.heap.size from HZ.out) (by simp)) ?_); intro q2 c2 w3 hown hgrow; simp only [Nat.zero_add, List.nil_append] at hown; have HO2 := Lib.hid hown; have HX3 := Lib.hid (HXq.out.grown hgrow (own_ne_of HO.out (by omega))); have HR3 := Lib.hid (HRq.out.grown hgrow (own_ne_of HO.out (by omega))); have HB3 := Lib.hid (HBq.out.grown hgrow HBq.out.size (own_ge_of HO.out (by omega))); have HR4 := Lib.hid (HR3.out.al (.cells #[.slice none 0 0, .slice q2 lg c2] 27)); have y0 := ((HX3.out.al (.cells #[.slice none 0 0, .slice q2 lg c2] 27)).cell (j := 0) (by simp)); have y1 := ((HX3.out.al (.cells #[.slice none 0 0, .slice q2 lg c2] 27)).cell (j := 1) (by simp)); have r0 := HR4.out.cell (j := 0) (by simp); have r1 := HR4.out.cell (j := 1) (by simp); have f0 := HR4.out.free 0; have f1 := HR4.out.free 1; simp at y0 y1 r0 r1; clear hown hgrow x1)
        have hb := ((HR4.out.set 0 (.slice none 0 0)).set 1 (.slice none 0 0))
        unfold Row at hb
        exact bodyPost_ret (v := .tuple #[.agg #[.slice none 0 0, .slice none 0 0], .int .i64 0, .int .i64 3]) (by simp [results, Try.results43, go_sem, World.cell?, hb]) rfl ⟨none, 0, 0, none, 0, 0, by rw [HCR.out], ((below_alloc HB3.out _).setCell (by show w.heap.size ≤ w.heap.size + 1; omega) _).setCell (by show w.heap.size ≤ w.heap.size + 1; omega) _, by rw [HCR.out]; exact StoK.nil _ _⟩
      have hf : ¬ (1100 : Int) ≤ (la : Int) + (lg : Int) := by omega
      go_wp2_with (first
        | (at_builtin; ((refine append1_obj rfl _ _ rfl (w3.heap.size + 1) (.slice q7 p c7) p ((objsOf E).take p) rfl (own_below HO7.out (below_alloc (Below.refl _ _) _)) w7.heap.size _ key (1) data rfl (obj_new w7 key (1) data _) (by omega) (Nat.le_trans HZ7.out (by simp)) ?_); intro q8 c8 w8 hown hgrow; have HO7a := Lib.hid (own_below HO7.out (below_alloc (Below.refl _ _) (.cells #[.string key, .int .i64 (1), .string data] 31))); have HC8 := Lib.hid ((HC7.out.al (.cells #[.string key, .int .i64 (1), .string data] 31)).grown HO7a.out HU2.out hgrow); have HG8 := Lib.hid (own_grown (own_below HG7.out (below_alloc (Below.refl _ _) (.cells #[.string key, .int .i64 (1), .string data] 31))) hgrow (own_apart HG2.out (fun g hg => by have := own_lt HG2.out g hg; simpa using this) HO7a.out)); have HO8 := Lib.hid hown; have HZ8 := Lib.hid (Nat.le_trans (Nat.le_trans HZ7.out (by simp)) hgrow.size); obtain ⟨o0, o1⟩ := HC8.out.ocell; have of0 := HC8.out.out.free 0; clear hown hgrow))
        | (at_builtin; ((refine append_obj rfl _ _ rfl (w3.heap.size + 1) (.slice (some ⟨(w3.heap.size + 1), 0, none⟩) 0 0) 0 [] rfl HOA.out _ p _ ((objsOf E).take p) rfl (by have hd := objs_take (HS.out.at_.keep HCA.out.below).o hpl; first | exact hd | (simpa using objs_takeA (ca := ca) (n := 3) hd)) (by first | exact HS.out.nilo | (simpa using nil_takeA (n := 3) HS.out.nilo)) (by omega) (by simp) ?_); intro q7 c7 w7 hown hgrow; simp only [Nat.zero_add, List.nil_append] at hown; have HC7 := Lib.hid (HCA.out.grown HOA.out HU2.out hgrow); have HG7 := Lib.hid (own_grown HGA.out hgrow (own_apart HG2.out (fun g hg => by have := own_lt HG2.out g hg; simpa using this) HOA.out)); have HO7 := Lib.hid hown; have HZ7 := Lib.hid (Nat.le_trans (by simp : w3.heap.size + 1 ≤ ((w3.alloc (.cells #[.slice none 0 0, .slice q6 lg c6] 27)).alloc (.cells #[] 31)).heap.size) hgrow.size); clear hown hgrow))
        | (at_builtin; (refine append_gone rfl _ _ rfl (w.heap.size + 2) _ 0 [] rfl HO.out g lg cg (gonsOf E) rfl (HS.out.at_.keep HBq.out).d HS.out.nilg (by omega) (Nat.le_trans (show w.heap.size + 2 ≤ w2.heap.size from HZ.out) (by simp)) ?_); intro q6 c6 w3 hown hgrow; simp only [Nat.zero_add, List.nil_append] at hown; have HX3 := Lib.hid (HXq.out.grown hgrow (own_ne_of HO.out (by omega))); have HR3 := Lib.hid (HRq.out.grown hgrow (own_ne_of HO.out (by omega))); have HB3 := Lib.hid (HBq.out.grown hgrow HBq.out.size (own_ge_of HO.out (by omega))); have HC2 := Lib.hid (show CStep w w3.heap.size #[.slice a la ca, .slice g lg cg] #[.slice none 0 0, .slice q6 lg c6] (w3.alloc (.cells #[.slice none 0 0, .slice q6 lg c6] 27)) from ⟨below_alloc HB3.out _, HX3.out.al _, HR3.out.al _, row_new _ _ _, HR3.out.lt⟩); have HG2 := Lib.hid (own_below hown (below_alloc (Below.refl _ _) (.cells #[.slice none 0 0, .slice q6 lg c6] 27))); have HU2 := Lib.hid (Nat.lt_succ_self w3.heap.size); have HCA := Lib.hid (HC2.out.al (.cells #[] 31)); have HOA := Lib.hid (own_zeroObj (row_new1 w3 (.cells #[.slice none 0 0, .slice q6 lg c6] 27) #[] 31) (Nat.le_refl _)); have HGA := Lib.hid (own_below HG2.out (below_alloc (Below.refl _ _) (.cells #[] 31))); have hx0 := HCA.out.cell.1; obtain ⟨y0, y1⟩ := HC2.out.cell; clear hown hgrow x1))
      have HCN := Lib.hid (create_new (data := data) HL.out hfull0)
      have HGM := Lib.hid (HGM0.out 1)
      have HGLN := Lib.hid HLG.out
      obtain ⟨x2, hx2⟩ : ∃ v : Value, Value.slice g lg cg = v := ⟨_, rfl⟩
      rw [hx2] at HC8
      obtain ⟨nn, hnn⟩ : ∃ nn, lg = nn := ⟨_, rfl⟩
      obtain ⟨Y, hY⟩ : ∃ Y, w3.heap.size + 1 = Y := ⟨_, rfl⟩
      obtain ⟨U, hU⟩ : ∃ U, w3.heap.size = U := ⟨_, rfl⟩
      have HGY := Lib.hid (show ∀ g, (Value.slice q6 lg c6).ownBlock = some g → g < Y from fun g hg => by have := own_lt HG2.out g hg; rw [← hY]; simpa using this)
      have HY2 := Lib.hid (show w.heap.size + 2 ≤ Y by have := HC2.out.big; omega)
      rw [hY] at HO8 HZ8
      rw [hU] at HC8 o0 o1 of0 HU2 ⊢
      rw [hU] at hY
      have HUY := Lib.hid (show U < Y by omega)
      obtain ⟨V, hV⟩ : ∃ V : Int, 1 = V := ⟨_, rfl⟩
      have HVV := Lib.hid hV
      rw [hV] at HO8 HCN HGM
      obtain ⟨M, hM⟩ : ∃ M, gonsOf E = M := ⟨_, rfl⟩
      rw [hM] at HG8 HGM HGLN
      rw [hnn] at HG8 HGLN HC8 o1 HGY ⊢
      clear HCA HOA HGA hx0 HC7 HG7 HO7 HZ7 hY HG2 HC2 hV hM hU hnn hx2
    all_goals
      have HG9 := Lib.hid (own_put HG8.out (own_ne_row HG8.out HC8.out.out (by decide)) 0 (.slice q8 (p + 1) c8))
      have HZ9 := Lib.hid (show Y ≤ (w8.setCell ⟨U, 0, none⟩ (.slice q8 (p + 1) c8)).heap.size by have := HZ8.out; simpa [World.setCell] using this)
      obtain ⟨y, hy⟩ : ∃ y, w8.setCell ⟨U, 0, none⟩ (.slice q8 (p + 1) c8) = y := ⟨_, rfl⟩
      have HCY := Lib.hid (show CStep w U #[.slice a la ca, x2] #[.slice q8 (p + 1) c8, .slice q6 nn c6] y by rw [← hy]; exact HC8.out.set 0 _)
      have HOY := Lib.hid (show y.ownsRow Y 31 3 (.slice q8 (p + 1) c8) (p + 1) (cellsObj ((objsOf E).take p ++ [(key, V, data)])) by rw [← hy]; exact own_put HO8.out (fun g hg => by have := (HO8.out.lt g hg).1; have := HUY.out; omega) 0 _)
      rw [hy] at HG9 HZ9 ⊢
      clear hy HG8 HO8 HC8 o0 o1 of0 HU2
      have k0 := HCY.out.cell.1
      obtain ⟨u0, u1⟩ := HCY.out.ocell
      obtain ⟨yd, hyd⟩ : ∃ x, y.drew = x := ⟨_, rfl⟩
      have HYD := Lib.hid hyd
      have HCD := Lib.hid (show CStep w U #[.slice a la ca, x2] #[.slice q8 (p + 1) c8, .slice q6 nn c6] yd by rw [← hyd]; exact HCY.out.drew)
      have HOD := Lib.hid (show yd.ownsRow Y 31 3 (.slice q8 (p + 1) c8) (p + 1) (cellsObj ((objsOf E).take p ++ [(key, V, data)])) by rw [← hyd]; exact own_below HOY.out (Below.refl _ _).drew)
      have HGD := Lib.hid (show yd.ownsRow (w.heap.size + 2) 45 2 (.slice q6 nn c6) nn (cellsGone M) by rw [← hyd]; exact own_below HG9.out (Below.refl _ _).drew)
      have HYZ := Lib.hid (show Y ≤ yd.heap.size by rw [← hyd]; exact HZ9.out)
      clear hyd
      go_still_tail 6, (by kernel_rfl)
      change wpList _ _ _ _ _ y.drew
      rw [HYD.out]
      clear k0 u0 u1 HYD HCY HOY HG9
      go_wp2_with (first
        | (at_builtin; ((refine append_obj rfl _ _ rfl Y (.slice q8 (p + 1) c8) (p + 1) ((objsOf E).take p ++ [(key, V, data)]) rfl HOD.out _ (la - p) _ ((objsOf E).drop p) rfl (by have hd := objs_dropA (k := p) (HS.out.at_.keep HCD.out.below).o hpl hca; simpa using hd) (by first | exact nil_dropA HS.out.nilo | (simpa using nil_dropA (k := p) (n := 3) HS.out.nilo)) (by omega) HYZ.out ?_); intro q9 c9 w9 hown hgrow; have HC9 := Lib.hid (HCD.out.grown HOD.out HUY.out hgrow); have HO9 := Lib.hid hown; have HGZ := Lib.hid (own_grown HGD.out hgrow (own_apart HGD.out HGY.out HOD.out)); have v0 := HC9.out.ocell.1; have v1 := HC9.out.ocell.2; have vf := HC9.out.out.free 0; have HCS := Lib.hid (show CStep w U #[.slice a la ca, x2] #[.slice q9 (p + 1 + (la - p)) c9, .slice q6 nn c6] (w9.setCell ⟨U, 0, none⟩ (.slice q9 (p + 1 + (la - p)) c9)) from HC9.out.set 0 _); have s0 := HCS.out.res.cell (j := 0) (by simp); have s1 := HCS.out.res.cell (j := 1) (by simp); have z0 := HCS.out.res.free 0; have z1 := HCS.out.res.free 1; simp at s0 s1; have t0 := HCS.out.ocell.1; have t1 := HCS.out.ocell.2; clear hown hgrow v1)))
      all_goals
        have hO := own_put HO9.out (fun g hg => by have := (HO9.out.lt g hg).1; have := HUY.out; omega) 0 (.slice q9 (p + 1 + (la - p)) c9) (X := U)
        have hG := own_put HGZ.out (own_ne_row HGZ.out HC9.out.out (by decide)) 0 (.slice q9 (p + 1 + (la - p)) c9)
        have hL : ((objsOf E).take p ++ [(key, V, data)] ++ (objsOf E).drop p).length = p + 1 + (la - p) := by
          simp only [List.length_append, List.length_take, List.length_drop, HLA.out, List.length_cons, List.length_nil]; omega
        have hK := made_k (w := w) hO hG HY2.out (Nat.le_refl _) hL HGLN.out
        have hR : resO (createE key data E) = (objsOf E).take p ++ [(key, V, data)] ++ (objsOf E).drop p ∧ resG (createE key data E) = M := by
          rw [HCN.out]
          refine ⟨?_, HGM.out⟩
          show objsOf (putE key (V, data, false) E) = _
          rw [objs_ins HE.out.inc HOB.out]
          unfold poO
          rw [HP.out, List.append_assoc]; rfl
        have hb := ((HCS.out.res.set 0 (.slice q9 (p + 1 + (la - p)) c9)).set 1 (.slice q6 nn c6))
        unfold Row at hb
        exact bodyPost_ret (v := .tuple #[.agg #[.slice q9 (p + 1 + (la - p)) c9, .slice q6 nn c6], .int .i64 V, .int .i64 0]) (by (try rw [← HVV.out]); simp [results, Try.results43, go_sem, World.cell?, hb]) rfl ⟨_, _, _, _, _, _, by rw [HCN.out], (HCS.out.below.setCell (by show w.heap.size ≤ w.heap.size + 1; omega) _).setCell (by show w.heap.size ≤ w.heap.size + 1; omega) _, by rw [hR.1, hR.2]; exact made_res hK _ _⟩
end Go.Proofs.Ytblpebdjbenphaa
