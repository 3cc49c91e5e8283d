
/- The text of a result, as the program writes it. Only new blocks are made. -/
import Derived.Test.YtjofbeokkainlaaDoorMg43
import Derived.Test.YtjofbeokkainlaaDoorMg2
import Derived.Test.YtjofbeokkainlaaDoorMg1
import Derived.Test.YtjofbeokkainlaaDoorBld
namespace Go.Proofs.YtjofbeokkainlaaDoor
open Go.ChangeShapes Go.WideShapes Go.ChangeAt Go.RowKit
set_option linter.unusedVariables false
set_option maxRecDepth 100000

theorem app_data (a b : ByteArray) : (a ++ b).data.toList = a.data.toList ++ b.data.toList := by simp
theorem len_data (a : ByteArray) : a.data.toList.length = a.size := Array.length_toList
theorem bld_writeB (b : Nat) (T s : ByteArray) (w : World) (h : Bld b b T.data.toList w) (hlen : T.size + s.size ≤ 140737488355328) (hb : b ≤ w.heap.size) :
    Calls Tryd.prog 23 #[.pointer (some ⟨b, 0, none⟩), .string s] w fun e w' => e = .returned (.tuple #[.int .i64 s.size, .nilIface]) ∧ Bld b b (T ++ s).data.toList w' ∧ Below b w w' := by
  rw [app_data]
  exact bld_write b b T.data.toList s w h (by rw [len_data]; exact hlen) hb

set_option maxHeartbeats 8000000 in
theorem donetext_any (q : Option Addr) (n cp : Nat) (LS : List Recs) (w : World) (h : OutsAt w q n LS) (hf : FewR LS) (hT : Tabs w) :
    Calls Tryd.prog 13 #[.slice q n cp] w (MadeTx (outTo LS LS.length) w) := by
  have hn : n ≤ 1048576 := by have := hf.runs; rw [h.length] at this; exact this
  have HL := Lib.hid h.length
  have HF := Lib.hid hf
  have HO := Lib.hid h
  have HT := Lib.hid hT
  obtain ⟨B, hB⟩ : ∃ B, w.heap.size = B := ⟨_, rfl⟩
  obtain ⟨w1, hw1⟩ : ∃ x, w.alloc (.cells #[.pointer none, .slice none 0 0] 59) = x := ⟨_, rfl⟩
  have HB := Lib.hid (show Below w.heap.size w w1 from hw1 ▸ below_alloc (Below.refl _ _) _)
  have HBL := Lib.hid (show Bld B B ByteArray.empty.data.toList w1 from by rw [← hw1, ← hB]; exact bld_new w)
  have HBe := Lib.hid hB
  clear h hf hT
  go_enter Tryd.func13, Tryd.ntmps13
  go_wp2_with fail
  refine (bld_writeB B ByteArray.empty ⟨#[100, 111, 110, 101]⟩ _ HBL.out (by decide) (Nat.le_of_lt HBL.out.lt)).mono ?_
  rintro e w2 ⟨rfl, hbl, hB2⟩
  have HW := Lib.hid (show Below w.heap.size w w2 ∧ Bld B B (outTo LS 0).data.toList w2 from ⟨HB.out.trans (by rw [HBe.out]; exact hB2), by rw [outTo_zero]; simpa using hbl⟩)
  clear hbl hB2 hw1 hB HBL HB
  go_wp2_with fail
  go_loopw [11] (fun i wr => ∃ k : Nat, k ≤ n ∧ i = .int .i64 k ∧ Hid (Below w.heap.size w wr ∧ Bld B B (outTo LS k).data.toList wr)) (fun i _ => n - (intOf i).toNat)
  case atStart => exact ⟨0, Nat.zero_le _, rfl, HW⟩
  case round =>
    obtain ⟨k, hk, rfl, HY⟩ := hrel
    clear HW
    by_cases hlt : k < n
    · rcases HO.out.src with hz | ⟨b, off, rfl, hb, hc⟩
      · omega
      · obtain ⟨p, m, c, c0, hre⟩ := hc k hlt
        have hkl : k < LS.length := by rw [HL.out]; exact hlt
        have hm6 : m ≤ 1048576 := by
          have h1 := HF.out.recs
          have e : LS.flatten = (LS.take k).flatten ++ (LS.drop k).flatten := by rw [← List.flatten_append, List.take_append_drop]
          rw [e, List.length_append, List.drop_eq_getElem_cons hkl, List.flatten_cons, List.length_append] at h1
          have h2 := hre.length
          rw [List.getD_eq_getElem?_getD, List.getElem?_eq_getElem hkl] at h2
          have h3 : LS[k].length = m := h2
          omega
        have HIN := Lib.hid (show ∀ i, i ≤ m → (runTo (outTo LS k ++ ⟨#[32, 124]⟩) (LS.getD k []) i).size ≤ 1100000000000 from fun i hi => runIn_le HF.out hkl (by rw [hre.length]; exact hi))
        have hts := outIn_le HF.out (Nat.le_of_lt hkl)
        have HST := Lib.hid (outTo_step LS k hkl)
        have HSH := Lib.hid (And.intro (HF.out.short _ (getD_mem' hkl)) (HF.out.nums _ (getD_mem' hkl)))
        obtain ⟨V, hV⟩ : ∃ V, LS.getD k [] = V := ⟨_, rfl⟩
        rw [hV] at hre HIN HST HSH
        obtain ⟨t, ht⟩ : ∃ t, outTo LS k = t := ⟨_, rfl⟩
        rw [ht] at HIN HST hts HY
        have HRE := Lib.hid hre
        have C0 := Lib.hid c0
        have hbl := Lib.hid hb
        have z0 := (HY.out.1.cell (p := ⟨b, off + k, none⟩) hb).trans c0
        have hk1 : (k : Int) < (n : Int) := by omega
        have hk0 : (0 : Int) ≤ (k : Int) := by omega
        have HVL := Lib.hid hre.length
        clear hc hre c0 hb hV ht hkl
        go_wp2_with fail
        refine (bld_writeB B t ⟨#[32, 124]⟩ _ HY.out.2 (by have e : (⟨#[32, 124]⟩ : ByteArray).size = 2 := rfl; rw [e]; omega) (Nat.le_of_lt HY.out.2.lt)).mono ?_
        rintro e w3 ⟨rfl, hbd, hB3⟩
        obtain ⟨t2, ht2⟩ : ∃ t2, t ++ ⟨#[32, 124]⟩ = t2 := ⟨_, rfl⟩
        rw [ht2] at HIN HST hbd
        have HZ := Lib.hid (show Below w.heap.size w w3 ∧ Bld B B (runTo t2 V 0).data.toList w3 from ⟨HY.out.1.trans (by rw [HBe.out]; exact hB3), by rw [runTo_zero]; exact hbd⟩)
        clear ht2 z0 hbd hB3 HY hts
        go_wp2_with fail
        go_loopw [18] (fun i wy => ∃ j : Nat, j ≤ m ∧ i = .int .i64 j ∧ Hid (Below w.heap.size w wy ∧ Bld B B (runTo t2 V j).data.toList wy)) (fun i _ => m - (intOf i).toNat)
        case atStart => exact ⟨0, Nat.zero_le _, rfl, HZ⟩
        case round =>
          obtain ⟨j, hj, rfl, HY⟩ := hrel
          clear HZ
          by_cases hjm : j < m
          · rcases HRE.out.src with hz | ⟨b2, o2, rfl, hb2, hc2⟩
            · omega
            · have y0 := (HY.out.1.cell (p := ⟨b2, o2 + j * 2, none⟩) hb2).trans (hc2 j hjm).1
              have y1 := (HY.out.1.cell (p := ⟨b2, o2 + j * 2 + 1, none⟩) hb2).trans (hc2 j hjm).2
              have hjl : j < V.length := by rw [HVL.out]; exact hjm
              have hu := HIN.out j (by omega)
              have HST2 := Lib.hid (runTo_step t2 V j hjl)
              have hsh := HSH.out.1 _ (List.getElem_mem hjl)
              have hnu := HSH.out.2 _ (List.getElem_mem hjl)
              have e : V[j] = (keyAt V j, numAt V j) := by
                unfold keyAt numAt
                rw [List.getD_eq_getElem?_getD, List.getElem?_eq_getElem hjl]
                rfl
              rw [e] at hsh hnu
              obtain ⟨s, hs⟩ : ∃ s, keyAt V j = s := ⟨_, rfl⟩
              obtain ⟨x, hx⟩ : ∃ x, numAt V j = x := ⟨_, rfl⟩
              obtain ⟨u, hu2⟩ : ∃ u, runTo t2 V j = u := ⟨_, rfl⟩
              rw [hs] at y0 hsh HST2
              rw [hx] at y1 hnu HST2
              rw [hu2] at hu HST2 HY
              have hs6 : s.size ≤ 1048576 := hsh
              have HN := Lib.hid (show In64 x from hnu)
              have hd20 := @decB_size x HN.out.1 (by have := HN.out.2; omega)
              have e32 : (⟨#[32]⟩ : ByteArray).size = 1 := rfl
              have e61 : (⟨#[61]⟩ : ByteArray).size = 1 := rfl
              have f1 : ∀ w, (Op.stringOp .add (⟨#[32]⟩ : ByteArray) s).run Tryd.prog w = .ok (.string (⟨#[32]⟩ ++ s)) w := fun w => cat_runp _ _ 2000000 (by decide) (by omega)
              have f2 : ∀ w, (Op.stringOp .add (⟨#[32]⟩ ++ s) (⟨#[61]⟩ : ByteArray)).run Tryd.prog w = .ok (.string (⟨#[32]⟩ ++ s ++ ⟨#[61]⟩)) w := fun w => cat_runp _ _ 2000000 (by rw [app_sz, e32]; omega) (by decide)
              have f3 : ∀ w, (Op.stringOp .add (⟨#[32]⟩ ++ s ++ ⟨#[61]⟩) (decB x)).run Tryd.prog w = .ok (.string (⟨#[32]⟩ ++ s ++ ⟨#[61]⟩ ++ decB x)) w := fun w => cat_runp _ _ 2000000 (by rw [app_sz, app_sz, e32, e61]; omega) (by omega)
              have HSZ := Lib.hid (show u.size + (⟨#[32]⟩ ++ s ++ ⟨#[61]⟩ ++ decB x).size ≤ 140737488355328 by rw [app_sz, app_sz, app_sz, e32, e61]; omega)
              obtain ⟨T, hT0⟩ : ∃ T, ⟨#[32]⟩ ++ s ++ ⟨#[61]⟩ ++ decB x = T := ⟨_, rfl⟩
              have HST2 := Lib.hid (show runTo t2 V (j + 1) = u ++ T by rw [← hT0]; exact HST2.out)
              rw [hT0] at f3 HSZ
              clear hT0
              have hj1 : (j : Int) < (m : Int) := by omega
              have hj0 : (0 : Int) ≤ (j : Int) := by omega
              have HWL := Lib.hid (show B ≤ wr.heap.size from Nat.le_of_lt HY.out.2.lt)
              clear hc2 hb2 hjl hu hsh hnu e hs hx hu2 hs6 hd20 e32 e61
              go_wp2_with fail
              obtain ⟨R, hR⟩ : ∃ R, wr.heap.size = R := ⟨_, rfl⟩
              obtain ⟨w5, hw5⟩ : ∃ x', wr.alloc (.cells #[.string s, .int .i64 x] 30) = x' := ⟨_, rfl⟩
              have HV := Lib.hid (show Below w.heap.size w w5 from hw5 ▸ below_alloc HY.out.1 _)
              have HD := Lib.hid (show Bld B B u.data.toList w5 from hw5 ▸ HY.out.2.keep (below_alloc (Below.refl _ _) _))
              have HX := Lib.hid (show Row w5 R 30 #[.string s, .int .i64 x] from by rw [← hw5, ← hR]; exact Row.new wr _ _)
              rw [hw5, hR]
              clear hw5 hR y0 y1
              refine wp_region_noPanic ?_
              obtain ⟨v0, hv0⟩ : ∃ x, w5.drew = x := ⟨_, rfl⟩
              have HV : Hid (Below w.heap.size w v0) := Lib.hid (by rw [← hv0]; exact below_drewN HV.out 1)
              have HD : Hid (Bld B B u.data.toList v0) := Lib.hid (by rw [← hv0]; exact HD.out.keep (below_drewN (Below.refl _ _) 1))
              have HX : Hid (Row v0 R 30 #[.string s, .int .i64 x]) := Lib.hid (by rw [← hv0]; exact HX.out.keep (below_drewN (Below.refl _ _) 1))
              refine wp_region_held_drew (S := (fun w' => Hid (Below w.heap.size w w'))) (by kernel_rfl) (by rw [hv0]; exact Lib.hid HV.out) (fun HS => ?_)
              rw [hv0] at HS ⊢
              clear hv0
              refine held_take (i := 0) (d := 22) (v := .pointer (some ⟨R, 0, none⟩)) rfl rfl (by kernel_rfl) (by kernel_rfl) (by kernel_rfl) (by kernel_rfl) (fun wx hS => by go_simp) HS ?_
              refine held_take (i := 4) (d := 26) (v := .pointer (some ⟨R, 1, none⟩)) rfl rfl (by kernel_rfl) (by kernel_rfl) (by kernel_rfl) (by kernel_rfl) (fun wx hS => by go_simp) HS ?_
              refine wpAnyH_ready (rs := [1, 5]) (by kernel_rfl) (by simp) (AllReadyH.cons rfl (fun K hK => ?_) (AllReadyH.cons rfl (fun K hK => ?_) AllReadyH.nil))
              · skip
                have q0 := HX.out.cell (j := 0) (by simp)
                simp at q0
                go_simp
                refine hK.out _ _ HS (fun HS => ?_)
                clear hK K q0
                refine held_take (i := 2) (d := 24) (v := .string (⟨#[32]⟩ ++ s)) rfl rfl (by kernel_rfl) (by kernel_rfl) (by kernel_rfl) (by kernel_rfl) (fun wx hS => by go_simp) HS ?_
                refine held_take (i := 3) (d := 25) (v := .string (⟨#[32]⟩ ++ s ++ ⟨#[61]⟩)) rfl rfl (by kernel_rfl) (by kernel_rfl) (by kernel_rfl) (by kernel_rfl) (fun wx hS => by go_simp) HS ?_
                refine wpAnyH_ready (rs := [5]) (by kernel_rfl) (by simp) (AllReadyH.cons rfl (fun K hK => ?_) AllReadyH.nil)
                have q0 := HX.out.cell (j := 1) (by simp)
                simp at q0
                go_simp
                refine hK.out _ _ HS (fun HS => ?_)
                clear hK K q0
                refine wpAnyH_ready (rs := [6]) (by kernel_rfl) (by simp) (AllReadyH.cons rfl (fun K hK => ?_) AllReadyH.nil)
                go_simp
                refine (fmt_any x HN.out _ (HT.out.keep HV.out)).mono ?_
                rintro y w6 ⟨rfl, hB6⟩
                have HV := Lib.hid (below_via HV.out hB6)
                have HD := Lib.hid (HD.out.keep hB6)
                have HX := Lib.hid (HX.out.keep hB6)
                clear hB6
                refine hK.out _ _ HV (fun HS => ?_)
                clear hK K
                refine held_take (i := 7) (d := 29) (v := .string T) rfl rfl (by kernel_rfl) (by kernel_rfl) (by kernel_rfl) (by kernel_rfl) (fun wx hS => by go_simp) HS ?_
                refine wpAnyH_ready (rs := [8]) (by kernel_rfl) (by simp) (AllReadyH.cons rfl (fun K hK => ?_) AllReadyH.nil)
                go_simp
                refine (bld_writeB B u T _ HD.out HSZ.out (Nat.le_of_lt HD.out.lt)).mono ?_
                rintro y w7 ⟨rfl, hbd, hB7⟩
                have HV := Lib.hid (HV.out.trans (by rw [HBe.out]; exact hB7))
                have HD := Lib.hid hbd
                clear hbd hB7
                refine hK.out _ _ HV (fun HS => ?_)
                clear hK K
                refine wpAnyH_done (by kernel_rfl) (NoPanic.normal ?_) _
                go_wp2
                go_roundw
                case rel => exact ⟨j + 1, by omega, by go_num, Lib.hid ⟨HV.out, by rw [HST2.out]; exact HD.out⟩⟩
                case measure => simp [intOf]; omega
              · skip
                have q0 := HX.out.cell (j := 1) (by simp)
                simp at q0
                go_simp
                refine hK.out _ _ HS (fun HS => ?_)
                clear hK K q0
                refine wpAnyH_ready (rs := [1, 6]) (by kernel_rfl) (by simp) (AllReadyH.cons rfl (fun K hK => ?_) (AllReadyH.cons rfl (fun K hK => ?_) AllReadyH.nil))
                · skip
                  have q0 := HX.out.cell (j := 0) (by simp)
                  simp at q0
                  go_simp
                  refine hK.out _ _ HS (fun HS => ?_)
                  clear hK K q0
                  refine held_take (i := 2) (d := 24) (v := .string (⟨#[32]⟩ ++ s)) rfl rfl (by kernel_rfl) (by kernel_rfl) (by kernel_rfl) (by kernel_rfl) (fun wx hS => by go_simp) HS ?_
                  refine held_take (i := 3) (d := 25) (v := .string (⟨#[32]⟩ ++ s ++ ⟨#[61]⟩)) rfl rfl (by kernel_rfl) (by kernel_rfl) (by kernel_rfl) (by kernel_rfl) (fun wx hS => by go_simp) HS ?_
                  refine wpAnyH_ready (rs := [6]) (by kernel_rfl) (by simp) (AllReadyH.cons rfl (fun K hK => ?_) AllReadyH.nil)
                  go_simp
                  refine (fmt_any x HN.out _ (HT.out.keep HV.out)).mono ?_
                  rintro y w6 ⟨rfl, hB6⟩
                  have HV := Lib.hid (below_via HV.out hB6)
                  have HD := Lib.hid (HD.out.keep hB6)
                  have HX := Lib.hid (HX.out.keep hB6)
                  clear hB6
                  refine hK.out _ _ HV (fun HS => ?_)
                  clear hK K
                  refine held_take (i := 7) (d := 29) (v := .string T) rfl rfl (by kernel_rfl) (by kernel_rfl) (by kernel_rfl) (by kernel_rfl) (fun wx hS => by go_simp) HS ?_
                  refine wpAnyH_ready (rs := [8]) (by kernel_rfl) (by simp) (AllReadyH.cons rfl (fun K hK => ?_) AllReadyH.nil)
                  go_simp
                  refine (bld_writeB B u T _ HD.out HSZ.out (Nat.le_of_lt HD.out.lt)).mono ?_
                  rintro y w7 ⟨rfl, hbd, hB7⟩
                  have HV := Lib.hid (HV.out.trans (by rw [HBe.out]; exact hB7))
                  have HD := Lib.hid hbd
                  clear hbd hB7
                  refine hK.out _ _ HV (fun HS => ?_)
                  clear hK K
                  refine wpAnyH_done (by kernel_rfl) (NoPanic.normal ?_) _
                  go_wp2
                  go_roundw
                  case rel => exact ⟨j + 1, by omega, by go_num, Lib.hid ⟨HV.out, by rw [HST2.out]; exact HD.out⟩⟩
                  case measure => simp [intOf]; omega
                · skip
                  go_simp
                  refine (fmt_any x HN.out _ (HT.out.keep HV.out)).mono ?_
                  rintro y w6 ⟨rfl, hB6⟩
                  have HV := Lib.hid (below_via HV.out hB6)
                  have HD := Lib.hid (HD.out.keep hB6)
                  have HX := Lib.hid (HX.out.keep hB6)
                  clear hB6
                  refine hK.out _ _ HV (fun HS => ?_)
                  clear hK K
                  refine wpAnyH_ready (rs := [1]) (by kernel_rfl) (by simp) (AllReadyH.cons rfl (fun K hK => ?_) AllReadyH.nil)
                  have q0 := HX.out.cell (j := 0) (by simp)
                  simp at q0
                  go_simp
                  refine hK.out _ _ HS (fun HS => ?_)
                  clear hK K q0
                  refine held_take (i := 2) (d := 24) (v := .string (⟨#[32]⟩ ++ s)) rfl rfl (by kernel_rfl) (by kernel_rfl) (by kernel_rfl) (by kernel_rfl) (fun wx hS => by go_simp) HS ?_
                  refine held_take (i := 3) (d := 25) (v := .string (⟨#[32]⟩ ++ s ++ ⟨#[61]⟩)) rfl rfl (by kernel_rfl) (by kernel_rfl) (by kernel_rfl) (by kernel_rfl) (fun wx hS => by go_simp) HS ?_
                  refine held_take (i := 7) (d := 29) (v := .string T) rfl rfl (by kernel_rfl) (by kernel_rfl) (by kernel_rfl) (by kernel_rfl) (fun wx hS => by go_simp) HS ?_
                  refine wpAnyH_ready (rs := [8]) (by kernel_rfl) (by simp) (AllReadyH.cons rfl (fun K hK => ?_) AllReadyH.nil)
                  go_simp
                  refine (bld_writeB B u T _ HD.out HSZ.out (Nat.le_of_lt HD.out.lt)).mono ?_
                  rintro y w7 ⟨rfl, hbd, hB7⟩
                  have HV := Lib.hid (HV.out.trans (by rw [HBe.out]; exact hB7))
                  have HD := Lib.hid hbd
                  clear hbd hB7
                  refine hK.out _ _ HV (fun HS => ?_)
                  clear hK K
                  refine wpAnyH_done (by kernel_rfl) (NoPanic.normal ?_) _
                  go_wp2
                  go_roundw
                  case rel => exact ⟨j + 1, by omega, by go_num, Lib.hid ⟨HV.out, by rw [HST2.out]; exact HD.out⟩⟩
                  case measure => simp [intOf]; omega
          · obtain rfl : j = m := by omega
            have e : runTo t2 V j = outTo LS (k + 1) := by rw [HST.out, HVL.out]
            rw [e] at HY
            clear e
            go_wp2
            go_roundw
            case rel => exact ⟨k + 1, by omega, by go_num, HY⟩
            case measure => simp [intOf]; omega
    · obtain rfl : k = n := by omega
      have HE := Lib.hid HL.out
      go_wp2_with fail
      refine (bld_text B B (outTo LS k).data.toList _ HY.out.2 (Nat.le_of_lt HY.out.2.lt)).mono ?_
      rintro e w4 ⟨rfl, hbd, hB4⟩
      have HV := Lib.hid (HY.out.1.trans (by rw [HBe.out]; exact hB4))
      clear hbd hB4
      go_wp2
      go_ret
      exact ⟨by rw [HE.out]; rfl, HV.out⟩
end Go.Proofs.YtjofbeokkainlaaDoor
