
/- The text of a result, as the model writes it. Only new blocks are made. -/
import Derived.Test.YtjfbmjeekihdaaaDoorResM
import Derived.Test.YtjfbmjeekihdaaaDoorCat
import Derived.Test.YtjfbmjeekihdaaaDoorHeld
namespace Go.Proofs.YtjfbmjeekihdaaaDoor
open Go.ChangeShapes Go.WideShapes Go.ChangeAt Go.RowKit
set_option linter.unusedVariables false
set_option maxRecDepth 100000

theorem rec_app (t s : ByteArray) (n : Int) : t ++ ⟨#[32]⟩ ++ s ++ ⟨#[61]⟩ ++ decB n = t ++ recTx (s, n) := by
  unfold recTx
  simp only [ByteArray.append_assoc]

set_option maxHeartbeats 8000000 in
theorem sresulttext_any (d f : Bool) (task : Int) (q : Option Addr) (n cp : Nat) (LS : List Recs) (w : World) (h : OutsAt w q n LS) (hf : FewR LS) (ht : In64 task) :
    Calls Tryd.prog 13 #[.agg #[.bool d, .bool f, .int .i64 task, .slice q n cp]] w (MadeTx (resTx d f task LS) w) := by
  have hn : n ≤ 1048576 := by have := hf.runs; rw [h.length] at this; exact this
  have HL := Lib.hid h.length
  have HF := Lib.hid hf
  obtain ⟨B, hB⟩ : ∃ B, w.heap.size = B := ⟨_, rfl⟩
  obtain ⟨w1, hw1⟩ : ∃ x, w.alloc (.cells #[.bool d, .bool f, .int .i64 task, .slice q n cp] 35) = x := ⟨_, rfl⟩
  have HB := Lib.hid (show Below w.heap.size w w1 from hw1 ▸ below_alloc (Below.refl _ _) _)
  have HR := Lib.hid (show Row w1 B 35 #[.bool d, .bool f, .int .i64 task, .slice q n cp] from by rw [← hw1, ← hB]; exact Row.new w _ _)
  have HO := Lib.hid (show OutsAt w1 q n LS from h.keep HB.out)
  have hBl := Lib.hid HR.out.lt
  have k0 := HR.out.cell (j := 0) (by simp)
  have k1 := HR.out.cell (j := 1) (by simp)
  have k2 := HR.out.cell (j := 2) (by simp)
  have k3 := HR.out.cell (j := 3) (by simp)
  simp at k0 k1 k2 k3
  have HT := Lib.hid ht
  clear h hf ht
  cases d with
  | false =>
    cases f with
    | false =>
      go_enter Tryd.func13, Tryd.ntmps13
      go_wp2
      go_ret
      exact ⟨rfl, HB.out⟩
    | true =>
      have hz := @decB_size task HT.out.1 (by have := HT.out.2; omega)
      have c1 : ∀ w, (Op.stringOp .add (⟨#[102, 97, 105, 108, 101, 100, 32]⟩ : ByteArray) (decB task)).run Tryd.prog w = .ok (.string (⟨#[102, 97, 105, 108, 101, 100, 32]⟩ ++ decB task)) w := fun w => cat_runp _ _ 20 (by decide) hz
      clear hz
      go_enter Tryd.func13, Tryd.ntmps13
      go_wp2_with fail
      refine (l1dec_any task HT.out.1 (by have := HT.out.2; omega) _).mono ?_
      rintro e w2 ⟨rfl, hB2⟩
      have HB2 := Lib.hid (below_via HB.out hB2)
      clear hB2
      go_wp2
      go_ret
      exact ⟨rfl, HB2.out⟩
  | true =>
    go_enter Tryd.func13, Tryd.ntmps13
    go_wp2_with fail
    clear hB hw1 k0 k1 k2
    have K3 := Lib.hid k3
    clear k3
    go_loopw [3, 4] (fun s i wr => ∃ k : Nat, k ≤ n ∧ i = .int .i64 k ∧ s = .string (outTo LS k) ∧ Hid (Below w1.heap.size w1 wr)) (fun _ i _ => n - (intOf i).toNat)
    case atStart => exact ⟨0, Nat.zero_le _, rfl, by rw [outTo_zero], Lib.hid (Below.refl _ _)⟩
    case round =>
      obtain ⟨k, hk, rfl, rfl, HW⟩ := hrel
      have z3 := (HW.out.cell (p := ⟨B, 3, none⟩) hBl.out).trans K3.out
      by_cases hlt : k < n
      · rcases HO.out.src with hz | ⟨b, off, rfl, hb, hc⟩
        · omega
        · obtain ⟨p, m, c, c0, hre⟩ := hc k hlt
          have hkl : k < LS.length := by rw [HL.out]; exact hlt
          have hm6 : m ≤ 1048576 := by
            have h1 := HF.out.recs
            have e : LS.flatten = (LS.take k).flatten ++ (LS.drop k).flatten := by rw [← List.flatten_append, List.take_append_drop]
            rw [e, List.length_append, List.drop_eq_getElem_cons hkl, List.flatten_cons, List.length_append] at h1
            have h2 := hre.length
            rw [List.getD_eq_getElem?_getD, List.getElem?_eq_getElem hkl] at h2
            have h3 : LS[k].length = m := h2
            omega
          have HIN := Lib.hid (show ∀ i, i ≤ m → (runTo (outTo LS k ++ ⟨#[32, 124]⟩) (LS.getD k []) i).size ≤ 1100000000000 from fun i hi => runIn_le HF.out hkl (by rw [hre.length]; exact hi))
          have hts := outIn_le HF.out (Nat.le_of_lt hkl)
          have HST := Lib.hid (outTo_step LS k hkl)
          have HSH := Lib.hid (And.intro (HF.out.short _ (getD_mem' hkl)) (HF.out.nums _ (getD_mem' hkl)))
          obtain ⟨V, hV⟩ : ∃ V, LS.getD k [] = V := ⟨_, rfl⟩
          rw [hV] at hre HIN HST HSH
          obtain ⟨t, ht⟩ : ∃ t, outTo LS k = t := ⟨_, rfl⟩
          rw [ht] at HIN HST hts ⊢
          have HRE := Lib.hid hre
          have C0 := Lib.hid c0
          have hbl := Lib.hid hb
          have z0 := (HW.out.cell (p := ⟨b, off + k, none⟩) hb).trans c0
          have cat1 : ∀ w, (Op.stringOp .add t (⟨#[32, 124]⟩ : ByteArray)).run Tryd.prog w = .ok (.string (t ++ ⟨#[32, 124]⟩)) w := fun w => cat_runp _ _ 1100000000000 hts (by decide)
          have hk1 : (k : Int) < (n : Int) := by omega
          have hk0 : (0 : Int) ≤ (k : Int) := by omega
          have HVL := Lib.hid hre.length
          have HKL := Lib.hid hkl
          clear hc hre c0 hb hV ht hts hkl
          go_wp2_with fail
          obtain ⟨t2, ht2⟩ : ∃ t2, t ++ ⟨#[32, 124]⟩ = t2 := ⟨_, rfl⟩
          rw [ht2] at HIN HST ⊢
          clear ht2 cat1 z3 z0
          go_loopw [3, 5] (fun s i wy => ∃ j : Nat, j ≤ m ∧ i = .int .i64 j ∧ s = .string (runTo t2 V j) ∧ Hid (Below w1.heap.size w1 wy)) (fun _ i _ => m - (intOf i).toNat)
          case atStart => exact ⟨0, Nat.zero_le _, rfl, by rw [runTo_zero], HW⟩
          case round =>
            obtain ⟨j, hj, rfl, rfl, HY⟩ := hrel
            clear HW
            have z3 := (HY.out.cell (p := ⟨B, 3, none⟩) hBl.out).trans K3.out
            have z0 := (HY.out.cell (p := ⟨b, off + k, none⟩) hbl.out).trans C0.out
            by_cases hjm : j < m
            · rcases HRE.out.src with hz | ⟨b2, o2, rfl, hb2, hc2⟩
              · omega
              · have d0 := Lib.hid (hc2 j hjm).1
                have d1 := Lib.hid (hc2 j hjm).2
                have hb2l := Lib.hid hb2
                have hjl : j < V.length := by rw [HVL.out]; exact hjm
                have hu := HIN.out j (by omega)
                have HST2 := Lib.hid (runTo_step t2 V j hjl)
                have hsh := HSH.out.1 _ (List.getElem_mem hjl)
                have hnu := HSH.out.2 _ (List.getElem_mem hjl)
                have e : V[j] = (keyAt V j, numAt V j) := by
                  unfold keyAt numAt
                  rw [List.getD_eq_getElem?_getD, List.getElem?_eq_getElem hjl]
                  rfl
                rw [e] at hsh hnu
                obtain ⟨s, hs⟩ : ∃ s, keyAt V j = s := ⟨_, rfl⟩
                obtain ⟨x, hx⟩ : ∃ x, numAt V j = x := ⟨_, rfl⟩
                obtain ⟨u, hu2⟩ : ∃ u, runTo t2 V j = u := ⟨_, rfl⟩
                rw [hs] at d0 hsh HST2
                rw [hx] at d1 hnu HST2
                rw [hu2] at hu HST2 ⊢
                rw [← rec_app] at HST2
                have hs6 : s.size ≤ 1048576 := hsh
                have HN := Lib.hid (show In64 x from hnu)
                have hd20 := @decB_size x HN.out.1 (by have := HN.out.2; omega)
                have e32 : (⟨#[32]⟩ : ByteArray).size = 1 := rfl
                have e61 : (⟨#[61]⟩ : ByteArray).size = 1 := rfl
                have f1 : ∀ w, (Op.stringOp .add u (⟨#[32]⟩ : ByteArray)).run Tryd.prog w = .ok (.string (u ++ ⟨#[32]⟩)) w := fun w => cat_runp _ _ 2000000000000 (by omega) (by decide)
                have f2 : ∀ w, (Op.stringOp .add (u ++ ⟨#[32]⟩) s).run Tryd.prog w = .ok (.string (u ++ ⟨#[32]⟩ ++ s)) w := fun w => cat_runp _ _ 2000000000000 (by rw [app_sz, e32]; omega) (by omega)
                have f3 : ∀ w, (Op.stringOp .add (u ++ ⟨#[32]⟩ ++ s) (⟨#[61]⟩ : ByteArray)).run Tryd.prog w = .ok (.string (u ++ ⟨#[32]⟩ ++ s ++ ⟨#[61]⟩)) w := fun w => cat_runp _ _ 2000000000000 (by rw [app_sz, app_sz, e32]; omega) (by decide)
                have f4 : ∀ w, (Op.stringOp .add (u ++ ⟨#[32]⟩ ++ s ++ ⟨#[61]⟩) (decB x)).run Tryd.prog w = .ok (.string (u ++ ⟨#[32]⟩ ++ s ++ ⟨#[61]⟩ ++ decB x)) w := fun w => cat_runp _ _ 2000000000000 (by rw [app_sz, app_sz, app_sz, e32, e61]; omega) (by omega)
                have hj1 : (j : Int) < (m : Int) := by omega
                have hj0 : (0 : Int) ≤ (j : Int) := by omega
                clear hc2 hb2 hjl hu hsh hnu e hs hx hu2 hs6 hd20 e32 e61
                go_wp2_with fail
                refine wp_region_noPanic ?_
                obtain ⟨v0, hv0⟩ : ∃ x, wr.drew = x := ⟨_, rfl⟩
                have HV0 : Hid (Below w1.heap.size w1 v0) := Lib.hid (by rw [← hv0]; exact below_drewN HY.out 1)
                refine wp_region_held_drew (S := (fun w' => Hid (Below v0.heap.size v0 w'))) (by kernel_rfl) (by rw [hv0]; exact Lib.hid (Below.refl _ _)) (fun HS => ?_)
                rw [hv0] at HS ⊢
                clear hv0
                refine held_take (i := 0) (d := 28) (v := .string u) rfl rfl (by kernel_rfl) (by kernel_rfl) (by kernel_rfl) (by kernel_rfl) (fun wx hS => by go_simp) HS ?_
                refine held_take (i := 1) (d := 29) (v := .string (u ++ ⟨#[32]⟩)) rfl rfl (by kernel_rfl) (by kernel_rfl) (by kernel_rfl) (by kernel_rfl) (fun wx hS => by go_simp) HS ?_
                refine held_take (i := 2) (d := 30) (v := .pointer (some ⟨B, 3, none⟩)) rfl rfl (by kernel_rfl) (by kernel_rfl) (by kernel_rfl) (by kernel_rfl) (fun wx hS => by go_simp) HS ?_
                refine held_take (i := 3) (d := 31) (v := .slice (some ⟨b, off, none⟩) n cp) rfl rfl (by kernel_rfl) (by kernel_rfl) (by kernel_rfl) (by kernel_rfl) (fun wx hS => by have z3 := ((below_via HV0.out hS.out).cell (p := ⟨B, 3, none⟩) hBl.out).trans K3.out; go_simp) HS ?_
                refine held_take (i := 4) (d := 32) (v := .int .i64 k) rfl rfl (by kernel_rfl) (by kernel_rfl) (by kernel_rfl) (by kernel_rfl) (fun wx hS => by go_simp) HS ?_
                refine held_take (i := 5) (d := 33) (v := .pointer (some ⟨b, off + k, none⟩)) rfl rfl (by kernel_rfl) (by kernel_rfl) (by kernel_rfl) (by kernel_rfl) (fun wx hS => by go_simp) HS ?_
                refine held_take (i := 6) (d := 34) (v := .slice (some ⟨b2, o2, none⟩) m c) rfl rfl (by kernel_rfl) (by kernel_rfl) (by kernel_rfl) (by kernel_rfl) (fun wx hS => by have z0 := ((below_via HV0.out hS.out).cell (p := ⟨b, off + k, none⟩) hbl.out).trans C0.out; go_simp) HS ?_
                refine held_take (i := 7) (d := 35) (v := .int .i64 j) rfl rfl (by kernel_rfl) (by kernel_rfl) (by kernel_rfl) (by kernel_rfl) (fun wx hS => by go_simp) HS ?_
                refine held_take (i := 8) (d := 36) (v := .pointer (some ⟨b2, o2 + j * 2, none⟩)) rfl rfl (by kernel_rfl) (by kernel_rfl) (by kernel_rfl) (by kernel_rfl) (fun wx hS => by go_simp) HS ?_
                refine held_take (i := 9) (d := 37) (v := .pointer (some ⟨b2, o2 + j * 2, none⟩)) rfl rfl (by kernel_rfl) (by kernel_rfl) (by kernel_rfl) (by kernel_rfl) (fun wx hS => by go_simp) HS ?_
                refine held_take (i := 10) (d := 38) (v := .string s) rfl rfl (by kernel_rfl) (by kernel_rfl) (by kernel_rfl) (by kernel_rfl) (fun wx hS => by have y0 := ((below_via HV0.out hS.out).cell (p := ⟨b2, o2 + j * 2, none⟩) hb2l.out).trans d0.out; go_simp) HS ?_
                refine held_take (i := 11) (d := 39) (v := .string (u ++ ⟨#[32]⟩ ++ s)) rfl rfl (by kernel_rfl) (by kernel_rfl) (by kernel_rfl) (by kernel_rfl) (fun wx hS => by go_simp) HS ?_
                refine held_take (i := 12) (d := 40) (v := .string (u ++ ⟨#[32]⟩ ++ s ++ ⟨#[61]⟩)) rfl rfl (by kernel_rfl) (by kernel_rfl) (by kernel_rfl) (by kernel_rfl) (fun wx hS => by go_simp) HS ?_
                refine held_take (i := 13) (d := 41) (v := .pointer (some ⟨B, 3, none⟩)) rfl rfl (by kernel_rfl) (by kernel_rfl) (by kernel_rfl) (by kernel_rfl) (fun wx hS => by go_simp) HS ?_
                refine held_take (i := 14) (d := 42) (v := .slice (some ⟨b, off, none⟩) n cp) rfl rfl (by kernel_rfl) (by kernel_rfl) (by kernel_rfl) (by kernel_rfl) (fun wx hS => by have z3 := ((below_via HV0.out hS.out).cell (p := ⟨B, 3, none⟩) hBl.out).trans K3.out; go_simp) HS ?_
                refine held_take (i := 15) (d := 43) (v := .int .i64 k) rfl rfl (by kernel_rfl) (by kernel_rfl) (by kernel_rfl) (by kernel_rfl) (fun wx hS => by go_simp) HS ?_
                refine held_take (i := 16) (d := 44) (v := .pointer (some ⟨b, off + k, none⟩)) rfl rfl (by kernel_rfl) (by kernel_rfl) (by kernel_rfl) (by kernel_rfl) (fun wx hS => by go_simp) HS ?_
                refine held_take (i := 17) (d := 45) (v := .slice (some ⟨b2, o2, none⟩) m c) rfl rfl (by kernel_rfl) (by kernel_rfl) (by kernel_rfl) (by kernel_rfl) (fun wx hS => by have z0 := ((below_via HV0.out hS.out).cell (p := ⟨b, off + k, none⟩) hbl.out).trans C0.out; go_simp) HS ?_
                refine held_take (i := 18) (d := 46) (v := .int .i64 j) rfl rfl (by kernel_rfl) (by kernel_rfl) (by kernel_rfl) (by kernel_rfl) (fun wx hS => by go_simp) HS ?_
                refine held_take (i := 19) (d := 47) (v := .pointer (some ⟨b2, o2 + j * 2, none⟩)) rfl rfl (by kernel_rfl) (by kernel_rfl) (by kernel_rfl) (by kernel_rfl) (fun wx hS => by go_simp) HS ?_
                refine held_take (i := 20) (d := 48) (v := .pointer (some ⟨b2, o2 + j * 2 + 1, none⟩)) rfl rfl (by kernel_rfl) (by kernel_rfl) (by kernel_rfl) (by kernel_rfl) (fun wx hS => by go_simp) HS ?_
                refine held_take (i := 21) (d := 49) (v := .int .i64 x) rfl rfl (by kernel_rfl) (by kernel_rfl) (by kernel_rfl) (by kernel_rfl) (fun wx hS => by have y1 := ((below_via HV0.out hS.out).cell (p := ⟨b2, o2 + j * 2 + 1, none⟩) hb2l.out).trans d1.out; go_simp) HS ?_
                refine wpAnyH_ready (rs := [22]) (by kernel_rfl) (by simp) (AllReadyH.cons rfl (fun K hK => ?_) AllReadyH.nil)
                go_simp
                refine (l1dec_any x HN.out.1 (by have := HN.out.2; omega) _).mono ?_
                rintro y w5 ⟨rfl, hB5⟩
                refine hK.out _ _ (Lib.hid (below_via HS.out hB5)) (fun HS => ?_)
                clear hK K
                refine held_take (i := 23) (d := 51) (v := .string (u ++ ⟨#[32]⟩ ++ s ++ ⟨#[61]⟩ ++ decB x)) rfl rfl (by kernel_rfl) (by kernel_rfl) (by kernel_rfl) (by kernel_rfl) (fun wx hS => by go_simp) HS ?_
                refine held_take (i := 24) (d := 3) (v := .string (u ++ ⟨#[32]⟩ ++ s ++ ⟨#[61]⟩ ++ decB x)) rfl rfl (by kernel_rfl) (by kernel_rfl) (by kernel_rfl) (by kernel_rfl) (fun wx hS => by go_simp) HS ?_
                refine wpAnyH_done (by kernel_rfl) (NoPanic.normal ?_) _
                simp only [List.setIfInBounds_toArray, List.set_cons_zero, List.set_cons_succ]
                go_wp2
                go_roundw
                case rel => exact ⟨j + 1, by omega, by go_num, by rw [HST2.out], Lib.hid (below_via HV0.out HS.out)⟩
                case measure => simp [intOf]; omega
            · obtain rfl : j = m := by omega
              have e : runTo t2 V j = outTo LS (k + 1) := by rw [HST.out, HVL.out]
              rw [e]
              clear e
              go_wp2
              go_roundw
              case rel => exact ⟨k + 1, by omega, by go_num, rfl, HY⟩
              case measure => simp [intOf]; omega
      · obtain rfl : k = n := by omega
        have HE := Lib.hid (show outTo LS k = resTx true f task LS by unfold resTx; rw [if_pos rfl, HL.out])
        go_wp2
        go_ret
        exact ⟨by rw [HE.out]; rfl, below_via HB.out HW.out⟩
end Go.Proofs.YtjfbmjeekihdaaaDoor
