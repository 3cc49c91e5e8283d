
/- The exact law on the text of a result, walked. Only new blocks are made. -/
import Derived.Test.YtjfbmjeekihdaaaDoorResS
import Derived.Test.YtjfbmjeekihdaaaDoorResP2
import Derived.Test.YtjfbmjeekihdaaaDoorResL
namespace Go.Proofs.YtjfbmjeekihdaaaDoor
open Go.ChangeShapes Go.WideShapes Go.ChangeAt Go.RowKit
set_option linter.unusedVariables false
set_option maxRecDepth 100000

theorem few_of {n : Nat} {LS : List Recs} (hl : LS.length = n) (h1 : n ≤ 1048576) (h2 : LS.flatten.length ≤ 1048576) (h3 : ∀ i, i < n → ∀ j, j < (LS.getD i []).length → (keyAt (LS.getD i []) j).size ≤ 1048576) (hn : ∀ V ∈ LS, ∀ r ∈ V, In64 r.2) : FewR LS := by
  refine ⟨by omega, h2, fun V hV r hr => ?_, hn⟩
  obtain ⟨i, hi, e⟩ := List.mem_iff_getElem.1 hV
  obtain ⟨j, hj, e2⟩ := List.mem_iff_getElem.1 hr
  have e3 : LS.getD i [] = V := by rw [List.getD_eq_getElem?_getD, List.getElem?_eq_getElem hi]; exact e
  have := h3 i (by omega) j (by rw [e3]; exact hj)
  rw [e3] at this
  have e4 : V[j] = (keyAt V j, numAt V j) := by
    unfold keyAt numAt
    rw [List.getD_eq_getElem?_getD, List.getElem?_eq_getElem hj]
    rfl
  rw [← e2, e4]
  exact this

set_option maxHeartbeats 8000000 in
theorem fnExactResultText_walk (d f : Bool) (task : Int) (q : Option Addr) (n cp : Nat) (LS : List Recs) (w : World) (h : RunLs w q n LS) (hn : ∀ V ∈ LS, ∀ r ∈ V, In64 r.2) (ht : In64 task) (hT : Tabs w) :
    Calls Tryd.prog 4 #[.agg #[.bool d, .bool f, .int .i64 task, .slice q n cp]] w fun e w' => e = .returned (.bool true) ∧ Below w.heap.size w w' := by
  obtain ⟨B, hB⟩ : ∃ B, w.heap.size = B := ⟨_, rfl⟩
  obtain ⟨w1, hw1⟩ : ∃ x, w.alloc (.cells #[.bool d, .bool f, .int .i64 task, .slice q n cp] 30) = x := ⟨_, rfl⟩
  have HB := Lib.hid (show Below w.heap.size w w1 from hw1 ▸ below_alloc (Below.refl _ _) _)
  have HR := Lib.hid (show Row w1 B 30 #[.bool d, .bool f, .int .i64 task, .slice q n cp] from by rw [← hw1, ← hB]; exact Row.new w _ _)
  have HO := Lib.hid (h.keep HB.out)
  have HT := Lib.hid (hT.keep HB.out)
  have HN := Lib.hid hn
  have HI := Lib.hid ht
  have HL := Lib.hid h.1
  have k0 := HR.out.cell (j := 0) (by simp)
  have k1 := HR.out.cell (j := 1) (by simp)
  have k2 := HR.out.cell (j := 2) (by simp)
  have k3 := HR.out.cell (j := 3) (by simp)
  simp at k0 k1 k2 k3
  clear h hn ht hT
  go_enter Tryd.func4, Tryd.ntmps4
  go_wp2_with fail
  refine (szresult_any d f task 1048576 q n cp LS _ HO.out (by decide) (by decide)).mono ?_
  rintro e w2 ⟨x, hx1, hx2, rfl, hB2, hsz⟩
  have HV := Lib.hid (below_via HB.out hB2)
  have HR := Lib.hid (HR.out.keep hB2)
  have HO := Lib.hid (HO.out.keep hB2)
  have HT := Lib.hid (HT.out.keep hB2)
  clear hB2 k0 k1 k2 k3 hB hw1 HB
  by_cases hneg : x < 0
  · go_wp2
    go_ret
    exact ⟨rfl, HV.out⟩
  · obtain ⟨s1, s2, s3, s4⟩ := hsz (by omega)
    have HF := Lib.hid (few_of HL.out s1 s2 s4 HN.out)
    have HSH := Lib.hid (show ∀ i, i < n → nAt LS i ≤ 1048576 from s3)
    have hn6 : n ≤ 1048576 := s1
    have k0 := HR.out.cell (j := 0) (by simp)
    have k1 := HR.out.cell (j := 1) (by simp)
    have k2 := HR.out.cell (j := 2) (by simp)
    have k3 := HR.out.cell (j := 3) (by simp)
    simp at k0 k1 k2 k3
    clear s1 s2 s3 s4 hsz
    go_wp2_with fail
    refine (toresult_any d f task q n cp LS _ HO.out hn6 HSH.out).mono ?_
    rintro e w3 ⟨q3, rfl, hB3, hr3⟩
    have HV := Lib.hid (below_via HV.out hB3)
    have HR := Lib.hid (HR.out.keep hB3)
    have HO := Lib.hid (HO.out.keep hB3)
    have HT := Lib.hid (HT.out.keep hB3)
    have HR3 := Lib.hid hr3
    clear hB3 hr3 k0 k1 k2 k3
    go_wp2_with fail
    refine (sresulttext_any d f task q3 n n LS _ HR3.out.outs HF.out HI.out).mono ?_
    rintro e w4 ⟨rfl, hB4⟩
    have HV := Lib.hid (below_via HV.out hB4)
    have HR := Lib.hid (HR.out.keep hB4)
    have HO := Lib.hid (HO.out.keep hB4)
    have HT := Lib.hid (HT.out.keep hB4)
    obtain ⟨tx, htx⟩ : ∃ tx, resTx d f task LS = tx := ⟨_, rfl⟩
    have HTX := Lib.hid htx
    rw [htx]
    have k0 := HR.out.cell (j := 0) (by simp)
    have k1 := HR.out.cell (j := 1) (by simp)
    have k2 := HR.out.cell (j := 2) (by simp)
    have k3 := HR.out.cell (j := 3) (by simp)
    simp at k0 k1 k2 k3
    clear hB4 htx HR3
    go_wp2_with fail
    refine (toresult_any d f task q n cp LS _ HO.out hn6 HSH.out).mono ?_
    rintro e w5 ⟨q5, rfl, hB5, hr5⟩
    have HV := Lib.hid (below_alloc (below_via HV.out hB5) (.cells #[.bool d, .bool f, .int .i64 task, .slice q5 n n] 35))
    have HR := Lib.hid ((HR.out.keep hB5).alloc (.cells #[.bool d, .bool f, .int .i64 task, .slice q5 n n] 35))
    have HO := Lib.hid ((HO.out.keep hB5).keep (below_alloc (Below.refl _ _) (.cells #[.bool d, .bool f, .int .i64 task, .slice q5 n n] 35)))
    have HT := Lib.hid ((HT.out.keep hB5).keep (below_alloc (Below.refl _ _) (.cells #[.bool d, .bool f, .int .i64 task, .slice q5 n n] 35)))
    have HR5 := Lib.hid (hr5.keep (below_alloc (Below.refl _ _) (.cells #[.bool d, .bool f, .int .i64 task, .slice q5 n n] 35)))
    have HX := Lib.hid (Row.new w5 35 #[.bool d, .bool f, .int .i64 task, .slice q5 n n])
    clear hB5 hr5 k0 k1 k2 k3
    go_wp2_with fail
    obtain ⟨X, hX⟩ : ∃ X, w5.heap.size = X := ⟨_, rfl⟩
    obtain ⟨w6, hw6⟩ : ∃ x, w5.alloc (.cells #[.bool d, .bool f, .int .i64 task, .slice q5 n n] 35) = x := ⟨_, rfl⟩
    rw [hX] at HX
    rw [hw6] at HV HR HO HT HR5 HX
    try rw [hw6, hX]
    clear hX hw6
    refine (resulttext_any d f task q5 n n LS _ HR5.out.outs HF.out HI.out HT.out).mono ?_
    rintro e w7 ⟨rfl, hB7⟩
    rw [HTX.out]
    have HV := Lib.hid (below_via HV.out hB7)
    have HR := Lib.hid (HR.out.keep hB7)
    have HO := Lib.hid (HO.out.keep hB7)
    have HR5 := Lib.hid (HR5.out.keep hB7)
    have HX := Lib.hid (HX.out.keep hB7)
    clear hB7 HT
    go_wp2_with fail
    refine wp_region_noPanic ?_
    obtain ⟨v0, hv0⟩ : ∃ x, w7.drew = x := ⟨_, rfl⟩
    have HV : Hid (Below w.heap.size w v0) := Lib.hid (by rw [← hv0]; exact below_drewN HV.out 1)
    have HR : Hid (Row v0 B 30 #[.bool d, .bool f, .int .i64 task, .slice q n cp]) := Lib.hid (by rw [← hv0]; exact HR.out.keep (below_drewN (Below.refl _ _) 1))
    have HX : Hid (Row v0 X 35 #[.bool d, .bool f, .int .i64 task, .slice q5 n n]) := Lib.hid (by rw [← hv0]; exact HX.out.keep (below_drewN (Below.refl _ _) 1))
    have HO : Hid (RunLs v0 q n LS) := Lib.hid (by rw [← hv0]; exact HO.out.keep (below_drewN (Below.refl _ _) 1))
    have HR5 : Hid (RunLs v0 q5 n LS) := Lib.hid (by rw [← hv0]; exact HR5.out.keep (below_drewN (Below.refl _ _) 1))
    refine wp_region_held_drew (S := (fun w' => Hid (Below w.heap.size w w' ∧ Row w' B 30 #[.bool d, .bool f, .int .i64 task, .slice q n cp] ∧ Row w' X 35 #[.bool d, .bool f, .int .i64 task, .slice q5 n n]))) (by kernel_rfl) (by rw [hv0]; exact Lib.hid ⟨HV.out, HR.out, HX.out⟩) (fun HS => ?_)
    rw [hv0] at HS ⊢
    clear hv0
    refine held_take (i := 0) (d := 22) (v := .agg #[.bool d, .bool f, .int .i64 task, .slice q5 n n]) rfl rfl (by kernel_rfl) (by kernel_rfl) (by kernel_rfl) (by kernel_rfl) (fun wx hS => by have z0 := hS.out.2.2.cell (j := 0) (by simp); have z1 := hS.out.2.2.cell (j := 1) (by simp); have z2 := hS.out.2.2.cell (j := 2) (by simp); have z3 := hS.out.2.2.cell (j := 3) (by simp); simp at z0 z1 z2 z3; go_simp) HS ?_
    refine held_take (i := 1) (d := 23) (v := .agg #[.bool d, .bool f, .int .i64 task, .slice q n cp]) rfl rfl (by kernel_rfl) (by kernel_rfl) (by kernel_rfl) (by kernel_rfl) (fun wx hS => by have z0 := hS.out.2.1.cell (j := 0) (by simp); have z1 := hS.out.2.1.cell (j := 1) (by simp); have z2 := hS.out.2.1.cell (j := 2) (by simp); have z3 := hS.out.2.1.cell (j := 3) (by simp); simp at z0 z1 z2 z3; go_simp) HS ?_
    refine wpAnyH_ready (rs := [2]) (by kernel_rfl) (by simp) (AllReadyH.cons rfl (fun K hK => ?_) AllReadyH.nil)
    go_simp
    refine (toresult_any d f task q n cp LS _ HO.out hn6 HSH.out).mono ?_
    rintro y w8 ⟨q8, rfl, hB8, hr8⟩
    have HR5 := Lib.hid (HR5.out.keep hB8)
    have HR8 := Lib.hid hr8
    refine hK.out _ _ (Lib.hid ⟨below_via HS.out.1 hB8, HS.out.2.1.keep hB8, HS.out.2.2.keep hB8⟩) (fun HS => ?_)
    clear hK K
    refine wpAnyH_ready (rs := [3]) (by kernel_rfl) (by simp) (AllReadyH.cons rfl (fun K hK => ?_) AllReadyH.nil)
    go_simp
    refine (eqresult_same d f task _ _ _ _ _ LS _ HR5.out HR8.out).mono ?_
    rintro y w9 ⟨rfl, hB9⟩
    refine hK.out _ _ (Lib.hid ⟨below_via HS.out.1 hB9, HS.out.2.1.keep hB9, HS.out.2.2.keep hB9⟩) (fun HS => ?_)
    clear hK K
    refine held_take (i := 4) (d := 26) (v := .bool false) rfl rfl (by kernel_rfl) (by kernel_rfl) (by kernel_rfl) (by kernel_rfl) (fun wx hS => by go_simp) HS ?_
    refine wpAnyH_done (by kernel_rfl) (NoPanic.normal ?_) _
    go_wp2
    go_ret
    exact ⟨rfl, HS.out.1⟩
end Go.Proofs.YtjfbmjeekihdaaaDoor
