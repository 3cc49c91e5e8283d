
/- The program's Create, Put and Del. Only new blocks are made. -/
import Derived.Test.YtblpebdjbenphaaGreatDoorPfd
import Derived.Deep.RegionWith
namespace Go.Proofs.YtblpebdjbenphaaGreatDoor
open Go.ChangeShapes Go.WideShapes Go.ChangeAt Go.RowKit
set_option linter.unusedVariables false
set_option maxRecDepth 100000

theorem res_same {P R : Els × Int × Int} (h : P.2 = R.2) (h2 : R.2.2 = 0 → P.1 = R.1) : P.2 = R.2 ∧ resO P = resO R ∧ resG P = resG R := by
  refine ⟨h, ?_, ?_⟩
  · unfold resO
    rw [h]
    split
    · next hc => rw [h2 hc]
    · rfl
  · unfold resG
    rw [h]
    split
    · next hc => rw [h2 hc]
    · rfl
theorem create_perf {l : Objs} {m : Gones} {key data : ByteArray} {R P : Els × Int × Int} (hR : IsCreate l m key data R) (hP : IsPerf l m 1 key 0 data P) : P.2 = R.2 ∧ resO P = resO R ∧ resG P = resG R := by
  by_cases hs : StoP l m
  · rw [hP.1 hs]
    by_cases hc : keyB key = true ∧ data.size ≤ 30000
    · rw [hR.1 ⟨hs, hc.1, hc.2⟩]
      have hcb : cmdB 1 key 0 data = true := by rw [cmd_1 hc.1]; have := hc.2; simp; omega
      have : performE 1 key 0 data (elsOf l m) = createE key data (elsOf l m) := by unfold performE; rw [hcb]; rfl
      rw [this]; exact ⟨rfl, rfl, rfl⟩
    · rw [hR.2 (fun h => hc h.2)]
      have hcb : cmdB 1 key 0 data = false := by
        cases hx : cmdB 1 key 0 data with
        | false => rfl
        | true =>
          obtain ⟨hk, h | h | h⟩ := cmd_true hx
          · exact absurd ⟨hk, h.2.2⟩ hc
          · exact absurd h.1 (by decide)
          · exact absurd h.1 (by decide)
      have : performE 1 key 0 data (elsOf l m) = (elsOf l m, 0, 1) := by unfold performE; rw [hcb]; rfl
      rw [this]; exact res_same rfl (fun h => absurd h (by decide))
  · rw [hP.2 hs, hR.2 (fun h => hs h.1)]; exact ⟨rfl, rfl, rfl⟩
theorem put_perf {l : Objs} {m : Gones} {key : ByteArray} {ver : Int} {data : ByteArray} {R P : Els × Int × Int} (hR : IsPut l m key ver data R) (hP : IsPerf l m 2 key ver data P) : P.2 = R.2 ∧ resO P = resO R ∧ resG P = resG R := by
  by_cases hs : StoP l m
  · rw [hP.1 hs]
    by_cases hc : keyB key = true ∧ inB ver 1 1000000 = true ∧ data.size ≤ 30000
    · rw [hR.1 ⟨hs, hc.1, hc.2.1, hc.2.2⟩]
      have hcb : cmdB 2 key ver data = true := by rw [cmd_2 hc.1, hc.2.1]; have := hc.2.2; simp; omega
      have : performE 2 key ver data (elsOf l m) = replE key ver data (elsOf l m) := by unfold performE; rw [hcb]; rfl
      rw [this]; exact ⟨rfl, rfl, rfl⟩
    · rw [hR.2 (fun h => hc h.2)]
      have hcb : cmdB 2 key ver data = false := by
        cases hx : cmdB 2 key ver data with
        | false => rfl
        | true =>
          obtain ⟨hk, h | h | h⟩ := cmd_true hx
          · exact absurd h.1 (by decide)
          · exact absurd ⟨hk, h.2.1, h.2.2⟩ hc
          · exact absurd h.1 (by decide)
      have : performE 2 key ver data (elsOf l m) = (elsOf l m, 0, 1) := by unfold performE; rw [hcb]; rfl
      rw [this]; exact res_same rfl (fun h => absurd h (by decide))
  · rw [hP.2 hs, hR.2 (fun h => hs h.1)]; exact ⟨rfl, rfl, rfl⟩
theorem del_perf {l : Objs} {m : Gones} {key : ByteArray} {ver : Int} {R P : Els × Int × Int} (hR : IsDel l m key ver R) (hP : IsPerf l m 3 key ver ⟨#[]⟩ P) : P.2 = R.2 ∧ resO P = resO R ∧ resG P = resG R := by
  by_cases hs : StoP l m
  · rw [hP.1 hs]
    by_cases hc : keyB key = true ∧ inB ver 1 1000000 = true
    · rw [hR.1 ⟨hs, hc.1, hc.2⟩]
      have hcb : cmdB 3 key ver ⟨#[]⟩ = true := by rw [cmd_3 hc.1, hc.2, Lib.toList_data]; rfl
      have : performE 3 key ver ⟨#[]⟩ (elsOf l m) = delE key ver (elsOf l m) := by unfold performE; rw [hcb]; rfl
      rw [this]; exact ⟨rfl, rfl, rfl⟩
    · rw [hR.2 (fun h => hc h.2)]
      have hcb : cmdB 3 key ver ⟨#[]⟩ = false := by
        cases hx : cmdB 3 key ver ⟨#[]⟩ with
        | false => rfl
        | true =>
          obtain ⟨hk, h | h | h⟩ := cmd_true hx
          · exact absurd h.1 (by decide)
          · exact absurd h.1 (by decide)
          · exact absurd ⟨hk, h.2⟩ hc
      have : performE 3 key ver ⟨#[]⟩ (elsOf l m) = (elsOf l m, 0, 1) := by unfold performE; rw [hcb]; rfl
      rw [this]; exact res_same rfl (fun h => absurd h (by decide))
  · rw [hP.2 hs, hR.2 (fun h => hs h.1)]; exact ⟨rfl, rfl, rfl⟩

set_option maxHeartbeats 4000000 in
theorem pcre_any (a g : Option Addr) (la ca lg cg : Nat) (l : Objs) (m : Gones) (A : ErrA) (key data : ByteArray) (R : Els × Int × Int) (w : World) (h : StoAt w a la l g lg m) (hla : la ≤ 1048576) (hlg : lg ≤ 1048576) (hA : TabsEA A w) (hks : key.size ≤ maxLen) (hds : data.size ≤ maxLen) (hR : IsCreate l m key data R) :
    Calls Tryz.prog 11 #[.agg #[.slice a la ca, .slice g lg cg], .string key, .string data] w (MadeSR R w) := by
  obtain ⟨P, hP⟩ := isPerf_some l m 1 key 0 data
  have HPR := Lib.hid (create_perf hR hP)
  have HPI := Lib.hid hP
  have HPC := Lib.hid (isPerf_code hP).1
  have HS := Lib.hid h
  have HKS := Lib.hid hks
  have HDS := Lib.hid hds
  have HA := Lib.hid hA
  clear h hR hks hds hA hP
  obtain ⟨W0, hW0⟩ : ∃ W0, (w.alloc (.cells #[.slice a la ca, .slice g lg cg] 27)).alloc (.cells #[.slice none 0 0, .slice none 0 0] 27) = W0 := ⟨_, rfl⟩
  have HBR := Lib.hid (show BRow w #[.slice a la ca, .slice g lg cg] W0 by rw [← hW0]; exact ⟨below_alloc (below_alloc (Below.refl _ _) _) _, (row_new _ _ _).al _, row_new1 _ _ _ _⟩)
  have HW0 := Lib.hid hW0
  clear hW0
  go_enter Tryz.func11, Tryz.ntmps11
  go_wp2_with fail
  rw [HW0.out]
  refine (performed_any _ _ _ _ _ _ l m A 1 key 0 data P _ (HS.out.keep HBR.out.below) hla hlg (HA.out.keep HBR.out.below) HKS.out HDS.out HPI.out).mono ?_
  rintro e w1 ⟨q1, n1, c1, q2, n2, c2, rfl, hB, hK⟩
  have HK := Lib.hid (hK.low HBR.out.ge)
  have HBR := Lib.hid (HBR.out.keep hB)
  clear hB hK HW0
  go_wp2_with fail
  obtain ⟨w2, hw2⟩ : ∃ w2, w1.alloc (.cells #[.slice q1 n1 c1, .slice q2 n2 c2] 27) = w2 := ⟨_, rfl⟩
  obtain ⟨U, hU⟩ : ∃ U, w1.heap.size = U := ⟨_, rfl⟩
  have HU := Lib.hid (show Row w2 U 27 #[.slice q1 n1 c1, .slice q2 n2 c2] by rw [← hw2, ← hU]; exact row_new _ _ _)
  have HBR2 := Lib.hid (show BRow w #[.slice a la ca, .slice g lg cg] w2 by rw [← hw2]; exact HBR.out.al _)
  have HK2 := Lib.hid (show StoK (w.heap.size + 2) w2 q1 n1 c1 q2 n2 c2 (resO P) (resG P) by rw [← hw2]; exact HK.out.keep (below_alloc (Below.refl _ _) _))
  rw [hw2, hU]
  clear hw2 hU HBR HK
  have HT := Lib.hid (show TabsEA A w2.drew from HA.out.keep HBR2.out.below.drew)
  have y0 := HU.out.cell (j := 0) (by simp)
  have y1 := HU.out.cell (j := 1) (by simp)
  have r0 := HBR2.out.res.cell (j := 0) (by simp)
  have r1 := HBR2.out.res.cell (j := 1) (by simp)
  simp at y0 y1 r0 r1
  have f0 := HBR2.out.res.free 0
  have f1 := HBR2.out.res.free 1
  have hrb := ((HBR2.out.res).set 0 (.slice q1 n1 c1)).set 1 (.slice q2 n2 c2)
  unfold Row at hrb
  have HRB := Lib.hid (show (((w2.setCell ⟨w.heap.size + 1, 0, none⟩ (.slice q1 n1 c1)).setCell ⟨w.heap.size + 1, 1, none⟩ (.slice q2 n2 c2)).drew).heap[w.heap.size + 1]? = _ from hrb)
  have HFIN := Lib.hid (show MadeSR R w (.returned (.tuple #[.agg #[.slice q1 n1 c1, .slice q2 n2 c2], .int .i64 P.2.1, .int .i64 P.2.2])) ((w2.setCell ⟨w.heap.size + 1, 0, none⟩ (.slice q1 n1 c1)).setCell ⟨w.heap.size + 1, 1, none⟩ (.slice q2 n2 c2)).drew from
    ⟨q1, n1, c1, q2, n2, c2, by rw [HPR.out.1], ((HBR2.out.below.setCell (by show w.heap.size ≤ w.heap.size + 1; omega) _).setCell (by show w.heap.size ≤ w.heap.size + 1; omega) _).drew, by rw [← HPR.out.2.1, ← HPR.out.2.2]; exact (made_res HK2.out _ _).keep (Below.refl _ _).drew⟩)
  clear hrb
  go_region_with (go_at_call 19; refine (codeof_any A P.2.2 _ HT.out HPC.out).mono ?_; rintro e w' ⟨rfl, rfl⟩)
  all_goals
    go_wp2
    have hb := HRB.out
    exact bodyPost_ret (v := .tuple #[.agg #[.slice q1 n1 c1, .slice q2 n2 c2], .int .i64 P.2.1, .int .i64 P.2.2]) (by simp [results, Tryz.results11, go_sem, World.cell?, hb]) rfl HFIN.out
set_option maxHeartbeats 4000000 in
theorem pde_any (a g : Option Addr) (la ca lg cg : Nat) (l : Objs) (m : Gones) (A : ErrA) (key : ByteArray) (ver : Int) (R : Els × Int × Int) (w : World) (h : StoAt w a la l g lg m) (hla : la ≤ 1048576) (hlg : lg ≤ 1048576) (hA : TabsEA A w) (hks : key.size ≤ maxLen) (hR : IsDel l m key ver R) :
    Calls Tryz.prog 7 #[.agg #[.slice a la ca, .slice g lg cg], .string key, .int .i64 ver] w (MadeSD R w) := by
  obtain ⟨P, hP⟩ := isPerf_some l m 3 key ver ⟨#[]⟩
  have HPR := Lib.hid (del_perf hR hP)
  have HPI := Lib.hid hP
  have HPC := Lib.hid (isPerf_code hP).1
  have HS := Lib.hid h
  have HKS := Lib.hid hks
  have HA := Lib.hid hA
  clear h hR hks hA hP
  obtain ⟨W0, hW0⟩ : ∃ W0, (w.alloc (.cells #[.slice a la ca, .slice g lg cg] 27)).alloc (.cells #[.slice none 0 0, .slice none 0 0] 27) = W0 := ⟨_, rfl⟩
  have HBR := Lib.hid (show BRow w #[.slice a la ca, .slice g lg cg] W0 by rw [← hW0]; exact ⟨below_alloc (below_alloc (Below.refl _ _) _) _, (row_new _ _ _).al _, row_new1 _ _ _ _⟩)
  have HW0 := Lib.hid hW0
  clear hW0
  go_enter Tryz.func7, Tryz.ntmps7
  go_wp2_with fail
  rw [HW0.out]
  refine (performed_any _ _ _ _ _ _ l m A 3 key ver ⟨#[]⟩ P _ (HS.out.keep HBR.out.below) hla hlg (HA.out.keep HBR.out.below) HKS.out (Nat.zero_le _) HPI.out).mono ?_
  rintro e w1 ⟨q1, n1, c1, q2, n2, c2, rfl, hB, hK⟩
  have HK := Lib.hid (hK.low HBR.out.ge)
  have HBR := Lib.hid (HBR.out.keep hB)
  clear hB hK HW0
  go_wp2_with fail
  obtain ⟨w2, hw2⟩ : ∃ w2, w1.alloc (.cells #[.slice q1 n1 c1, .slice q2 n2 c2] 27) = w2 := ⟨_, rfl⟩
  obtain ⟨U, hU⟩ : ∃ U, w1.heap.size = U := ⟨_, rfl⟩
  have HU := Lib.hid (show Row w2 U 27 #[.slice q1 n1 c1, .slice q2 n2 c2] by rw [← hw2, ← hU]; exact row_new _ _ _)
  have HBR2 := Lib.hid (show BRow w #[.slice a la ca, .slice g lg cg] w2 by rw [← hw2]; exact HBR.out.al _)
  have HK2 := Lib.hid (show StoK (w.heap.size + 2) w2 q1 n1 c1 q2 n2 c2 (resO P) (resG P) by rw [← hw2]; exact HK.out.keep (below_alloc (Below.refl _ _) _))
  rw [hw2, hU]
  clear hw2 hU HBR HK
  have HT := Lib.hid (show TabsEA A w2.drew from HA.out.keep HBR2.out.below.drew)
  have y0 := HU.out.cell (j := 0) (by simp)
  have y1 := HU.out.cell (j := 1) (by simp)
  have r0 := HBR2.out.res.cell (j := 0) (by simp)
  have r1 := HBR2.out.res.cell (j := 1) (by simp)
  simp at y0 y1 r0 r1
  have f0 := HBR2.out.res.free 0
  have f1 := HBR2.out.res.free 1
  have hrb := ((HBR2.out.res).set 0 (.slice q1 n1 c1)).set 1 (.slice q2 n2 c2)
  unfold Row at hrb
  have HRB := Lib.hid (show (((w2.setCell ⟨w.heap.size + 1, 0, none⟩ (.slice q1 n1 c1)).setCell ⟨w.heap.size + 1, 1, none⟩ (.slice q2 n2 c2)).drew).heap[w.heap.size + 1]? = _ from hrb)
  have HFIN := Lib.hid (show MadeSD R w (.returned (.tuple #[.agg #[.slice q1 n1 c1, .slice q2 n2 c2], .int .i64 P.2.2])) ((w2.setCell ⟨w.heap.size + 1, 0, none⟩ (.slice q1 n1 c1)).setCell ⟨w.heap.size + 1, 1, none⟩ (.slice q2 n2 c2)).drew from
    ⟨q1, n1, c1, q2, n2, c2, by rw [HPR.out.1], ((HBR2.out.below.setCell (by show w.heap.size ≤ w.heap.size + 1; omega) _).setCell (by show w.heap.size ≤ w.heap.size + 1; omega) _).drew, by rw [← HPR.out.2.1, ← HPR.out.2.2]; exact (made_res HK2.out _ _).keep (Below.refl _ _).drew⟩)
  clear hrb
  go_region_with (go_at_call 19; refine (codeof_any A P.2.2 _ HT.out HPC.out).mono ?_; rintro e w' ⟨rfl, rfl⟩)
  all_goals
    go_wp2
    have hb := HRB.out
    exact bodyPost_ret (v := .tuple #[.agg #[.slice q1 n1 c1, .slice q2 n2 c2], .int .i64 P.2.2]) (by simp [results, Tryz.results7, go_sem, World.cell?, hb]) rfl HFIN.out
end Go.Proofs.YtblpebdjbenphaaGreatDoor
