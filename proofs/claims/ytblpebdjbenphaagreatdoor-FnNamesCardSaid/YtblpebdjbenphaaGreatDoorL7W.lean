
/- The model's Create, Put and Del on any store that may be read. Only new blocks are made. -/
import Derived.Test.YtblpebdjbenphaaGreatDoorL7C
import Derived.Test.YtblpebdjbenphaaGreatDoorL7P
import Derived.Test.YtblpebdjbenphaaGreatDoorL7D
import Derived.Test.YtblpebdjbenphaaGreatDoorStoreOkS
namespace Go.Proofs.YtblpebdjbenphaaGreatDoor
open Go.ChangeShapes Go.WideShapes Go.ChangeAt Go.RowKit
set_option linter.unusedVariables false
set_option maxRecDepth 100000

theorem sizeKey {s : ByteArray} (h : keyB s = true) : s.size ≤ maxLen := by have := key_len h; unfold maxLen; omega
/-- What Create, Put and Del come to: R. -/
def IsCreate (l : Objs) (m : Gones) (key data : ByteArray) (R : Els × Int × Int) : Prop := (StoP l m ∧ keyB key = true ∧ data.size ≤ 30000 → R = createE key data (elsOf l m)) ∧ (¬ (StoP l m ∧ keyB key = true ∧ data.size ≤ 30000) → R = ([], 0, 1))
def IsPut (l : Objs) (m : Gones) (key : ByteArray) (ver : Int) (data : ByteArray) (R : Els × Int × Int) : Prop := (StoP l m ∧ keyB key = true ∧ inB ver 1 1000000 = true ∧ data.size ≤ 30000 → R = replE key ver data (elsOf l m)) ∧ (¬ (StoP l m ∧ keyB key = true ∧ inB ver 1 1000000 = true ∧ data.size ≤ 30000) → R = ([], 0, 1))
def IsDel (l : Objs) (m : Gones) (key : ByteArray) (ver : Int) (R : Els × Int × Int) : Prop := (StoP l m ∧ keyB key = true ∧ inB ver 1 1000000 = true → R = delE key ver (elsOf l m)) ∧ (¬ (StoP l m ∧ keyB key = true ∧ inB ver 1 1000000 = true) → R = ([], 0, 1))
theorem isCreate_some (l : Objs) (m : Gones) (key data : ByteArray) : ∃ R, IsCreate l m key data R := by
  by_cases h : StoP l m ∧ keyB key = true ∧ data.size ≤ 30000
  · exact ⟨_, fun _ => rfl, fun k => absurd h k⟩
  · exact ⟨_, fun k => absurd k h, fun _ => rfl⟩
theorem isPut_some (l : Objs) (m : Gones) (key : ByteArray) (ver : Int) (data : ByteArray) : ∃ R, IsPut l m key ver data R := by
  by_cases h : StoP l m ∧ keyB key = true ∧ inB ver 1 1000000 = true ∧ data.size ≤ 30000
  · exact ⟨_, fun _ => rfl, fun k => absurd h k⟩
  · exact ⟨_, fun k => absurd k h, fun _ => rfl⟩
theorem isDel_some (l : Objs) (m : Gones) (key : ByteArray) (ver : Int) : ∃ R, IsDel l m key ver R := by
  by_cases h : StoP l m ∧ keyB key = true ∧ inB ver 1 1000000 = true
  · exact ⟨_, fun _ => rfl, fun k => absurd h k⟩
  · exact ⟨_, fun k => absurd k h, fun _ => rfl⟩
theorem StoI.els {w : World} {a g : Option Addr} {la ca lg cg : Nat} {l : Objs} {m : Gones} (h : StoI w a la ca l g lg cg m) : StoI w a la ca (objsOf (elsOf l m)) g lg cg (gonsOf (elsOf l m)) := by rw [els_back.1, els_back.2]; exact h
set_option maxHeartbeats 4000000 in
theorem sdel_any (a g : Option Addr) (la ca lg cg : Nat) (l : Objs) (m : Gones) (key : ByteArray) (ver : Int) (R : Els × Int × Int) (w : World) (h : StoI w a la ca l g lg cg m) (hla : la ≤ 1048576) (hlg : lg ≤ 1048576) (hks : key.size ≤ maxLen) (hR : IsDel l m key ver R) :
    Calls Tryz.prog 8 #[.agg #[.slice a la ca, .slice g lg cg], .string key, .int .i64 ver] w (MadeSD R w) := by
  have HS := Lib.hid h
  have HRI := Lib.hid hR
  have HKS := Lib.hid hks
  clear h hR hks
  obtain ⟨W0, hW0⟩ : ∃ W0, (w.alloc (.cells #[.slice a la ca, .slice g lg cg] 27)).alloc (.cells #[.slice none 0 0, .slice none 0 0] 27) = W0 := ⟨_, rfl⟩
  have HBR := Lib.hid (show BRow w #[.slice a la ca, .slice g lg cg] W0 by rw [← hW0]; exact ⟨below_alloc (below_alloc (Below.refl _ _) _) _, (row_new _ _ _).al _, row_new1 _ _ _ _⟩)
  have HW0 := Lib.hid hW0
  clear hW0
  go_enter Tryz.func8, Tryz.ntmps8
  go_wp2_with fail
  rw [HW0.out]
  refine (sstoreok_any _ _ _ _ _ _ l m _ (HS.out.at_.keep HBR.out.below) hla hlg).mono ?_
  rintro e w1 ⟨b1, rfl, hb1, hB⟩
  have HBR := Lib.hid (HBR.out.keep hB)
  have HP := Lib.hid hb1
  clear hB hb1 HW0
  obtain ⟨x0, x1⟩ := HBR.out.cells
  have r0 := HBR.out.res.cell (j := 0) (by simp)
  have r1 := HBR.out.res.cell (j := 1) (by simp)
  have f0 := HBR.out.res.free 0
  have f1 := HBR.out.res.free 1
  simp at r0 r1
  have hbr := ((HBR.out.res.set 0 (.slice none 0 0)).set 1 (.slice none 0 0))
  unfold Row at hbr
  have HRB := Lib.hid hbr
  clear hbr
  have HNO := Lib.hid (show R = ([], 0, 1) → MadeSD R w (.returned (.tuple #[.agg #[.slice none 0 0, .slice none 0 0], .int .i64 1])) ((w1.setCell ⟨w.heap.size + 1, 0, none⟩ (.slice none 0 0)).setCell ⟨w.heap.size + 1, 1, none⟩ (.slice none 0 0)) from fun hc => by
    rw [hc]
    refine ⟨none, 0, 0, none, 0, 0, rfl, (HBR.out.below.setCell (by show w.heap.size ≤ w.heap.size + 1; omega) _).setCell (by show w.heap.size ≤ w.heap.size + 1; omega) _, ?_⟩
    exact StoK.nil _ _)
  cases b1 with
  | false =>
    go_wp2
    have hb := HRB.out
    exact bodyPost_ret (v := .tuple #[.agg #[.slice none 0 0, .slice none 0 0], .int .i64 1]) (by simp [results, Tryz.results8, go_sem, World.cell?, hb]) rfl (HNO.out (HRI.out.2 (fun hh => by have := HP.out.2 hh.1; cases this)))
  | true =>
    cases hk : keyB key with
    | false =>
      have HK := Lib.hid hk
      clear hk
      go_wp2_with (first | (go_at_call 21; refine (l7key_any _ _ HKS.out).mono ?_; rw [HK.out]; rintro e w2 ⟨rfl, rfl⟩))
      have hb := HRB.out
      exact bodyPost_ret (v := .tuple #[.agg #[.slice none 0 0, .slice none 0 0], .int .i64 1]) (by simp [results, Tryz.results8, go_sem, World.cell?, hb]) rfl (HNO.out (HRI.out.2 (fun hh => by have h1 := hh.2.1; rw [HK.out] at h1; cases h1)))
    | true =>
      have HK := Lib.hid hk
      clear hk
      cases hv : inB ver 1 1000000 with
      | false =>
        have HV := Lib.hid hv
        clear hv
        go_wp2_with (first | (go_at_call 21; refine (l7key_any _ _ HKS.out).mono ?_; rw [HK.out]; rintro e w2 ⟨rfl, rfl⟩) | (go_at_call 22; refine (l7ver_any _ _).mono ?_; rw [HV.out]; rintro e w2 ⟨rfl, rfl⟩))
        have hb := HRB.out
        exact bodyPost_ret (v := .tuple #[.agg #[.slice none 0 0, .slice none 0 0], .int .i64 1]) (by simp [results, Tryz.results8, go_sem, World.cell?, hb]) rfl (HNO.out (HRI.out.2 (fun hh => by have h1 := hh.2.2; rw [HV.out] at h1; cases h1)))
      | true =>
        have HV := Lib.hid hv
        clear hv
        have HRE := Lib.hid (HRI.out.1 ⟨HP.out.1 rfl, HK.out, HV.out⟩)
        have HEP := Lib.hid (ep_of (HP.out.1 rfl))
        go_wp2_with (first | (go_at_call 21; refine (l7key_any _ _ HKS.out).mono ?_; rw [HK.out]; rintro e w2 ⟨rfl, rfl⟩) | (go_at_call 22; refine (l7ver_any _ _).mono ?_; rw [HV.out]; rintro e w2 ⟨rfl, rfl⟩))
        refine (l7del_any _ _ _ _ _ _ (elsOf l m) key ver _ HEP.out (HS.out.keep HBR.out.below).els).mono ?_
        rw [← HRE.out]
        rintro e w2 ⟨q1, n1, c1, q2, n2, c2, rfl, hB, hK⟩
        have HK2 := Lib.hid hK
        have HBQ := Lib.hid (HBR.out.keep hB)
        have HSZ := Lib.hid HBR.out.ge
        clear hB hK x0 x1 r0 r1 f0 f1
        have r0 := HBQ.out.res.cell (j := 0) (by simp)
        have r1 := HBQ.out.res.cell (j := 1) (by simp)
        have f0 := HBQ.out.res.free 0
        have f1 := HBQ.out.res.free 1
        simp at r0 r1
        go_wp2
        have hb := ((HBQ.out.res.set 0 (.slice q1 n1 c1)).set 1 (.slice q2 n2 c2))
        unfold Row at hb
        exact bodyPost_ret (v := .tuple #[.agg #[.slice q1 n1 c1, .slice q2 n2 c2], .int .i64 R.2.2]) (by simp [results, Tryz.results8, go_sem, World.cell?, hb]) rfl ⟨_, _, _, _, _, _, rfl, (HBQ.out.below.setCell (by show w.heap.size ≤ w.heap.size + 1; omega) _).setCell (by show w.heap.size ≤ w.heap.size + 1; omega) _, made_res (HK2.out.low HSZ.out) _ _⟩

end Go.Proofs.YtblpebdjbenphaaGreatDoor
