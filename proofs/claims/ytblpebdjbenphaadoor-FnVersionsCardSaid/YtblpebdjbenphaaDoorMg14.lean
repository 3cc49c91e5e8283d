/- Texts put together, as a claim holds at most sixty files. -/
import Derived.Test.YtblpebdjbenphaaDoorMg12
import Derived.Test.YtblpebdjbenphaaDoorL7P
import Derived.Test.YtblpebdjbenphaaDoorMg13
import Derived.Test.YtblpebdjbenphaaDoorMg7
import Derived.RegionTactic
import Derived.BigRegion
import Derived.Test.YtblpebdjbenphaaDoorMg6
namespace Go.Proofs.YtblpebdjbenphaaDoor
open Go.ChangeShapes Go.WideShapes Go.ChangeAt Go.RowKit
set_option linter.unusedVariables false
set_option maxRecDepth 100000

theorem sizeKey {s : ByteArray} (h : keyB s = true) : s.size ≤ maxLen := by have := key_len h; unfold maxLen; omega
/-- What Create, Put and Del come to: R. -/
def IsCreate (l : Objs) (m : Gones) (key data : ByteArray) (R : Els × Int × Int) : Prop := (StoP l m ∧ keyB key = true ∧ data.size ≤ 30000 → R = createE key data (elsOf l m)) ∧ (¬ (StoP l m ∧ keyB key = true ∧ data.size ≤ 30000) → R = ([], 0, 1))
def IsPut (l : Objs) (m : Gones) (key : ByteArray) (ver : Int) (data : ByteArray) (R : Els × Int × Int) : Prop := (StoP l m ∧ keyB key = true ∧ inB ver 1 1000000 = true ∧ data.size ≤ 30000 → R = replE key ver data (elsOf l m)) ∧ (¬ (StoP l m ∧ keyB key = true ∧ inB ver 1 1000000 = true ∧ data.size ≤ 30000) → R = ([], 0, 1))
def IsDel (l : Objs) (m : Gones) (key : ByteArray) (ver : Int) (R : Els × Int × Int) : Prop := (StoP l m ∧ keyB key = true ∧ inB ver 1 1000000 = true → R = delE key ver (elsOf l m)) ∧ (¬ (StoP l m ∧ keyB key = true ∧ inB ver 1 1000000 = true) → R = ([], 0, 1))
theorem isCreate_some (l : Objs) (m : Gones) (key data : ByteArray) : ∃ R, IsCreate l m key data R := by
  by_cases h : StoP l m ∧ keyB key = true ∧ data.size ≤ 30000
  · exact ⟨_, fun _ => rfl, fun k => absurd h k⟩
  · exact ⟨_, fun k => absurd k h, fun _ => rfl⟩
theorem isPut_some (l : Objs) (m : Gones) (key : ByteArray) (ver : Int) (data : ByteArray) : ∃ R, IsPut l m key ver data R := by
  by_cases h : StoP l m ∧ keyB key = true ∧ inB ver 1 1000000 = true ∧ data.size ≤ 30000
  · exact ⟨_, fun _ => rfl, fun k => absurd h k⟩
  · exact ⟨_, fun k => absurd k h, fun _ => rfl⟩
theorem isDel_some (l : Objs) (m : Gones) (key : ByteArray) (ver : Int) : ∃ R, IsDel l m key ver R := by
  by_cases h : StoP l m ∧ keyB key = true ∧ inB ver 1 1000000 = true
  · exact ⟨_, fun _ => rfl, fun k => absurd h k⟩
  · exact ⟨_, fun k => absurd k h, fun _ => rfl⟩
theorem StoI.els {w : World} {a g : Option Addr} {la ca lg cg : Nat} {l : Objs} {m : Gones} (h : StoI w a la ca l g lg cg m) : StoI w a la ca (objsOf (elsOf l m)) g lg cg (gonsOf (elsOf l m)) := by rw [els_back.1, els_back.2]; exact h
set_option maxHeartbeats 4000000 in
theorem screate_any (a g : Option Addr) (la ca lg cg : Nat) (l : Objs) (m : Gones) (key data : ByteArray) (R : Els × Int × Int) (w : World) (h : StoI w a la ca l g lg cg m) (hla : la ≤ 1048576) (hlg : lg ≤ 1048576) (hks : key.size ≤ maxLen) (hds : data.size ≤ maxLen) (hR : IsCreate l m key data R) :
    Calls Tryd.prog 10 #[.agg #[.slice a la ca, .slice g lg cg], .string key, .string data] w (MadeSR R w) := by
  have HS := Lib.hid h
  have HRI := Lib.hid hR
  have HKS := Lib.hid hks
  have hdm := hds
  unfold maxLen at hdm
  clear hds
  clear h hR hks
  obtain ⟨W0, hW0⟩ : ∃ W0, (w.alloc (.cells #[.slice a la ca, .slice g lg cg] 27)).alloc (.cells #[.slice none 0 0, .slice none 0 0] 27) = W0 := ⟨_, rfl⟩
  have HBR := Lib.hid (show BRow w #[.slice a la ca, .slice g lg cg] W0 by rw [← hW0]; exact ⟨below_alloc (below_alloc (Below.refl _ _) _) _, (row_new _ _ _).al _, row_new1 _ _ _ _⟩)
  have HW0 := Lib.hid hW0
  clear hW0
  go_enter Tryd.func10, Tryd.ntmps10
  go_wp2_with fail
  rw [HW0.out]
  refine (sstoreok_any _ _ _ _ _ _ l m _ (HS.out.at_.keep HBR.out.below) hla hlg).mono ?_
  rintro e w1 ⟨b1, rfl, hb1, hB⟩
  have HBR := Lib.hid (HBR.out.keep hB)
  have HP := Lib.hid hb1
  clear hB hb1 HW0
  obtain ⟨x0, x1⟩ := HBR.out.cells
  have r0 := HBR.out.res.cell (j := 0) (by simp)
  have r1 := HBR.out.res.cell (j := 1) (by simp)
  have f0 := HBR.out.res.free 0
  have f1 := HBR.out.res.free 1
  simp at r0 r1
  have hbr := ((HBR.out.res.set 0 (.slice none 0 0)).set 1 (.slice none 0 0))
  unfold Row at hbr
  have HRB := Lib.hid hbr
  clear hbr
  have HNO := Lib.hid (show R = ([], 0, 1) → MadeSR R w (.returned (.tuple #[.agg #[.slice none 0 0, .slice none 0 0], .int .i64 0, .int .i64 1])) ((w1.setCell ⟨w.heap.size + 1, 0, none⟩ (.slice none 0 0)).setCell ⟨w.heap.size + 1, 1, none⟩ (.slice none 0 0)) from fun hc => by
    rw [hc]
    refine ⟨none, 0, 0, none, 0, 0, rfl, (HBR.out.below.setCell (by show w.heap.size ≤ w.heap.size + 1; omega) _).setCell (by show w.heap.size ≤ w.heap.size + 1; omega) _, ?_⟩
    exact StoK.nil _ _)
  cases b1 with
  | false =>
    go_wp2
    have hb := HRB.out
    exact bodyPost_ret (v := .tuple #[.agg #[.slice none 0 0, .slice none 0 0], .int .i64 0, .int .i64 1]) (by simp [results, Tryd.results10, go_sem, World.cell?, hb]) rfl (HNO.out (HRI.out.2 (fun hh => by have := HP.out.2 hh.1; cases this)))
  | true =>
    cases hk : keyB key with
    | false =>
      have HK := Lib.hid hk
      clear hk
      go_wp2_with (first | (go_at_call 31; refine (l7key_any _ _ HKS.out).mono ?_; rw [HK.out]; rintro e w2 ⟨rfl, rfl⟩))
      have hb := HRB.out
      exact bodyPost_ret (v := .tuple #[.agg #[.slice none 0 0, .slice none 0 0], .int .i64 0, .int .i64 1]) (by simp [results, Tryd.results10, go_sem, World.cell?, hb]) rfl (HNO.out (HRI.out.2 (fun hh => by have h1 := hh.2.1; rw [HK.out] at h1; cases h1)))
    | true =>
      have HK := Lib.hid hk
      clear hk
      by_cases hd : 30000 < data.size
      · have hd1 : (30000 : Int) < (data.size : Int) := by omega
        go_wp2_with (first | (go_at_call 31; refine (l7key_any _ _ HKS.out).mono ?_; rw [HK.out]; rintro e w2 ⟨rfl, rfl⟩))
        have hb := HRB.out
        exact bodyPost_ret (v := .tuple #[.agg #[.slice none 0 0, .slice none 0 0], .int .i64 0, .int .i64 1]) (by simp [results, Tryd.results10, go_sem, World.cell?, hb]) rfl (HNO.out (HRI.out.2 (fun hh => by have h1 := hh.2.2; omega)))
      have hd1 : ¬ (30000 : Int) < (data.size : Int) := by omega
      have HRE := Lib.hid (HRI.out.1 ⟨HP.out.1 rfl, HK.out, by omega⟩)
      have HEP := Lib.hid (ep_of (HP.out.1 rfl))
      go_wp2_with (first | (go_at_call 31; refine (l7key_any _ _ HKS.out).mono ?_; rw [HK.out]; rintro e w2 ⟨rfl, rfl⟩))
      refine (l7create_any _ _ _ _ _ _ (elsOf l m) key data _ HEP.out (HS.out.keep HBR.out.below).els).mono ?_
      rw [← HRE.out]
      rintro e w2 ⟨q1, n1, c1, q2, n2, c2, rfl, hB, hK⟩
      have HK2 := Lib.hid hK
      have HBQ := Lib.hid (HBR.out.keep hB)
      have HSZ := Lib.hid HBR.out.ge
      clear hB hK x0 x1 r0 r1 f0 f1
      have r0 := HBQ.out.res.cell (j := 0) (by simp)
      have r1 := HBQ.out.res.cell (j := 1) (by simp)
      have f0 := HBQ.out.res.free 0
      have f1 := HBQ.out.res.free 1
      simp at r0 r1
      go_wp2
      have hb := ((HBQ.out.res.set 0 (.slice q1 n1 c1)).set 1 (.slice q2 n2 c2))
      unfold Row at hb
      exact bodyPost_ret (v := .tuple #[.agg #[.slice q1 n1 c1, .slice q2 n2 c2], .int .i64 R.2.1, .int .i64 R.2.2]) (by simp [results, Tryd.results10, go_sem, World.cell?, hb]) rfl ⟨_, _, _, _, _, _, rfl, (HBQ.out.below.setCell (by show w.heap.size ≤ w.heap.size + 1; omega) _).setCell (by show w.heap.size ≤ w.heap.size + 1; omega) _, made_res (HK2.out.low HSZ.out) _ _⟩

set_option maxHeartbeats 4000000 in
theorem sput_any (a g : Option Addr) (la ca lg cg : Nat) (l : Objs) (m : Gones) (key : ByteArray) (ver : Int) (data : ByteArray) (R : Els × Int × Int) (w : World) (h : StoI w a la ca l g lg cg m) (hla : la ≤ 1048576) (hlg : lg ≤ 1048576) (hks : key.size ≤ maxLen) (hds : data.size ≤ maxLen) (hR : IsPut l m key ver data R) :
    Calls Tryd.prog 18 #[.agg #[.slice a la ca, .slice g lg cg], .string key, .int .i64 ver, .string data] w (MadeSR R w) := by
  have HS := Lib.hid h
  have HRI := Lib.hid hR
  have HKS := Lib.hid hks
  have hdm := hds
  unfold maxLen at hdm
  clear hds
  clear h hR hks
  obtain ⟨W0, hW0⟩ : ∃ W0, (w.alloc (.cells #[.slice a la ca, .slice g lg cg] 27)).alloc (.cells #[.slice none 0 0, .slice none 0 0] 27) = W0 := ⟨_, rfl⟩
  have HBR := Lib.hid (show BRow w #[.slice a la ca, .slice g lg cg] W0 by rw [← hW0]; exact ⟨below_alloc (below_alloc (Below.refl _ _) _) _, (row_new _ _ _).al _, row_new1 _ _ _ _⟩)
  have HW0 := Lib.hid hW0
  clear hW0
  go_enter Tryd.func18, Tryd.ntmps18
  go_wp2_with fail
  rw [HW0.out]
  refine (sstoreok_any _ _ _ _ _ _ l m _ (HS.out.at_.keep HBR.out.below) hla hlg).mono ?_
  rintro e w1 ⟨b1, rfl, hb1, hB⟩
  have HBR := Lib.hid (HBR.out.keep hB)
  have HP := Lib.hid hb1
  clear hB hb1 HW0
  obtain ⟨x0, x1⟩ := HBR.out.cells
  have r0 := HBR.out.res.cell (j := 0) (by simp)
  have r1 := HBR.out.res.cell (j := 1) (by simp)
  have f0 := HBR.out.res.free 0
  have f1 := HBR.out.res.free 1
  simp at r0 r1
  have hbr := ((HBR.out.res.set 0 (.slice none 0 0)).set 1 (.slice none 0 0))
  unfold Row at hbr
  have HRB := Lib.hid hbr
  clear hbr
  have HNO := Lib.hid (show R = ([], 0, 1) → MadeSR R w (.returned (.tuple #[.agg #[.slice none 0 0, .slice none 0 0], .int .i64 0, .int .i64 1])) ((w1.setCell ⟨w.heap.size + 1, 0, none⟩ (.slice none 0 0)).setCell ⟨w.heap.size + 1, 1, none⟩ (.slice none 0 0)) from fun hc => by
    rw [hc]
    refine ⟨none, 0, 0, none, 0, 0, rfl, (HBR.out.below.setCell (by show w.heap.size ≤ w.heap.size + 1; omega) _).setCell (by show w.heap.size ≤ w.heap.size + 1; omega) _, ?_⟩
    exact StoK.nil _ _)
  cases b1 with
  | false =>
    go_wp2
    have hb := HRB.out
    exact bodyPost_ret (v := .tuple #[.agg #[.slice none 0 0, .slice none 0 0], .int .i64 0, .int .i64 1]) (by simp [results, Tryd.results18, go_sem, World.cell?, hb]) rfl (HNO.out (HRI.out.2 (fun hh => by have := HP.out.2 hh.1; cases this)))
  | true =>
    cases hk : keyB key with
    | false =>
      have HK := Lib.hid hk
      clear hk
      go_wp2_with (first | (go_at_call 31; refine (l7key_any _ _ HKS.out).mono ?_; rw [HK.out]; rintro e w2 ⟨rfl, rfl⟩))
      have hb := HRB.out
      exact bodyPost_ret (v := .tuple #[.agg #[.slice none 0 0, .slice none 0 0], .int .i64 0, .int .i64 1]) (by simp [results, Tryd.results18, go_sem, World.cell?, hb]) rfl (HNO.out (HRI.out.2 (fun hh => by have h1 := hh.2.1; rw [HK.out] at h1; cases h1)))
    | true =>
      have HK := Lib.hid hk
      clear hk
      cases hv : inB ver 1 1000000 with
      | false =>
        have HV := Lib.hid hv
        clear hv
        go_wp2_with (first | (go_at_call 31; refine (l7key_any _ _ HKS.out).mono ?_; rw [HK.out]; rintro e w2 ⟨rfl, rfl⟩) | (go_at_call 36; refine (l7ver_any _ _).mono ?_; rw [HV.out]; rintro e w2 ⟨rfl, rfl⟩))
        have hb := HRB.out
        exact bodyPost_ret (v := .tuple #[.agg #[.slice none 0 0, .slice none 0 0], .int .i64 0, .int .i64 1]) (by simp [results, Tryd.results18, go_sem, World.cell?, hb]) rfl (HNO.out (HRI.out.2 (fun hh => by have h1 := hh.2.2.1; rw [HV.out] at h1; cases h1)))
      | true =>
        have HV := Lib.hid hv
        clear hv
        by_cases hd : 30000 < data.size
        · have hd1 : (30000 : Int) < (data.size : Int) := by omega
          go_wp2_with (first | (go_at_call 31; refine (l7key_any _ _ HKS.out).mono ?_; rw [HK.out]; rintro e w2 ⟨rfl, rfl⟩) | (go_at_call 36; refine (l7ver_any _ _).mono ?_; rw [HV.out]; rintro e w2 ⟨rfl, rfl⟩))
          have hb := HRB.out
          exact bodyPost_ret (v := .tuple #[.agg #[.slice none 0 0, .slice none 0 0], .int .i64 0, .int .i64 1]) (by simp [results, Tryd.results18, go_sem, World.cell?, hb]) rfl (HNO.out (HRI.out.2 (fun hh => by have h1 := hh.2.2.2; omega)))
        have hd1 : ¬ (30000 : Int) < (data.size : Int) := by omega
        have HRE := Lib.hid (HRI.out.1 ⟨HP.out.1 rfl, HK.out, HV.out, by omega⟩)
        have HEP := Lib.hid (ep_of (HP.out.1 rfl))
        go_wp2_with (first | (go_at_call 31; refine (l7key_any _ _ HKS.out).mono ?_; rw [HK.out]; rintro e w2 ⟨rfl, rfl⟩) | (go_at_call 36; refine (l7ver_any _ _).mono ?_; rw [HV.out]; rintro e w2 ⟨rfl, rfl⟩))
        refine (l7put_any _ _ _ _ _ _ (elsOf l m) key ver data _ HEP.out (HS.out.keep HBR.out.below).els).mono ?_
        rw [← HRE.out]
        rintro e w2 ⟨q1, n1, c1, q2, n2, c2, rfl, hB, hK⟩
        have HK2 := Lib.hid hK
        have HBQ := Lib.hid (HBR.out.keep hB)
        have HSZ := Lib.hid HBR.out.ge
        clear hB hK x0 x1 r0 r1 f0 f1
        have r0 := HBQ.out.res.cell (j := 0) (by simp)
        have r1 := HBQ.out.res.cell (j := 1) (by simp)
        have f0 := HBQ.out.res.free 0
        have f1 := HBQ.out.res.free 1
        simp at r0 r1
        go_wp2
        have hb := ((HBQ.out.res.set 0 (.slice q1 n1 c1)).set 1 (.slice q2 n2 c2))
        unfold Row at hb
        exact bodyPost_ret (v := .tuple #[.agg #[.slice q1 n1 c1, .slice q2 n2 c2], .int .i64 R.2.1, .int .i64 R.2.2]) (by simp [results, Tryd.results18, go_sem, World.cell?, hb]) rfl ⟨_, _, _, _, _, _, rfl, (HBQ.out.below.setCell (by show w.heap.size ≤ w.heap.size + 1; omega) _).setCell (by show w.heap.size ≤ w.heap.size + 1; omega) _, made_res (HK2.out.low HSZ.out) _ _⟩

end Go.Proofs.YtblpebdjbenphaaDoor
namespace Go.Proofs.YtblpebdjbenphaaDoor
open Go.ChangeShapes Go.WideShapes Go.ChangeAt Go.RowKit
set_option linter.unusedVariables false
set_option maxRecDepth 100000

def performE (kind : Int) (key : ByteArray) (ver : Int) (data : ByteArray) (E : Els) : Els × Int × Int :=
  if cmdB kind key ver data = true then (if kind = 1 then createE key data E else if kind = 2 then replE key ver data E else delE key ver E) else (E, 0, 1)
theorem del_zero (key : ByteArray) (ver : Int) (E : Els) : (delE key ver E).2.1 = 0 := by
  unfold delE
  cases lookE key E with
  | none => rfl
  | some e => dsimp only; split <;> (try split) <;> rfl
theorem cmd_true {kind : Int} {key : ByteArray} {ver : Int} {data : ByteArray} (h : cmdB kind key ver data = true) : keyB key = true ∧ ((kind = 1 ∧ ver = 0 ∧ data.size ≤ 30000) ∨ (kind = 2 ∧ inB ver 1 1000000 = true ∧ data.size ≤ 30000) ∨ (kind = 3 ∧ inB ver 1 1000000 = true)) := by
  cases hk : keyB key with
  | false => rw [cmd_key hk] at h; cases h
  | true =>
    refine ⟨rfl, ?_⟩
    by_cases h1 : kind = 1
    · subst h1
      rw [cmd_1 hk, Bool.and_eq_true] at h
      have := h.2
      simp only [decide_eq_true_eq] at this
      exact .inl ⟨rfl, of_decide_eq_true h.1, by omega⟩
    · by_cases h2 : kind = 2
      · subst h2
        rw [cmd_2 hk, Bool.and_eq_true] at h
        have := h.2
        simp only [decide_eq_true_eq] at this
        exact .inr (.inl ⟨rfl, h.1, by omega⟩)
      · by_cases h3 : kind = 3
        · subst h3
          rw [cmd_3 hk, Bool.and_eq_true] at h
          exact .inr (.inr ⟨rfl, h.1⟩)
        · rw [cmd_no h1 h2 h3] at h; cases h

theorem perf_ep {kind : Int} {key : ByteArray} {ver : Int} {data : ByteArray} {E : Els} (h : EP E) : EP (performE kind key ver data E).1 := by
  unfold performE
  cases hc : cmdB kind key ver data with
  | false => exact h
  | true =>
    obtain ⟨hk, h1 | h1 | h1⟩ := cmd_true hc
    · obtain ⟨rfl, _, hd⟩ := h1; exact ep_create h hk hd
    · obtain ⟨rfl, _, hd⟩ := h1; exact ep_repl h hk hd
    · obtain ⟨rfl, _⟩ := h1; exact ep_del h hk
theorem ep_nil : EP [] := ⟨by simp, by unfold ekeys IncT; simp, fun x hx => by cases hx⟩
/-- Three blocks of the call's own: the boxes of the store and of the command, and that of the result. -/
structure PRow (w : World) (bx cx : Array Value) (w' : World) : Prop where
  below : Below w.heap.size w w'
  box : Row w' w.heap.size 27 bx
  cmd : Row w' (w.heap.size + 1) 49 cx
  res : Row w' (w.heap.size + 2) 27 #[.slice none 0 0, .slice none 0 0]
theorem PRow.keep {w w' w'' : World} {bx cx : Array Value} (h : PRow w bx cx w') (hB : Below w'.heap.size w' w'') : PRow w bx cx w'' := ⟨below_via h.below hB, h.box.keep hB, h.cmd.keep hB, h.res.keep hB⟩
theorem PRow.ge {w w' : World} {bx cx : Array Value} (h : PRow w bx cx w') : w.heap.size + 3 ≤ w'.heap.size := h.res.lt

theorem HRS0 {w w' : World} {bx cx : Array Value} {Z : Nat} (h : PRow w bx cx w') (hz : w.heap.size + 2 = Z) : Z < w'.heap.size := by rw [← hz]; exact h.res.lt

end Go.Proofs.YtblpebdjbenphaaDoor
namespace Go.Proofs.YtblpebdjbenphaaDoor
open Go.ChangeShapes Go.WideShapes Go.ChangeAt Go.RowKit
set_option linter.unusedVariables false
set_option maxRecDepth 100000

def playK (l : Cmds) : Nat → Els × List Int
  | 0 => ([], [])
  | k + 1 => ((performE (cmd0 l k) (cmd1 l k) (cmd2 l k) (cmd3 l k) (playK l k).1).1, (playK l k).2 ++ [(performE (cmd0 l k) (cmd1 l k) (cmd2 l k) (cmd3 l k) (playK l k).1).2.2])
theorem play_ep (l : Cmds) : ∀ k, EP (playK l k).1
  | 0 => ep_nil
  | k + 1 => perf_ep (play_ep l k)
theorem play_len (l : Cmds) : ∀ k, (playK l k).2.length = k
  | 0 => rfl
  | k + 1 => by show ((playK l k).2 ++ [_]).length = k + 1; rw [List.length_append, play_len l k]; rfl
/-- What StorePlayed comes to: too many commands make nothing. -/
def playE (l : Cmds) (len : Nat) : Els × List Int := if 200 < len then ([], []) else playK l len
theorem playE_ep (l : Cmds) (len : Nat) : EP (playE l len).1 := by
  unfold playE; split
  · exact ep_nil
  · exact play_ep l len
end Go.Proofs.YtblpebdjbenphaaDoor
