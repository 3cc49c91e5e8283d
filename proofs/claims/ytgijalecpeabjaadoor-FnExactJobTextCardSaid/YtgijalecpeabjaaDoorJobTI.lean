
/- The text of a job: what the program writes. Only new blocks are made. -/
import Derived.Test.YtgijalecpeabjaaDoorJobTM
import Derived.Test.YtgijalecpeabjaaDoorHeld
namespace Go.Proofs.YtgijalecpeabjaaDoor
open Go.ChangeShapes Go.WideShapes Go.ChangeAt Go.RowKit
set_option linter.unusedVariables false
set_option maxRecDepth 100000

theorem TabsJ.word {w : World} (h : TabsJ w) {k : Nat} (hk : k < 5) : w.cell? ⟨1, k, none⟩ = some (.string (opW k)) := by
  have := h.words.cell k (by simpa [opWs] using hk)
  rw [this]
  unfold opW
  rw [List.getD_eq_getElem?_getD, List.getElem?_eq_getElem (by simpa [opWs] using hk)]
  rfl
theorem size_add {a b : ByteArray} {x y z : Nat} (ha : a.size ≤ x) (hb : b.size ≤ y) (hz : x + y ≤ z) : (a ++ b).size ≤ z := by
  rw [ByteArray.size_append]; omega

set_option maxHeartbeats 4000000 in
theorem headtext_any (p s : Option Addr) (pl pc sl sc k : Nat) (e1 : Bool) (n1 : Int) (w : World) (hk1 : 1 ≤ k) (hk4 : k ≤ 4) (hn1 : 1 ≤ n1) (hn3 : n1 ≤ 3) (hT : TabsJ w) :
    Calls Tryd.prog 66 #[.agg #[.slice p pl pc, .bool e1, .int .i64 (k : Int), .int .i64 n1, .slice s sl sc]] w (MadeTxtP (headTx k n1 e1) w) := by
  have HB := Lib.hid (below_alloc (Below.refl w.heap.size w) (.cells #[.slice p pl pc, .bool e1, .int .i64 (k : Int), .int .i64 n1, .slice s sl sc] 44))
  have HX := Lib.hid (row_new w #[.slice p pl pc, .bool e1, .int .i64 (k : Int), .int .i64 n1, .slice s sl sc] 44)
  have HT := Lib.hid (hT.keep HB.out)
  have hNV : In64 n1 := ⟨by omega, by omega⟩
  have HN := Lib.hid hNV
  have hd : (decB n1).size ≤ 20 := decB_size hNV.1 (by omega)
  have i0 : (0 : Int) ≤ (k : Int) := by omega
  have i1 : (k : Int) < 5 := by omega
  have hX := opW_few k
  have HH := Lib.hid (show headTx k n1 e1 = ((((⟨#[106, 111, 98, 32]⟩ ++ opW k) ++ ⟨#[32]⟩) ++ decB n1 ++ ⟨#[32]⟩) ++ scopeB e1) ++ ⟨#[10]⟩ from rfl)
  have HW := Lib.hid (fun (w' : World) (h : TabsJ w') => h.word (show k < 5 by omega))
  obtain ⟨X, hXe⟩ : ∃ X, opW k = X := ⟨_, rfl⟩
  obtain ⟨D, hDe⟩ : ∃ D, decB n1 = D := ⟨_, rfl⟩
  have HDE := Lib.hid hDe
  rw [hXe] at HH HW hX
  rw [hDe] at HH hd
  clear hT hNV hXe hDe hn1 hn3 hk1 hk4
  have k1 : ∀ w, (Op.stringOp .add (⟨#[106, 111, 98, 32]⟩ : ByteArray) X).run Tryd.prog w = .ok (.string (⟨#[106, 111, 98, 32]⟩ ++ X)) w := fun w => cat_runp _ _ 100 (by decide) (by omega)
  have z1 : (⟨#[106, 111, 98, 32]⟩ ++ X : ByteArray).size ≤ 9 := size_add (x := 4) (y := 5) (by decide) hX (by omega)
  have k2 : ∀ w, (Op.stringOp .add (⟨#[106, 111, 98, 32]⟩ ++ X) (⟨#[32]⟩ : ByteArray)).run Tryd.prog w = .ok (.string ((⟨#[106, 111, 98, 32]⟩ ++ X) ++ ⟨#[32]⟩)) w := fun w => cat_runp _ _ 100 (by omega) (by decide)
  have z2 : ((⟨#[106, 111, 98, 32]⟩ ++ X) ++ ⟨#[32]⟩ : ByteArray).size ≤ 10 := size_add (x := 9) (y := 1) z1 (by decide) (by omega)
  obtain ⟨A, hA⟩ : ∃ A : ByteArray, (⟨#[106, 111, 98, 32]⟩ ++ X) ++ ⟨#[32]⟩ = A := ⟨_, rfl⟩
  rw [hA] at HH k2 z2
  have k3 : ∀ w, (Op.stringOp .add A D).run Tryd.prog w = .ok (.string (A ++ D)) w := fun w => cat_runp _ _ 100 (by omega) (by omega)
  have z3 : (A ++ D).size ≤ 30 := size_add z2 hd (by omega)
  have k4 : ∀ w, (Op.stringOp .add (A ++ D) (⟨#[32]⟩ : ByteArray)).run Tryd.prog w = .ok (.string ((A ++ D) ++ ⟨#[32]⟩)) w := fun w => cat_runp _ _ 100 (by omega) (by decide)
  have z4 : ((A ++ D) ++ ⟨#[32]⟩ : ByteArray).size ≤ 31 := size_add (x := 30) (y := 1) z3 (by decide) (by omega)
  cases e1
  · have k5 : ∀ w, (Op.stringOp .add ((A ++ D) ++ ⟨#[32]⟩) (⟨#[108, 105, 110, 101]⟩ : ByteArray)).run Tryd.prog w = .ok (.string (((A ++ D) ++ ⟨#[32]⟩) ++ ⟨#[108, 105, 110, 101]⟩)) w := fun w => cat_runp _ _ 100 (by omega) (by decide)
    have z5 : (((A ++ D) ++ ⟨#[32]⟩) ++ ⟨#[108, 105, 110, 101]⟩ : ByteArray).size ≤ 35 := size_add (x := 31) (y := 4) z4 (by decide) (by omega)
    have k6 : ∀ w, (Op.stringOp .add (((A ++ D) ++ ⟨#[32]⟩) ++ ⟨#[108, 105, 110, 101]⟩) (⟨#[10]⟩ : ByteArray)).run Tryd.prog w = .ok (.string ((((A ++ D) ++ ⟨#[32]⟩) ++ ⟨#[108, 105, 110, 101]⟩) ++ ⟨#[10]⟩)) w := fun w => cat_runp _ _ 100 (by omega) (by decide)
    obtain ⟨W0, hW0⟩ : ∃ W0, w.alloc (.cells #[.slice p pl pc, .bool false, .int .i64 (k : Int), .int .i64 n1, .slice s sl sc] 44) = W0 := ⟨_, rfl⟩
    have HW0 := Lib.hid hW0
    rw [hW0] at HB HX HT
    clear hW0 hA
    go_enter Tryd.func66, Tryd.ntmps66
    go_wp2_with fail
    rw [HW0.out]
    refine wp_region_noPanic ?_
    refine wp_region_held_drew (S := (fun w' => Hid (Below w.heap.size w w' ∧ Row w' w.heap.size 44 #[.slice p pl pc, .bool false, .int .i64 (k : Int), .int .i64 n1, .slice s sl sc] ∧ TabsJ w'))) (by kernel_rfl) (Lib.hid ⟨HB.out.drew, HX.out.keep (Below.refl _ _).drew, HT.out.keep (Below.refl _ _).drew⟩) (fun HS => ?_)
    refine held_take (i := 0) (d := 6) (v := .pointer (some ⟨w.heap.size, 2, none⟩)) rfl rfl (by kernel_rfl) (by kernel_rfl) (by kernel_rfl) (by kernel_rfl) (fun wx hS => by go_simp) HS ?_
    refine held_take (i := 1) (d := 7) (v := .int .i64 (k : Int)) rfl rfl (by kernel_rfl) (by kernel_rfl) (by kernel_rfl) (by kernel_rfl) (fun wx hS => by have k0 := row_tab (j := 2) hS.out.2.1 rfl; go_simp) HS ?_
    refine held_take (i := 2) (d := 8) (v := .pointer (some ⟨1, k, none⟩)) rfl rfl (by kernel_rfl) (by kernel_rfl) (by kernel_rfl) (by kernel_rfl) (fun wx hS => by go_simp) HS ?_
    refine held_take (i := 3) (d := 9) (v := .string X) rfl rfl (by kernel_rfl) (by kernel_rfl) (by kernel_rfl) (by kernel_rfl) (fun wx hS => by have k0 := HW.out _ hS.out.2.2; go_simp) HS ?_
    refine held_take (i := 4) (d := 10) (v := .string (⟨#[106, 111, 98, 32]⟩ ++ X)) rfl rfl (by kernel_rfl) (by kernel_rfl) (by kernel_rfl) (by kernel_rfl) (fun wx hS => by go_simp) HS ?_
    refine held_take (i := 5) (d := 11) (v := .string A) rfl rfl (by kernel_rfl) (by kernel_rfl) (by kernel_rfl) (by kernel_rfl) (fun wx hS => by go_simp) HS ?_
    refine held_take (i := 6) (d := 12) (v := .pointer (some ⟨w.heap.size, 3, none⟩)) rfl rfl (by kernel_rfl) (by kernel_rfl) (by kernel_rfl) (by kernel_rfl) (fun wx hS => by go_simp) HS ?_
    refine held_take (i := 7) (d := 13) (v := .int .i64 n1) rfl rfl (by kernel_rfl) (by kernel_rfl) (by kernel_rfl) (by kernel_rfl) (fun wx hS => by have k0 := row_tab (j := 3) hS.out.2.1 rfl; go_simp) HS ?_
    refine held_take (i := 11) (d := 17) (v := .string ⟨#[108, 105, 110, 101]⟩) rfl rfl (by kernel_rfl) (by kernel_rfl) (by kernel_rfl) (by kernel_rfl) (fun wx hS => by go_simp) HS ?_
    refine wpAnyH_ready (rs := [8]) (by kernel_rfl) (by simp) (AllReadyH.cons rfl (fun K hK => ?_) AllReadyH.nil)
    go_simp
    refine (fmt_any n1 HN.out _ HS.out.2.2.t.pow).mono ?_
    rw [HDE.out]
    rintro e w2 ⟨rfl, hB⟩
    refine hK.out _ _ (Lib.hid ⟨below_via HS.out.1 hB, HS.out.2.1.keep hB, HS.out.2.2.keep hB⟩) (fun HS => ?_)
    clear hK K
    refine held_take (i := 9) (d := 15) (v := .string (A ++ D)) rfl rfl (by kernel_rfl) (by kernel_rfl) (by kernel_rfl) (by kernel_rfl) (fun wx hS => by go_simp) HS ?_
    refine held_take (i := 10) (d := 16) (v := .string ((A ++ D) ++ ⟨#[32]⟩)) rfl rfl (by kernel_rfl) (by kernel_rfl) (by kernel_rfl) (by kernel_rfl) (fun wx hS => by go_simp) HS ?_
    refine held_take (i := 12) (d := 18) (v := .string (((A ++ D) ++ ⟨#[32]⟩) ++ ⟨#[108, 105, 110, 101]⟩)) rfl rfl (by kernel_rfl) (by kernel_rfl) (by kernel_rfl) (by kernel_rfl) (fun wx hS => by go_simp) HS ?_
    refine held_take (i := 13) (d := 19) (v := .string ((((A ++ D) ++ ⟨#[32]⟩) ++ ⟨#[108, 105, 110, 101]⟩) ++ ⟨#[10]⟩)) rfl rfl (by kernel_rfl) (by kernel_rfl) (by kernel_rfl) (by kernel_rfl) (fun wx hS => by go_simp) HS ?_
    refine held_take (i := 14) (d := 2) (v := .string ((((A ++ D) ++ ⟨#[32]⟩) ++ ⟨#[108, 105, 110, 101]⟩) ++ ⟨#[10]⟩)) rfl rfl (by kernel_rfl) (by kernel_rfl) (by kernel_rfl) (by kernel_rfl) (fun wx hS => by go_simp) HS ?_
    refine wpAnyH_done (by kernel_rfl) (NoPanic.normal ?_) _
    simp only [List.setIfInBounds_toArray, List.set_cons_zero, List.set_cons_succ]
    go_wp2
    go_ret
    exact ⟨congrArg (fun s => Ending.returned (.string s)) HH.out.symm, HS.out.1⟩
  · have k5 : ∀ w, (Op.stringOp .add ((A ++ D) ++ ⟨#[32]⟩) (⟨#[101, 97, 99, 104]⟩ : ByteArray)).run Tryd.prog w = .ok (.string (((A ++ D) ++ ⟨#[32]⟩) ++ ⟨#[101, 97, 99, 104]⟩)) w := fun w => cat_runp _ _ 100 (by omega) (by decide)
    have z5 : (((A ++ D) ++ ⟨#[32]⟩) ++ ⟨#[101, 97, 99, 104]⟩ : ByteArray).size ≤ 35 := size_add (x := 31) (y := 4) z4 (by decide) (by omega)
    have k6 : ∀ w, (Op.stringOp .add (((A ++ D) ++ ⟨#[32]⟩) ++ ⟨#[101, 97, 99, 104]⟩) (⟨#[10]⟩ : ByteArray)).run Tryd.prog w = .ok (.string ((((A ++ D) ++ ⟨#[32]⟩) ++ ⟨#[101, 97, 99, 104]⟩) ++ ⟨#[10]⟩)) w := fun w => cat_runp _ _ 100 (by omega) (by decide)
    obtain ⟨W0, hW0⟩ : ∃ W0, w.alloc (.cells #[.slice p pl pc, .bool true, .int .i64 (k : Int), .int .i64 n1, .slice s sl sc] 44) = W0 := ⟨_, rfl⟩
    have HW0 := Lib.hid hW0
    rw [hW0] at HB HX HT
    clear hW0 hA
    go_enter Tryd.func66, Tryd.ntmps66
    go_wp2_with fail
    rw [HW0.out]
    refine wp_region_noPanic ?_
    refine wp_region_held_drew (S := (fun w' => Hid (Below w.heap.size w w' ∧ Row w' w.heap.size 44 #[.slice p pl pc, .bool true, .int .i64 (k : Int), .int .i64 n1, .slice s sl sc] ∧ TabsJ w'))) (by kernel_rfl) (Lib.hid ⟨HB.out.drew, HX.out.keep (Below.refl _ _).drew, HT.out.keep (Below.refl _ _).drew⟩) (fun HS => ?_)
    refine held_take (i := 0) (d := 6) (v := .pointer (some ⟨w.heap.size, 2, none⟩)) rfl rfl (by kernel_rfl) (by kernel_rfl) (by kernel_rfl) (by kernel_rfl) (fun wx hS => by go_simp) HS ?_
    refine held_take (i := 1) (d := 7) (v := .int .i64 (k : Int)) rfl rfl (by kernel_rfl) (by kernel_rfl) (by kernel_rfl) (by kernel_rfl) (fun wx hS => by have k0 := row_tab (j := 2) hS.out.2.1 rfl; go_simp) HS ?_
    refine held_take (i := 2) (d := 8) (v := .pointer (some ⟨1, k, none⟩)) rfl rfl (by kernel_rfl) (by kernel_rfl) (by kernel_rfl) (by kernel_rfl) (fun wx hS => by go_simp) HS ?_
    refine held_take (i := 3) (d := 9) (v := .string X) rfl rfl (by kernel_rfl) (by kernel_rfl) (by kernel_rfl) (by kernel_rfl) (fun wx hS => by have k0 := HW.out _ hS.out.2.2; go_simp) HS ?_
    refine held_take (i := 4) (d := 10) (v := .string (⟨#[106, 111, 98, 32]⟩ ++ X)) rfl rfl (by kernel_rfl) (by kernel_rfl) (by kernel_rfl) (by kernel_rfl) (fun wx hS => by go_simp) HS ?_
    refine held_take (i := 5) (d := 11) (v := .string A) rfl rfl (by kernel_rfl) (by kernel_rfl) (by kernel_rfl) (by kernel_rfl) (fun wx hS => by go_simp) HS ?_
    refine held_take (i := 6) (d := 12) (v := .pointer (some ⟨w.heap.size, 3, none⟩)) rfl rfl (by kernel_rfl) (by kernel_rfl) (by kernel_rfl) (by kernel_rfl) (fun wx hS => by go_simp) HS ?_
    refine held_take (i := 7) (d := 13) (v := .int .i64 n1) rfl rfl (by kernel_rfl) (by kernel_rfl) (by kernel_rfl) (by kernel_rfl) (fun wx hS => by have k0 := row_tab (j := 3) hS.out.2.1 rfl; go_simp) HS ?_
    refine held_take (i := 11) (d := 17) (v := .string ⟨#[101, 97, 99, 104]⟩) rfl rfl (by kernel_rfl) (by kernel_rfl) (by kernel_rfl) (by kernel_rfl) (fun wx hS => by go_simp) HS ?_
    refine wpAnyH_ready (rs := [8]) (by kernel_rfl) (by simp) (AllReadyH.cons rfl (fun K hK => ?_) AllReadyH.nil)
    go_simp
    refine (fmt_any n1 HN.out _ HS.out.2.2.t.pow).mono ?_
    rw [HDE.out]
    rintro e w2 ⟨rfl, hB⟩
    refine hK.out _ _ (Lib.hid ⟨below_via HS.out.1 hB, HS.out.2.1.keep hB, HS.out.2.2.keep hB⟩) (fun HS => ?_)
    clear hK K
    refine held_take (i := 9) (d := 15) (v := .string (A ++ D)) rfl rfl (by kernel_rfl) (by kernel_rfl) (by kernel_rfl) (by kernel_rfl) (fun wx hS => by go_simp) HS ?_
    refine held_take (i := 10) (d := 16) (v := .string ((A ++ D) ++ ⟨#[32]⟩)) rfl rfl (by kernel_rfl) (by kernel_rfl) (by kernel_rfl) (by kernel_rfl) (fun wx hS => by go_simp) HS ?_
    refine held_take (i := 12) (d := 18) (v := .string (((A ++ D) ++ ⟨#[32]⟩) ++ ⟨#[101, 97, 99, 104]⟩)) rfl rfl (by kernel_rfl) (by kernel_rfl) (by kernel_rfl) (by kernel_rfl) (fun wx hS => by go_simp) HS ?_
    refine held_take (i := 13) (d := 19) (v := .string ((((A ++ D) ++ ⟨#[32]⟩) ++ ⟨#[101, 97, 99, 104]⟩) ++ ⟨#[10]⟩)) rfl rfl (by kernel_rfl) (by kernel_rfl) (by kernel_rfl) (by kernel_rfl) (fun wx hS => by go_simp) HS ?_
    refine held_take (i := 14) (d := 2) (v := .string ((((A ++ D) ++ ⟨#[32]⟩) ++ ⟨#[101, 97, 99, 104]⟩) ++ ⟨#[10]⟩)) rfl rfl (by kernel_rfl) (by kernel_rfl) (by kernel_rfl) (by kernel_rfl) (fun wx hS => by go_simp) HS ?_
    refine wpAnyH_done (by kernel_rfl) (NoPanic.normal ?_) _
    simp only [List.setIfInBounds_toArray, List.set_cons_zero, List.set_cons_succ]
    go_wp2
    go_ret
    exact ⟨congrArg (fun s => Ending.returned (.string s)) HH.out.symm, HS.out.1⟩

theorem lines_facts {s : ByteArray} (h : linesK s.data.toList = true) : cntB s = ((Lib.countByte s.data.toList 10 : Nat) : Int) ∧ s.size ≤ 2010 ∧ 0 ≤ cntB s ∧ cntB s ≤ 10 := by
  have h' : (linesB s.data.toList).isSome = true := h
  obtain ⟨W, hW⟩ := Option.isSome_iff_exists.1 h'
  obtain ⟨h10, hx, hsp⟩ := linesB_some _ _ hW
  have e := joinN_split _ _ hsp
  have hw := (lines_some hW).1
  have hl := joinN_len W 200 (fun x hx' => (hx x hx').1)
  have hc : cntB s = (W.length : Int) := by unfold cntB; rw [hw]
  have hcount := count_joinN W (fun x hx' hmem => by
    have := (hx x hx').2
    unfold noC at this
    exact this 10 hmem rfl)
  refine ⟨?_, ?_, by omega, by omega⟩
  · rw [hc]
    unfold Lib.countByte
    rw [← e, hcount]
  · have hs : s.size = s.data.toList.length := by simp
    rw [hs, ← e]
    have : W.length * (200 + 1) ≤ 10 * 201 := Nat.mul_le_mul_right _ h10
    omega

set_option maxHeartbeats 2000000 in
theorem splittext_any (s : ByteArray) (w : World) (h : linesK s.data.toList = true) (hT : Tabs w) :
    Calls Tryd.prog 67 #[.string s] w (MadeTxtP (splitTx s) w) := by
  obtain ⟨hc, hs, h0, h10⟩ := lines_facts h
  have HC := Lib.hid hc
  have HT := Lib.hid hT
  have hNV : In64 (cntB s) := ⟨by omega, by omega⟩
  have hd : (decB (cntB s)).size ≤ 20 := decB_size hNV.1 (by omega)
  have HN := Lib.hid hNV
  have HH := Lib.hid (show splitTx s = ((⟨#[115, 112, 108, 105, 116, 32]⟩ ++ decB (cntB s)) ++ ⟨#[10]⟩) ++ s from rfl)
  obtain ⟨c, hce⟩ : ∃ c, cntB s = c := ⟨_, rfl⟩
  rw [hce] at HC HN HH hd
  obtain ⟨D, hDe⟩ : ∃ D, decB c = D := ⟨_, rfl⟩
  have HDE := Lib.hid hDe
  rw [hDe] at HH hd
  clear hc hT hNV h0 h10 hce hDe h
  have k1 : ∀ w, (Op.stringOp .add (⟨#[115, 112, 108, 105, 116, 32]⟩ : ByteArray) D).run Tryd.prog w = .ok (.string (⟨#[115, 112, 108, 105, 116, 32]⟩ ++ D)) w := fun w => cat_runp _ _ 3000 (by decide) (by omega)
  have z1 : (⟨#[115, 112, 108, 105, 116, 32]⟩ ++ D : ByteArray).size ≤ 26 := size_add (x := 6) (y := 20) (by decide) hd (by omega)
  obtain ⟨A, hA⟩ : ∃ A : ByteArray, ⟨#[115, 112, 108, 105, 116, 32]⟩ ++ D = A := ⟨_, rfl⟩
  rw [hA] at HH k1 z1
  have k2 : ∀ w, (Op.stringOp .add A (⟨#[10]⟩ : ByteArray)).run Tryd.prog w = .ok (.string (A ++ ⟨#[10]⟩)) w := fun w => cat_runp _ _ 3000 (by omega) (by decide)
  have z2 : (A ++ ⟨#[10]⟩ : ByteArray).size ≤ 27 := size_add (x := 26) (y := 1) z1 (by decide) (by omega)
  have k3 : ∀ w, (Op.stringOp .add (A ++ ⟨#[10]⟩) s).run Tryd.prog w = .ok (.string ((A ++ ⟨#[10]⟩) ++ s)) w := fun w => cat_runp _ _ 3000 (by omega) (by omega)
  clear hA
  go_enter Tryd.func67, Tryd.ntmps67
  go_wp2_with fail
  refine (Tryd.strings_Count_one s 10 _).mono ?_
  rintro e w2 ⟨rfl, rfl⟩
  rw [← HC.out]
  go_wp2_with fail
  refine (Tryd.strconv_Itoa c HN.out.1 HN.out.2 _ HT.out).mono ?_
  rintro e w3 ⟨he, q, os, rfl⟩
  have he2 : e = .returned (.string D) := by rw [he, ← HDE.out]; rfl
  subst he2
  clear he
  have HB := Lib.hid (below_grew w2 q os)
  go_wp2
  go_ret
  exact ⟨congrArg (fun s => Ending.returned (.string s)) HH.out.symm, HB.out⟩
end Go.Proofs.YtgijalecpeabjaaDoor
