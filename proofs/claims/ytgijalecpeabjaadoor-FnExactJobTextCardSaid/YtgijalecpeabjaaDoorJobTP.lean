
/- The text of a job: what the program writes, whole. Only new blocks are made. -/
import Derived.Test.YtgijalecpeabjaaDoorJobTI
namespace Go.Proofs.YtgijalecpeabjaaDoor
open Go.ChangeShapes Go.WideShapes Go.ChangeAt Go.RowKit
set_option linter.unusedVariables false
set_option maxRecDepth 100000

theorem headTx_size {k : Nat} {n : Int} {e : Bool} (hn1 : 1 ≤ n) (hn3 : n ≤ 3) : (headTx k n e).size ≤ 36 := by
  have hd : (decB n).size ≤ 20 := decB_size (by omega) (by omega)
  have hX := opW_few k
  have hs : (scopeB e).size ≤ 4 := by cases e <;> decide
  have z1 := size_add (a := (⟨#[106, 111, 98, 32]⟩ : ByteArray)) (x := 4) (z := 9) (by decide) hX (by omega)
  have z2 := size_add (b := (⟨#[32]⟩ : ByteArray)) (y := 1) (z := 10) z1 (by decide) (by omega)
  have z3 := size_add (z := 30) z2 hd (by omega)
  have z4 := size_add (b := (⟨#[32]⟩ : ByteArray)) (y := 1) (z := 31) z3 (by decide) (by omega)
  have z5 := size_add (z := 35) z4 hs (by omega)
  exact size_add (b := (⟨#[10]⟩ : ByteArray)) (y := 1) (z := 36) z5 (by decide) (by omega)
theorem splitTx_size {s : ByteArray} (h : linesK s.data.toList = true) : (splitTx s).size ≤ 2037 := by
  obtain ⟨_, hs, h0, h10⟩ := lines_facts h
  have hd : (decB (cntB s)).size ≤ 20 := decB_size (by omega) (by omega)
  have z1 := size_add (a := (⟨#[115, 112, 108, 105, 116, 32]⟩ : ByteArray)) (x := 6) (z := 26) (by decide) hd (by omega)
  have z2 := size_add (b := (⟨#[10]⟩ : ByteArray)) (y := 1) (z := 27) z1 (by decide) (by omega)
  exact size_add (z := 2037) z2 hs (by omega)
theorem allB_at {m : Strs} : ∀ {n : Nat}, allB m n = true → ∀ {k : Nat}, k < n → linesK (strAt m k).data.toList = true
  | n + 1, h, k, hk => by
    have h' : (allB m n && splitB m n) = true := h
    rw [Bool.and_eq_true] at h'
    by_cases hn : k = n
    · subst hn; exact h'.2
    · exact allB_at h'.1 (by omega)
theorem jobTo_size {h : ByteArray} {m : Strs} {N : Nat} (hh : h.size ≤ 800) (ha : allB m N = true) : ∀ k, k ≤ N → (jobTo h m k).size ≤ 800 + 2037 * k
  | 0, _ => hh
  | k + 1, hk => size_add (jobTo_size hh ha k (by omega)) (splitTx_size (allB_at ha (show k < N by omega))) (by omega)
theorem job_parts {l : Instrs} {o1 n1 : Int} {m : Strs} {sl : Nat} (h : jobB l o1 n1 m sl = true) : progB l = true ∧ (1 ≤ o1 ∧ o1 ≤ 4) ∧ (1 ≤ n1 ∧ n1 ≤ 3) ∧ (1 ≤ sl ∧ sl ≤ 4) ∧ allB m sl = true := by
  unfold jobB splitsB inB opOkB at h
  simp only [Bool.and_eq_true, decide_eq_true_eq] at h
  obtain ⟨a, b, c, d, e⟩ := h
  exact ⟨a, b, c, by omega, e⟩
theorem jobHd_size {l : Instrs} {k : Nat} {n : Int} {e : Bool} (hq : progB l = true) (hn : ∀ i, i < l.length → In64 (ins1 l i)) (hn1 : 1 ≤ n) (hn3 : n ≤ 3) : (headTx k n e).size ≤ 36 ∧ (progTo l l.length).size ≤ 690 ∧ (headTx k n e ++ progTo l l.length).size ≤ 726 ∧ (jobHd l k n e).size ≤ 727 := by
  have h1 := headTx_size (k := k) (e := e) hn1 hn3
  have h2 := progTo_size hq hn l.length (Nat.le_refl _)
  have h30 := prog_few hq
  have h3 : (progTo l l.length).size ≤ 690 := by omega
  have h4 := size_add (z := 726) h1 h3 (by omega)
  exact ⟨h1, h3, h4, size_add (b := (⟨#[10]⟩ : ByteArray)) (y := 1) (z := 727) h4 (by decide) (by omega)⟩

set_option maxHeartbeats 8000000 in
theorem jobtext_any (p s : Option Addr) (pl pc sl sc : Nat) (e1 : Bool) (o1 n1 : Int) (l : Instrs) (m : Strs) (w : World) (h : JobAt w p pl l s sl m) (hsz : ∀ i, i < sl → (strAt m i).size ≤ 1048576) (hn : ∀ i, i < pl → In64 (ins1 l i)) (hT : TabsJ w) :
    Calls Tryd.prog 32 #[.agg #[.slice p pl pc, .bool e1, .int .i64 o1, .int .i64 n1, .slice s sl sc]] w (MadeTxtP (jobTx l e1 o1 n1 m sl) w) := by
  have HB := Lib.hid (below_alloc (Below.refl w.heap.size w) (.cells #[.slice p pl pc, .bool e1, .int .i64 o1, .int .i64 n1, .slice s sl sc] 44))
  have HX := Lib.hid (row_new w #[.slice p pl pc, .bool e1, .int .i64 o1, .int .i64 n1, .slice s sl sc] 44)
  have HS := Lib.hid (h.keep HB.out)
  have HT := Lib.hid (hT.keep HB.out)
  have HZ := Lib.hid hsz
  have HN := Lib.hid hn
  have HL := Lib.hid h.i.length
  obtain ⟨q, hq⟩ : ∃ q, jobB l o1 n1 m sl = q := ⟨_, rfl⟩
  have HQ := Lib.hid hq
  clear h hsz hn hT hq
  go_enter Tryd.func32, Tryd.ntmps32
  go_wp2_with fail
  refine (jobok_any _ _ _ _ _ _ _ _ _ l m _ HS.out HZ.out HT.out.t.forms).mono ?_
  rw [HQ.out]
  rintro e w2 ⟨rfl, hB⟩
  have HX := Lib.hid (HX.out.keep hB)
  have HS := Lib.hid (HS.out.keep hB)
  have HT := Lib.hid (HT.out.keep hB)
  have HB := Lib.hid (below_via HB.out hB)
  clear hB
  cases q
  · have HP := Lib.hid (show jobTx l e1 o1 n1 m sl = ByteArray.empty by unfold jobTx; rw [HQ.out]; rfl)
    go_wp2
    go_ret
    exact ⟨congrArg (fun s => Ending.returned (.string s)) HP.out.symm, HB.out⟩
  obtain ⟨hpq, ⟨ho1, ho4⟩, ⟨hn1, hn3⟩, ⟨hs1, hs4⟩, hall⟩ := job_parts HQ.out
  have HB9 := HB
  have HX9 := HX
  have HS9 := HS
  have HT9 := HT
  have HQ9 := HQ
  obtain ⟨k, rfl⟩ : ∃ k : Nat, o1 = (k : Int) := ⟨o1.toNat, by omega⟩
  have HB := HB9
  have HX := HX9
  have HS := HS9
  have HT := HT9
  have HQ := HQ9
  clear HB9 HX9 HS9 HT9 HQ9
  obtain ⟨z1, z2, z3, z4⟩ := jobHd_size (k := k) (e := e1) hpq (by rw [HL.out]; exact HN.out) hn1 hn3
  have HJ := Lib.hid (show jobTx l e1 (k : Int) n1 m sl = jobTo (jobHd l k n1 e1) m sl by unfold jobTx; rw [HQ.out]; rfl)
  have HALL := Lib.hid hall
  have HK := Lib.hid (show (1 ≤ k ∧ k ≤ 4) ∧ 1 ≤ n1 ∧ n1 ≤ 3 from ⟨⟨by omega, by omega⟩, hn1, hn3⟩)
  have HPT := Lib.hid (show progTx l = progTo l l.length by unfold progTx; rw [if_pos hpq])
  have HHD := Lib.hid (show jobHd l k n1 e1 = (headTx k n1 e1 ++ progTo l l.length) ++ ⟨#[10]⟩ from rfl)
  obtain ⟨H, hH⟩ : ∃ H, headTx k n1 e1 = H := ⟨_, rfl⟩
  obtain ⟨P, hP⟩ : ∃ P, progTo l l.length = P := ⟨_, rfl⟩
  have HH := Lib.hid hH
  rw [hP] at HPT
  rw [hH, hP] at HHD z3
  rw [hH] at z1
  rw [hP] at z2
  have HZ4 := Lib.hid z4
  clear hpq hall hH hP z4
  have k1 : ∀ w, (Op.stringOp .add H P).run Tryd.prog w = .ok (.string (H ++ P)) w := fun w => cat_runp _ _ 3000 (by omega) (by omega)
  have k2 : ∀ w, (Op.stringOp .add (H ++ P) (⟨#[10]⟩ : ByteArray)).run Tryd.prog w = .ok (.string ((H ++ P) ++ ⟨#[10]⟩)) w := fun w => cat_runp _ _ 3000 (by omega) (by decide)
  go_wp2_with fail
  refine wp_region_noPanic ?_
  refine wp_region_held_drew (S := (fun w' => Hid (Below w.heap.size w w' ∧ Row w' w.heap.size 44 #[.slice p pl pc, .bool e1, .int .i64 (k : Int), .int .i64 n1, .slice s sl sc] ∧ JobAt w' p pl l s sl m ∧ TabsJ w'))) (by kernel_rfl) (Lib.hid ⟨HB.out.drew, HX.out.keep (Below.refl _ _).drew, HS.out.keep (Below.refl _ _).drew, HT.out.keep (Below.refl _ _).drew⟩) (fun HS => ?_)
  refine held_take (i := 0) (d := 9) (v := .agg #[.slice p pl pc, .bool e1, .int .i64 (k : Int), .int .i64 n1, .slice s sl sc]) rfl rfl (by kernel_rfl) (by kernel_rfl) (by kernel_rfl) (by kernel_rfl) (fun wx hS => by have k00 := row_tab (j := 0) hS.out.2.1 rfl; have k10 := row_tab (j := 1) hS.out.2.1 rfl; have k20 := row_tab (j := 2) hS.out.2.1 rfl; have k30 := row_tab (j := 3) hS.out.2.1 rfl; have k40 := row_tab (j := 4) hS.out.2.1 rfl; go_simp) HS ?_
  refine held_take (i := 2) (d := 11) (v := .pointer (some ⟨w.heap.size, 0, none⟩)) rfl rfl (by kernel_rfl) (by kernel_rfl) (by kernel_rfl) (by kernel_rfl) (fun wx hS => by go_simp) HS ?_
  refine held_take (i := 3) (d := 12) (v := .slice p pl pc) rfl rfl (by kernel_rfl) (by kernel_rfl) (by kernel_rfl) (by kernel_rfl) (fun wx hS => by have k0 := row_tab (j := 0) hS.out.2.1 rfl; go_simp) HS ?_
  refine wpAnyH_ready (rs := [1]) (by kernel_rfl) (by simp) (AllReadyH.cons rfl (fun K hK => ?_) AllReadyH.nil)
  go_simp
  refine (headtext_any _ _ _ _ _ _ k e1 n1 _ HK.out.1.1 HK.out.1.2 HK.out.2.1 HK.out.2.2 HS.out.2.2.2).mono ?_
  rw [HH.out]
  rintro e w3 ⟨rfl, hB⟩
  refine hK.out _ _ (Lib.hid ⟨below_via HS.out.1 hB, HS.out.2.1.keep hB, HS.out.2.2.1.keep hB, HS.out.2.2.2.keep hB⟩) (fun HS => ?_)
  clear hK K
  refine wpAnyH_ready (rs := [4]) (by kernel_rfl) (by simp) (AllReadyH.cons rfl (fun K hK => ?_) AllReadyH.nil)
  go_simp
  refine (progtext_any _ _ _ l _ HS.out.2.2.1.i HN.out HS.out.2.2.2.t).mono ?_
  rw [HPT.out]
  rintro e w4 ⟨rfl, hB⟩
  refine hK.out _ _ (Lib.hid ⟨below_via HS.out.1 hB, HS.out.2.1.keep hB, HS.out.2.2.1.keep hB, HS.out.2.2.2.keep hB⟩) (fun HS => ?_)
  clear hK K
  refine held_take (i := 5) (d := 14) (v := .string (H ++ P)) rfl rfl (by kernel_rfl) (by kernel_rfl) (by kernel_rfl) (by kernel_rfl) (fun wx hS => by go_simp) HS ?_
  refine held_take (i := 6) (d := 15) (v := .string ((H ++ P) ++ ⟨#[10]⟩)) rfl rfl (by kernel_rfl) (by kernel_rfl) (by kernel_rfl) (by kernel_rfl) (fun wx hS => by go_simp) HS ?_
  refine held_take (i := 7) (d := 3) (v := .string ((H ++ P) ++ ⟨#[10]⟩)) rfl rfl (by kernel_rfl) (by kernel_rfl) (by kernel_rfl) (by kernel_rfl) (fun wx hS => by go_simp) HS ?_
  refine wpAnyH_done (by kernel_rfl) (NoPanic.normal ?_) _
  simp only [List.setIfInBounds_toArray, List.set_cons_zero, List.set_cons_succ]
  have HB5 := Lib.hid HS.out.1
  have HX := Lib.hid HS.out.2.1
  have HT5 := Lib.hid HS.out.2.2.2
  have HSS := Lib.hid HS.out.2.2.1
  have x4 := row_tab (j := 4) HX.out rfl
  clear HS
  go_wp2
  go_loopw [3, 19] (fun t i wr => ∃ j : Nat, j ≤ sl ∧ i = .int .i64 j ∧ (∃ T : ByteArray, t = .string T ∧ Hid (T = jobTo (jobHd l k n1 e1) m j)) ∧ Hid (Below w4.heap.size w4 wr)) (fun _ i _ => sl - (intOf i).toNat)
  case atStart => exact ⟨0, Nat.zero_le _, rfl, ⟨_, rfl, Lib.hid HHD.out.symm⟩, Lib.hid (Below.refl _ _)⟩
  case round =>
    obtain ⟨j, hj, rfl, ⟨T, rfl, HTT⟩, HW⟩ := hrel
    clear x4 k1 k2
    by_cases hlt : j < sl
    · rcases (HSS.out.keep HW.out).t.src with hz | ⟨b, off, rfl, hb, hc⟩
      · omega
      have c0 := hc j hlt
      have hi0 : (0 : Int) ≤ (j : Int) := by omega
      have hi1 : (j : Int) < (sl : Int) := by omega
      have hts : T.size ≤ 800 + 2037 * j := by rw [HTT.out]; exact jobTo_size (by have := HZ4.out; omega) HALL.out j hj
      have hk := allB_at HALL.out hlt
      have hxs := splitTx_size hk
      obtain ⟨t, ht⟩ : ∃ t, strAt m j = t := ⟨_, rfl⟩
      have HP := Lib.hid (show T ++ splitTx t = jobTo (jobHd l k n1 e1) m (j + 1) by rw [HTT.out, ← ht]; rfl)
      rw [ht] at c0 hk hxs
      have HKK := Lib.hid hk
      obtain ⟨X, hX⟩ : ∃ X, splitTx t = X := ⟨_, rfl⟩
      have HXX := Lib.hid hX
      rw [hX] at HP hxs
      clear hc hb ht hk hX
      have k3 : ∀ w, (Op.stringOp .add T X).run Tryd.prog w = .ok (.string (T ++ X)) w := fun w => cat_runp _ _ 20000 (by omega) (by omega)
      go_wp2_with fail
      refine (splittext_any t _ HKK.out (HT5.out.keep HW.out).t.pow).mono ?_
      rw [HXX.out]
      rintro e w5 ⟨rfl, hB⟩
      have HW := Lib.hid (below_via HW.out hB)
      clear hB c0
      go_wp2
      go_roundw
      case rel => exact ⟨j + 1, by omega, by go_num, ⟨_, rfl, HP⟩, HW⟩
      case measure => simp [intOf]; omega
    · obtain rfl : j = sl := by omega
      go_wp2
      go_ret
      exact ⟨congrArg (fun s => Ending.returned (.string s)) (HTT.out.trans HJ.out.symm), below_via HB5.out HW.out⟩
end Go.Proofs.YtgijalecpeabjaaDoor
