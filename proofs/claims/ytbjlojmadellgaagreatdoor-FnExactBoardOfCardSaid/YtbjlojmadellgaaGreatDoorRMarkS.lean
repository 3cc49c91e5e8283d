
/- A mark read out of a text: what the model does. Only new blocks are made. -/
import Derived.Test.YtbjlojmadellgaaGreatDoorRMarkP
import Derived.Test.YtbjlojmadellgaaGreatDoorRClaimS
namespace Go.Proofs.YtbjlojmadellgaaGreatDoor
open Go.ChangeShapes Go.WideShapes Go.ChangeAt Go.RowKit
set_option linter.unusedVariables false
set_option maxRecDepth 100000

set_option maxHeartbeats 4000000 in
theorem sreadmark_any (s : ByteArray) (w : World) (hs : s.size ≤ 1048576) : Calls Tryz.prog 48 #[.string s] w (MadeRM (rmark s.data.toList) w) := by
  obtain ⟨P, hP⟩ : ∃ P, splitL 32 s.data.toList = P := ⟨_, rfl⟩
  have HLE := Lib.hid (show ∀ x ∈ P, x.length ≤ 1048576 from fun x hx => Nat.le_trans (splitL_len 32 s.data.toList x (by rw [hP]; exact hx)) (by simpa using hs))
  have HP := Lib.hid hP
  have HX := Lib.hid (Row.new w 58 #[.bool false, .int .i64 0, .int .i64 0])
  have HB := Lib.hid (below_alloc (Below.refl w.heap.size w) (.cells #[.bool false, .int .i64 0, .int .i64 0] 58))
  clear hP
  go_enter Tryz.func48, Tryz.ntmps48
  go_wp2_with fail
  refine (split_any s _ hs).mono ?_
  rw [HP.out]
  rintro e w1 ⟨v, rfl, hown, hB, hlen⟩
  obtain ⟨n, hnn⟩ : ∃ n, P.length = n := ⟨_, rfl⟩
  rw [hnn] at hown hlen
  have HNN := Lib.hid hnn
  obtain ⟨q, cp, rfl⟩ := own_form hown
  have HO := Lib.hid hown
  have HX := Lib.hid (HX.out.keep hB)
  have HB := Lib.hid (below_via HB.out hB)
  clear hown hB hnn
  have y0 := HX.out.cell (j := 0) (by simp)
  have y1 := HX.out.cell (j := 1) (by simp)
  have y2 := HX.out.cell (j := 2) (by simp)
  have f0 := HX.out.free 0
  have f1 := HX.out.free 1
  have f2 := HX.out.free 2
  simp at y0 y1 y2
  by_cases h40 : (40 : Int) < (s.size : Int)
  · have HR := Lib.hid (rmark_long (s := s) (by omega))
    go_wp2
    have hbF := ((HX.out.set 0 (.bool false)).set 1 (.int .i64 0)).set 2 (.int .i64 0)
    unfold Row at hbF
    exact bodyPost_ret (v := .tuple #[.agg #[.bool false, .int .i64 0, .int .i64 0], .bool false]) (by simp [results, Tryz.results48, go_sem, World.cell?, hbF]) rfl (rm_none HR.out ((HB.out.setCell (Nat.le_refl _) _).setCell (Nat.le_refl _) _ |>.setCell (Nat.le_refl _) _))
  by_cases hn : n = 3
  · subst hn
    obtain ⟨x, y, z, rfl⟩ := three HNN.out
    obtain ⟨g, rfl, _, hpi⟩ := piece_own HO.out HNN.out (by decide)
    have c0 := hpi.cell 0 (by simp)
    have c1 := hpi.cell 1 (by simp)
    have c2 := hpi.cell 2 (by simp)
    have HPI := Lib.hid hpi
    have HG := Lib.hid hpi.lt
    have HCZ := Lib.hid (show g ≠ w1.heap.size from Nat.ne_of_lt hpi.lt)
    obtain ⟨b, hb⟩ : ∃ b, (x == [111, 107]) = b := ⟨_, rfl⟩
    have HBB := Lib.hid (show isOk x = b from hb)
    have HX1 := Lib.hid ((HX.out.keep (below_alloc (Below.refl _ _) (.cells #[.bool b, .int .i64 0, .int .i64 0] 58))))
    have HC := Lib.hid (Row.new w1 58 #[.bool b, .int .i64 0, .int .i64 0])
    have HB1 := Lib.hid (below_alloc HB.out (.cells #[.bool b, .int .i64 0, .int .i64 0] 58))
    have hgl := hpi.lt
    have hgn : g ≠ w1.heap.size := Nat.ne_of_lt hpi.lt
    have HLEC := Lib.hid HB.out.size
    have HNE := Lib.hid (show w.heap.size ≠ w1.heap.size from Nat.ne_of_lt HX.out.lt)
    simp [encS] at c0 c1 c2
    clear hpi y0 y1 y2 f0 f1 f2 c2
    have HB := Lib.hid HB1.out
    have HX := Lib.hid HX1.out
    have HPI := Lib.hid (HPI.out.keep (below_alloc (Below.refl _ _) (.cells #[.bool b, .int .i64 0, .int .i64 0] 58)))
    go_wp2_with fail
    clear hb c0
    refine (l1num_any ⟨y.toArray⟩ _ (Nat.le_trans (by simpa [ByteArray.size] using HLE.out y (by simp)) (by decide))).mono ?_
    rintro e9 w2 ⟨rfl, hB⟩
    have he0 : (⟨y.toArray⟩ : ByteArray).data.toList = y := by simp
    rw [he0]
    obtain ⟨e, he⟩ : ∃ v, (numD y).getD 0 = v := ⟨_, rfl⟩
    obtain ⟨b0, hb0⟩ : ∃ v, (numD y).isSome = v := ⟨_, rfl⟩
    rw [he, hb0]
    have HV0 := Lib.hid he
    have HC := Lib.hid (HC.out.keep hB)
    have HX := Lib.hid (HX.out.keep hB)
    have HPI := Lib.hid (HPI.out.keep hB)
    have HB := Lib.hid (below_via HB.out hB)
    have g0 := HC.out.cell (j := 1) (by simp)
    have f0 := HC.out.free 1
    have c2 := HPI.out.cell 2 (by simp)
    simp [encS] at g0 c2
    clear hB he0 he hb0 c1
    have HC := Lib.hid (HC.out.set 1 (.int .i64 e))
    have HX := Lib.hid (HX.out.other HNE.out 1 (.int .i64 e))
    have HPI := Lib.hid (HPI.out.put hgn 1 (.int .i64 e))
    have HB := Lib.hid (HB.out.setCell (p := ⟨w1.heap.size, 1, none⟩) HLEC.out (.int .i64 e))
    go_wp2_with fail
    clear g0 f0
    refine (l1num_any ⟨z.toArray⟩ _ (Nat.le_trans (by simpa [ByteArray.size] using HLE.out z (by simp)) (by decide))).mono ?_
    rintro e9 w3 ⟨rfl, hB⟩
    have he1 : (⟨z.toArray⟩ : ByteArray).data.toList = z := by simp
    rw [he1]
    obtain ⟨k, hk⟩ : ∃ v, (numD z).getD 0 = v := ⟨_, rfl⟩
    obtain ⟨b1, hb1⟩ : ∃ v, (numD z).isSome = v := ⟨_, rfl⟩
    rw [hk, hb1]
    have HV1 := Lib.hid hk
    have HC := Lib.hid (HC.out.keep hB)
    have HX := Lib.hid (HX.out.keep hB)
    have HPI := Lib.hid (HPI.out.keep hB)
    have HB := Lib.hid (below_via HB.out hB)
    have g0 := HC.out.cell (j := 2) (by simp)
    have f0 := HC.out.free 2
    have g1 := HC.out.cell (j := 0) (by simp)
    have g2 := HC.out.cell (j := 1) (by simp)
    simp at g0 g1 g2
    clear hB he1 hk hb1 c2
    have HC := Lib.hid (HC.out.set 2 (.int .i64 k))
    have HX := Lib.hid (HX.out.other HNE.out 2 (.int .i64 k))
    have HB := Lib.hid (HB.out.setCell (p := ⟨w1.heap.size, 2, none⟩) HLEC.out (.int .i64 k))
    go_wp2_with fail
    clear g0 f0 g1 g2
    refine (smarktxt_any b e k _).mono ?_
    rintro e9 w5 ⟨rfl, hB⟩
    have HC := Lib.hid (HC.out.keep hB)
    have HX := Lib.hid (HX.out.keep hB)
    have HB := Lib.hid (below_via HB.out hB)
    have hlen1 : 1 < (splitL 32 s.data.toList).length := by rw [HP.out]; simp
    have hiff := @markTx_eq s b e k hlen1
    obtain ⟨T, hT⟩ : ∃ T, markTx b e k = T := ⟨_, rfl⟩
    rw [hT] at hiff ⊢
    have y0 := HX.out.cell (j := 0) (by simp)
    have y1 := HX.out.cell (j := 1) (by simp)
    have y2 := HX.out.cell (j := 2) (by simp)
    have f0 := HX.out.free 0
    have f1 := HX.out.free 1
    have f2 := HX.out.free 2
    have g0 := HC.out.cell (j := 0) (by simp)
    have g1 := HC.out.cell (j := 1) (by simp)
    have g2 := HC.out.cell (j := 2) (by simp)
    simp at y0 y1 y2 g0 g1 g2
    clear hB hlen1 hT
    by_cases hq : T = s
    · have HR := Lib.hid (hiff.1 hq)
      have ht := ba_yes hq
      clear hiff hq
      go_wp2
      have hbF := ((HX.out.set 0 (.bool b)).set 1 (.int .i64 e)).set 2 (.int .i64 k)
      unfold Row at hbF
      exact bodyPost_ret (v := .tuple #[.agg #[.bool b, .int .i64 e, .int .i64 k], .bool true]) (by simp [results, Tryz.results48, go_sem, World.cell?, hbF]) rfl (rm_some HR.out ((HB.out.setCell (Nat.le_refl _) _).setCell (Nat.le_refl _) _ |>.setCell (Nat.le_refl _) _))
    · have HR := Lib.hid (show rmark s.data.toList = none by
        cases hr : rmark s.data.toList with
        | none => rfl
        | some t =>
          obtain ⟨a1, e1, u1⟩ := t
          exfalso
          apply hq
          apply hiff.2
          obtain ⟨hc, hs1⟩ := rmark_iff.1 hr
          have h3 := HP.out
          rw [← hs1, mk3_split] at h3
          simp only [List.cons.injEq, and_true] at h3
          obtain ⟨k1, k2, k3⟩ := h3
          have hbb := markB_iff.1 hc
          rw [← HV0.out, ← HV1.out, ← HBB.out, ← k1, ← k2, ← k3, isOk_word, numD_itoa (by omega) (by omega), numD_itoa (by omega) (by omega)]
          exact hr)
      have ht := ba_ne hq
      clear hiff hq
      go_wp2
      have hbF := ((HX.out.set 0 (.bool false)).set 1 (.int .i64 0)).set 2 (.int .i64 0)
      unfold Row at hbF
      exact bodyPost_ret (v := .tuple #[.agg #[.bool false, .int .i64 0, .int .i64 0], .bool false]) (by simp [results, Tryz.results48, go_sem, World.cell?, hbF]) rfl (rm_none HR.out ((HB.out.setCell (Nat.le_refl _) _).setCell (Nat.le_refl _) _ |>.setCell (Nat.le_refl _) _))
  · have HR := Lib.hid (rmark_count (s := s.data.toList) (by rw [HP.out, HNN.out]; exact hn))
    have hne : ((n : Int) != 3) = true := by rw [bne_iff_ne]; omega
    go_wp2
    have hbF := ((HX.out.set 0 (.bool false)).set 1 (.int .i64 0)).set 2 (.int .i64 0)
    unfold Row at hbF
    exact bodyPost_ret (v := .tuple #[.agg #[.bool false, .int .i64 0, .int .i64 0], .bool false]) (by simp [results, Tryz.results48, go_sem, World.cell?, hbF]) rfl (rm_none HR.out ((HB.out.setCell (Nat.le_refl _) _).setCell (Nat.le_refl _) _ |>.setCell (Nat.le_refl _) _))
end Go.Proofs.YtbjlojmadellgaaGreatDoor
