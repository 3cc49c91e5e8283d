
/- A claim read out of a text: what the model does. Only new blocks are made. -/
import Derived.Test.YtbjlojmadellgaaGreatDoorRClaimP
import Derived.Test.YtbjlojmadellgaaGreatDoorMg9
namespace Go.Proofs.YtbjlojmadellgaaGreatDoor
open Go.ChangeShapes Go.WideShapes Go.ChangeAt Go.RowKit
set_option linter.unusedVariables false
set_option maxRecDepth 100000

theorem piece_own {base n cp : Nat} {w : World} {q : Option Addr} {P : List (List UInt8)} (h : w.ownsRow base 9 1 (.slice q n cp) n (P.map encS)) (hn : P.length = n) (h0 : 0 < n) :
    ∃ g, q = some ⟨g, 0, none⟩ ∧ base ≤ g ∧ PiecesAt w g 0 P := by
  rcases h.2 with ⟨_, h2⟩ | ⟨g, cap, cur, hv, hb, hh, h1, _, h3, h4⟩
  · omega
  · simp only [Value.slice.injEq, true_and] at hv
    obtain ⟨rfl, rfl⟩ := hv
    refine ⟨g, rfl, hb, lt_of_block hh, fun j hj => ?_⟩
    have e : (cur.toList.take (n * 1))[j]? = (P.map encS)[j]? := by rw [h4]
    rw [List.getElem?_take_of_lt (by omega)] at e
    have e2 : cur[j]? = cur.toList[j]? := by simp
    simp only [World.cell?, hh, Nat.zero_add]
    rw [e2, e]
    simp [hj]
theorem PiecesAt.put {w : World} {g off B : Nat} {P : List (List UInt8)} (h : PiecesAt w g off P) (hne : g ≠ B) (j : Nat) (v : Value) : PiecesAt (w.setCell ⟨B, j, none⟩ v) g off P :=
  ⟨by simpa [World.setCell] using h.lt, fun i hi => by
    have := h.cell i hi
    have e := Below.heap_setCell w ⟨B, j, none⟩ v g hne
    unfold World.cell? at this ⊢
    simp only at this ⊢
    rw [e]; exact this⟩
theorem ba_yes {a b : ByteArray} (h : a = b) : (a.toList == b.toList) = true := by rw [h]; simp

set_option maxHeartbeats 4000000 in
theorem sreadclaim_any (s : ByteArray) (w : World) (hs : s.size ≤ 1048576) : Calls Tryz.prog 37 #[.string s] w (MadeRC (rclaim s.data.toList) w) := by
  obtain ⟨P, hP⟩ : ∃ P, splitL 32 s.data.toList = P := ⟨_, rfl⟩
  have HLE := Lib.hid (show ∀ x ∈ P, x.length ≤ 1048576 from fun x hx => Nat.le_trans (splitL_len 32 s.data.toList x (by rw [hP]; exact hx)) (by simpa using hs))
  have HP := Lib.hid hP
  have HX := Lib.hid (Row.new w 69 #[.int .i64 0, .int .i64 0, .int .i64 0])
  have HB := Lib.hid (below_alloc (Below.refl w.heap.size w) (.cells #[.int .i64 0, .int .i64 0, .int .i64 0] 69))
  clear hP
  go_enter Tryz.func37, Tryz.ntmps37
  go_wp2_with fail
  refine (split_any s _ hs).mono ?_
  rw [HP.out]
  rintro e w1 ⟨v, rfl, hown, hB, hlen⟩
  obtain ⟨n, hnn⟩ : ∃ n, P.length = n := ⟨_, rfl⟩
  rw [hnn] at hown hlen
  have HNN := Lib.hid hnn
  obtain ⟨q, cp, rfl⟩ := own_form hown
  have HO := Lib.hid hown
  have HX := Lib.hid (HX.out.keep hB)
  have HB := Lib.hid (below_via HB.out hB)
  clear hown hB hnn
  have y0 := HX.out.cell (j := 0) (by simp)
  have y1 := HX.out.cell (j := 1) (by simp)
  have y2 := HX.out.cell (j := 2) (by simp)
  have f0 := HX.out.free 0
  have f1 := HX.out.free 1
  have f2 := HX.out.free 2
  simp at y0 y1 y2
  by_cases h40 : (40 : Int) < (s.size : Int)
  · have HR := Lib.hid (rclaim_long (s := s) (by omega))
    go_wp2
    have hbF := ((HX.out.set 0 (.int .i64 0)).set 1 (.int .i64 0)).set 2 (.int .i64 0)
    unfold Row at hbF
    exact bodyPost_ret (v := .tuple #[.agg #[.int .i64 0, .int .i64 0, .int .i64 0], .bool false]) (by simp [results, Tryz.results37, go_sem, World.cell?, hbF]) rfl (rc_none HR.out ((HB.out.setCell (Nat.le_refl _) _).setCell (Nat.le_refl _) _ |>.setCell (Nat.le_refl _) _))
  by_cases hn : n = 3
  · subst hn
    obtain ⟨x, y, z, rfl⟩ := three HNN.out
    obtain ⟨g, rfl, _, hpi⟩ := piece_own HO.out HNN.out (by decide)
    have c0 := hpi.cell 0 (by simp)
    have c1 := hpi.cell 1 (by simp)
    have c2 := hpi.cell 2 (by simp)
    have HPI := Lib.hid hpi
    have HG := Lib.hid hpi.lt
    have HCZ := Lib.hid (show g ≠ w1.heap.size from Nat.ne_of_lt hpi.lt)
    have HX1 := Lib.hid ((HX.out.keep (below_alloc (Below.refl _ _) (.cells #[.int .i64 0, .int .i64 0, .int .i64 0] 69))))
    have HC := Lib.hid (Row.new w1 69 #[.int .i64 0, .int .i64 0, .int .i64 0])
    have HB1 := Lib.hid (below_alloc HB.out (.cells #[.int .i64 0, .int .i64 0, .int .i64 0] 69))
    have hgl := hpi.lt
    have hgn : g ≠ w1.heap.size := Nat.ne_of_lt hpi.lt
    have HLEC := Lib.hid HB.out.size
    have HNE := Lib.hid (show w.heap.size ≠ w1.heap.size from Nat.ne_of_lt HX.out.lt)
    simp [encS] at c0 c1 c2
    clear hpi y0 y1 y2 f0 f1 f2 c1 c2
    have HB := Lib.hid HB1.out
    have HX := Lib.hid HX1.out
    have HPI := Lib.hid (HPI.out.keep (below_alloc (Below.refl _ _) (.cells #[.int .i64 0, .int .i64 0, .int .i64 0] 69)))
    go_wp2_with fail
    refine (l1num_any ⟨x.toArray⟩ _ (Nat.le_trans (by simpa [ByteArray.size] using HLE.out x (by simp)) (by decide))).mono ?_
    rintro e9 w2 ⟨rfl, hB⟩
    have he0 : (⟨x.toArray⟩ : ByteArray).data.toList = x := by simp
    rw [he0]
    obtain ⟨a, ha⟩ : ∃ v, (numD x).getD 0 = v := ⟨_, rfl⟩
    obtain ⟨b0, hb0⟩ : ∃ v, (numD x).isSome = v := ⟨_, rfl⟩
    rw [ha, hb0]
    have HV0 := Lib.hid ha
    have HC := Lib.hid (HC.out.keep hB)
    have HX := Lib.hid (HX.out.keep hB)
    have HPI := Lib.hid (HPI.out.keep hB)
    have HB := Lib.hid (below_via HB.out hB)
    have g0 := HC.out.cell (j := 0) (by simp)
    have f0 := HC.out.free 0
    have c1 := HPI.out.cell 1 (by simp)
    simp [encS] at g0 c1
    clear hB he0 ha hb0
    clear c0
    have HC := Lib.hid (HC.out.set 0 (.int .i64 a))
    have HX := Lib.hid (HX.out.other HNE.out 0 (.int .i64 a))
    have HPI := Lib.hid (HPI.out.put hgn 0 (.int .i64 a))
    have HB := Lib.hid (HB.out.setCell (p := ⟨w1.heap.size, 0, none⟩) HLEC.out (.int .i64 a))
    go_wp2_with fail
    clear g0 f0
    refine (l1num_any ⟨y.toArray⟩ _ (Nat.le_trans (by simpa [ByteArray.size] using HLE.out y (by simp)) (by decide))).mono ?_
    rintro e9 w3 ⟨rfl, hB⟩
    have he1 : (⟨y.toArray⟩ : ByteArray).data.toList = y := by simp
    rw [he1]
    obtain ⟨e, he⟩ : ∃ v, (numD y).getD 0 = v := ⟨_, rfl⟩
    obtain ⟨b1, hb1⟩ : ∃ v, (numD y).isSome = v := ⟨_, rfl⟩
    rw [he, hb1]
    have HV1 := Lib.hid he
    have HC := Lib.hid (HC.out.keep hB)
    have HX := Lib.hid (HX.out.keep hB)
    have HPI := Lib.hid (HPI.out.keep hB)
    have HB := Lib.hid (below_via HB.out hB)
    have g0 := HC.out.cell (j := 1) (by simp)
    have f0 := HC.out.free 1
    have c2 := HPI.out.cell 2 (by simp)
    simp [encS] at g0 c2
    clear hB he1 he hb1
    clear c1
    have HC := Lib.hid (HC.out.set 1 (.int .i64 e))
    have HX := Lib.hid (HX.out.other HNE.out 1 (.int .i64 e))
    have HPI := Lib.hid (HPI.out.put hgn 1 (.int .i64 e))
    have HB := Lib.hid (HB.out.setCell (p := ⟨w1.heap.size, 1, none⟩) HLEC.out (.int .i64 e))
    go_wp2_with fail
    clear g0 f0
    refine (l1num_any ⟨z.toArray⟩ _ (Nat.le_trans (by simpa [ByteArray.size] using HLE.out z (by simp)) (by decide))).mono ?_
    rintro e9 w4 ⟨rfl, hB⟩
    have he2 : (⟨z.toArray⟩ : ByteArray).data.toList = z := by simp
    rw [he2]
    obtain ⟨u, hu⟩ : ∃ v, (numD z).getD 0 = v := ⟨_, rfl⟩
    obtain ⟨b2, hb2⟩ : ∃ v, (numD z).isSome = v := ⟨_, rfl⟩
    rw [hu, hb2]
    have HV2 := Lib.hid hu
    have HC := Lib.hid (HC.out.keep hB)
    have HX := Lib.hid (HX.out.keep hB)
    have HPI := Lib.hid (HPI.out.keep hB)
    have HB := Lib.hid (below_via HB.out hB)
    have g0 := HC.out.cell (j := 2) (by simp)
    have f0 := HC.out.free 2
    have g1 := HC.out.cell (j := 0) (by simp)
    have g2 := HC.out.cell (j := 1) (by simp)
    simp at g0 g1 g2
    clear hB he2 hu hb2 c2
    have HC := Lib.hid (HC.out.set 2 (.int .i64 u))
    have HX := Lib.hid (HX.out.other HNE.out 2 (.int .i64 u))
    have HB := Lib.hid (HB.out.setCell (p := ⟨w1.heap.size, 2, none⟩) HLEC.out (.int .i64 u))
    go_wp2_with fail
    clear g0 f0 g1 g2
    refine (sclaimtext_any a e u _).mono ?_
    rintro e9 w5 ⟨rfl, hB⟩
    have HC := Lib.hid (HC.out.keep hB)
    have HX := Lib.hid (HX.out.keep hB)
    have HB := Lib.hid (below_via HB.out hB)
    have hlen1 : 1 < (splitL 32 s.data.toList).length := by rw [HP.out]; simp
    have hiff := @claimTx_eq s a e u hlen1
    obtain ⟨T, hT⟩ : ∃ T, claimTx a e u = T := ⟨_, rfl⟩
    rw [hT] at hiff ⊢
    have y0 := HX.out.cell (j := 0) (by simp)
    have y1 := HX.out.cell (j := 1) (by simp)
    have y2 := HX.out.cell (j := 2) (by simp)
    have f0 := HX.out.free 0
    have f1 := HX.out.free 1
    have f2 := HX.out.free 2
    have g0 := HC.out.cell (j := 0) (by simp)
    have g1 := HC.out.cell (j := 1) (by simp)
    have g2 := HC.out.cell (j := 2) (by simp)
    simp at y0 y1 y2 g0 g1 g2
    clear hB hlen1 hT
    by_cases hq : T = s
    · have HR := Lib.hid (hiff.1 hq)
      have ht := ba_yes hq
      clear hiff hq
      go_wp2
      have hbF := ((HX.out.set 0 (.int .i64 a)).set 1 (.int .i64 e)).set 2 (.int .i64 u)
      unfold Row at hbF
      exact bodyPost_ret (v := .tuple #[.agg #[.int .i64 a, .int .i64 e, .int .i64 u], .bool true]) (by simp [results, Tryz.results37, go_sem, World.cell?, hbF]) rfl (rc_some HR.out ((HB.out.setCell (Nat.le_refl _) _).setCell (Nat.le_refl _) _ |>.setCell (Nat.le_refl _) _))
    · have HR := Lib.hid (show rclaim s.data.toList = none by
        cases hr : rclaim s.data.toList with
        | none => rfl
        | some t =>
          obtain ⟨a1, e1, u1⟩ := t
          exfalso
          apply hq
          apply hiff.2
          obtain ⟨hc, hs1⟩ := rclaim_iff.1 hr
          have h3 := HP.out
          rw [← hs1, cat3_split] at h3
          simp only [List.cons.injEq, and_true] at h3
          obtain ⟨k1, k2, k3⟩ := h3
          have hbb := claimB_iff.1 hc
          rw [← HV0.out, ← HV1.out, ← HV2.out, ← k1, ← k2, ← k3, numD_itoa (by omega) (by omega), numD_itoa (by omega) (by omega), numD_itoa (by omega) (by omega)]
          exact hr)
      have ht := ba_ne hq
      clear hiff hq
      go_wp2
      have hbF := ((HX.out.set 0 (.int .i64 0)).set 1 (.int .i64 0)).set 2 (.int .i64 0)
      unfold Row at hbF
      exact bodyPost_ret (v := .tuple #[.agg #[.int .i64 0, .int .i64 0, .int .i64 0], .bool false]) (by simp [results, Tryz.results37, go_sem, World.cell?, hbF]) rfl (rc_none HR.out ((HB.out.setCell (Nat.le_refl _) _).setCell (Nat.le_refl _) _ |>.setCell (Nat.le_refl _) _))
  · have HR := Lib.hid (rclaim_count (s := s.data.toList) (by rw [HP.out, HNN.out]; exact hn))
    have hne : ((n : Int) != 3) = true := by rw [bne_iff_ne]; omega
    go_wp2
    have hbF := ((HX.out.set 0 (.int .i64 0)).set 1 (.int .i64 0)).set 2 (.int .i64 0)
    unfold Row at hbF
    exact bodyPost_ret (v := .tuple #[.agg #[.int .i64 0, .int .i64 0, .int .i64 0], .bool false]) (by simp [results, Tryz.results37, go_sem, World.cell?, hbF]) rfl (rc_none HR.out ((HB.out.setCell (Nat.le_refl _) _).setCell (Nat.le_refl _) _ |>.setCell (Nat.le_refl _) _))
end Go.Proofs.YtbjlojmadellgaaGreatDoor
