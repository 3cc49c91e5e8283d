
/- The law on marks, walked: a mark comes back from its text; what is read, written again, is that text. -/
import Derived.Test.YtcmbaclkfnecbaaDoorClaimsL
import Derived.Test.YtcmbaclkfnecbaaDoorRMarkX
namespace Go.Proofs.YtcmbaclkfnecbaaDoor
open Go.ChangeShapes Go.WideShapes Go.ChangeAt Go.RowKit
set_option linter.unusedVariables false
set_option maxRecDepth 100000

theorem markTx_back {s : ByteArray} {b : Bool} {e k : Int} (h : rmark s.data.toList = some (b, e, k)) : markTx b e k = s := by
  obtain ⟨hc, hs⟩ := rmark_iff.1 h
  unfold markTx
  rw [if_pos hc]
  exact hs
theorem markTx_way (b : Bool) (e k : Int) : (markTx b e k = ByteArray.empty ∧ rmark (markTx b e k).data.toList = none) ∨ (0 < (markTx b e k).size ∧ rmark (markTx b e k).data.toList = some (b, e, k)) := by
  cases hc : markB e k with
  | false =>
    left
    unfold markTx
    rw [hc]
    rw [if_neg (by decide)]
    exact ⟨rfl, by decide⟩
  | true =>
    right
    unfold markTx
    rw [if_pos hc]
    refine ⟨?_, rmark_iff.2 ⟨hc, rfl⟩⟩
    rw [ByteArray.size_append, ByteArray.size_append]
    show 0 < _ + 1 + _
    omega

set_option maxHeartbeats 4000000 in
theorem fnMarks_walk (w : World) (a0 : Option Addr) (len cap : Nat) (h : Src w a0 len) (hT : TabsR w) :
    Calls Tryd.prog 4 #[.slice a0 len cap] w fun x w' => x = .returned (.bool true) ∧ Below w.heap.size w w' := by
  by_cases hbig : 1048576 < len
  · go_enter Tryd.func4, Tryd.ntmps4
    go_wp2_with fail
    refine (big_yes _ _ _ _ hbig).mono ?_
    rintro e w' ⟨rfl, rfl⟩
    go_wp2_with fail
    go_ret
    exact ⟨rfl, Below.refl _ _⟩
  have HT := Lib.hid hT
  have H := Lib.hid h
  clear hT h
  go_enter Tryd.func4, Tryd.ntmps4
  go_wp2_with fail
  refine (big_no _ _ _ _ hbig).mono ?_
  rintro e w' ⟨rfl, rfl⟩
  go_wp2_with fail
  refine (drawmark_any _ _ _ _ H.out).mono ?_
  rintro e w1 ⟨x, y, z, rfl, hb⟩
  have HB := Lib.hid hb
  have HX := Lib.hid (Row.new w1 32 #[.bool x, .int .i64 y, .int .i64 z])
  clear hb
  obtain ⟨s, hs⟩ : ∃ s, markTx x y z = s := ⟨_, rfl⟩
  have HS := Lib.hid hs
  have hs40 : s.size ≤ 40 := hs ▸ markTx_size x y z
  clear hs
  go_wp2_with fail
  refine (marktxt_any x y z _ (HT.out.pow.keep (below_alloc HB.out _))).mono ?_
  rintro e w2 ⟨rfl, hb⟩
  rw [HS.out]
  have HX := Lib.hid (HX.out.keep hb)
  have HB := Lib.hid (below_via (below_alloc HB.out (.cells #[.bool x, .int .i64 y, .int .i64 z] 32)) hb)
  clear hb
  go_wp2_with fail
  refine (drawreadmark_any _ _ _ _ (H.out.below HB.out)).mono ?_
  rintro e w3 ⟨t, ht41, rfl, hb⟩
  have HX := Lib.hid (HX.out.keep hb)
  have HB := Lib.hid (below_via HB.out hb)
  clear hb
  obtain ⟨o, ho⟩ : ∃ o, rmark t.data.toList = o := ⟨_, rfl⟩
  have HO := Lib.hid ho
  have HF := Lib.hid (rmV_form o)
  obtain ⟨a, ha⟩ : ∃ a, (rmA o).1 = a := ⟨_, rfl⟩
  obtain ⟨e, he⟩ : ∃ a, (rmA o).2.1 = a := ⟨_, rfl⟩
  obtain ⟨u, hu⟩ : ∃ a, (rmA o).2.2 = a := ⟨_, rfl⟩
  obtain ⟨b, hb⟩ : ∃ a, o.isSome = a := ⟨_, rfl⟩
  have HK : Hid (b = true → markTx a e u = t) := Lib.hid (by
    intro h1
    cases o with
    | none => rw [h1] at hb; cases hb
    | some q =>
      obtain ⟨q1, q2, q3⟩ := q
      cases ha; cases he; cases hu
      exact markTx_back ho)
  rw [ha, he, hu, hb] at HF
  clear ho ha he hu hb
  go_wp2_with fail
  refine (readmark_any t _ (Nat.le_trans ht41 (by decide)) (HT.out.keep HB.out)).mono ?_
  rw [HO.out]
  rintro v w4 ⟨hv, hb⟩
  rw [HF.out] at hv
  subst hv
  have HX := Lib.hid ((HX.out.keep hb).alloc (.cells #[.bool a, .int .i64 e, .int .i64 u] 32))
  have HB := Lib.hid (below_alloc (below_via HB.out hb) (.cells #[.bool a, .int .i64 e, .int .i64 u] 32))
  have HY := Lib.hid (Row.new w4 32 #[.bool a, .int .i64 e, .int .i64 u])
  clear hb
  go_wp2_with fail
  refine (sreadmark_any t _ (Nat.le_trans ht41 (by decide))).mono ?_
  rw [HO.out]
  rintro v w5 ⟨hv, hb⟩
  rw [HF.out] at hv
  subst hv
  have hne : w4.heap.size ≠ w5.heap.size := Nat.ne_of_lt (Nat.lt_of_lt_of_le (by simp) hb.size)
  have HX := Lib.hid ((HX.out.keep hb).alloc (.cells #[.bool a, .int .i64 e, .int .i64 u] 32))
  have HY := Lib.hid ((HY.out.keep hb).alloc (.cells #[.bool a, .int .i64 e, .int .i64 u] 32))
  have HB := Lib.hid (below_alloc (below_via HB.out hb) (.cells #[.bool a, .int .i64 e, .int .i64 u] 32))
  have HZ := Lib.hid (Row.new w5 32 #[.bool a, .int .i64 e, .int .i64 u])
  clear hb
  obtain ⟨w6, hw6⟩ : ∃ w6, w5.alloc (.cells #[.bool a, .int .i64 e, .int .i64 u] 32) = w6 := ⟨_, rfl⟩
  rw [hw6] at HX HY HB HZ
  have c0 := HX.out.cell (j := 0) (by simp)
  have c1 := HX.out.cell (j := 1) (by simp)
  have c2 := HX.out.cell (j := 2) (by simp)
  simp at c0 c1 c2
  go_wp2_with fail
  refine (smarktxt_any x y z _).mono ?_
  rintro v w7 ⟨rfl, hb⟩
  rw [HS.out]
  have HX := Lib.hid (HX.out.keep hb)
  have HY := Lib.hid (HY.out.keep hb)
  have HZ := Lib.hid (HZ.out.keep hb)
  have HB := Lib.hid (below_via HB.out hb)
  clear hb c0 c1 c2 hw6
  have c0 := HX.out.cell (j := 0) (by simp)
  have c1 := HX.out.cell (j := 1) (by simp)
  have c2 := HX.out.cell (j := 2) (by simp)
  have y0 := HY.out.cell (j := 0) (by simp)
  have y1 := HY.out.cell (j := 1) (by simp)
  have y2 := HY.out.cell (j := 2) (by simp)
  have z0 := HZ.out.cell (j := 0) (by simp)
  have z1 := HZ.out.cell (j := 1) (by simp)
  have z2 := HZ.out.cell (j := 2) (by simp)
  simp at c0 c1 c2 y0 y1 y2 z0 z1 z2
  have HWAY : Hid ((s = ByteArray.empty ∧ rmark s.data.toList = none) ∨ (0 < s.size ∧ rmark s.data.toList = some (x, y, z))) := Lib.hid (HS.out ▸ markTx_way x y z)
  cases b
  · go_wp2_with fail
    clear y0 y1 y2 z0 z1 z2
    refine (readmark_any s _ (Nat.le_trans hs40 (by decide)) (HT.out.keep HB.out)).mono ?_
    rcases HWAY.out with ⟨hse, hr⟩ | ⟨hse, hr⟩
    · rw [hr]
      rintro v w9 ⟨hv, hb⟩
      simp only [rmV] at hv
      subst hv
      have HX := Lib.hid ((HX.out.keep hb).alloc (.cells #[.bool false, .int .i64 0, .int .i64 0] 32))
      have HB := Lib.hid (below_alloc (below_via HB.out hb) (.cells #[.bool false, .int .i64 0, .int .i64 0] 32))
      clear hb c0 c1 c2 hr hne
      subst hse
      go_wp2_with fail
      go_ret
      exact ⟨rfl, HB.out⟩
    · rw [hr]
      rintro v w9 ⟨hv, hb⟩
      simp only [rmV] at hv
      subst hv
      have HX := Lib.hid ((HX.out.keep hb).alloc (.cells #[.bool x, .int .i64 y, .int .i64 z] 32))
      have HB := Lib.hid (below_alloc (below_via HB.out hb) (.cells #[.bool x, .int .i64 y, .int .i64 z] 32))
      clear hb c0 c1 c2 hr hne
      have c0 := HX.out.cell (j := 0) (by simp)
      have c1 := HX.out.cell (j := 1) (by simp)
      have c2 := HX.out.cell (j := 2) (by simp)
      simp at c0 c1 c2
      have hbf := ba_full hse
      go_wp2_with fail
      go_ret
      exact ⟨rfl, HB.out⟩
  · have HK2 := Lib.hid (HK.out rfl)
    go_wp2_with fail
    refine (marktxt_any a e u _ (HT.out.pow.keep HB.out)).mono ?_
    rintro v w8 ⟨rfl, hb⟩
    rw [HK2.out]
    have HX := Lib.hid (HX.out.keep hb)
    have HB := Lib.hid (below_via HB.out hb)
    clear hb c0 c1 c2 y0 y1 y2 z0 z1 z2
    go_wp2_with fail
    have c0 := HX.out.cell (j := 0) (by simp)
    have c1 := HX.out.cell (j := 1) (by simp)
    have c2 := HX.out.cell (j := 2) (by simp)
    refine (readmark_any s _ (Nat.le_trans hs40 (by decide)) (HT.out.keep HB.out)).mono ?_
    rcases HWAY.out with ⟨hse, hr⟩ | ⟨hse, hr⟩
    · rw [hr]
      rintro v w9 ⟨hv, hb⟩
      simp only [rmV] at hv
      subst hv
      have HX := Lib.hid ((HX.out.keep hb).alloc (.cells #[.bool false, .int .i64 0, .int .i64 0] 32))
      have HB := Lib.hid (below_alloc (below_via HB.out hb) (.cells #[.bool false, .int .i64 0, .int .i64 0] 32))
      clear hb c0 c1 c2 hr hne
      subst hse
      go_wp2_with fail
      go_ret
      exact ⟨rfl, HB.out⟩
    · rw [hr]
      rintro v w9 ⟨hv, hb⟩
      simp only [rmV] at hv
      subst hv
      have HX := Lib.hid ((HX.out.keep hb).alloc (.cells #[.bool x, .int .i64 y, .int .i64 z] 32))
      have HB := Lib.hid (below_alloc (below_via HB.out hb) (.cells #[.bool x, .int .i64 y, .int .i64 z] 32))
      clear hb c0 c1 c2 hr hne
      have c0 := HX.out.cell (j := 0) (by simp)
      have c1 := HX.out.cell (j := 1) (by simp)
      have c2 := HX.out.cell (j := 2) (by simp)
      simp at c0 c1 c2
      have hbf := ba_full hse
      go_wp2_with fail
      go_ret
      exact ⟨rfl, HB.out⟩
end Go.Proofs.YtcmbaclkfnecbaaDoor
