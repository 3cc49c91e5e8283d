
/- The law on claims, walked: a claim comes back from its text; what is read, written again, is that text. -/
import Derived.Test.YtcmbaclkfnecbaaDoorDrawClt
import Derived.Test.YtcmbaclkfnecbaaDoorRClaimX
namespace Go.Proofs.YtcmbaclkfnecbaaDoor
open Go.ChangeShapes Go.WideShapes Go.ChangeAt Go.RowKit
set_option linter.unusedVariables false
set_option maxRecDepth 100000

theorem claimTx_back {s : ByteArray} {a e u : Int} (h : rclaim s.data.toList = some (a, e, u)) : claimTx a e u = s := by
  obtain ⟨hc, hs⟩ := rclaim_iff.1 h
  unfold claimTx
  rw [if_pos hc]
  exact hs
theorem claimTx_way (x y z : Int) : (claimTx x y z = ByteArray.empty ∧ rclaim (claimTx x y z).data.toList = none) ∨ (0 < (claimTx x y z).size ∧ rclaim (claimTx x y z).data.toList = some (x, y, z)) := by
  cases hc : claimB x y z with
  | false =>
    left
    unfold claimTx
    rw [hc]
    rw [if_neg (by decide)]
    exact ⟨rfl, by decide⟩
  | true =>
    right
    unfold claimTx
    rw [if_pos hc]
    refine ⟨?_, rclaim_iff.2 ⟨hc, rfl⟩⟩
    unfold cat3
    rw [ByteArray.size_append, ByteArray.size_append]
    show 0 < _ + 1 + _
    omega

theorem ba_full {s : ByteArray} (h : 0 < s.size) : s.toList.isEmpty = false := by
  rw [ByteArray.toList_eq]
  cases hd : s.data.toList with
  | nil =>
    have h2 : s.data.size = 0 := by rw [← Array.length_toList, hd]; rfl
    have h3 : s.size = s.data.size := rfl
    omega
  | cons x t => rfl

set_option maxHeartbeats 4000000 in
theorem fnClaims_walk (w : World) (a0 : Option Addr) (len cap : Nat) (h : Src w a0 len) (hT : TabsR w) :
    Calls Tryd.prog 3 #[.slice a0 len cap] w fun x w' => x = .returned (.bool true) ∧ Below w.heap.size w w' := by
  by_cases hbig : 1048576 < len
  · go_enter Tryd.func3, Tryd.ntmps3
    go_wp2_with fail
    refine (big_yes _ _ _ _ hbig).mono ?_
    rintro e w' ⟨rfl, rfl⟩
    go_wp2_with fail
    go_ret
    exact ⟨rfl, Below.refl _ _⟩
  have HT := Lib.hid hT
  have H := Lib.hid h
  clear hT h
  go_enter Tryd.func3, Tryd.ntmps3
  go_wp2_with fail
  refine (big_no _ _ _ _ hbig).mono ?_
  rintro e w' ⟨rfl, rfl⟩
  go_wp2_with fail
  refine (drawclaim_any _ _ _ _ H.out).mono ?_
  rintro e w1 ⟨x, y, z, rfl, hb⟩
  have HB := Lib.hid hb
  have HX := Lib.hid (Row.new w1 25 #[.int .i64 x, .int .i64 y, .int .i64 z])
  clear hb
  obtain ⟨s, hs⟩ : ∃ s, claimTx x y z = s := ⟨_, rfl⟩
  have HS := Lib.hid hs
  have hs40 : s.size ≤ 40 := hs ▸ claimTx_size x y z
  clear hs
  go_wp2_with fail
  refine (claimtext_any x y z _ (HT.out.pow.keep (below_alloc HB.out _))).mono ?_
  rintro e w2 ⟨rfl, hb⟩
  rw [HS.out]
  have HX := Lib.hid (HX.out.keep hb)
  have HB := Lib.hid (below_via (below_alloc HB.out (.cells #[.int .i64 x, .int .i64 y, .int .i64 z] 25)) hb)
  clear hb
  go_wp2_with fail
  refine (drawreadclaim_any _ _ _ _ (H.out.below HB.out)).mono ?_
  rintro e w3 ⟨t, ht41, rfl, hb⟩
  have HX := Lib.hid (HX.out.keep hb)
  have HB := Lib.hid (below_via HB.out hb)
  clear hb
  obtain ⟨o, ho⟩ : ∃ o, rclaim t.data.toList = o := ⟨_, rfl⟩
  have HO := Lib.hid ho
  have HF := Lib.hid (rcV_form o)
  obtain ⟨a, ha⟩ : ∃ a, (rcA o).1 = a := ⟨_, rfl⟩
  obtain ⟨e, he⟩ : ∃ a, (rcA o).2.1 = a := ⟨_, rfl⟩
  obtain ⟨u, hu⟩ : ∃ a, (rcA o).2.2 = a := ⟨_, rfl⟩
  obtain ⟨b, hb⟩ : ∃ a, o.isSome = a := ⟨_, rfl⟩
  have HK : Hid (b = true → claimTx a e u = t) := Lib.hid (by
    intro h1
    cases o with
    | none => rw [h1] at hb; cases hb
    | some q =>
      obtain ⟨q1, q2, q3⟩ := q
      cases ha; cases he; cases hu
      exact claimTx_back ho)
  rw [ha, he, hu, hb] at HF
  clear ho ha he hu hb
  go_wp2_with fail
  refine (readclaim_any t _ (Nat.le_trans ht41 (by decide)) (HT.out.keep HB.out)).mono ?_
  rw [HO.out]
  rintro v w4 ⟨hv, hb⟩
  rw [HF.out] at hv
  subst hv
  have HX := Lib.hid ((HX.out.keep hb).alloc (.cells #[.int .i64 a, .int .i64 e, .int .i64 u] 25))
  have HB := Lib.hid (below_alloc (below_via HB.out hb) (.cells #[.int .i64 a, .int .i64 e, .int .i64 u] 25))
  have HY := Lib.hid (Row.new w4 25 #[.int .i64 a, .int .i64 e, .int .i64 u])
  clear hb
  go_wp2_with fail
  refine (sreadclaim_any t _ (Nat.le_trans ht41 (by decide))).mono ?_
  rw [HO.out]
  rintro v w5 ⟨hv, hb⟩
  rw [HF.out] at hv
  subst hv
  have hne : w4.heap.size ≠ w5.heap.size := Nat.ne_of_lt (Nat.lt_of_lt_of_le (by simp) hb.size)
  have HX := Lib.hid ((HX.out.keep hb).alloc (.cells #[.int .i64 a, .int .i64 e, .int .i64 u] 25))
  have HY := Lib.hid ((HY.out.keep hb).alloc (.cells #[.int .i64 a, .int .i64 e, .int .i64 u] 25))
  have HB := Lib.hid (below_alloc (below_via HB.out hb) (.cells #[.int .i64 a, .int .i64 e, .int .i64 u] 25))
  have HZ := Lib.hid (Row.new w5 25 #[.int .i64 a, .int .i64 e, .int .i64 u])
  clear hb
  obtain ⟨w6, hw6⟩ : ∃ w6, w5.alloc (.cells #[.int .i64 a, .int .i64 e, .int .i64 u] 25) = w6 := ⟨_, rfl⟩
  rw [hw6] at HX HY HB HZ
  have c0 := HX.out.cell (j := 0) (by simp)
  have c1 := HX.out.cell (j := 1) (by simp)
  have c2 := HX.out.cell (j := 2) (by simp)
  simp at c0 c1 c2
  go_wp2_with fail
  refine (sclaimtext_any x y z _).mono ?_
  rintro v w7 ⟨rfl, hb⟩
  rw [HS.out]
  have HX := Lib.hid (HX.out.keep hb)
  have HY := Lib.hid (HY.out.keep hb)
  have HZ := Lib.hid (HZ.out.keep hb)
  have HB := Lib.hid (below_via HB.out hb)
  clear hb c0 c1 c2 hw6
  have c0 := HX.out.cell (j := 0) (by simp)
  have c1 := HX.out.cell (j := 1) (by simp)
  have c2 := HX.out.cell (j := 2) (by simp)
  have y0 := HY.out.cell (j := 0) (by simp)
  have y1 := HY.out.cell (j := 1) (by simp)
  have y2 := HY.out.cell (j := 2) (by simp)
  have z0 := HZ.out.cell (j := 0) (by simp)
  have z1 := HZ.out.cell (j := 1) (by simp)
  have z2 := HZ.out.cell (j := 2) (by simp)
  simp at c0 c1 c2 y0 y1 y2 z0 z1 z2
  have HWAY : Hid ((s = ByteArray.empty ∧ rclaim s.data.toList = none) ∨ (0 < s.size ∧ rclaim s.data.toList = some (x, y, z))) := Lib.hid (HS.out ▸ claimTx_way x y z)
  cases b
  · go_wp2_with fail
    clear y0 y1 y2 z0 z1 z2
    refine (readclaim_any s _ (Nat.le_trans hs40 (by decide)) (HT.out.keep HB.out)).mono ?_
    rcases HWAY.out with ⟨hse, hr⟩ | ⟨hse, hr⟩
    · rw [hr]
      rintro v w9 ⟨hv, hb⟩
      simp only [rcV] at hv
      subst hv
      have HX := Lib.hid ((HX.out.keep hb).alloc (.cells #[.int .i64 0, .int .i64 0, .int .i64 0] 25))
      have HB := Lib.hid (below_alloc (below_via HB.out hb) (.cells #[.int .i64 0, .int .i64 0, .int .i64 0] 25))
      clear hb c0 c1 c2 hr hne
      subst hse
      go_wp2_with fail
      go_ret
      exact ⟨rfl, HB.out⟩
    · rw [hr]
      rintro v w9 ⟨hv, hb⟩
      simp only [rcV] at hv
      subst hv
      have HX := Lib.hid ((HX.out.keep hb).alloc (.cells #[.int .i64 x, .int .i64 y, .int .i64 z] 25))
      have HB := Lib.hid (below_alloc (below_via HB.out hb) (.cells #[.int .i64 x, .int .i64 y, .int .i64 z] 25))
      clear hb c0 c1 c2 hr hne
      have c0 := HX.out.cell (j := 0) (by simp)
      have c1 := HX.out.cell (j := 1) (by simp)
      have c2 := HX.out.cell (j := 2) (by simp)
      simp at c0 c1 c2
      have hbf := ba_full hse
      go_wp2_with fail
      go_ret
      exact ⟨rfl, HB.out⟩
  · have HK2 := Lib.hid (HK.out rfl)
    go_wp2_with fail
    refine (claimtext_any a e u _ (HT.out.pow.keep HB.out)).mono ?_
    rintro v w8 ⟨rfl, hb⟩
    rw [HK2.out]
    have HX := Lib.hid (HX.out.keep hb)
    have HB := Lib.hid (below_via HB.out hb)
    clear hb c0 c1 c2 y0 y1 y2 z0 z1 z2
    go_wp2_with fail
    have c0 := HX.out.cell (j := 0) (by simp)
    have c1 := HX.out.cell (j := 1) (by simp)
    have c2 := HX.out.cell (j := 2) (by simp)
    refine (readclaim_any s _ (Nat.le_trans hs40 (by decide)) (HT.out.keep HB.out)).mono ?_
    rcases HWAY.out with ⟨hse, hr⟩ | ⟨hse, hr⟩
    · rw [hr]
      rintro v w9 ⟨hv, hb⟩
      simp only [rcV] at hv
      subst hv
      have HX := Lib.hid ((HX.out.keep hb).alloc (.cells #[.int .i64 0, .int .i64 0, .int .i64 0] 25))
      have HB := Lib.hid (below_alloc (below_via HB.out hb) (.cells #[.int .i64 0, .int .i64 0, .int .i64 0] 25))
      clear hb c0 c1 c2 hr hne
      subst hse
      go_wp2_with fail
      go_ret
      exact ⟨rfl, HB.out⟩
    · rw [hr]
      rintro v w9 ⟨hv, hb⟩
      simp only [rcV] at hv
      subst hv
      have HX := Lib.hid ((HX.out.keep hb).alloc (.cells #[.int .i64 x, .int .i64 y, .int .i64 z] 25))
      have HB := Lib.hid (below_alloc (below_via HB.out hb) (.cells #[.int .i64 x, .int .i64 y, .int .i64 z] 25))
      clear hb c0 c1 c2 hr hne
      have c0 := HX.out.cell (j := 0) (by simp)
      have c1 := HX.out.cell (j := 1) (by simp)
      have c2 := HX.out.cell (j := 2) (by simp)
      simp at c0 c1 c2
      have hbf := ba_full hse
      go_wp2_with fail
      go_ret
      exact ⟨rfl, HB.out⟩
end Go.Proofs.YtcmbaclkfnecbaaDoor
