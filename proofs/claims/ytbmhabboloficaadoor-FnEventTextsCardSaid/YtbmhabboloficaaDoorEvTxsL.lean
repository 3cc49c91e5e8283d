
/- The law on texts of events, walked: an event comes back from its text; what is read, written again, is that text. -/
import Derived.Test.YtbmhabboloficaaDoorEvRdX
import Derived.Test.YtbmhabboloficaaDoorDrawEv
namespace Go.Proofs.YtbmhabboloficaaDoor
open Go.ChangeShapes Go.WideShapes Go.ChangeAt Go.RowKit
set_option linter.unusedVariables false
set_option maxRecDepth 100000

theorem evTx_le40 (x y : Int) : (evTx x y).size ≤ 40 := Nat.le_trans (evTx_le x y) (by decide)
theorem evTx_way (x y : Int) : (evTx x y = ByteArray.empty ∧ revent (evTx x y) = none) ∨ (0 < (evTx x y).size ∧ revent (evTx x y) = some (x, y)) := by
  cases hc : evB x y 4 with
  | false =>
    left
    rw [evTx_no hc]
    exact ⟨rfl, revent_none fun k v hv hs => by have := (evTx_len hv).1; rw [hs] at this; exact absurd this (by decide)⟩
  | true => exact .inr ⟨(evTx_len hc).1, revent_iff.2 ⟨hc, rfl⟩⟩
theorem ba_full {s : ByteArray} (h : 0 < s.size) : s.toList.isEmpty = false := ba_some h

set_option maxHeartbeats 4000000 in
theorem fnEventTexts_walk (w : World) (a0 : Option Addr) (len cap : Nat) (h : Src w a0 len) (hT : TabsER w) :
    Calls Tryd.prog 9 #[.slice a0 len cap] w fun x w' => x = .returned (.bool true) ∧ Below w.heap.size w w' := by
  by_cases hbig : 1048576 < len
  · go_enter Tryd.func9, Tryd.ntmps9
    go_wp2_with fail
    refine (big_yes _ _ _ _ hbig).mono ?_
    rintro e w' ⟨rfl, rfl⟩
    go_wp2_with fail
    go_ret
    exact ⟨rfl, Below.refl _ _⟩
  have HT := Lib.hid hT
  have H := Lib.hid h
  clear hT h
  go_enter Tryd.func9, Tryd.ntmps9
  go_wp2_with fail
  refine (big_no _ _ _ _ hbig).mono ?_
  rintro e w' ⟨rfl, rfl⟩
  go_wp2_with fail
  refine (drawevtext_any _ _ _ _ H.out).mono ?_
  rintro e w1 ⟨x, y, rfl, hb⟩
  have HB := Lib.hid hb
  have HX := Lib.hid (Row.new w1 25 #[.int .i64 x, .int .i64 y])
  clear hb
  obtain ⟨s, hs⟩ : ∃ s, evTx x y = s := ⟨_, rfl⟩
  have HS := Lib.hid hs
  have hs40 : s.size ≤ 40 := hs ▸ evTx_le40 x y
  clear hs
  go_wp2_with fail
  refine (eventtext_any x y _ (HT.out.ev.keep (below_alloc HB.out _))).mono ?_
  rintro e w2 ⟨rfl, hb⟩
  rw [HS.out]
  have HX := Lib.hid (HX.out.keep hb)
  have HB := Lib.hid (below_via (below_alloc HB.out (.cells #[.int .i64 x, .int .i64 y] 25)) hb)
  clear hb
  go_wp2_with fail
  refine (drawreadevent_any _ _ _ _ (H.out.below HB.out)).mono ?_
  rintro e w3 ⟨t, ht41, rfl, hb⟩
  have HX := Lib.hid (HX.out.keep hb)
  have HB := Lib.hid (below_via HB.out hb)
  clear hb
  obtain ⟨o, ho⟩ : ∃ o, revent t = o := ⟨_, rfl⟩
  have HO := Lib.hid ho
  have HF := Lib.hid (reV_form o)
  obtain ⟨a, ha⟩ : ∃ a, (reA o).1 = a := ⟨_, rfl⟩
  obtain ⟨e, he⟩ : ∃ a, (reA o).2 = a := ⟨_, rfl⟩
  obtain ⟨b, hb⟩ : ∃ a, o.isSome = a := ⟨_, rfl⟩
  have HK : Hid (b = true → evTx a e = t) := Lib.hid (by
    intro h1
    cases o with
    | none => rw [h1] at hb; cases hb
    | some q =>
      obtain ⟨q1, q2⟩ := q
      cases ha; cases he
      exact (revent_iff.1 ho).2)
  rw [ha, he, hb] at HF
  clear ho ha he hb
  go_wp2_with fail
  refine (readevent_any t _ (Nat.le_trans ht41 (by decide)) (HT.out.keep HB.out)).mono ?_
  rw [HO.out]
  rintro v w4 ⟨hv, hb⟩
  rw [HF.out] at hv
  subst hv
  have HX := Lib.hid ((HX.out.keep hb).alloc (.cells #[.int .i64 a, .int .i64 e] 25))
  have HB := Lib.hid (below_alloc (below_via HB.out hb) (.cells #[.int .i64 a, .int .i64 e] 25))
  have HY := Lib.hid (Row.new w4 25 #[.int .i64 a, .int .i64 e])
  clear hb
  go_wp2_with fail
  refine (sreadevent_any t _ (Nat.le_trans ht41 (by decide))).mono ?_
  rw [HO.out]
  rintro v w5 ⟨hv, hb⟩
  rw [HF.out] at hv
  subst hv
  have hne : w4.heap.size ≠ w5.heap.size := Nat.ne_of_lt (Nat.lt_of_lt_of_le (by simp) hb.size)
  have HX := Lib.hid ((HX.out.keep hb).alloc (.cells #[.int .i64 a, .int .i64 e] 25))
  have HY := Lib.hid ((HY.out.keep hb).alloc (.cells #[.int .i64 a, .int .i64 e] 25))
  have HB := Lib.hid (below_alloc (below_via HB.out hb) (.cells #[.int .i64 a, .int .i64 e] 25))
  have HZ := Lib.hid (Row.new w5 25 #[.int .i64 a, .int .i64 e])
  clear hb
  obtain ⟨w6, hw6⟩ : ∃ w6, w5.alloc (.cells #[.int .i64 a, .int .i64 e] 25) = w6 := ⟨_, rfl⟩
  rw [hw6] at HX HY HB HZ
  have c0 := HX.out.cell (j := 0) (by simp)
  have c1 := HX.out.cell (j := 1) (by simp)
  simp at c0 c1
  go_wp2_with fail
  refine (seventtext_any x y _).mono ?_
  rintro v w7 ⟨rfl, hb⟩
  rw [HS.out]
  have HX := Lib.hid (HX.out.keep hb)
  have HY := Lib.hid (HY.out.keep hb)
  have HZ := Lib.hid (HZ.out.keep hb)
  have HB := Lib.hid (below_via HB.out hb)
  clear hb c0 c1 hw6
  have c0 := HX.out.cell (j := 0) (by simp)
  have c1 := HX.out.cell (j := 1) (by simp)
  have y0 := HY.out.cell (j := 0) (by simp)
  have y1 := HY.out.cell (j := 1) (by simp)
  have z0 := HZ.out.cell (j := 0) (by simp)
  have z1 := HZ.out.cell (j := 1) (by simp)
  simp at c0 c1 y0 y1 z0 z1
  have HWAY : Hid ((s = ByteArray.empty ∧ revent s = none) ∨ (0 < s.size ∧ revent s = some (x, y))) := Lib.hid (HS.out ▸ evTx_way x y)
  cases b
  · go_wp2_with fail
    clear y0 y1 z0 z1
    refine (readevent_any s _ (Nat.le_trans hs40 (by decide)) (HT.out.keep HB.out)).mono ?_
    rcases HWAY.out with ⟨hse, hr⟩ | ⟨hse, hr⟩
    · rw [hr]
      rintro v w9 ⟨hv, hb⟩
      simp only [reV] at hv
      subst hv
      have HX := Lib.hid ((HX.out.keep hb).alloc (.cells #[.int .i64 0, .int .i64 0] 25))
      have HB := Lib.hid (below_alloc (below_via HB.out hb) (.cells #[.int .i64 0, .int .i64 0] 25))
      clear hb c0 c1 hr hne
      subst hse
      go_wp2_with fail
      go_ret
      exact ⟨rfl, HB.out⟩
    · rw [hr]
      rintro v w9 ⟨hv, hb⟩
      simp only [reV] at hv
      subst hv
      have HX := Lib.hid ((HX.out.keep hb).alloc (.cells #[.int .i64 x, .int .i64 y] 25))
      have HB := Lib.hid (below_alloc (below_via HB.out hb) (.cells #[.int .i64 x, .int .i64 y] 25))
      clear hb c0 c1 hr hne
      have c0 := HX.out.cell (j := 0) (by simp)
      have c1 := HX.out.cell (j := 1) (by simp)
      simp at c0 c1
      have hbf := ba_full hse
      go_wp2_with fail
      go_ret
      exact ⟨rfl, HB.out⟩
  · have HK2 := Lib.hid (HK.out rfl)
    go_wp2_with fail
    refine (eventtext_any a e _ (HT.out.ev.keep HB.out)).mono ?_
    rintro v w8 ⟨rfl, hb⟩
    rw [HK2.out]
    have HX := Lib.hid (HX.out.keep hb)
    have HB := Lib.hid (below_via HB.out hb)
    clear hb c0 c1 y0 y1 z0 z1
    go_wp2_with fail
    have c0 := HX.out.cell (j := 0) (by simp)
    have c1 := HX.out.cell (j := 1) (by simp)
    refine (readevent_any s _ (Nat.le_trans hs40 (by decide)) (HT.out.keep HB.out)).mono ?_
    rcases HWAY.out with ⟨hse, hr⟩ | ⟨hse, hr⟩
    · rw [hr]
      rintro v w9 ⟨hv, hb⟩
      simp only [reV] at hv
      subst hv
      have HX := Lib.hid ((HX.out.keep hb).alloc (.cells #[.int .i64 0, .int .i64 0] 25))
      have HB := Lib.hid (below_alloc (below_via HB.out hb) (.cells #[.int .i64 0, .int .i64 0] 25))
      clear hb c0 c1 hr hne
      subst hse
      go_wp2_with fail
      go_ret
      exact ⟨rfl, HB.out⟩
    · rw [hr]
      rintro v w9 ⟨hv, hb⟩
      simp only [reV] at hv
      subst hv
      have HX := Lib.hid ((HX.out.keep hb).alloc (.cells #[.int .i64 x, .int .i64 y] 25))
      have HB := Lib.hid (below_alloc (below_via HB.out hb) (.cells #[.int .i64 x, .int .i64 y] 25))
      clear hb c0 c1 hr hne
      have c0 := HX.out.cell (j := 0) (by simp)
      have c1 := HX.out.cell (j := 1) (by simp)
      simp at c0 c1
      have hbf := ba_full hse
      go_wp2_with fail
      go_ret
      exact ⟨rfl, HB.out⟩
end Go.Proofs.YtbmhabboloficaaDoor
