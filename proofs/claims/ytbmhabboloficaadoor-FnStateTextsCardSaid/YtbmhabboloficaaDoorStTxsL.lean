
/- The law on texts of states, walked: unlike states have unlike texts. -/
import Derived.Test.YtbmhabboloficaaDoorStTxX
import Derived.Test.YtbmhabboloficaaDoorDrawEv
import Derived.Test.YtbmhabboloficaaDoorDraw1
import Derived.Test.YtbmhabboloficaaDoorEvRd
import Derived.Test.YtbmhabboloficaaDoorSplit
namespace Go.Proofs.YtbmhabboloficaaDoor
open Go.ChangeShapes Go.WideShapes Go.ChangeAt Go.RowKit
set_option linter.unusedVariables false
set_option maxRecDepth 100000

theorem stW_noC (k : Int) : noC 32 (stW k).data.toList := by
  unfold stW noC
  split
  · decide
  · split
    · decide
    · split <;> decide
theorem stW_inj {k m : Int} (hk : k = 1 ∨ k = 2 ∨ k = 3 ∨ k = 4) (hm : m = 1 ∨ m = 2 ∨ m = 3 ∨ m = 4) (h : (stW k).data.toList = (stW m).data.toList) : k = m := by
  rcases hk with rfl | rfl | rfl | rfl <;> rcases hm with rfl | rfl | rfl | rfl <;> first | rfl | exact absurd h (by decide)
theorem state_split {k e v : Int} (h : inB k 1 4 = true) : splitL 32 (stateTx k e v).data.toList = if k = 1 then [(stW k).data.toList, Lib.itoa e] else [(stW k).data.toList, Lib.itoa e, Lib.itoa v] := by
  unfold stateTx
  rw [if_pos h]
  by_cases h1 : k = 1
  · rw [if_pos h1, if_pos h1]
    have : (stW k ++ ⟨#[32]⟩ ++ decB e).data.toList = (stW k).data.toList ++ 32 :: Lib.itoa e := by simp [decB_list]
    rw [this, splitL_at 32 _ _ (stW_noC k), splitL_no 32 _ (itoa_noC 32 (by decide) e)]
  · rw [if_neg h1, if_neg h1]
    have : (stW k ++ ⟨#[32]⟩ ++ decB e ++ ⟨#[32]⟩ ++ decB v).data.toList = (stW k).data.toList ++ 32 :: (Lib.itoa e ++ 32 :: Lib.itoa v) := by simp [decB_list]
    rw [this, splitL_at 32 _ _ (stW_noC k), splitL_at 32 _ _ (itoa_noC 32 (by decide) e), splitL_no 32 _ (itoa_noC 32 (by decide) v)]
theorem in4 {k : Int} (h : inB k 1 4 = true) : k = 1 ∨ k = 2 ∨ k = 3 ∨ k = 4 := by have := inB_iff.1 h; omega
theorem stateTx_inj {k e v m f u : Int} (h : inB k 1 4 = true) (h2 : inB m 1 4 = true) (he : In64 e) (hv : In64 v) (hf : In64 f) (hu : In64 u) (ht : stateTx k e v = stateTx m f u) : k = m ∧ e = f ∧ (k = 1 ∨ v = u) := by
  have hs := state_split (e := e) (v := v) h
  rw [ht, state_split h2] at hs
  unfold In64 at he hv hf hu
  by_cases h1 : k = 1
  · rw [if_pos h1] at hs
    by_cases m1 : m = 1
    · rw [if_pos m1] at hs
      simp only [List.cons.injEq, and_true] at hs
      exact ⟨by omega, (itoa_inj (by omega) (by omega) hs.2).symm, .inl h1⟩
    · rw [if_neg m1] at hs; simp at hs
  · rw [if_neg h1] at hs
    by_cases m1 : m = 1
    · rw [if_pos m1] at hs; simp at hs
    · rw [if_neg m1] at hs
      simp only [List.cons.injEq, and_true] at hs
      exact ⟨(stW_inj (in4 h2) (in4 h) hs.1).symm, (itoa_inj (by omega) (by omega) hs.2.1).symm, .inr (itoa_inj (by omega) (by omega) hs.2.2).symm⟩
theorem stateTx_ne {k e v : Int} (h : inB k 1 4 = true) : 0 < (stateTx k e v).size := by
  unfold stateTx
  rw [if_pos h]
  split
  · rw [ByteArray.size_append, ByteArray.size_append]; show 0 < _ + 1 + _; omega
  · rw [ByteArray.size_append, ByteArray.size_append, ByteArray.size_append, ByteArray.size_append]; show 0 < _ + 1 + _ + 1 + _; omega

set_option maxHeartbeats 8000000 in
theorem fnStateTexts_walk (w : World) (a0 : Option Addr) (len cap : Nat) (a1 : Option Addr) (len1 cap1 : Nat) (h : Src w a0 len) (h1 : Src w a1 len1) (hT : TabsSt w) :
    Calls Tryd.prog 11 #[.slice a0 len cap, .slice a1 len1 cap1] w fun x w' => x = .returned (.bool true) ∧ Below w.heap.size w w' := by
  by_cases hbig : 1048576 < len
  · go_enter Tryd.func11, Tryd.ntmps11
    go_wp2_with fail
    refine (big_yes _ _ _ _ hbig).mono ?_
    rintro e w' ⟨rfl, rfl⟩
    go_wp2_with fail
    go_ret
    exact ⟨rfl, Below.refl _ _⟩
  by_cases hbig1 : 1048576 < len1
  · go_enter Tryd.func11, Tryd.ntmps11
    go_wp2_with fail
    refine (big_no _ _ _ _ hbig).mono ?_
    rintro e w' ⟨rfl, rfl⟩
    go_wp2_with fail
    refine (big_yes _ _ _ _ hbig1).mono ?_
    rintro e w' ⟨rfl, rfl⟩
    go_wp2_with fail
    go_ret
    exact ⟨rfl, Below.refl _ _⟩
  have HT := Lib.hid hT
  have H := Lib.hid h
  have H1 := Lib.hid h1
  clear hT h h1
  go_enter Tryd.func11, Tryd.ntmps11
  go_wp2_with fail
  refine (big_no _ _ _ _ hbig).mono ?_
  rintro e w' ⟨rfl, rfl⟩
  go_wp2_with fail
  refine (big_no _ _ _ _ hbig1).mono ?_
  rintro e w' ⟨rfl, rfl⟩
  clear hbig hbig1
  go_wp2_with fail
  refine (drawstate_any _ _ _ _ H.out).mono ?_
  rintro e w1 ⟨k, e, v, hk, he, hv, rfl, hb⟩
  have HI := Lib.hid (And.intro he hv)
  have HL1 := Lib.hid hb.size
  have HX := Lib.hid (Row.new w1 45 #[.int .i64 k, .int .i64 e, .int .i64 v])
  have HB := Lib.hid (below_alloc hb (.cells #[.int .i64 k, .int .i64 e, .int .i64 v] 45))
  clear hb hk he hv
  go_wp2_with fail
  refine (drawstate_any _ _ _ _ (H1.out.below HB.out)).mono ?_
  rintro e9 w2 ⟨m, f, u, hk, he, hv, rfl, hb⟩
  have HJ := Lib.hid (And.intro he hv)
  have HX := Lib.hid ((HX.out.keep hb).alloc (.cells #[.int .i64 m, .int .i64 f, .int .i64 u] 45))
  have HY := Lib.hid (Row.new w2 45 #[.int .i64 m, .int .i64 f, .int .i64 u])
  have HNE := Lib.hid (show w1.heap.size ≠ w2.heap.size from Nat.ne_of_lt (Nat.lt_of_lt_of_le (by simp) hb.size))
  have HLE := Lib.hid (And.intro HL1.out (Nat.le_trans HB.out.size hb.size))
  have HB := Lib.hid (below_alloc (below_via HB.out hb) (.cells #[.int .i64 m, .int .i64 f, .int .i64 u] 45))
  clear hb hk he hv
  obtain ⟨s, hs⟩ : ∃ s, stateTx k e v = s := ⟨_, rfl⟩
  obtain ⟨t, ht⟩ : ∃ t, stateTx m f u = t := ⟨_, rfl⟩
  have HS := Lib.hid hs
  have HTT := Lib.hid ht
  clear hs ht
  have y0 := HX.out.cell (j := 0) (by simp)
  have y1 := HX.out.cell (j := 1) (by simp)
  have y2 := HX.out.cell (j := 2) (by simp)
  have z0 := HY.out.cell (j := 0) (by simp)
  have z1 := HY.out.cell (j := 1) (by simp)
  have z2 := HY.out.cell (j := 2) (by simp)
  simp at y0 y1 y2 z0 z1 z2
  go_wp2_with fail
  refine (statetext_any k e v _ HI.out.1 HI.out.2 (HT.out.keep HB.out)).mono ?_
  rw [HS.out]
  rintro e9 w9 ⟨rfl, hb⟩
  have HX := Lib.hid (HX.out.keep hb)
  have HY := Lib.hid (HY.out.keep hb)
  have HB := Lib.hid (below_via HB.out hb)
  clear hb y0 y1 y2 z0 z1 z2
  have y0 := HX.out.cell (j := 0) (by simp)
  have y1 := HX.out.cell (j := 1) (by simp)
  have y2 := HX.out.cell (j := 2) (by simp)
  have z0 := HY.out.cell (j := 0) (by simp)
  have z1 := HY.out.cell (j := 1) (by simp)
  have z2 := HY.out.cell (j := 2) (by simp)
  simp at y0 y1 y2 z0 z1 z2
  go_wp2_with fail
  refine (statetext_any m f u _ HJ.out.1 HJ.out.2 (HT.out.keep HB.out)).mono ?_
  rw [HTT.out]
  rintro e9 w9 ⟨rfl, hb⟩
  have HX := Lib.hid (HX.out.keep hb)
  have HY := Lib.hid (HY.out.keep hb)
  have HB := Lib.hid (below_via HB.out hb)
  clear hb y0 y1 y2 z0 z1 z2
  have y0 := HX.out.cell (j := 0) (by simp)
  have y1 := HX.out.cell (j := 1) (by simp)
  have y2 := HX.out.cell (j := 2) (by simp)
  have z0 := HY.out.cell (j := 0) (by simp)
  have z1 := HY.out.cell (j := 1) (by simp)
  have z2 := HY.out.cell (j := 2) (by simp)
  simp at y0 y1 y2 z0 z1 z2
  go_wp2_with fail
  refine (sstatetext_any k e v _ HI.out.1 HI.out.2).mono ?_
  rw [HS.out]
  rintro e9 w9 ⟨rfl, hb⟩
  have HX := Lib.hid (HX.out.keep hb)
  have HY := Lib.hid (HY.out.keep hb)
  have HB := Lib.hid (below_via HB.out hb)
  clear hb y0 y1 y2 z0 z1 z2
  have y0 := HX.out.cell (j := 0) (by simp)
  have y1 := HX.out.cell (j := 1) (by simp)
  have y2 := HX.out.cell (j := 2) (by simp)
  have z0 := HY.out.cell (j := 0) (by simp)
  have z1 := HY.out.cell (j := 1) (by simp)
  have z2 := HY.out.cell (j := 2) (by simp)
  simp at y0 y1 y2 z0 z1 z2
  go_wp2_with fail
  refine (sstatetext_any m f u _ HJ.out.1 HJ.out.2).mono ?_
  rw [HTT.out]
  rintro e9 w9 ⟨rfl, hb⟩
  have HX := Lib.hid (HX.out.keep hb)
  have HY := Lib.hid (HY.out.keep hb)
  have HB := Lib.hid (below_via HB.out hb)
  clear hb y0 y1 y2 z0 z1 z2
  by_cases hs0 : s.size = 0
  · have t1 := ba_nil hs0
    clear hs0
    have y0 := HX.out.cell (j := 0) (by simp)
    have y1 := HX.out.cell (j := 1) (by simp)
    have y2 := HX.out.cell (j := 2) (by simp)
    have z0 := HY.out.cell (j := 0) (by simp)
    have z1 := HY.out.cell (j := 1) (by simp)
    have z2 := HY.out.cell (j := 2) (by simp)
    simp at y0 y1 y2 z0 z1 z2
    go_wp2_with fail
    refine (sstatetext_any k e v _ HI.out.1 HI.out.2).mono ?_
    rw [HS.out]
    rintro e9 w9 ⟨rfl, hb⟩
    have HX := Lib.hid (HX.out.keep hb)
    have HY := Lib.hid (HY.out.keep hb)
    have HB := Lib.hid (below_via HB.out hb)
    clear hb y0 y1 y2 z0 z1 z2
    have y0 := HX.out.cell (j := 0) (by simp)
    have y1 := HX.out.cell (j := 1) (by simp)
    have y2 := HX.out.cell (j := 2) (by simp)
    have z0 := HY.out.cell (j := 0) (by simp)
    have z1 := HY.out.cell (j := 1) (by simp)
    have z2 := HY.out.cell (j := 2) (by simp)
    simp at y0 y1 y2 z0 z1 z2
    go_wp2_with fail
    refine (sstatetext_any m f u _ HJ.out.1 HJ.out.2).mono ?_
    rw [HTT.out]
    rintro e9 w9 ⟨rfl, hb⟩
    have HX := Lib.hid (HX.out.keep hb)
    have HY := Lib.hid (HY.out.keep hb)
    have HB := Lib.hid (below_via HB.out hb)
    clear hb y0 y1 y2 z0 z1 z2
    go_wp2
    go_ret
    exact ⟨rfl, HB.out⟩
  have t1 := ba_some (s := s) (by omega)
  have HK := Lib.hid (show inB k 1 4 = true from by
    cases hq : inB k 1 4 with
    | true => rfl
    | false => exact absurd (by rw [← HS.out, state_out hq]; rfl) hs0)
  clear hs0
  by_cases ht0 : t.size = 0
  · have t2 := ba_nil ht0
    clear ht0
    have y0 := HX.out.cell (j := 0) (by simp)
    have y1 := HX.out.cell (j := 1) (by simp)
    have y2 := HX.out.cell (j := 2) (by simp)
    have z0 := HY.out.cell (j := 0) (by simp)
    have z1 := HY.out.cell (j := 1) (by simp)
    have z2 := HY.out.cell (j := 2) (by simp)
    simp at y0 y1 y2 z0 z1 z2
    go_wp2_with fail
    refine (sstatetext_any k e v _ HI.out.1 HI.out.2).mono ?_
    rw [HS.out]
    rintro e9 w9 ⟨rfl, hb⟩
    have HX := Lib.hid (HX.out.keep hb)
    have HY := Lib.hid (HY.out.keep hb)
    have HB := Lib.hid (below_via HB.out hb)
    clear hb y0 y1 y2 z0 z1 z2
    have y0 := HX.out.cell (j := 0) (by simp)
    have y1 := HX.out.cell (j := 1) (by simp)
    have y2 := HX.out.cell (j := 2) (by simp)
    have z0 := HY.out.cell (j := 0) (by simp)
    have z1 := HY.out.cell (j := 1) (by simp)
    have z2 := HY.out.cell (j := 2) (by simp)
    simp at y0 y1 y2 z0 z1 z2
    go_wp2_with fail
    refine (sstatetext_any m f u _ HJ.out.1 HJ.out.2).mono ?_
    rw [HTT.out]
    rintro e9 w9 ⟨rfl, hb⟩
    have HX := Lib.hid (HX.out.keep hb)
    have HY := Lib.hid (HY.out.keep hb)
    have HB := Lib.hid (below_via HB.out hb)
    clear hb y0 y1 y2 z0 z1 z2
    go_wp2
    go_ret
    exact ⟨rfl, HB.out⟩
  have t2 := ba_some (s := t) (by omega)
  have HM := Lib.hid (show inB m 1 4 = true from by
    cases hq : inB m 1 4 with
    | true => rfl
    | false => exact absurd (by rw [← HTT.out, state_out hq]; rfl) ht0)
  clear ht0
  have HEQ := Lib.hid (show s = t → k = m ∧ e = f ∧ (k = 1 ∨ v = u) from fun hst => stateTx_inj HK.out HM.out HI.out.1 HI.out.2 HJ.out.1 HJ.out.2 (by rw [HS.out, HTT.out]; exact hst))
  have y0 := HX.out.cell (j := 0) (by simp)
  have y1 := HX.out.cell (j := 1) (by simp)
  have y2 := HX.out.cell (j := 2) (by simp)
  have z0 := HY.out.cell (j := 0) (by simp)
  have z1 := HY.out.cell (j := 1) (by simp)
  have z2 := HY.out.cell (j := 2) (by simp)
  simp at y0 y1 y2 z0 z1 z2
  have f2 := HX.out.free 2
  have g2 := HY.out.free 2
  have hne := HNE.out
  by_cases h1 : k = 1
  · have x1 : ((k : Int) == 1) = true := by rw [beq_iff_eq]; exact h1
    by_cases m1 : m = 1
    · have x2 : ((m : Int) == 1) = true := by rw [beq_iff_eq]; exact m1
      have x3 : ((k : Int) == m) = true := by rw [beq_iff_eq]; omega
      by_cases q1 : e = f
      · have st := ba_eqv (show s = t by rw [← HS.out, ← HTT.out, h1, m1, q1]; rfl)
        have x4 : ((e : Int) == f) = true := by rw [beq_iff_eq]; exact q1
        clear h1 m1 q1
        go_wp2
        go_ret
        exact ⟨rfl, ((HB.out.setCell (p := ⟨w1.heap.size, 2, none⟩) HLE.out.1 _).setCell (p := ⟨w2.heap.size, 2, none⟩) HLE.out.2 _)⟩
      · have st : (s.toList == t.toList) = false := ba_nev (fun hst => q1 (HEQ.out hst).2.1)
        have x4 : ((e : Int) == f) = false := by rw [beq_eq_false_iff_ne]; exact q1
        clear h1 m1 q1
        go_wp2
        go_ret
        exact ⟨rfl, ((HB.out.setCell (p := ⟨w1.heap.size, 2, none⟩) HLE.out.1 _).setCell (p := ⟨w2.heap.size, 2, none⟩) HLE.out.2 _)⟩
    · have x2 : ((m : Int) == 1) = false := by rw [beq_eq_false_iff_ne]; exact m1
      have x3 : ((k : Int) == m) = false := by rw [beq_eq_false_iff_ne]; omega
      have st : (s.toList == t.toList) = false := ba_nev (fun hst => m1 ((HEQ.out hst).1 ▸ h1))
      clear h1 m1
      go_wp2
      go_ret
      exact ⟨rfl, (HB.out.setCell (p := ⟨w1.heap.size, 2, none⟩) HLE.out.1 _)⟩
  have x1 : ((k : Int) == 1) = false := by rw [beq_eq_false_iff_ne]; exact h1
  by_cases m1 : m = 1
  · have x2 : ((m : Int) == 1) = true := by rw [beq_iff_eq]; exact m1
    have x3 : ((k : Int) == m) = false := by rw [beq_eq_false_iff_ne]; omega
    have st : (s.toList == t.toList) = false := ba_nev (fun hst => h1 ((HEQ.out hst).1.trans m1))
    clear h1 m1
    go_wp2
    go_ret
    exact ⟨rfl, (HB.out.setCell (p := ⟨w2.heap.size, 2, none⟩) HLE.out.2 _)⟩
  have x2 : ((m : Int) == 1) = false := by rw [beq_eq_false_iff_ne]; exact m1
  by_cases q0 : k = m
  · have x3 : ((k : Int) == m) = true := by rw [beq_iff_eq]; exact q0
    by_cases q1 : e = f
    · have x4 : ((e : Int) == f) = true := by rw [beq_iff_eq]; exact q1
      by_cases q2 : v = u
      · have x5 : ((v : Int) == u) = true := by rw [beq_iff_eq]; exact q2
        have st := ba_eqv (show s = t by rw [← HS.out, ← HTT.out, q0, q1, q2])
        clear h1 m1 q0 q1 q2
        go_wp2
        go_ret
        exact ⟨rfl, HB.out⟩
      · have x5 : ((v : Int) == u) = false := by rw [beq_eq_false_iff_ne]; exact q2
        have st : (s.toList == t.toList) = false := ba_nev (fun hst => by rcases (HEQ.out hst).2.2 with h | h; exact h1 h; exact q2 h)
        clear h1 m1 q0 q1 q2
        go_wp2
        go_ret
        exact ⟨rfl, HB.out⟩
    · have x4 : ((e : Int) == f) = false := by rw [beq_eq_false_iff_ne]; exact q1
      have st : (s.toList == t.toList) = false := ba_nev (fun hst => q1 (HEQ.out hst).2.1)
      clear h1 m1 q0 q1
      go_wp2
      go_ret
      exact ⟨rfl, HB.out⟩
  · have x3 : ((k : Int) == m) = false := by rw [beq_eq_false_iff_ne]; exact q0
    have st : (s.toList == t.toList) = false := ba_nev (fun hst => q0 (HEQ.out hst).1)
    clear h1 m1 q0
    go_wp2
    go_ret
    exact ⟨rfl, HB.out⟩
end Go.Proofs.YtbmhabboloficaaDoor
