
/- The law on texts in programs, walked. -/
import Derived.Test.YthnlllbanfemaaaGreatDoorEmitIfL
import Derived.Test.YthnlllbanfemaaaGreatDoorSumsM
import Derived.Test.YthnlllbanfemaaaGreatDoorReadPP
import Derived.Test.YthnlllbanfemaaaGreatDoorDraw2
namespace Go.Proofs.YthnlllbanfemaaaGreatDoor
open Go.ChangeShapes Go.WideShapes Go.ChangeAt Go.RowKit Go.MuLone
set_option linter.unusedVariables false
set_option maxRecDepth 100000

theorem own_put1 {w : World} {base g n c size : Nat} {e : TypeId} {xs : List Value} (h : w.ownsRow base e size (.slice (some ⟨g, 0, none⟩) n c) n xs) (h0 : 0 < n) (j : Nat) (v : Value) :
    (w.setCell ⟨g, j, none⟩ v).ownsRow base e size (.slice (some ⟨g, 0, none⟩) n c) n (xs.set j v) := by
  rcases h.2 with ⟨_, h1⟩ | ⟨g', cap, cur, hv, hb, hh, h1, h2, h3, h4⟩
  · omega
  · simp only [Value.slice.injEq, Option.some.injEq, Addr.mk.injEq, and_true] at hv
    obtain ⟨rfl, _, rfl⟩ := hv
    exact ⟨by rw [List.length_set]; exact h.1, .inr ⟨g, c, cur.setIfInBounds j v, rfl, hb, Row.set hh j v, h1, h2, by simpa using h3, by rw [← h4]; simp only [Array.toList_setIfInBounds, List.take_set]⟩⟩
theorem texts_set (n : Int) : (cellsI (textsP 7)).set 4 (.int .i64 n) = cellsI (textsP n) := by kernel_rfl
theorem texts_sizes (n : Int) : ∀ i, i < 27 → (ins2 (textsP n) i).size ≤ maxLen ∧ (In64 n → In64 (ins1 (textsP n) i)) := by
  intro i hi
  have h0 : In64 0 := in64_0
  have h1 : In64 1 := ⟨by decide, by decide⟩
  have h3 : In64 3 := ⟨by decide, by decide⟩
  rcases (show i = 0 ∨ i = 1 ∨ i = 2 ∨ i = 3 ∨ i = 4 ∨ i = 5 ∨ i = 6 ∨ i = 7 ∨ i = 8 ∨ i = 9 ∨ i = 10 ∨ i = 11 ∨ i = 12 ∨ i = 13 ∨ i = 14 ∨ i = 15 ∨ i = 16 ∨ i = 17 ∨ i = 18 ∨ i = 19 ∨ i = 20 ∨ i = 21 ∨ i = 22 ∨ i = 23 ∨ i = 24 ∨ i = 25 ∨ i = 26 by omega) with rfl | rfl | rfl | rfl | rfl | rfl | rfl | rfl | rfl | rfl | rfl | rfl | rfl | rfl | rfl | rfl | rfl | rfl | rfl | rfl | rfl | rfl | rfl | rfl | rfl | rfl | rfl
  all_goals exact ⟨by first | exact Nat.zero_le _ | exact (show (1 : Nat) ≤ maxLen by unfold maxLen; omega), fun hn => by first | exact h0 | exact hn | exact h1 | exact h3⟩
theorem strs_lit2 (w : World) (s t : ByteArray) (y : TypeId) (hs : s.size ≤ maxLen) (ht : t.size ≤ maxLen) : StrsAt (w.alloc (.cells #[.string s, .string t] y)) (some ⟨w.heap.size, 0, none⟩) 2 [s, t] := by
  have hr := Row.new w y #[.string s, .string t]
  unfold Row at hr
  refine ⟨rfl, by unfold maxLen; omega, fun i hi => ?_, .inr ⟨_, 0, rfl, by simp, fun i hi => ?_⟩⟩
  · rcases (show i = 0 ∨ i = 1 by omega) with rfl | rfl
    · exact hs
    · exact ht
  · rcases (show i = 0 ∨ i = 1 by omega) with rfl | rfl
    all_goals (simp only [World.cell?, hr]; rfl)
theorem recs_lit3 (w : World) (k0 k1 k2 : ByteArray) (x y z : Int) (t : TypeId) (h0 : k0.size ≤ maxLen) (h1 : k1.size ≤ maxLen) (h2 : k2.size ≤ maxLen) : RecsAt (w.alloc (.cells #[.string k0, .int .i64 x, .string k1, .int .i64 y, .string k2, .int .i64 z] t)) (some ⟨w.heap.size, 0, none⟩) 3 [(k0, x), (k1, y), (k2, z)] := by
  have hr := Row.new w t #[.string k0, .int .i64 x, .string k1, .int .i64 y, .string k2, .int .i64 z]
  unfold Row at hr
  refine ⟨rfl, by unfold maxLen; omega, fun i hi => ?_, .inr ⟨_, 0, rfl, by simp, fun i hi => ?_⟩⟩
  · rcases (show i = 0 ∨ i = 1 ∨ i = 2 by omega) with rfl | rfl | rfl
    · exact h0
    · exact h1
    · exact h2
  · rcases (show i = 0 ∨ i = 1 ∨ i = 2 by omega) with rfl | rfl | rfl
    all_goals exact ⟨by simp only [World.cell?, hr]; rfl, by simp only [World.cell?, hr]; rfl⟩

set_option maxHeartbeats 16000000 in
theorem fnEvalTexts_walk (w : World) (a : Option Addr) (len cap : Nat) (h : Src w a len) (hT : TabsRP w) :
    Calls Tryz.prog 8 #[.slice a len cap] w fun e w' => e = .returned (.bool true) ∧ Below w.heap.size w w' := by
  by_cases hbig : 1048576 < len
  · go_enter Tryz.func8, Tryz.ntmps8
    go_wp2_with fail
    refine (big_yes _ _ _ _ hbig).mono ?_
    rintro e w' ⟨rfl, rfl⟩
    go_wp2_with fail
    go_ret
    exact ⟨rfl, Below.refl _ _⟩
  have HT := Lib.hid hT
  have H := Lib.hid h
  clear hT h
  go_enter Tryz.func8, Tryz.ntmps8
  go_wp2_with fail
  refine (big_no _ _ _ _ hbig).mono ?_
  rintro e w' ⟨rfl, rfl⟩
  go_wp2_with fail
  refine (drawcomb_any _ _ _ _ H.out).mono ?_
  rintro e w1 ⟨op0, xa, xb, hwa, hwb, rfl, hB⟩
  have HA := Lib.hid (wf_in64 hwa)
  have HB := Lib.hid hB
  clear hB hwa hwb
  go_wp2_with fail
  refine (drawhash_any _ _ _ _ (H.out.below HB.out)).mono ?_
  rintro e w2 ⟨s, hs6, rfl, hB⟩
  have HB := Lib.hid (below_via HB.out hB)
  clear hB
  go_wp2_with fail
  refine (drawpart_any _ _ _ _ (H.out.below HB.out)).mono ?_
  rintro e w3 ⟨t, tn, ht5, htw, rfl, hB⟩
  have HB := Lib.hid (below_via HB.out hB)
  clear hB htw
  go_wp2_with fail
  refine (readprog_any textsT _ (by decide) (HT.out.keep HB.out)).mono ?_
  rw [texts_read]
  rintro e w4 ⟨hB, q, n, cp, rfl, hn, hown⟩
  obtain rfl : n = 27 := hn.symm
  have HO := Lib.hid hown
  have HB4 := Lib.hid hB
  clear hB hn hown
  obtain ⟨g, cur, rfl, hbg, hrow, hcur⟩ := own_insrow HO.out (by omega)
  obtain ⟨u4, c4⟩ : ∃ u, w4.cell? ⟨g, 4, none⟩ = some u := ⟨_, hrow.cell (j := 4) (by omega)⟩
  have f4 := hrow.free 4
  have HS := Lib.hid (texts_set xa ▸ own_put1 HO.out (by omega) 4 (.int .i64 xa))
  have HB := Lib.hid (below_via HB.out (show Below w3.heap.size w3 (w4.setCell ⟨g, 4, none⟩ (.int .i64 xa)) from HB4.out.setCell hbg _))
  clear HO HB4 hrow hcur
  have hst : (s ++ t).size ≤ 40 := by rw [ByteArray.size_append]; omega
  have HST := Lib.hid (show StrsAt ((w4.setCell ⟨g, 4, none⟩ (.int .i64 xa)).alloc (.cells #[.string s, .string t] 9)) (some ⟨w4.heap.size, 0, none⟩) 2 [s, t] from by
    have h1 := strs_lit2 (w4.setCell ⟨g, 4, none⟩ (.int .i64 xa)) s t 9 (by unfold maxLen; omega) (by unfold maxLen; omega)
    simpa using h1)
  have hBS := below_alloc (Below.refl (w4.setCell ⟨g, 4, none⟩ (.int .i64 xa)).heap.size (w4.setCell ⟨g, 4, none⟩ (.int .i64 xa))) (.cells #[.string s, .string t] 9)
  have HI := Lib.hid (show InstrsAt _ _ 27 (textsP xa) from (own_inss HS.out rfl (by unfold maxLen; omega) (fun i hi => (texts_sizes xa i hi).1)).keep hBS)
  have HB := Lib.hid (below_via HB.out hBS)
  have H6 := Lib.hid (show ∀ i, i < 27 → In64 (ins1 (textsP xa) i) from fun i hi => (texts_sizes xa i hi).2 HA.out)
  have HRES := Lib.hid (texts_eval (s := s) (t := t) HA.out hst)
  obtain ⟨PP, hpp⟩ : ∃ PP, textsP xa = PP := ⟨_, rfl⟩
  rw [hpp] at HI H6 HRES
  clear HS hpp hBS
  go_wp2_with fail
  refine (ieval_any _ _ _ _ _ _ _ _ _ HI.out H6.out HST.out (HT.out.keep HB.out)).mono ?_
  unfold MadeRun
  simp only [HRES.out]
  rintro e w6 ⟨q1, cp1, rfl, hB, hk, hq1, hcp1⟩
  have HK1 := Lib.hid (run_recs (n := 3) hk (by rw [HI.out.length]; exact H6.out) HRES.out rfl)
  have HB := Lib.hid (below_via HB.out hB)
  rw [ByteArray.size_append, Int.natCast_add] at HK1
  clear hB hk
  clear c4 f4 hst HST
  by_cases hsame : s = t
  · have heq : (s.toList == t.toList) = true := by rw [hsame]; simp
    have HSM := Lib.hid hsame
    clear hsame
    have HL := Lib.hid (recs_lit3 w6 ⟨#[97]⟩ (s ++ t) ⟨#[50]⟩ xa ((s.size : Int) + (t.size : Int)) 3 54 (show (1 : Nat) ≤ maxLen by unfold maxLen; omega) (by rw [ByteArray.size_append]; unfold maxLen; omega) (show (1 : Nat) ≤ maxLen by unfold maxLen; omega))
    have hBA := below_alloc (Below.refl w6.heap.size w6) (.cells #[.string ⟨#[97]⟩, .int .i64 xa, .string (s ++ t), .int .i64 ((s.size : Int) + (t.size : Int)), .string ⟨#[50]⟩, .int .i64 3] 54)
    have HK1 := Lib.hid (HK1.out.keep hBA)
    rw [if_pos HSM.out] at HK1
    have HB := Lib.hid (below_via HB.out hBA)
    clear hBA
    go_wp2_with fail
    refine (samerun_same _ _ _ _ _ _ _ HK1.out HL.out).mono ?_
    rintro e w8 ⟨rfl, hB⟩
    have HB := Lib.hid (below_via HB.out hB)
    clear hB
    go_wp2
    go_ret
    exact ⟨rfl, HB.out⟩
  · have hne : (s.toList == t.toList) = false := by rw [beq_eq_false_iff_ne]; exact fun h => hsame (toList_inj h)
    have HL := Lib.hid (recs_lit3 w6 ⟨#[97]⟩ (s ++ t) ⟨#[49]⟩ xa ((s.size : Int) + (t.size : Int)) 3 54 (show (1 : Nat) ≤ maxLen by unfold maxLen; omega) (by rw [ByteArray.size_append]; unfold maxLen; omega) (show (1 : Nat) ≤ maxLen by unfold maxLen; omega))
    have hBA := below_alloc (Below.refl w6.heap.size w6) (.cells #[.string ⟨#[97]⟩, .int .i64 xa, .string (s ++ t), .int .i64 ((s.size : Int) + (t.size : Int)), .string ⟨#[49]⟩, .int .i64 3] 54)
    have HK1 := Lib.hid (HK1.out.keep hBA)
    rw [if_neg hsame] at HK1
    have HB := Lib.hid (below_via HB.out hBA)
    clear hBA
    go_wp2_with fail
    refine (samerun_same _ _ _ _ _ _ _ HK1.out HL.out).mono ?_
    rintro e w8 ⟨rfl, hB⟩
    have HB := Lib.hid (below_via HB.out hB)
    clear hB
    go_wp2
    go_ret
    exact ⟨rfl, HB.out⟩
end Go.Proofs.YthnlllbanfemaaaGreatDoor
