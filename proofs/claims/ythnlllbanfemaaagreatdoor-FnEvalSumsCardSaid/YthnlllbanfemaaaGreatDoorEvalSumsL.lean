
/- The law on the four sums, walked. -/
import Derived.Test.YthnlllbanfemaaaGreatDoorEmitIfL
import Derived.Test.YthnlllbanfemaaaGreatDoorSumsM
namespace Go.Proofs.YthnlllbanfemaaaGreatDoor
open Go.ChangeShapes Go.WideShapes Go.ChangeAt Go.RowKit Go.MuLone
set_option linter.unusedVariables false
set_option maxRecDepth 100000

theorem inss_lit5 (w : World) (a b op : Int) (t : TypeId) : InstrsAt (w.alloc (.cells #[.int .i64 2, .int .i64 0, .string ⟨#[107]⟩, .int .i64 3, .int .i64 a, .string ⟨#[]⟩, .int .i64 3, .int .i64 b, .string ⟨#[]⟩, .int .i64 op, .int .i64 0, .string ⟨#[]⟩, .int .i64 13, .int .i64 0, .string ⟨#[]⟩] t)) (some ⟨w.heap.size, 0, none⟩) 5 (five a b op) := by
  refine InstrsAt.ofRow (Row.new _ _ _) rfl (by unfold maxLen; omega) ?_ ?_
  · intro i hi
    rcases (show i = 0 ∨ i = 1 ∨ i = 2 ∨ i = 3 ∨ i = 4 by omega) with rfl | rfl | rfl | rfl | rfl
    · exact (show (1 : Nat) ≤ maxLen by unfold maxLen; omega)
    all_goals exact Nat.zero_le _
  · intro i hi
    rcases (show i = 0 ∨ i = 1 ∨ i = 2 ∨ i = 3 ∨ i = 4 by omega) with rfl | rfl | rfl | rfl | rfl
    all_goals exact ⟨rfl, rfl, rfl⟩
theorem sumsK_len (a b : Int) : ∀ k, (sumsK a b k).length = 5 * k
  | 0 => rfl
  | k + 1 => by rw [sumsK, List.length_append, sumsK_len a b k]; show 5 * k + 5 = _; omega
theorem sums_sizes (a b : Int) : ∀ i, i < 20 → (ins2 (sumsK a b 4) i).size ≤ maxLen ∧ (In64 a → In64 b → In64 (ins1 (sumsK a b 4) i)) := by
  intro i hi
  have h0 : In64 0 := in64_0
  rcases (show i = 0 ∨ i = 1 ∨ i = 2 ∨ i = 3 ∨ i = 4 ∨ i = 5 ∨ i = 6 ∨ i = 7 ∨ i = 8 ∨ i = 9 ∨ i = 10 ∨ i = 11 ∨ i = 12 ∨ i = 13 ∨ i = 14 ∨ i = 15 ∨ i = 16 ∨ i = 17 ∨ i = 18 ∨ i = 19 by omega) with rfl | rfl | rfl | rfl | rfl | rfl | rfl | rfl | rfl | rfl | rfl | rfl | rfl | rfl | rfl | rfl | rfl | rfl | rfl | rfl
  all_goals exact ⟨by first | exact Nat.zero_le _ | exact (show (1 : Nat) ≤ maxLen by unfold maxLen; omega), fun ha hb => by first | exact h0 | exact ha | exact hb⟩
theorem recs_lit4 (w : World) (x y z u : Int) (t : TypeId) : RecsAt (w.alloc (.cells #[.string ⟨#[107]⟩, .int .i64 x, .string ⟨#[107]⟩, .int .i64 y, .string ⟨#[107]⟩, .int .i64 z, .string ⟨#[107]⟩, .int .i64 u] t)) (some ⟨w.heap.size, 0, none⟩) 4 [(⟨#[107]⟩, x), (⟨#[107]⟩, y), (⟨#[107]⟩, z), (⟨#[107]⟩, u)] := by
  have hr := Row.new w t #[.string ⟨#[107]⟩, .int .i64 x, .string ⟨#[107]⟩, .int .i64 y, .string ⟨#[107]⟩, .int .i64 z, .string ⟨#[107]⟩, .int .i64 u]
  unfold Row at hr
  refine ⟨rfl, by unfold maxLen; omega, fun i hi => ?_, .inr ⟨_, 0, rfl, by simp, fun i hi => ?_⟩⟩
  · rcases (show i = 0 ∨ i = 1 ∨ i = 2 ∨ i = 3 by omega) with rfl | rfl | rfl | rfl
    all_goals exact (show (1 : Nat) ≤ maxLen by unfold maxLen; omega)
  · rcases (show i = 0 ∨ i = 1 ∨ i = 2 ∨ i = 3 by omega) with rfl | rfl | rfl | rfl
    all_goals exact ⟨by simp only [World.cell?, hr]; rfl, by simp only [World.cell?, hr]; rfl⟩

set_option maxHeartbeats 16000000 in
theorem fnEvalSums_walk (w : World) (a : Option Addr) (len cap : Nat) (h : Src w a len) (hT : TabsRP w) :
    Calls Tryz.prog 7 #[.slice a len cap] w fun e w' => e = .returned (.bool true) ∧ Below w.heap.size w w' := by
  by_cases hbig : 1048576 < len
  · go_enter Tryz.func7, Tryz.ntmps7
    go_wp2_with fail
    refine (big_yes _ _ _ _ hbig).mono ?_
    rintro e w' ⟨rfl, rfl⟩
    go_wp2_with fail
    go_ret
    exact ⟨rfl, Below.refl _ _⟩
  have HT := Lib.hid hT
  have H := Lib.hid h
  clear hT h
  go_enter Tryz.func7, Tryz.ntmps7
  go_wp2_with fail
  refine (big_no _ _ _ _ hbig).mono ?_
  rintro e w' ⟨rfl, rfl⟩
  go_wp2_with fail
  refine (drawcomb_any _ _ _ _ H.out).mono ?_
  rintro e w1 ⟨op0, xa, xb, hwa, hwb, rfl, hB⟩
  have HA := Lib.hid (wf_in64 hwa)
  have HX := Lib.hid (wf_in64 hwb)
  have HB := Lib.hid hB
  clear hB hwa hwb
  go_wp2_with fail
  have HP0 := Lib.hid (show (w1.alloc (.cells #[] 52)).ownsRow w1.heap.size 52 3 (.slice (some ⟨w1.heap.size, 0, none⟩) 0 0) (5 * 0) (cellsIn (sumsK xa xb 0)) ∧ Below w1.heap.size w1 (w1.alloc (.cells #[] 52)) from ⟨own_zeroIn (Row.new _ _ _) (Nat.le_refl _), below_alloc (Below.refl _ _) _⟩)
  go_loopw [6, 7] (fun v i wr => ∃ (k : Nat) (q : Option Addr) (cc : Nat), v = .slice q (5 * k) cc ∧ i = .int .i64 (8 + (k : Int)) ∧ k ≤ 4 ∧ Hid (wr.ownsRow w1.heap.size 52 3 (.slice q (5 * k) cc) (5 * k) (cellsIn (sumsK xa xb k)) ∧ Below w1.heap.size w1 wr)) (fun _ i _ => 12 - (intOf i).toNat)
  case atStart => exact ⟨0, _, _, rfl, rfl, Nat.zero_le _, HP0⟩
  case round =>
    clear HP0
    obtain ⟨k, q, cc, rfl, rfl, hk4, HS⟩ := hrel
    by_cases hlt : k < 4
    · have hlt2 : 8 + (k : Int) ≤ 11 := by omega
      obtain ⟨m, hm⟩ : ∃ m, 5 * k = m := ⟨_, rfl⟩
      rw [hm] at HS ⊢
      have HMM := Lib.hid hm
      have hm20 : m ≤ 20 := by omega
      clear hm
      go_wp2_with (at_builtin; go_loud (refine append_inn rfl _ _ rfl w1.heap.size (.slice q m cc) m (sumsK xa xb k) rfl (own_below HS.out.1 (below_alloc (Below.refl _ _) _)) (some ⟨wr.heap.size, 0, none⟩) 5 5 (five xa xb (8 + (k : Int))) rfl (inss_lit5 _ _ _ _ _) (fun h => by cases h) (by omega) (Nat.le_trans HS.out.2.size (by simp)) ?_); intro q6 c6 w6 hown hgrow; have HS6 := Lib.hid (show w6.ownsRow w1.heap.size 52 3 (.slice q6 (m + 5) c6) (m + 5) (cellsIn (sumsK xa xb (k + 1))) ∧ Below w1.heap.size w1 w6 from ⟨hown, (below_alloc HS.out.2 _).grown hgrow (Nat.le_trans HS.out.2.size (by simp)) (fun j hj => (HS.out.1.lt j hj).1)⟩); clear hown hgrow)
      go_roundw
      case rel => exact ⟨k + 1, q6, c6, by rw [← HMM.out, Nat.mul_add], by go_num, by omega, by rw [Nat.mul_add, HMM.out]; exact HS6⟩
      case measure => simp [intOf]; omega
    · obtain rfl : k = 4 := by omega
      have HI := Lib.hid (show InstrsAt wr q 20 (sumsK xa xb 4) from inss_own HS.out.1 (sumsK_len _ _ _) (by unfold maxLen; omega) (fun i hi => (sums_sizes xa xb i hi).1))
      have H6 := Lib.hid (show ∀ i, i < 20 → In64 (ins1 (sumsK xa xb 4) i) from fun i hi => (sums_sizes xa xb i hi).2 HA.out HX.out)
      have HB := Lib.hid (below_via HB.out HS.out.2)
      obtain ⟨PP, hpp⟩ : ∃ PP, sumsK xa xb 4 = PP := ⟨_, rfl⟩
      have HRES := Lib.hid (sums_eval xa xb)
      rw [hpp] at HI H6 HRES
      clear HS hpp
      go_wp2_with fail
      refine (ieval_any _ _ _ _ _ _ _ _ _ HI.out H6.out (show StrsAt wr none 0 [] from ⟨rfl, Nat.zero_le _, fun i hi => absurd hi (by omega), .inl rfl⟩) (HT.out.keep HB.out)).mono ?_
      unfold MadeRun
      simp only [HRES.out]
      rintro e w2 ⟨q1, cp1, rfl, hB, hk, hq1, hcp1⟩
      have HK1 := Lib.hid (run_recs (n := 4) hk (by rw [HI.out.length]; exact H6.out) HRES.out rfl)
      have HB := Lib.hid (below_via HB.out hB)
      clear hB hk
      by_cases hab : xa < xb
      · go_wp2_with fail
        have HL := Lib.hid (recs_lit4 w2 (wrap64 (xa + xb)) (wrap64 (xa - xb)) (wrap64 (xa * xb)) 1 54)
        have hBA := below_alloc (Below.refl w2.heap.size w2) (.cells #[.string ⟨#[107]⟩, .int .i64 (wrap64 (xa + xb)), .string ⟨#[107]⟩, .int .i64 (wrap64 (xa - xb)), .string ⟨#[107]⟩, .int .i64 (wrap64 (xa * xb)), .string ⟨#[107]⟩, .int .i64 1] 54)
        have HK1 := Lib.hid (HK1.out.keep hBA)
        rw [show truthI (decide (xa < xb)) = 1 by rw [decide_eq_true hab]; rfl] at HK1
        have HB := Lib.hid (below_via HB.out hBA)
        clear hBA
        refine (samerun_same _ _ _ _ _ _ _ HK1.out HL.out).mono ?_
        rintro e w8 ⟨rfl, hB⟩
        have HB := Lib.hid (below_via HB.out hB)
        clear hB
        go_wp2
        go_ret
        exact ⟨rfl, HB.out⟩
      · go_wp2_with fail
        have HL := Lib.hid (recs_lit4 w2 (wrap64 (xa + xb)) (wrap64 (xa - xb)) (wrap64 (xa * xb)) 0 54)
        have hBA := below_alloc (Below.refl w2.heap.size w2) (.cells #[.string ⟨#[107]⟩, .int .i64 (wrap64 (xa + xb)), .string ⟨#[107]⟩, .int .i64 (wrap64 (xa - xb)), .string ⟨#[107]⟩, .int .i64 (wrap64 (xa * xb)), .string ⟨#[107]⟩, .int .i64 0] 54)
        have HK1 := Lib.hid (HK1.out.keep hBA)
        rw [show truthI (decide (xa < xb)) = 0 by rw [decide_eq_false (by omega : ¬ xa < xb)]; rfl] at HK1
        have HB := Lib.hid (below_via HB.out hBA)
        clear hBA
        refine (samerun_same _ _ _ _ _ _ _ HK1.out HL.out).mono ?_
        rintro e w8 ⟨rfl, hB⟩
        have HB := Lib.hid (below_via HB.out hB)
        clear hB
        go_wp2
        go_ret
        exact ⟨rfl, HB.out⟩
end Go.Proofs.YthnlllbanfemaaaGreatDoor
