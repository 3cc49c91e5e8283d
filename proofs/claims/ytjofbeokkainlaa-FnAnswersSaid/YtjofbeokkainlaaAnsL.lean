
/- The drawn law on answers, walked: what is answered of a key is what the run of its part has. -/
import Derived.Test.YtjofbeokkainlaaMg47
import Derived.Test.YtjofbeokkainlaaAnsS
import Derived.Test.YtjofbeokkainlaaMg1
namespace Go.Proofs.Ytjofbeokkainlaa
open Go.ChangeShapes Go.WideShapes Go.ChangeAt Go.RowKit
set_option linter.unusedVariables false
set_option maxRecDepth 100000

theorem partN_range (s : ByteArray) {n : Nat} (h1 : 1 ≤ n) (h3 : n ≤ 3) : ∃ p : Nat, p < n ∧ partN s (n : Int) = (p : Int) := by
  have e : partN s (n : Int) = hashL s.data.toList % (n : Int) := by unfold partN; rw [if_neg (by omega)]
  have h0 := Int.emod_nonneg (hashL s.data.toList) (show (n : Int) ≠ 0 by omega)
  have h2 := Int.emod_lt_of_pos (hashL s.data.toList) (show (0 : Int) < (n : Int) by omega)
  exact ⟨(hashL s.data.toList % (n : Int)).toNat, by omega, by rw [e]; omega⟩

set_option maxHeartbeats 16000000 in
theorem fnAnswers_walk (w : World) (a : Option Addr) (len cap : Nat) (h : Src w a len) :
    Calls Try.prog 3 #[.slice a len cap] w fun e w' => e = .returned (.bool true) ∧ Below w.heap.size w w' := by
  by_cases hbig : 1048576 < len
  · go_enter Try.func3, Try.ntmps3
    go_wp2_with fail
    refine (big_yes _ _ _ _ hbig).mono ?_
    rintro e w' ⟨rfl, rfl⟩
    go_wp2_with fail
    go_ret
    exact ⟨rfl, Below.refl _ _⟩
  have H := Lib.hid h
  clear h
  go_enter Try.func3, Try.ntmps3
  go_wp2_with fail
  refine (big_no _ _ _ _ hbig).mono ?_
  rintro e w' ⟨rfl, rfl⟩
  go_wp2_with fail
  refine (drawan_any _ _ _ _ H.out).mono ?_
  rintro e w1 ⟨d, f, task, q, n, cp, LS, XS, base, key, rfl, ho, hn, hn3, hp, hs, hk, hB⟩
  obtain ⟨B, hBe⟩ : ∃ B, w1.heap.size = B := ⟨_, rfl⟩
  obtain ⟨w2, hw2⟩ : ∃ w2, w1.alloc (.cells #[.bool d, .bool f, .int .i64 task, .slice q n cp] 26) = w2 := ⟨_, rfl⟩
  have HW2 := Lib.hid hw2
  have HBE := Lib.hid hBe
  have HX := Lib.hid (show Row w2 B 26 #[.bool d, .bool f, .int .i64 task, .slice q n cp] from by rw [← hw2, ← hBe]; exact row_new _ _ _)
  have hBA : Below w1.heap.size w1 w2 := hw2 ▸ below_alloc (Below.refl _ _) _
  have HO := Lib.hid (ho.keep hBA)
  have HNN := Lib.hid hn
  have HP := Lib.hid hp
  have HS := Lib.hid hs
  have HB := Lib.hid (below_via hB hBA)
  have hkm : key.size ≤ maxLen := by unfold maxLen; omega
  have HLS := Lib.hid (HO.out.ls hn (by unfold maxLen; omega) hs)
  obtain ⟨x, hx⟩ : ∃ x, (ansL LS key).1 = x := ⟨_, rfl⟩
  obtain ⟨y, hy⟩ : ∃ y, (ansL LS key).2 = y := ⟨_, rfl⟩
  have HXA := Lib.hid hx
  have HYA := Lib.hid hy
  have x0 := HX.out.cell (j := 0) (by simp)
  have x1 := HX.out.cell (j := 1) (by simp)
  have x2 := HX.out.cell (j := 2) (by simp)
  have x3 := HX.out.cell (j := 3) (by simp)
  simp at x0 x1 x2 x3
  clear ho hn hp hs hB hBA hx hy hw2 hBe
  rw [← HW2.out, ← HBE.out] at x0 x1 x2 x3
  go_wp2_with fail
  rw [HW2.out]
  try rw [HBE.out]
  refine (answer_any d f task q n cp LS key _ HLS.out HP.out).mono ?_
  unfold MadeFind
  rw [HXA.out, HYA.out]
  rintro e w3 ⟨rfl, hB⟩
  have HX := Lib.hid (HX.out.keep hB)
  have HO := Lib.hid (HO.out.keep hB)
  have HLS := Lib.hid (HLS.out.keep hB)
  have HB := Lib.hid (below_via HB.out hB)
  clear hB x0 x1 x2 x3
  have x0 := HX.out.cell (j := 0) (by simp)
  have x1 := HX.out.cell (j := 1) (by simp)
  have x2 := HX.out.cell (j := 2) (by simp)
  have x3 := HX.out.cell (j := 3) (by simp)
  simp at x0 x1 x2 x3
  go_wp2_with fail
  refine (sanswer_any d f task q n cp LS key _ HLS.out).mono ?_
  unfold MadeFind
  rw [HXA.out, HYA.out]
  rintro e w4 ⟨rfl, hB⟩
  have HX := Lib.hid (HX.out.keep hB)
  have HO := Lib.hid (HO.out.keep hB)
  have HB := Lib.hid (below_via HB.out hB)
  clear hB x0 x1 x2 x3
  have x3 := HX.out.cell (j := 3) (by simp)
  simp at x3
  have hxx : (x != x) = false := by simp
  have hyy : (y != y) = false := by simp
  have hxe : (x == x) = true := by simp
  have hye : (y == y) = true := by simp
  by_cases hn0 : n = 0
  · subst hn0
    go_wp2
    go_ret
    exact ⟨rfl, HB.out⟩
  · obtain ⟨g, rfl, hg, hgb, _, _, hc⟩ := HO.out.src (by omega)
    obtain ⟨pn, hpn, hpe⟩ := partN_range key (n := n) (by omega) hn3
    obtain ⟨p, c, y0, hr, _⟩ := hc pn hpn
    have HPE := Lib.hid hpe
    have HRE := Lib.hid (recs_of_rs hr rfl (by have := (HS.out pn (by rw [HNN.out]; exact hpn)).1; unfold nAt at this; unfold maxLen; omega) (fun j hj => by have := (HS.out pn (by rw [HNN.out]; exact hpn)).2 j hj; unfold maxLen; omega))
    have HAP := Lib.hid (ans_part HP.out (k := pn) (by rw [HNN.out]; exact hpn) (by rw [HNN.out]; exact hpe))
    have hp1 : (pn : Int) < (n : Int) := by omega
    have hp0 : (0 : Int) ≤ (pn : Int) := by omega
    have hpp : ((pn : Int) != (pn : Int)) = false := by simp
    have hn0z : ((n : Int) == (0 : Int)) = false := by rw [beq_eq_false_iff_ne]; omega
    obtain ⟨m, hm⟩ : ∃ m, nAt LS pn = m := ⟨_, rfl⟩
    have HM := Lib.hid hm
    have HRE := Lib.hid (show RecsAt w4 p m (LS.getD pn []) from by rw [← HM.out]; exact HRE.out)
    rw [hm] at y0
    clear hc hr hpe hg hgb hm
    go_wp2_with fail
    refine (part_any key (n : Int) _ hkm).mono ?_
    rw [HPE.out]
    rintro e wx ⟨rfl, rfl⟩
    go_wp2_with fail
    refine (spart_any key (n : Int) _ hkm).mono ?_
    rw [HPE.out]
    rintro e wx ⟨rfl, rfl⟩
    go_wp2_with fail
    refine (find_any p m c (LS.getD pn []) key _ HRE.out).mono ?_
    unfold MadeFind
    rw [← HAP.out, HXA.out, HYA.out]
    rintro e w5 ⟨rfl, hB⟩
    have HB := Lib.hid (below_via HB.out hB)
    clear hB x3 y0
    go_wp2
    go_ret
    exact ⟨rfl, HB.out⟩
end Go.Proofs.Ytjofbeokkainlaa
