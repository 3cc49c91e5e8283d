
/- AnswerOf of the model and of the program, walked: the first record with the key. Only new blocks are made. -/
import Derived.Test.YtjofbeokkainlaaAnsM
import Derived.Test.YtjofbeokkainlaaResL
namespace Go.Proofs.Ytjofbeokkainlaa
open Go.ChangeShapes Go.WideShapes Go.ChangeAt Go.RowKit
set_option linter.unusedVariables false
set_option maxRecDepth 100000

set_option maxHeartbeats 8000000 in
theorem sanswer_any (d f : Bool) (task : Int) (q : Option Addr) (n cp : Nat) (LS : List Recs) (key : ByteArray) (w : World) (h : RunLs w q n LS) :
    Calls Try.prog 7 #[.agg #[.bool d, .bool f, .int .i64 task, .slice q n cp], .string key] w (MadeFind (ansL LS key) w) := by
  have HL := Lib.hid h.1
  have hnm := h.2.1
  unfold maxLen at hnm
  obtain ⟨B, hB⟩ : ∃ B, w.heap.size = B := ⟨_, rfl⟩
  obtain ⟨w1, hw1⟩ : ∃ x, w.alloc (.cells #[.bool d, .bool f, .int .i64 task, .slice q n cp] 26) = x := ⟨_, rfl⟩
  have HB := Lib.hid (show Below w.heap.size w w1 from hw1 ▸ below_alloc (Below.refl _ _) _)
  have HR := Lib.hid (show Row w1 B 26 #[.bool d, .bool f, .int .i64 task, .slice q n cp] from by rw [← hw1, ← hB]; exact Row.new w _ _)
  have HO := Lib.hid (show OutsAt w1 q n LS from h.outs.keep HB.out)
  have hBl := Lib.hid HR.out.lt
  have k3 := HR.out.cell (j := 3) (by simp)
  simp at k3
  clear h
  go_enter Try.func7, Try.ntmps7
  go_wp2_with fail
  clear hB hw1
  have K3 := Lib.hid k3
  clear k3
  go_loopw [6] (fun i wr => ∃ k : Nat, k ≤ n ∧ i = .int .i64 k ∧ Hid (∀ x, x < k → findAux key (LS.getD x []) = (0, false)) ∧ Hid (Below w1.heap.size w1 wr)) (fun i _ => n - (intOf i).toNat)
  case atStart => exact ⟨0, Nat.zero_le _, rfl, fun x hx => by omega, Lib.hid (Below.refl _ _)⟩
  case round =>
    obtain ⟨k, hk, rfl, HF, HW⟩ := hrel
    have z3 := (HW.out.cell (p := ⟨B, 3, none⟩) hBl.out).trans K3.out
    by_cases hlt : k < n
    · rcases HO.out.src with hz | ⟨b, off, rfl, hb, hc⟩
      · omega
      · obtain ⟨p, m, c, c0, hre⟩ := hc k hlt
        have hmm := hre.max
        unfold maxLen at hmm
        have hkl : k < LS.length := by rw [HL.out]; exact hlt
        obtain ⟨V, hV⟩ : ∃ V, LS.getD k [] = V := ⟨_, rfl⟩
        have HV := Lib.hid hV
        rw [hV] at hre
        have HRE := Lib.hid hre
        have C0 := Lib.hid c0
        have hbl := Lib.hid hb
        have z0 := (HW.out.cell (p := ⟨b, off + k, none⟩) hb).trans c0
        have hk1 : (k : Int) < (n : Int) := by omega
        have hk0 : (0 : Int) ≤ (k : Int) := by omega
        have HVL := Lib.hid hre.length
        have HKL := Lib.hid hkl
        clear hc hre c0 hb hV hkl
        go_wp2_with fail
        clear z3 z0
        go_loopw [7] (fun i wy => ∃ j : Nat, j ≤ m ∧ i = .int .i64 j ∧ Hid (∀ x, x < j → sameKey (keyAt V x) key = false) ∧ Hid (Below w1.heap.size w1 wy)) (fun i _ => m - (intOf i).toNat)
        case atStart => exact ⟨0, Nat.zero_le _, rfl, fun x hx => by omega, HW⟩
        case round =>
          obtain ⟨j, hj, rfl, HS, HY⟩ := hrel
          clear HW
          have z3 := (HY.out.cell (p := ⟨B, 3, none⟩) hBl.out).trans K3.out
          have z0 := (HY.out.cell (p := ⟨b, off + k, none⟩) hbl.out).trans C0.out
          by_cases hjm : j < m
          · rcases HRE.out.src with hz | ⟨b2, o2, rfl, hb2, hc2⟩
            · omega
            · have y0 := (HY.out.cell (p := ⟨b2, o2 + j * 2, none⟩) hb2).trans (hc2 j hjm).1
              have y1 := (HY.out.cell (p := ⟨b2, o2 + j * 2 + 1, none⟩) hb2).trans (hc2 j hjm).2
              have hj1 : (j : Int) < (m : Int) := by omega
              have hj0 : (0 : Int) ≤ (j : Int) := by omega
              clear hc2 hb2
              cases hsk : sameKey (keyAt V j) key with
              | true =>
                have HQ := Lib.hid (ans_hit HKL.out HF.out (n := numAt V j) (by rw [HV.out]; exact findAux_hit key V j (by rw [HVL.out]; exact hjm) HS.out hsk))
                have hs2 : ((keyAt V j).toList == key.toList) = true := hsk
                clear hsk
                go_wp2
                go_ret2
                exact ⟨ret_find HQ.out, below_via HB.out HY.out⟩
              | false =>
                have HK2 := Lib.hid hsk
                have hs2 : ((keyAt V j).toList == key.toList) = false := hsk
                clear hsk
                go_wp2
                go_roundw
                case rel => exact ⟨j + 1, by omega, by go_num, fun x hx => by
                  rcases Nat.lt_or_ge x j with h | h
                  · exact HS.out x h
                  · obtain rfl : x = j := by omega
                    exact HK2.out, HY⟩
                case measure => simp [intOf]; omega
          · obtain rfl : j = m := by omega
            have HNK := Lib.hid (show ∀ x, x < k + 1 → findAux key (LS.getD x []) = (0, false) from fun x hx => by
              rcases Nat.lt_or_ge x k with h | h
              · exact HF.out x h
              · obtain rfl : x = k := by omega
                rw [HV.out]
                exact findAux_none key V (by rw [HVL.out]; exact HS.out))
            go_wp2
            go_roundw
            case rel => exact ⟨k + 1, by omega, by go_num, HNK, HY⟩
            case measure => simp [intOf]; omega
    · obtain rfl : k = n := by omega
      have HQ := Lib.hid (ans_none (by rw [HL.out]; exact HF.out))
      go_wp2
      go_ret2
      exact ⟨ret_find HQ.out, below_via HB.out HW.out⟩

set_option maxHeartbeats 8000000 in
theorem answer_any (d f : Bool) (task : Int) (q : Option Addr) (n cp : Nat) (LS : List Recs) (key : ByteArray) (w : World) (h : RunLs w q n LS) (hr : PartsR LS) :
    Calls Try.prog 6 #[.agg #[.bool d, .bool f, .int .i64 task, .slice q n cp], .string key] w (MadeFind (ansL LS key) w) := by
  have HL := Lib.hid h.1
  have hnm := h.2.1
  unfold maxLen at hnm
  have HP := Lib.hid hr
  obtain ⟨B, hB⟩ : ∃ B, w.heap.size = B := ⟨_, rfl⟩
  obtain ⟨w1, hw1⟩ : ∃ x, w.alloc (.cells #[.bool d, .bool f, .int .i64 task, .slice q n cp] 26) = x := ⟨_, rfl⟩
  have HB := Lib.hid (show Below w.heap.size w w1 from hw1 ▸ below_alloc (Below.refl _ _) _)
  have HR := Lib.hid (show Row w1 B 26 #[.bool d, .bool f, .int .i64 task, .slice q n cp] from by rw [← hw1, ← hB]; exact Row.new w _ _)
  have HO := Lib.hid (show OutsAt w1 q n LS from h.outs.keep HB.out)
  have hBl := Lib.hid HR.out.lt
  have k3 := HR.out.cell (j := 3) (by simp)
  simp at k3
  clear h hr
  go_enter Try.func6, Try.ntmps6
  go_wp2_with fail
  clear hB hw1
  have K3 := Lib.hid k3
  clear k3
  go_loopw [13] (fun i wr => ∃ k : Nat, k ≤ n ∧ i = .int .i64 k ∧ Hid (∀ x, x < k → findAux key (LS.getD x []) = (0, false)) ∧ Hid (Below w1.heap.size w1 wr)) (fun i _ => n - (intOf i).toNat)
  case atStart => exact ⟨0, Nat.zero_le _, rfl, fun x hx => by omega, Lib.hid (Below.refl _ _)⟩
  case round =>
    obtain ⟨k, hk, rfl, HF, HW⟩ := hrel
    by_cases hlt : k < n
    · rcases HO.out.src with hz | ⟨b, off, rfl, hb, hc⟩
      · omega
      · obtain ⟨p, m, c, c0, hre⟩ := hc k hlt
        have hkl : k < LS.length := by rw [HL.out]; exact hlt
        have HFB := Lib.hid (findB_run (key := key) (HP.out.run k hkl))
        have HRE := Lib.hid (hre.keep HW.out)
        have z0 := (HW.out.cell (p := ⟨b, off + k, none⟩) hb).trans c0
        have hk1 : (k : Int) < (n : Int) := by omega
        have hk0 : (0 : Int) ≤ (k : Int) := by omega
        have HKL := Lib.hid hkl
        obtain ⟨x, hx⟩ : ∃ x, (findB (LS.getD k []) key).1 = x := ⟨_, rfl⟩
        obtain ⟨y, hy⟩ : ∃ y, (findB (LS.getD k []) key).2 = y := ⟨_, rfl⟩
        have HE := Lib.hid (show findAux key (LS.getD k []) = (x, y) by rw [← HFB.out, ← hx, ← hy])
        have HX := Lib.hid hx
        have HYY := Lib.hid hy
        clear hc hre c0 hb hkl hx hy
        go_wp2_with fail
        refine (find_any _ _ _ _ key _ HRE.out).mono ?_
        unfold MadeFind
        rw [HX.out, HYY.out]
        rintro e w2 ⟨rfl, hB⟩
        have HW := Lib.hid (below_via HW.out hB)
        clear hB
        cases y with
        | true =>
          have HQ := Lib.hid (ans_hit HKL.out HF.out HE.out)
          go_wp2
          go_ret2
          exact ⟨ret_find HQ.out, below_via HB.out HW.out⟩
        | false =>
          have HNK := Lib.hid (show ∀ x, x < k + 1 → findAux key (LS.getD x []) = (0, false) from fun x hx => by
            rcases Nat.lt_or_ge x k with h | h
            · exact HF.out x h
            · obtain rfl : x = k := by omega
              exact findAux_pair (by rw [HE.out]))
          go_wp2
          go_roundw
          case rel => exact ⟨k + 1, by omega, by go_num, HNK, HW⟩
          case measure => simp [intOf]; omega
    · obtain rfl : k = n := by omega
      have HQ := Lib.hid (ans_none (by rw [HL.out]; exact HF.out))
      go_wp2
      go_ret2
      exact ⟨ret_find HQ.out, below_via HB.out HW.out⟩
end Go.Proofs.Ytjofbeokkainlaa
