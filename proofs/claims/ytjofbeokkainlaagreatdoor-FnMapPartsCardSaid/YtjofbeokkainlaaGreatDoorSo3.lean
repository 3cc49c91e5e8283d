
/- The library's partial insertion sort over such a row computes the plain one. -/
import Derived.Test.YtjofbeokkainlaaGreatDoorMg28
import Derived.Sort.LotA
namespace Go.Proofs.YtjofbeokkainlaaGreatDoor
open Go.ChangeShapes Go.WideShapes Go.ChangeAt Go.RowKit Go.Lib
open Go.Sort hiding Below
set_option linter.unusedVariables false
set_option maxRecDepth 100000
variable {R : RA → World → Prop} {ra : Option Addr} {rl rc n B : Nat}

theorem ss_go {d : RA} {b i : Nat} (h : i < b) (hl : ltR d[i]! d[i - 1]! = false) : scanSorted ltR d b i = scanSorted ltR d b (i + 1) := by
  rw [scanSorted, if_pos (by rw [hl, decide_eq_true h]; rfl)]
theorem ss_stop {d : RA} {b i : Nat} (h : ¬ i < b ∨ ltR d[i]! d[i - 1]! = true) : scanSorted ltR d b i = i := by
  rw [scanSorted, if_neg (by rcases h with h | h <;> simp [h])]
theorem sdn_go {j : Nat} {d : RA} (hj : 1 ≤ j) (hl : ltR d[j]! d[j - 1]! = true) : shiftDown ltR j d = shiftDown ltR (j - 1) (swp d j (j - 1)) := by
  cases j with
  | zero => omega
  | succ k =>
    rw [Nat.add_sub_cancel] at hl ⊢
    rw [shiftDown, hl]; rfl
theorem sdn_stop {j : Nat} {d : RA} (h : ¬ 1 ≤ j ∨ ltR d[j]! d[j - 1]! = false) : shiftDown ltR j d = d := by
  cases j with
  | zero => rw [shiftDown]
  | succ k =>
    rw [Nat.add_sub_cancel] at h
    rw [shiftDown]
    rcases h with h | h
    · omega
    · rw [h]; rfl
theorem sup_go {b j : Nat} {d : RA} (hj : j < b) (hl : ltR d[j]! d[j - 1]! = true) : shiftUp ltR b j d = shiftUp ltR b (j + 1) (swp d j (j - 1)) := by
  rw [shiftUp, if_pos hj, hl]; rfl
theorem sup_stop {b j : Nat} {d : RA} (h : ¬ j < b ∨ ltR d[j]! d[j - 1]! = false) : shiftUp ltR b j d = d := by
  rw [shiftUp]
  by_cases hj : j < b
  · rcases h with h | h
    · exact absurd hj h
    · rw [if_pos hj, h]; rfl
  · rw [if_neg hj]
theorem pins_true {a b s i : Nat} {d : RA} (hs : s < 5) (hK : scanSorted ltR d b i = b) : partialIns ltR a b (5 - s) i d = (d, true) := by
  rw [show 5 - s = (4 - s) + 1 by omega, partialIns_succ, if_pos hK]
theorem pins_short {a b s i k : Nat} {d : RA} (hs : s < 5) (hK : scanSorted ltR d b i = k) (hk : k ≠ b) (h50 : b - a < 50) : partialIns ltR a b (5 - s) i d = (d, false) := by
  rw [show 5 - s = (4 - s) + 1 by omega, partialIns_succ, hK, if_neg hk, if_pos h50]
theorem pins_go {a b s i k : Nat} {d : RA} (hs : s < 5) (hK : scanSorted ltR d b i = k) (hkb : k ≠ b) (h50 : ¬ b - a < 50) :
    partialIns ltR a b (5 - s) i d = partialIns ltR a b (5 - (s + 1)) k (fixUp ltR b k (fixDown ltR a k (swp d k (k - 1)))) := by
  rw [show 5 - s = (4 - s) + 1 by omega, partialIns_succ, hK, if_neg hkb, if_neg h50, show 5 - (s + 1) = 4 - s by omega]

set_option maxHeartbeats 16000000 in
theorem pins_any (S : SortRow R ra rl rc n B) (a b : Nat) (V : RA) (w : World) (h : R V w) (hab : a < b) (hb : b ≤ n) (hn : n < 4611686018427387904) :
    Calls Tryz.prog 98 #[.iface 78 (.slice ra rl rc), .int .i64 a, .int .i64 b] w (EndR R (.bool (partialInsertionSort ltR V a b).2) (partialInsertionSort ltR V a b).1) := by
  have m1 := method_less ra rl rc
  have m2 := method_swap ra rl rc
  obtain ⟨X, hX⟩ : ∃ X, partialInsertionSort ltR V a b = X := ⟨_, rfl⟩
  have HX := Lib.hid (show partialIns ltR a b 5 (a + 1) V = X from hX)
  have H := Lib.hid h
  rw [hX]
  clear h hX
  go_enter Tryz.func98, Tryz.ntmps98
  go_wp2
  go_loopw [7, 8] (fun vi vs wr => ∃ (i s : Nat) (dk : RA), vi = .int .i64 i ∧ vs = .int .i64 s ∧ s ≤ 5 ∧ a < i ∧ i ≤ b ∧ Hid (R dk wr ∧ partialIns ltR a b (5 - s) i dk = X)) (fun _ vs _ => 5 - (intOf vs).toNat)
  case atStart => exact ⟨a + 1, 0, V, by go_num, rfl, by omega, by omega, by omega, H.out, HX.out⟩
  case round =>
    clear H HX
    obtain ⟨i, s, dk, rfl, rfl, hs5, hai, hib, HO⟩ := hrel
    by_cases hs : s < 5
    · have hsz5 : (s : Int) < 5 := by omega
      go_wp2
      go_loopw [7] (fun vi wr2 => ∃ (kx : Nat), vi = .int .i64 kx ∧ i ≤ kx ∧ kx ≤ b ∧ Hid (R dk wr2 ∧ scanSorted ltR dk b kx = scanSorted ltR dk b i)) (fun vi _ => b - (intOf vi).toNat)
      case atStart => exact ⟨i, rfl, Nat.le_refl _, hib, HO.out.1, rfl⟩
      case round =>
        obtain ⟨kx, rfl, hik, hkb, HS⟩ := hrel
        by_cases hkb' : kx < b
        · have hkz : (kx : Int) < (b : Int) := by omega
          cases hlv : ltR dk[kx]! dk[kx - 1]! with
          | false =>
            have hl := S.lessZ kx (kx - 1) (kx : Int) ((kx : Int) - 1) false HS.out.1 (by omega) (by omega) rfl (by omega) hlv
            have HV := Lib.hid hlv
            clear hlv
            go_wp2_with (go_at_call 220; refine hl.mono ?_; rintro e w' ⟨rfl, hR⟩; have HR := Lib.hid hR; clear hR hl)
            go_roundw
            case rel => exact ⟨kx + 1, by go_num, by omega, by omega, HR.out, (ss_go hkb' HV.out).symm.trans HS.out.2⟩
            case measure => simp [intOf]; omega
          | true =>
            have hl := S.lessZ kx (kx - 1) (kx : Int) ((kx : Int) - 1) true HS.out.1 (by omega) (by omega) rfl (by omega) hlv
            have HK := Lib.hid (show scanSorted ltR dk b i = kx by rw [← HS.out.2, ss_stop (Or.inr hlv)])
            have hkne : ((kx : Int) == (b : Int)) = false := beq_eq_false_iff_ne.2 (by omega)
            have hkne2 : ¬ ((kx : Int) = (b : Int)) := by omega
            clear hlv
            by_cases h50 : b - a < 50
            · have h50z : (b : Int) - (a : Int) < 50 := by omega
              go_wp2_with (go_at_call 220; refine hl.mono ?_; rintro e w' ⟨rfl, hR⟩; have HR := Lib.hid hR; clear hR hl)
              go_ret
              have e : X = (dk, false) := by rw [← HO.out.2, pins_short hs HK.out (by omega) h50]
              rw [e]
              exact ⟨rfl, HR.out⟩
            · have h50z : ¬ ((b : Int) - (a : Int) < 50) := by omega
              by_cases hka : kx - a ≥ 2
              · have hkaz : (2 : Int) ≤ (kx : Int) - (a : Int) := by omega
                go_wp2_with (first
                  | (go_at_call 220; refine hl.mono ?_; rintro e w' ⟨rfl, hR⟩; have hsw := S.swapZ kx (kx - 1) (kx : Int) ((kx : Int) - 1) hR (by omega) (by omega) rfl (by omega); clear hR hl)
                  | (go_at_call 221; refine hsw.mono ?_; rintro e w2 ⟨rfl, hR⟩; have HR := Lib.hid hR; clear hR hsw))
                go_loopw [9] (fun vj wr3 => ∃ (j : Nat) (dj : RA), vj = .int .i64 j ∧ j ≤ kx - 1 ∧ Hid (R dj wr3 ∧ shiftDown ltR j dj = shiftDown ltR (kx - 1) (swp dk kx (kx - 1)))) (fun vj _ => (intOf vj).toNat)
                case atStart => exact ⟨kx - 1, _, by congr 1; omega, Nat.le_refl _, HR.out, rfl⟩
                case round =>
                  clear HR
                  obtain ⟨j, dj, rfl, hjk, HJ⟩ := hrel
                  by_cases hgo : 1 ≤ j ∧ ltR dj[j]! dj[j - 1]! = true
                  · obtain ⟨hj1, hlv2⟩ := hgo
                    have hj1z : (1 : Int) ≤ (j : Int) := by omega
                    have hl := S.lessZ j (j - 1) (j : Int) ((j : Int) - 1) true HJ.out.1 (by omega) (by omega) rfl (by omega) hlv2
                    have HV := Lib.hid hlv2
                    clear hlv2
                    go_wp2_with (first
                      | (go_at_call 220; refine hl.mono ?_; rintro e w' ⟨rfl, hR⟩; have hsw := S.swapZ j (j - 1) (j : Int) ((j : Int) - 1) hR (by omega) (by omega) rfl (by omega); clear hR hl)
                      | (go_at_call 221; refine hsw.mono ?_; rintro e w2 ⟨rfl, hR⟩; have HR := Lib.hid hR; clear hR hsw))
                    go_roundw
                    case rel => exact ⟨j - 1, swp dj j (j - 1), by congr 1; omega, by omega, HR.out, (sdn_go hj1 HV.out).symm.trans HJ.out.2⟩
                    case measure => simp [intOf]; omega
                  · have HD := Lib.hid (show fixDown ltR a kx (swp dk kx (kx - 1)) = dj by
                      unfold fixDown
                      rw [if_pos hka, ← HJ.out.2, sdn_stop]
                      by_cases hx : 1 ≤ j
                      · right
                        cases hlv3 : ltR dj[j]! dj[j - 1]! with
                        | false => rfl
                        | true => exact absurd ⟨hx, hlv3⟩ hgo
                      · exact .inl hx)
                    by_cases hbk : b - kx ≥ 2
                    · have hbkz : (2 : Int) ≤ (b : Int) - (kx : Int) := by omega
                      by_cases hx : 1 ≤ j
                      case' pos =>
                        have hj1z : (1 : Int) ≤ (j : Int) := by omega
                        have hlv2 : ltR dj[j]! dj[j - 1]! = false := by
                          cases hlv3 : ltR dj[j]! dj[j - 1]! with
                          | false => rfl
                          | true => exact absurd ⟨hx, hlv3⟩ hgo
                        have hl := S.lessZ j (j - 1) (j : Int) ((j : Int) - 1) false HJ.out.1 (by omega) (by omega) rfl (by omega) hlv2
                        clear hlv2 hgo
                        go_wp2_with (go_at_call 220; refine hl.mono ?_; rintro e w' ⟨rfl, hR⟩; have HR := Lib.hid hR; clear hR hl)
                      case' neg =>
                        have hj1z : ¬ (1 : Int) ≤ (j : Int) := by omega
                        have HR := Lib.hid HJ.out.1
                        clear hgo
                        go_wp2
                      all_goals
                        go_loopw [10] (fun vj wr4 => ∃ (ju : Nat) (du : RA), vj = .int .i64 ju ∧ kx + 1 ≤ ju ∧ ju ≤ b ∧ Hid (R du wr4 ∧ shiftUp ltR b ju du = shiftUp ltR b (kx + 1) dj)) (fun vj _ => b - (intOf vj).toNat)
                        case atStart => exact ⟨kx + 1, dj, by go_num, Nat.le_refl _, by omega, HR.out, rfl⟩
                        case round =>
                          obtain ⟨ju, du, rfl, hkj, hjb, HU⟩ := hrel
                          clear HR
                          by_cases hgo2 : ju < b ∧ ltR du[ju]! du[ju - 1]! = true
                          · obtain ⟨hlt2, hlv3⟩ := hgo2
                            have hltz2 : (ju : Int) < (b : Int) := by omega
                            have hl := S.lessZ ju (ju - 1) (ju : Int) ((ju : Int) - 1) true HU.out.1 (by omega) (by omega) rfl (by omega) hlv3
                            have HV := Lib.hid hlv3
                            clear hlv3
                            go_wp2_with (first
                              | (go_at_call 220; refine hl.mono ?_; rintro e w' ⟨rfl, hR⟩; have hs := S.swapZ ju (ju - 1) (ju : Int) ((ju : Int) - 1) hR (by omega) (by omega) rfl (by omega); clear hR hl)
                              | (go_at_call 221; refine hs.mono ?_; rintro e w2 ⟨rfl, hR⟩; have HR := Lib.hid hR; clear hR hs))
                            go_roundw
                            case rel => exact ⟨ju + 1, swp du ju (ju - 1), by go_num, by omega, by omega, HR.out, (sup_go hlt2 HV.out).symm.trans HU.out.2⟩
                            case measure => simp [intOf]; omega
                          · have HF := Lib.hid (show fixUp ltR b kx dj = du by
                              unfold fixUp
                              rw [if_pos hbk, ← HU.out.2, sup_stop]
                              by_cases hx : ju < b
                              · right
                                cases hlv3 : ltR du[ju]! du[ju - 1]! with
                                | false => rfl
                                | true => exact absurd ⟨hx, hlv3⟩ hgo2
                              · exact .inl hx)
                            have HN := Lib.hid (show partialIns ltR a b (5 - (s + 1)) kx du = X by rw [← HO.out.2, pins_go hs HK.out (by omega) h50, ← HF.out, ← HD.out])
                            by_cases hx : ju < b
                            case' pos =>
                              have hltz2 : (ju : Int) < (b : Int) := by omega
                              have hlv3 : ltR du[ju]! du[ju - 1]! = false := by
                                cases hlv3 : ltR du[ju]! du[ju - 1]! with
                                | false => rfl
                                | true => exact absurd ⟨hx, hlv3⟩ hgo2
                              have hl := S.lessZ ju (ju - 1) (ju : Int) ((ju : Int) - 1) false HU.out.1 (by omega) (by omega) rfl (by omega) hlv3
                              clear hlv3 hgo2
                              go_wp2_with (go_at_call 220; refine hl.mono ?_; rintro e w' ⟨rfl, hR⟩; have HR := Lib.hid hR; clear hR hl)
                            case' neg =>
                              have hltz2 : ¬ (ju : Int) < (b : Int) := by omega
                              have HR := Lib.hid HU.out.1
                              clear hgo2
                              go_wp2
                            all_goals
                              go_roundw
                              case rel => exact ⟨kx, s + 1, du, rfl, by go_num, by omega, by omega, by omega, HR.out, HN.out⟩
                              case measure => simp [intOf]; omega
                    · have hbkz : ¬ (2 : Int) ≤ (b : Int) - (kx : Int) := by omega
                      have HN := Lib.hid (show partialIns ltR a b (5 - (s + 1)) kx dj = X by
                        rw [← HO.out.2, pins_go hs HK.out (by omega) h50, HD.out]
                        unfold fixUp
                        rw [if_neg hbk])
                      by_cases hx : 1 ≤ j
                      case' pos =>
                        have hj1z : (1 : Int) ≤ (j : Int) := by omega
                        have hlv2 : ltR dj[j]! dj[j - 1]! = false := by
                          cases hlv3 : ltR dj[j]! dj[j - 1]! with
                          | false => rfl
                          | true => exact absurd ⟨hx, hlv3⟩ hgo
                        have hl := S.lessZ j (j - 1) (j : Int) ((j : Int) - 1) false HJ.out.1 (by omega) (by omega) rfl (by omega) hlv2
                        clear hlv2 hgo
                        go_wp2_with (go_at_call 220; refine hl.mono ?_; rintro e w' ⟨rfl, hR⟩; have HR := Lib.hid hR; clear hR hl)
                      case' neg =>
                        have hj1z : ¬ (1 : Int) ≤ (j : Int) := by omega
                        have HR := Lib.hid HJ.out.1
                        clear hgo
                        go_wp2
                      all_goals
                        go_roundw
                        case rel => exact ⟨kx, s + 1, dj, rfl, by go_num, by omega, by omega, by omega, HR.out, HN.out⟩
                        case measure => simp [intOf]; omega
              · have hkaz : ¬ (2 : Int) ≤ (kx : Int) - (a : Int) := by omega
                have hbk : b - kx ≥ 2 := by omega
                have hbkz : (2 : Int) ≤ (b : Int) - (kx : Int) := by omega
                obtain ⟨dj, hdj⟩ : ∃ dj, swp dk kx (kx - 1) = dj := ⟨_, rfl⟩
                have HD := Lib.hid (show fixDown ltR a kx (swp dk kx (kx - 1)) = dj by
                  unfold fixDown
                  rw [if_neg hka, hdj])
                have HDJ := Lib.hid hdj
                clear hdj
                go_wp2_with (first
                  | (go_at_call 220; refine hl.mono ?_; rintro e w' ⟨rfl, hR⟩; have hsw := S.swapZ kx (kx - 1) (kx : Int) ((kx : Int) - 1) hR (by omega) (by omega) rfl (by omega); clear hR hl)
                  | (go_at_call 221; refine hsw.mono ?_; rintro e w2 ⟨rfl, hR⟩; have HR := Lib.hid (HDJ.out ▸ hR); clear hR hsw))
                go_loopw [10] (fun vj wr4 => ∃ (ju : Nat) (du : RA), vj = .int .i64 ju ∧ kx + 1 ≤ ju ∧ ju ≤ b ∧ Hid (R du wr4 ∧ shiftUp ltR b ju du = shiftUp ltR b (kx + 1) dj)) (fun vj _ => b - (intOf vj).toNat)
                case atStart => exact ⟨kx + 1, dj, by go_num, Nat.le_refl _, by omega, HR.out, rfl⟩
                case round =>
                  obtain ⟨ju, du, rfl, hkj, hjb, HU⟩ := hrel
                  clear HR
                  by_cases hgo2 : ju < b ∧ ltR du[ju]! du[ju - 1]! = true
                  · obtain ⟨hlt2, hlv3⟩ := hgo2
                    have hltz2 : (ju : Int) < (b : Int) := by omega
                    have hl := S.lessZ ju (ju - 1) (ju : Int) ((ju : Int) - 1) true HU.out.1 (by omega) (by omega) rfl (by omega) hlv3
                    have HV := Lib.hid hlv3
                    clear hlv3
                    go_wp2_with (first
                      | (go_at_call 220; refine hl.mono ?_; rintro e w' ⟨rfl, hR⟩; have hs := S.swapZ ju (ju - 1) (ju : Int) ((ju : Int) - 1) hR (by omega) (by omega) rfl (by omega); clear hR hl)
                      | (go_at_call 221; refine hs.mono ?_; rintro e w2 ⟨rfl, hR⟩; have HR := Lib.hid hR; clear hR hs))
                    go_roundw
                    case rel => exact ⟨ju + 1, swp du ju (ju - 1), by go_num, by omega, by omega, HR.out, (sup_go hlt2 HV.out).symm.trans HU.out.2⟩
                    case measure => simp [intOf]; omega
                  · have HF := Lib.hid (show fixUp ltR b kx dj = du by
                      unfold fixUp
                      rw [if_pos hbk, ← HU.out.2, sup_stop]
                      by_cases hx : ju < b
                      · right
                        cases hlv3 : ltR du[ju]! du[ju - 1]! with
                        | false => rfl
                        | true => exact absurd ⟨hx, hlv3⟩ hgo2
                      · exact .inl hx)
                    have HN := Lib.hid (show partialIns ltR a b (5 - (s + 1)) kx du = X by rw [← HO.out.2, pins_go hs HK.out (by omega) h50, ← HF.out, ← HD.out])
                    by_cases hx : ju < b
                    case' pos =>
                      have hltz2 : (ju : Int) < (b : Int) := by omega
                      have hlv3 : ltR du[ju]! du[ju - 1]! = false := by
                        cases hlv3 : ltR du[ju]! du[ju - 1]! with
                        | false => rfl
                        | true => exact absurd ⟨hx, hlv3⟩ hgo2
                      have hl := S.lessZ ju (ju - 1) (ju : Int) ((ju : Int) - 1) false HU.out.1 (by omega) (by omega) rfl (by omega) hlv3
                      clear hlv3 hgo2
                      go_wp2_with (go_at_call 220; refine hl.mono ?_; rintro e w' ⟨rfl, hR⟩; have HR := Lib.hid hR; clear hR hl)
                    case' neg =>
                      have hltz2 : ¬ (ju : Int) < (b : Int) := by omega
                      have HR := Lib.hid HU.out.1
                      clear hgo2
                      go_wp2
                    all_goals
                      go_roundw
                      case rel => exact ⟨kx, s + 1, du, rfl, by go_num, by omega, by omega, by omega, HR.out, HN.out⟩
                      case measure => simp [intOf]; omega
        · obtain rfl : kx = b := by omega
          have hkz : ¬ (kx : Int) < (kx : Int) := by omega
          go_wp2
          go_ret
          have e : X = (dk, true) := by rw [← HO.out.2, pins_true hs (by rw [← HS.out.2, ss_stop (Or.inl (by omega))])]
          rw [e]
          exact ⟨rfl, HS.out.1⟩
    · obtain rfl : s = 5 := by omega
      go_wp2
      go_ret
      have e : X = (dk, false) := by rw [← HO.out.2]; rfl
      rw [e]
      exact ⟨rfl, HO.out.1⟩
end Go.Proofs.YtjofbeokkainlaaGreatDoor
