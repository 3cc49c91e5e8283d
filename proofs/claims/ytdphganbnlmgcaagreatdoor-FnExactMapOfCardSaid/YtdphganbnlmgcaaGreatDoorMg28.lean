/- Texts put together, as a claim holds at most sixty files. -/
import Derived.Test.YtdphganbnlmgcaaGreatDoorMg26
import Derived.Sort.LotA
import Derived.Test.YtdphganbnlmgcaaGreatDoorShelf
import Derived.Sort.LotD1
namespace Go.Proofs.YtdphganbnlmgcaaGreatDoor
open Go.ChangeShapes Go.WideShapes Go.ChangeAt Go.RowKit Go.Lib
open Go.Sort hiding Below
set_option linter.unusedVariables false
set_option maxRecDepth 100000
variable {R : RA → World → Prop} {ra : Option Addr} {rl rc n B : Nat}

theorem ss_go {d : RA} {b i : Nat} (h : i < b) (hl : ltR d[i]! d[i - 1]! = false) : scanSorted ltR d b i = scanSorted ltR d b (i + 1) := by
  rw [scanSorted, if_pos (by rw [hl, decide_eq_true h]; rfl)]
theorem ss_stop {d : RA} {b i : Nat} (h : ¬ i < b ∨ ltR d[i]! d[i - 1]! = true) : scanSorted ltR d b i = i := by
  rw [scanSorted, if_neg (by rcases h with h | h <;> simp [h])]
theorem sdn_go {j : Nat} {d : RA} (hj : 1 ≤ j) (hl : ltR d[j]! d[j - 1]! = true) : shiftDown ltR j d = shiftDown ltR (j - 1) (swp d j (j - 1)) := by
  cases j with
  | zero => omega
  | succ k =>
    rw [Nat.add_sub_cancel] at hl ⊢
    rw [shiftDown, hl]; rfl
theorem sdn_stop {j : Nat} {d : RA} (h : ¬ 1 ≤ j ∨ ltR d[j]! d[j - 1]! = false) : shiftDown ltR j d = d := by
  cases j with
  | zero => rw [shiftDown]
  | succ k =>
    rw [Nat.add_sub_cancel] at h
    rw [shiftDown]
    rcases h with h | h
    · omega
    · rw [h]; rfl
theorem sup_go {b j : Nat} {d : RA} (hj : j < b) (hl : ltR d[j]! d[j - 1]! = true) : shiftUp ltR b j d = shiftUp ltR b (j + 1) (swp d j (j - 1)) := by
  rw [shiftUp, if_pos hj, hl]; rfl
theorem sup_stop {b j : Nat} {d : RA} (h : ¬ j < b ∨ ltR d[j]! d[j - 1]! = false) : shiftUp ltR b j d = d := by
  rw [shiftUp]
  by_cases hj : j < b
  · rcases h with h | h
    · exact absurd hj h
    · rw [if_pos hj, h]; rfl
  · rw [if_neg hj]
theorem pins_true {a b s i : Nat} {d : RA} (hs : s < 5) (hK : scanSorted ltR d b i = b) : partialIns ltR a b (5 - s) i d = (d, true) := by
  rw [show 5 - s = (4 - s) + 1 by omega, partialIns_succ, if_pos hK]
theorem pins_short {a b s i k : Nat} {d : RA} (hs : s < 5) (hK : scanSorted ltR d b i = k) (hk : k ≠ b) (h50 : b - a < 50) : partialIns ltR a b (5 - s) i d = (d, false) := by
  rw [show 5 - s = (4 - s) + 1 by omega, partialIns_succ, hK, if_neg hk, if_pos h50]
theorem pins_go {a b s i k : Nat} {d : RA} (hs : s < 5) (hK : scanSorted ltR d b i = k) (hkb : k ≠ b) (h50 : ¬ b - a < 50) :
    partialIns ltR a b (5 - s) i d = partialIns ltR a b (5 - (s + 1)) k (fixUp ltR b k (fixDown ltR a k (swp d k (k - 1)))) := by
  rw [show 5 - s = (4 - s) + 1 by omega, partialIns_succ, hK, if_neg hkb, if_neg h50, show 5 - (s + 1) = 4 - s by omega]

set_option maxHeartbeats 16000000 in
theorem pins_any (S : SortRow R ra rl rc n B) (a b : Nat) (V : RA) (w : World) (h : R V w) (hab : a < b) (hb : b ≤ n) (hn : n < 4611686018427387904) :
    Calls Tryz.prog 108 #[.iface 131 (.slice ra rl rc), .int .i64 a, .int .i64 b] w (EndR R (.bool (partialInsertionSort ltR V a b).2) (partialInsertionSort ltR V a b).1) := by
  have m1 := method_less ra rl rc
  have m2 := method_swap ra rl rc
  obtain ⟨X, hX⟩ : ∃ X, partialInsertionSort ltR V a b = X := ⟨_, rfl⟩
  have HX := Lib.hid (show partialIns ltR a b 5 (a + 1) V = X from hX)
  have H := Lib.hid h
  rw [hX]
  clear h hX
  go_enter Tryz.func108, Tryz.ntmps108
  go_wp2
  go_loopw [7, 8] (fun vi vs wr => ∃ (i s : Nat) (dk : RA), vi = .int .i64 i ∧ vs = .int .i64 s ∧ s ≤ 5 ∧ a < i ∧ i ≤ b ∧ Hid (R dk wr ∧ partialIns ltR a b (5 - s) i dk = X)) (fun _ vs _ => 5 - (intOf vs).toNat)
  case atStart => exact ⟨a + 1, 0, V, by go_num, rfl, by omega, by omega, by omega, H.out, HX.out⟩
  case round =>
    clear H HX
    obtain ⟨i, s, dk, rfl, rfl, hs5, hai, hib, HO⟩ := hrel
    by_cases hs : s < 5
    · have hsz5 : (s : Int) < 5 := by omega
      go_wp2
      go_loopw [7] (fun vi wr2 => ∃ (kx : Nat), vi = .int .i64 kx ∧ i ≤ kx ∧ kx ≤ b ∧ Hid (R dk wr2 ∧ scanSorted ltR dk b kx = scanSorted ltR dk b i)) (fun vi _ => b - (intOf vi).toNat)
      case atStart => exact ⟨i, rfl, Nat.le_refl _, hib, HO.out.1, rfl⟩
      case round =>
        obtain ⟨kx, rfl, hik, hkb, HS⟩ := hrel
        by_cases hkb' : kx < b
        · have hkz : (kx : Int) < (b : Int) := by omega
          cases hlv : ltR dk[kx]! dk[kx - 1]! with
          | false =>
            have hl := S.lessZ kx (kx - 1) (kx : Int) ((kx : Int) - 1) false HS.out.1 (by omega) (by omega) rfl (by omega) hlv
            have HV := Lib.hid hlv
            clear hlv
            go_wp2_with (go_at_call 217; refine hl.mono ?_; rintro e w' ⟨rfl, hR⟩; have HR := Lib.hid hR; clear hR hl)
            go_roundw
            case rel => exact ⟨kx + 1, by go_num, by omega, by omega, HR.out, (ss_go hkb' HV.out).symm.trans HS.out.2⟩
            case measure => simp [intOf]; omega
          | true =>
            have hl := S.lessZ kx (kx - 1) (kx : Int) ((kx : Int) - 1) true HS.out.1 (by omega) (by omega) rfl (by omega) hlv
            have HK := Lib.hid (show scanSorted ltR dk b i = kx by rw [← HS.out.2, ss_stop (Or.inr hlv)])
            have hkne : ((kx : Int) == (b : Int)) = false := beq_eq_false_iff_ne.2 (by omega)
            have hkne2 : ¬ ((kx : Int) = (b : Int)) := by omega
            clear hlv
            by_cases h50 : b - a < 50
            · have h50z : (b : Int) - (a : Int) < 50 := by omega
              go_wp2_with (go_at_call 217; refine hl.mono ?_; rintro e w' ⟨rfl, hR⟩; have HR := Lib.hid hR; clear hR hl)
              go_ret
              have e : X = (dk, false) := by rw [← HO.out.2, pins_short hs HK.out (by omega) h50]
              rw [e]
              exact ⟨rfl, HR.out⟩
            · have h50z : ¬ ((b : Int) - (a : Int) < 50) := by omega
              by_cases hka : kx - a ≥ 2
              · have hkaz : (2 : Int) ≤ (kx : Int) - (a : Int) := by omega
                go_wp2_with (first
                  | (go_at_call 217; refine hl.mono ?_; rintro e w' ⟨rfl, hR⟩; have hsw := S.swapZ kx (kx - 1) (kx : Int) ((kx : Int) - 1) hR (by omega) (by omega) rfl (by omega); clear hR hl)
                  | (go_at_call 218; refine hsw.mono ?_; rintro e w2 ⟨rfl, hR⟩; have HR := Lib.hid hR; clear hR hsw))
                go_loopw [9] (fun vj wr3 => ∃ (j : Nat) (dj : RA), vj = .int .i64 j ∧ j ≤ kx - 1 ∧ Hid (R dj wr3 ∧ shiftDown ltR j dj = shiftDown ltR (kx - 1) (swp dk kx (kx - 1)))) (fun vj _ => (intOf vj).toNat)
                case atStart => exact ⟨kx - 1, _, by congr 1; omega, Nat.le_refl _, HR.out, rfl⟩
                case round =>
                  clear HR
                  obtain ⟨j, dj, rfl, hjk, HJ⟩ := hrel
                  by_cases hgo : 1 ≤ j ∧ ltR dj[j]! dj[j - 1]! = true
                  · obtain ⟨hj1, hlv2⟩ := hgo
                    have hj1z : (1 : Int) ≤ (j : Int) := by omega
                    have hl := S.lessZ j (j - 1) (j : Int) ((j : Int) - 1) true HJ.out.1 (by omega) (by omega) rfl (by omega) hlv2
                    have HV := Lib.hid hlv2
                    clear hlv2
                    go_wp2_with (first
                      | (go_at_call 217; refine hl.mono ?_; rintro e w' ⟨rfl, hR⟩; have hsw := S.swapZ j (j - 1) (j : Int) ((j : Int) - 1) hR (by omega) (by omega) rfl (by omega); clear hR hl)
                      | (go_at_call 218; refine hsw.mono ?_; rintro e w2 ⟨rfl, hR⟩; have HR := Lib.hid hR; clear hR hsw))
                    go_roundw
                    case rel => exact ⟨j - 1, swp dj j (j - 1), by congr 1; omega, by omega, HR.out, (sdn_go hj1 HV.out).symm.trans HJ.out.2⟩
                    case measure => simp [intOf]; omega
                  · have HD := Lib.hid (show fixDown ltR a kx (swp dk kx (kx - 1)) = dj by
                      unfold fixDown
                      rw [if_pos hka, ← HJ.out.2, sdn_stop]
                      by_cases hx : 1 ≤ j
                      · right
                        cases hlv3 : ltR dj[j]! dj[j - 1]! with
                        | false => rfl
                        | true => exact absurd ⟨hx, hlv3⟩ hgo
                      · exact .inl hx)
                    by_cases hbk : b - kx ≥ 2
                    · have hbkz : (2 : Int) ≤ (b : Int) - (kx : Int) := by omega
                      by_cases hx : 1 ≤ j
                      case' pos =>
                        have hj1z : (1 : Int) ≤ (j : Int) := by omega
                        have hlv2 : ltR dj[j]! dj[j - 1]! = false := by
                          cases hlv3 : ltR dj[j]! dj[j - 1]! with
                          | false => rfl
                          | true => exact absurd ⟨hx, hlv3⟩ hgo
                        have hl := S.lessZ j (j - 1) (j : Int) ((j : Int) - 1) false HJ.out.1 (by omega) (by omega) rfl (by omega) hlv2
                        clear hlv2 hgo
                        go_wp2_with (go_at_call 217; refine hl.mono ?_; rintro e w' ⟨rfl, hR⟩; have HR := Lib.hid hR; clear hR hl)
                      case' neg =>
                        have hj1z : ¬ (1 : Int) ≤ (j : Int) := by omega
                        have HR := Lib.hid HJ.out.1
                        clear hgo
                        go_wp2
                      all_goals
                        go_loopw [10] (fun vj wr4 => ∃ (ju : Nat) (du : RA), vj = .int .i64 ju ∧ kx + 1 ≤ ju ∧ ju ≤ b ∧ Hid (R du wr4 ∧ shiftUp ltR b ju du = shiftUp ltR b (kx + 1) dj)) (fun vj _ => b - (intOf vj).toNat)
                        case atStart => exact ⟨kx + 1, dj, by go_num, Nat.le_refl _, by omega, HR.out, rfl⟩
                        case round =>
                          obtain ⟨ju, du, rfl, hkj, hjb, HU⟩ := hrel
                          clear HR
                          by_cases hgo2 : ju < b ∧ ltR du[ju]! du[ju - 1]! = true
                          · obtain ⟨hlt2, hlv3⟩ := hgo2
                            have hltz2 : (ju : Int) < (b : Int) := by omega
                            have hl := S.lessZ ju (ju - 1) (ju : Int) ((ju : Int) - 1) true HU.out.1 (by omega) (by omega) rfl (by omega) hlv3
                            have HV := Lib.hid hlv3
                            clear hlv3
                            go_wp2_with (first
                              | (go_at_call 217; refine hl.mono ?_; rintro e w' ⟨rfl, hR⟩; have hs := S.swapZ ju (ju - 1) (ju : Int) ((ju : Int) - 1) hR (by omega) (by omega) rfl (by omega); clear hR hl)
                              | (go_at_call 218; refine hs.mono ?_; rintro e w2 ⟨rfl, hR⟩; have HR := Lib.hid hR; clear hR hs))
                            go_roundw
                            case rel => exact ⟨ju + 1, swp du ju (ju - 1), by go_num, by omega, by omega, HR.out, (sup_go hlt2 HV.out).symm.trans HU.out.2⟩
                            case measure => simp [intOf]; omega
                          · have HF := Lib.hid (show fixUp ltR b kx dj = du by
                              unfold fixUp
                              rw [if_pos hbk, ← HU.out.2, sup_stop]
                              by_cases hx : ju < b
                              · right
                                cases hlv3 : ltR du[ju]! du[ju - 1]! with
                                | false => rfl
                                | true => exact absurd ⟨hx, hlv3⟩ hgo2
                              · exact .inl hx)
                            have HN := Lib.hid (show partialIns ltR a b (5 - (s + 1)) kx du = X by rw [← HO.out.2, pins_go hs HK.out (by omega) h50, ← HF.out, ← HD.out])
                            by_cases hx : ju < b
                            case' pos =>
                              have hltz2 : (ju : Int) < (b : Int) := by omega
                              have hlv3 : ltR du[ju]! du[ju - 1]! = false := by
                                cases hlv3 : ltR du[ju]! du[ju - 1]! with
                                | false => rfl
                                | true => exact absurd ⟨hx, hlv3⟩ hgo2
                              have hl := S.lessZ ju (ju - 1) (ju : Int) ((ju : Int) - 1) false HU.out.1 (by omega) (by omega) rfl (by omega) hlv3
                              clear hlv3 hgo2
                              go_wp2_with (go_at_call 217; refine hl.mono ?_; rintro e w' ⟨rfl, hR⟩; have HR := Lib.hid hR; clear hR hl)
                            case' neg =>
                              have hltz2 : ¬ (ju : Int) < (b : Int) := by omega
                              have HR := Lib.hid HU.out.1
                              clear hgo2
                              go_wp2
                            all_goals
                              go_roundw
                              case rel => exact ⟨kx, s + 1, du, rfl, by go_num, by omega, by omega, by omega, HR.out, HN.out⟩
                              case measure => simp [intOf]; omega
                    · have hbkz : ¬ (2 : Int) ≤ (b : Int) - (kx : Int) := by omega
                      have HN := Lib.hid (show partialIns ltR a b (5 - (s + 1)) kx dj = X by
                        rw [← HO.out.2, pins_go hs HK.out (by omega) h50, HD.out]
                        unfold fixUp
                        rw [if_neg hbk])
                      by_cases hx : 1 ≤ j
                      case' pos =>
                        have hj1z : (1 : Int) ≤ (j : Int) := by omega
                        have hlv2 : ltR dj[j]! dj[j - 1]! = false := by
                          cases hlv3 : ltR dj[j]! dj[j - 1]! with
                          | false => rfl
                          | true => exact absurd ⟨hx, hlv3⟩ hgo
                        have hl := S.lessZ j (j - 1) (j : Int) ((j : Int) - 1) false HJ.out.1 (by omega) (by omega) rfl (by omega) hlv2
                        clear hlv2 hgo
                        go_wp2_with (go_at_call 217; refine hl.mono ?_; rintro e w' ⟨rfl, hR⟩; have HR := Lib.hid hR; clear hR hl)
                      case' neg =>
                        have hj1z : ¬ (1 : Int) ≤ (j : Int) := by omega
                        have HR := Lib.hid HJ.out.1
                        clear hgo
                        go_wp2
                      all_goals
                        go_roundw
                        case rel => exact ⟨kx, s + 1, dj, rfl, by go_num, by omega, by omega, by omega, HR.out, HN.out⟩
                        case measure => simp [intOf]; omega
              · have hkaz : ¬ (2 : Int) ≤ (kx : Int) - (a : Int) := by omega
                have hbk : b - kx ≥ 2 := by omega
                have hbkz : (2 : Int) ≤ (b : Int) - (kx : Int) := by omega
                obtain ⟨dj, hdj⟩ : ∃ dj, swp dk kx (kx - 1) = dj := ⟨_, rfl⟩
                have HD := Lib.hid (show fixDown ltR a kx (swp dk kx (kx - 1)) = dj by
                  unfold fixDown
                  rw [if_neg hka, hdj])
                have HDJ := Lib.hid hdj
                clear hdj
                go_wp2_with (first
                  | (go_at_call 217; refine hl.mono ?_; rintro e w' ⟨rfl, hR⟩; have hsw := S.swapZ kx (kx - 1) (kx : Int) ((kx : Int) - 1) hR (by omega) (by omega) rfl (by omega); clear hR hl)
                  | (go_at_call 218; refine hsw.mono ?_; rintro e w2 ⟨rfl, hR⟩; have HR := Lib.hid (HDJ.out ▸ hR); clear hR hsw))
                go_loopw [10] (fun vj wr4 => ∃ (ju : Nat) (du : RA), vj = .int .i64 ju ∧ kx + 1 ≤ ju ∧ ju ≤ b ∧ Hid (R du wr4 ∧ shiftUp ltR b ju du = shiftUp ltR b (kx + 1) dj)) (fun vj _ => b - (intOf vj).toNat)
                case atStart => exact ⟨kx + 1, dj, by go_num, Nat.le_refl _, by omega, HR.out, rfl⟩
                case round =>
                  obtain ⟨ju, du, rfl, hkj, hjb, HU⟩ := hrel
                  clear HR
                  by_cases hgo2 : ju < b ∧ ltR du[ju]! du[ju - 1]! = true
                  · obtain ⟨hlt2, hlv3⟩ := hgo2
                    have hltz2 : (ju : Int) < (b : Int) := by omega
                    have hl := S.lessZ ju (ju - 1) (ju : Int) ((ju : Int) - 1) true HU.out.1 (by omega) (by omega) rfl (by omega) hlv3
                    have HV := Lib.hid hlv3
                    clear hlv3
                    go_wp2_with (first
                      | (go_at_call 217; refine hl.mono ?_; rintro e w' ⟨rfl, hR⟩; have hs := S.swapZ ju (ju - 1) (ju : Int) ((ju : Int) - 1) hR (by omega) (by omega) rfl (by omega); clear hR hl)
                      | (go_at_call 218; refine hs.mono ?_; rintro e w2 ⟨rfl, hR⟩; have HR := Lib.hid hR; clear hR hs))
                    go_roundw
                    case rel => exact ⟨ju + 1, swp du ju (ju - 1), by go_num, by omega, by omega, HR.out, (sup_go hlt2 HV.out).symm.trans HU.out.2⟩
                    case measure => simp [intOf]; omega
                  · have HF := Lib.hid (show fixUp ltR b kx dj = du by
                      unfold fixUp
                      rw [if_pos hbk, ← HU.out.2, sup_stop]
                      by_cases hx : ju < b
                      · right
                        cases hlv3 : ltR du[ju]! du[ju - 1]! with
                        | false => rfl
                        | true => exact absurd ⟨hx, hlv3⟩ hgo2
                      · exact .inl hx)
                    have HN := Lib.hid (show partialIns ltR a b (5 - (s + 1)) kx du = X by rw [← HO.out.2, pins_go hs HK.out (by omega) h50, ← HF.out, ← HD.out])
                    by_cases hx : ju < b
                    case' pos =>
                      have hltz2 : (ju : Int) < (b : Int) := by omega
                      have hlv3 : ltR du[ju]! du[ju - 1]! = false := by
                        cases hlv3 : ltR du[ju]! du[ju - 1]! with
                        | false => rfl
                        | true => exact absurd ⟨hx, hlv3⟩ hgo2
                      have hl := S.lessZ ju (ju - 1) (ju : Int) ((ju : Int) - 1) false HU.out.1 (by omega) (by omega) rfl (by omega) hlv3
                      clear hlv3 hgo2
                      go_wp2_with (go_at_call 217; refine hl.mono ?_; rintro e w' ⟨rfl, hR⟩; have HR := Lib.hid hR; clear hR hl)
                    case' neg =>
                      have hltz2 : ¬ (ju : Int) < (b : Int) := by omega
                      have HR := Lib.hid HU.out.1
                      clear hgo2
                      go_wp2
                    all_goals
                      go_roundw
                      case rel => exact ⟨kx, s + 1, du, rfl, by go_num, by omega, by omega, by omega, HR.out, HN.out⟩
                      case measure => simp [intOf]; omega
        · obtain rfl : kx = b := by omega
          have hkz : ¬ (kx : Int) < (kx : Int) := by omega
          go_wp2
          go_ret
          have e : X = (dk, true) := by rw [← HO.out.2, pins_true hs (by rw [← HS.out.2, ss_stop (Or.inl (by omega))])]
          rw [e]
          exact ⟨rfl, HS.out.1⟩
    · obtain rfl : s = 5 := by omega
      go_wp2
      go_ret
      have e : X = (dk, false) := by rw [← HO.out.2]; rfl
      rw [e]
      exact ⟨rfl, HO.out.1⟩
end Go.Proofs.YtdphganbnlmgcaaGreatDoor
namespace Go.Proofs.YtdphganbnlmgcaaGreatDoor
open Go.ChangeShapes Go.WideShapes Go.ChangeAt Go.RowKit Go.Lib
set_option linter.unusedVariables false
set_option maxRecDepth 100000
variable {R : RA → World → Prop} {ra : Option Addr} {rl rc n B : Nat}

/-- Block c holds a count of at most K. -/
def Cnt (c K : Nat) (w : World) : Prop := ∃ s : Nat, s ≤ K ∧ w.cell? ⟨c, 0, none⟩ = some (.int .i64 s) ∧ w.frozen? ⟨c, 0, none⟩ = false
theorem Cnt.keep {c K B : Nat} {w w' : World} (h : Cnt c K w) (hB : B ≤ c) (k : KeepB B w w') : Cnt c K w' := by
  obtain ⟨s, hs, hc, hf⟩ := h
  have hl : c < w.heap.size := World.block_lt_of_cell? _ _ hc
  exact ⟨s, hs, (k.2 c 0 hB hl).1.trans hc, (k.2 c 0 hB hl).2.trans hf⟩
def Two (R : RA → World → Prop) (V : RA) (c K lo up : Nat) (e : Ending) (w' : World) : Prop :=
  ∃ x y : Nat, e = .returned (.tuple #[.int .i64 x, .int .i64 y]) ∧ lo ≤ x ∧ x < up ∧ lo ≤ y ∧ y < up ∧ R V w' ∧ Cnt c K w'
def One (R : RA → World → Prop) (V : RA) (c K lo up : Nat) (e : Ending) (w' : World) : Prop :=
  ∃ x : Nat, e = .returned (.int .i64 x) ∧ lo ≤ x ∧ x < up ∧ R V w' ∧ Cnt c K w'

set_option maxHeartbeats 1000000 in
theorem order2_any (S : SortRow R ra rl rc n B) (c K lo up i j : Nat) (V : RA) (w : World) (h : R V w) (hc : Cnt c K w) (hB : B ≤ c) (hi0 : lo ≤ i) (hi : i < up) (hj0 : lo ≤ j) (hj : j < up) (hup : up ≤ n) (hn : n < 4611686018427387904) (hK : K < 4611686018427387904) :
    Calls Tryz.prog 160 #[.iface 131 (.slice ra rl rc), .int .i64 i, .int .i64 j, .pointer (some ⟨c, 0, none⟩)] w (Two R V c (K + 1) lo up) := by
  have m1 := method_less ra rl rc
  have hl := (S.less j i h (by omega) (by omega)).mono (R' := fun e w' => e = .returned (.bool (ltR V[j]! V[i]!)) ∧ R V w' ∧ Cnt c K w') (fun _ _ ⟨he, hR, hk⟩ => ⟨he, hR, hc.keep hB hk⟩)
  clear hc h
  cases hlv : ltR V[j]! V[i]! with
  | true =>
    rw [hlv] at hl
    clear hlv
    go_enter Tryz.func160, Tryz.ntmps160
    go_wp2_with fail
    refine hl.mono ?_
    rintro e w' ⟨rfl, hR, s, hs, hc, hf⟩
    have HR := Lib.hid hR
    have hsb : s < 4611686018427387904 := by omega
    clear hR hl
    go_wp2
    go_ret2
    refine ⟨j, i, rfl, hj0, hj, hi0, hi, S.set _ _ _ (HR.out) hB, s + 1, by omega, ?_, ?_⟩
    · rw [World.cell?_setCell_same _ _ _ (by simpa using hc)]; go_num
    · simpa using hf
  | false =>
    rw [hlv] at hl
    clear hlv
    go_enter Tryz.func160, Tryz.ntmps160
    go_wp2_with fail
    refine hl.mono ?_
    rintro e w' ⟨rfl, hR, hc⟩
    have HR := Lib.hid hR
    have HC := Lib.hid hc
    clear hR hl hc
    go_wp2
    go_ret2
    obtain ⟨s, hs, h1, h2⟩ := HC.out
    exact ⟨i, j, rfl, hi0, hi, hj0, hj, HR.out, s, by omega, h1, h2⟩

set_option maxHeartbeats 1000000 in
theorem median_any (S : SortRow R ra rl rc n B) (c K lo up x y z : Nat) (V : RA) (w : World) (h : R V w) (hc : Cnt c K w) (hB : B ≤ c) (hx0 : lo ≤ x) (hx : x < up) (hy0 : lo ≤ y) (hy : y < up) (hz0 : lo ≤ z) (hz : z < up) (hup : up ≤ n) (hn : n < 4611686018427387904) (hK : K < 4611686018427387900) :
    Calls Tryz.prog 146 #[.iface 131 (.slice ra rl rc), .int .i64 x, .int .i64 y, .int .i64 z, .pointer (some ⟨c, 0, none⟩)] w (One R V c (K + 3) lo up) := by
  have hcall := order2_any S c K lo up x y V w h hc hB hx0 hx hy0 hy hup hn (by omega)
  clear h hc
  go_enter Tryz.func146, Tryz.ntmps146
  go_wp2_with fail
  refine hcall.mono ?_
  rintro e w1 ⟨x1, y1, rfl, hx10, hx1, hy10, hy1, hR, hC⟩
  have hcall := order2_any S c (K + 1) lo up y1 z V w1 hR hC hB hy10 hy1 hz0 hz hup hn (by omega)
  clear hR hC
  go_wp2_with fail
  refine hcall.mono ?_
  rintro e w2 ⟨y2, z2, rfl, hy20, hy2, hz20, hz2, hR, hC⟩
  have hcall := order2_any S c (K + 1 + 1) lo up x1 y2 V w2 hR hC hB hx10 hx1 hy20 hy2 hup hn (by omega)
  clear hR hC
  go_wp2_with fail
  refine hcall.mono ?_
  rintro e w3 ⟨x3, y3, rfl, hx30, hx3, hy30, hy3, hR, hC⟩
  have HR := Lib.hid hR
  have HC := Lib.hid hC
  clear hR hC hcall
  go_wp2
  go_ret
  exact ⟨y3, rfl, hy30, hy3, HR.out, HC.out⟩

set_option maxHeartbeats 1000000 in
theorem medadj_any (S : SortRow R ra rl rc n B) (c K lo up x : Nat) (V : RA) (w : World) (h : R V w) (hc : Cnt c K w) (hB : B ≤ c) (hx0 : lo + 1 ≤ x) (hx : x + 1 < up) (hup : up ≤ n) (hn : n < 4611686018427387904) (hK : K < 4611686018427387900) :
    Calls Tryz.prog 145 #[.iface 131 (.slice ra rl rc), .int .i64 x, .pointer (some ⟨c, 0, none⟩)] w (One R V c (K + 3) lo up) := by
  have hcall := median_any S c K lo up (x - 1) x (x + 1) V w h hc hB (by omega) (by omega) (by omega) (by omega) (by omega) hx hup hn hK
  rw [show ((x - 1 : Nat) : Int) = (x : Int) - 1 by omega, show ((x + 1 : Nat) : Int) = (x : Int) + 1 by omega] at hcall
  clear h hc
  go_enter Tryz.func145, Tryz.ntmps145
  go_wp2_with fail
  refine hcall.mono ?_
  rintro e w1 ⟨x1, rfl, hx10, hx1, hR, hC⟩
  have HR := Lib.hid hR
  have HC := Lib.hid hC
  clear hR hC hcall
  go_wp2
  go_ret
  exact ⟨x1, rfl, hx10, hx1, HR.out, HC.out⟩

/-- A pivot in the range, and a hint. -/
def Pivot (R : RA → World → Prop) (V : RA) (lo up : Nat) (e : Ending) (w' : World) : Prop :=
  ∃ (p : Nat) (h : Nat), e = .returned (.tuple #[.int .i64 p, .int .i64 h]) ∧ lo ≤ p ∧ p < up ∧ h ≤ 2 ∧ R V w'

set_option maxHeartbeats 2000000 in
theorem pivot_any (S : SortRow R ra rl rc n B) (a b : Nat) (V : RA) (w : World) (h : R V w) (hab : a < b) (hb : b ≤ n) (hn : n < 4611686018427387904) :
    Calls Tryz.prog 106 #[.iface 131 (.slice ra rl rc), .int .i64 a, .int .i64 b] w (Pivot R V a b) := by
  obtain ⟨c, hcz⟩ : ∃ c, w.heap.size = c := ⟨_, rfl⟩
  have hB : B ≤ c := hcz ▸ S.room h
  have HR := Lib.hid (S.alloc (.cells #[.int .i64 0] 3) h)
  have HC := Lib.hid (show Cnt c 0 (w.alloc (.cells #[.int .i64 0] 3)) from ⟨0, Nat.le_refl _, by subst hcz; rw [World.cell?_alloc_at _ _ _ _ rfl]; rfl, by subst hcz; rw [World.frozen?_alloc_at _ _ _ _ rfl]⟩)
  obtain ⟨I, hI⟩ : ∃ I : Nat, I = a + (b - a) / 4 * 1 := ⟨_, rfl⟩
  obtain ⟨J, hJ⟩ : ∃ J : Nat, J = a + (b - a) / 4 * 2 := ⟨_, rfl⟩
  obtain ⟨K, hK⟩ : ∃ K : Nat, K = a + (b - a) / 4 * 3 := ⟨_, rfl⟩
  have eI : ((a : Int) + ((b : Int) - (a : Int)) / 4) = (I : Int) := by omega
  have eJ : ((a : Int) + ((b : Int) - (a : Int)) / 4 * 2) = (J : Int) := by omega
  have eK : ((a : Int) + ((b : Int) - (a : Int)) / 4 * 3) = (K : Int) := by omega
  have hI0 : a ≤ I ∧ I < b := by omega
  have hJ0 : a ≤ J ∧ J < b := by omega
  have hK0 : a ≤ K ∧ K < b := by omega
  have HZ := Lib.hid hcz
  by_cases h8 : 8 ≤ b - a
  · have h8z : (8 : Int) ≤ (b : Int) - (a : Int) := by omega
    by_cases h50 : 50 ≤ b - a
    · have h50z : (50 : Int) ≤ (b : Int) - (a : Int) := by omega
      have hI1 : a + 1 ≤ I ∧ I + 1 < b := by omega
      have hJ1 : a + 1 ≤ J ∧ J + 1 < b := by omega
      have hK1 : a + 1 ≤ K ∧ K + 1 < b := by omega
      have hc1 := medadj_any S c 0 a b I V _ HR.out HC.out hB hI1.1 hI1.2 hb hn (by omega)
      rw [← hcz] at hc1
      clear hI hJ hK h hcz
      go_enter Tryz.func106, Tryz.ntmps106
      go_wp2_with fail
      refine hc1.mono ?_
      rintro e w1 ⟨i1, rfl, hi10, hi1, hR, hC⟩
      rw [HZ.out] at hC
      have hc2 := medadj_any S c (0 + 3) a b J V w1 hR hC hB hJ1.1 hJ1.2 hb hn (by omega)
      rw [← HZ.out] at hc2
      clear hR hC hc1
      go_wp2_with fail
      refine hc2.mono ?_
      rintro e w2 ⟨j1, rfl, hj10, hj1, hR, hC⟩
      rw [HZ.out] at hC
      have hc3 := medadj_any S c (0 + 3 + 3) a b K V w2 hR hC hB hK1.1 hK1.2 hb hn (by omega)
      rw [← HZ.out] at hc3
      clear hR hC hc2
      go_wp2_with fail
      refine hc3.mono ?_
      rintro e w3 ⟨k1, rfl, hk10, hk1, hR, hC⟩
      rw [HZ.out] at hC
      have hc4 := median_any S c (0 + 3 + 3 + 3) a b i1 j1 k1 V w3 hR hC hB hi10 hi1 hj10 hj1 hk10 hk1 hb hn (by omega)
      rw [← HZ.out] at hc4
      clear hR hC hc3
      go_wp2_with fail
      refine hc4.mono ?_
      rintro e w4 ⟨p, rfl, hp0, hp1, hR, s, hs, hC, hF⟩
      have HR := Lib.hid hR
      clear hR hc4
      go_wp2
      all_goals
        go_ret2
        first
          | exact ⟨p, 0, rfl, hp0, hp1, by omega, HR.out⟩
          | exact ⟨p, 1, rfl, hp0, hp1, by omega, HR.out⟩
          | exact ⟨p, 2, rfl, hp0, hp1, by omega, HR.out⟩
    · have h50z : ¬ (50 : Int) ≤ (b : Int) - (a : Int) := by omega
      have hc4 := median_any S c 0 a b I J K V _ HR.out HC.out hB hI0.1 hI0.2 hJ0.1 hJ0.2 hK0.1 hK0.2 hb hn (by omega)
      rw [← hcz] at hc4
      clear hI hJ hK h hcz
      go_enter Tryz.func106, Tryz.ntmps106
      go_wp2_with fail
      refine hc4.mono ?_
      rintro e w4 ⟨p, rfl, hp0, hp1, hR, s, hs, hC, hF⟩
      have HR := Lib.hid hR
      clear hR hc4
      go_wp2
      all_goals
        go_ret2
        first
          | exact ⟨p, 0, rfl, hp0, hp1, by omega, HR.out⟩
          | exact ⟨p, 1, rfl, hp0, hp1, by omega, HR.out⟩
          | exact ⟨p, 2, rfl, hp0, hp1, by omega, HR.out⟩
  · have h8z : ¬ (8 : Int) ≤ (b : Int) - (a : Int) := by omega
    clear hI hJ hK h hcz
    go_enter Tryz.func106, Tryz.ntmps106
    go_wp2
    all_goals
      go_ret2
      first
        | exact ⟨J, 0, rfl, hJ0.1, hJ0.2, by omega, HR.out⟩
        | exact ⟨J, 1, rfl, hJ0.1, hJ0.2, by omega, HR.out⟩
        | exact ⟨J, 2, rfl, hJ0.1, hJ0.2, by omega, HR.out⟩
end Go.Proofs.YtdphganbnlmgcaaGreatDoor
namespace Go.Proofs.YtdphganbnlmgcaaGreatDoor
open Go.ChangeShapes Go.WideShapes Go.ChangeAt Go.RowKit Go.Lib
open Go.Sort hiding Below
set_option linter.unusedVariables false
set_option maxRecDepth 100000
variable {R : RA → World → Prop} {ra : Option Addr} {rl rc n B : Nat}

/-- The end of a step that leaves the records of a range in some order. -/
def Mixed (R : RA → World → Prop) (a b : Nat) (V : RA) (e : Ending) (w' : World) : Prop := e = .returned (.tuple #[]) ∧ ∃ V', R V' w' ∧ PermIn a b V V'

def Rnd (c : Nat) (w : World) : Prop := ∃ r : Nat, r < 18446744073709551616 ∧ w.cell? ⟨c, 0, none⟩ = some (.int .u64 r) ∧ w.frozen? ⟨c, 0, none⟩ = false
theorem Rnd.keep {c B : Nat} {w w' : World} (h : Rnd c w) (hB : B ≤ c) (k : KeepB B w w') : Rnd c w' := by
  obtain ⟨s, hs, hc, hf⟩ := h
  have hl : c < w.heap.size := World.block_lt_of_cell? _ _ hc
  exact ⟨s, hs, (k.2 c 0 hB hl).1.trans hc, (k.2 c 0 hB hl).2.trans hf⟩
def NextEnd (R : RA → World → Prop) (V : RA) (c : Nat) (e : Ending) (w' : World) : Prop := ∃ r : Nat, r < 18446744073709551616 ∧ e = .returned (.int .u64 r) ∧ R V w' ∧ Rnd c w'
theorem next_any (S : SortRow R ra rl rc n B) (c : Nat) (V : RA) (w : World) (h : R V w) (hB : B ≤ c) (hc : Rnd c w) :
    Calls Tryz.prog 144 #[.pointer (some ⟨c, 0, none⟩)] w (NextEnd R V c) := by
  obtain ⟨r, hr, h1, h2⟩ := hc
  refine (Tryz.xorshift_Next c 0 r hr w h1 h2).mono ?_
  rintro e w' ⟨rfl, rfl⟩
  refine ⟨_, xorNextN_lt r hr, rfl, S.drewN 3 (S.set _ _ _ h hB), _, xorNextN_lt r hr, ?_, ?_⟩
  · rw [World.cell?_drewN]; exact World.cell?_setCell_same _ _ _ h1
  · rw [World.frozen?_drewN]; simpa using h2

set_option maxHeartbeats 4000000 in
theorem brk_go (S : SortRow R ra rl rc n B) (a L : Nat) (V : RA) (w : World) (h : R V w) (hb : a + L ≤ n) (h8 : 8 ≤ L) (hn : n < 4611686018427387904) :
    Calls Tryz.prog 105 #[.iface 131 (.slice ra rl rc), .int .i64 a, .int .i64 ((a + L : Nat) : Int)] w (Mixed R a (a + L) V) := by
  have m2 := method_swap ra rl rc
  obtain ⟨M, hM⟩ : ∃ M : Nat, 1 <<< bitsLen L = M := ⟨_, rfl⟩
  have hM1 : 1 ≤ M := by rw [← hM, Nat.one_shiftLeft]; exact Nat.two_pow_pos _
  have hM2 : M ≤ 2 * L := by rw [← hM, Nat.one_shiftLeft]; exact two_pow_bitsLen_le (by omega)
  have hNP : Calls Tryz.prog 143 #[.int .i64 (L : Int)] (w.alloc (.cells #[.int .u64 L] 178)) fun e w' => e = .returned (.int .u64 (M : Int)) ∧ w' = w.alloc (.cells #[.int .u64 L] 178) := by
    rw [← hM]; exact Tryz.nextPowerOfTwo L (by omega) _
  clear hM
  obtain ⟨c, hcz⟩ : ∃ c, w.heap.size = c := ⟨_, rfl⟩
  have hB : B ≤ c := hcz ▸ S.room h
  have HR := Lib.hid (S.alloc (.cells #[.int .u64 L] 178) h)
  have HC := Lib.hid (show Rnd c (w.alloc (.cells #[.int .u64 L] 178)) from ⟨L, by omega, by subst hcz; rw [World.cell?_alloc_at _ _ _ _ rfl]; rfl, by subst hcz; rw [World.frozen?_alloc_at _ _ _ _ rfl]⟩)
  have HZ := Lib.hid hcz
  have HV := Lib.hid (S.size h)
  have hLz : ((a : Int) + (L : Int) - (a : Int)) = (L : Int) := by omega
  have h8z : (8 : Int) ≤ (L : Int) := by omega
  clear h hcz
  go_enter Tryz.func105, Tryz.ntmps105
  go_wp2_with (go_at_call 143; refine hNP.mono ?_; rintro e w' ⟨rfl, rfl⟩; clear hNP)
  go_loopw [9] (fun vi wr => ∃ (t : Nat) (dk : RA), vi = .int .i64 ((a : Int) + (L : Int) / 4 * 2 - 1 + (t : Int)) ∧ t ≤ 3 ∧ Hid (R dk wr ∧ PermIn a (a + L) V dk ∧ Rnd c wr)) (fun vi _ => ((a : Int) + (L : Int) / 4 * 2 + 2 - intOf vi).toNat)
  case atStart => exact ⟨0, V, by simp, by omega, HR.out, permIn_refl _ _ _, HC.out⟩
  case round =>
    clear HR HC
    obtain ⟨t, dk, rfl, ht, HO⟩ := hrel
    by_cases ht3 : t < 3
    · have hle : (a : Int) + (L : Int) / 4 * 2 - 1 + (t : Int) ≤ (a : Int) + (L : Int) / 4 * 2 + 1 := by omega
      have hnx := next_any S c dk wr HO.out.1 hB HO.out.2.2
      rw [← HZ.out] at hnx
      go_wp2_with fail
      refine hnx.mono ?_
      rintro e w2 ⟨r, hr, rfl, hR, hC⟩
      rw [HZ.out] at hC
      obtain ⟨O, hO⟩ : ∃ O : Nat, r &&& (M - 1) = O := ⟨_, rfl⟩
      have lO : O ≤ M - 1 := by rw [← hO]; exact Nat.and_le_right
      have eAnd : bits .and .u64 (r : Int) ((M : Int) - 1) = (O : Int) := by
        rw [show ((M : Int) - 1) = ((M - 1 : Nat) : Int) by omega, bits_and_u64_nat _ _ hr (by omega), hO]
      clear hO hnx
      obtain ⟨P, hP⟩ : ∃ P : Nat, (if L ≤ O then O - L else O) = P := ⟨_, rfl⟩
      have hPL : P < L := by rw [← hP]; split <;> omega
      have hsw := (S.swap (a + L / 4 * 2 - 1 + t) (a + P) hR (by omega) (by omega)).mono (R' := fun e w' => e = .returned (.tuple #[]) ∧ R (swp dk (a + L / 4 * 2 - 1 + t) (a + P)) w' ∧ Rnd c w') (fun _ _ ⟨he, hR, hk⟩ => ⟨he, hR, hC.keep hB hk⟩)
      rw [show ((a + L / 4 * 2 - 1 + t : Nat) : Int) = (a : Int) + (L : Int) / 4 * 2 - 1 + (t : Int) by omega] at hsw
      have HP := Lib.hid (permIn_trans _ _ _ a (a + L) HO.out.2.1 (swp_permIn dk a (a + L) (a + L / 4 * 2 - 1 + t) (a + P) (by omega) (by omega) (by omega) (by omega) (by rw [HO.out.2.1.1, HV.out]; exact hb)))
      clear hR hC
      by_cases hLO : L ≤ O
      · have hLOz : (L : Int) ≤ (O : Int) := by omega
        rw [if_pos hLO] at hP
        rw [show ((a + P : Nat) : Int) = (a : Int) + ((O : Int) - (L : Int)) by omega] at hsw
        clear hP
        go_wp2_with fail
        refine hsw.mono ?_
        rintro e w3 ⟨rfl, hR, hC⟩
        have HR := Lib.hid hR
        have HC := Lib.hid hC
        clear hR hC hsw
        go_wp2
        go_roundw
        case rel => exact ⟨t + 1, _, by congr 1; push_cast; omega, by omega, HR.out, HP.out, HC.out⟩
        case measure => simp [intOf]; omega
      · have hLOz : ¬ (L : Int) ≤ (O : Int) := by omega
        rw [if_neg hLO] at hP
        rw [show ((a + P : Nat) : Int) = (a : Int) + (O : Int) by omega] at hsw
        clear hP
        go_wp2_with fail
        refine hsw.mono ?_
        rintro e w3 ⟨rfl, hR, hC⟩
        have HR := Lib.hid hR
        have HC := Lib.hid hC
        clear hR hC hsw
        go_wp2
        go_roundw
        case rel => exact ⟨t + 1, _, by congr 1; push_cast; omega, by omega, HR.out, HP.out, HC.out⟩
        case measure => simp [intOf]; omega
    · have hle : ¬ (a : Int) + (L : Int) / 4 * 2 - 1 + (t : Int) ≤ (a : Int) + (L : Int) / 4 * 2 + 1 := by omega
      go_wp2
      go_end0
      exact ⟨rfl, dk, HO.out.1, HO.out.2.1⟩

set_option maxHeartbeats 1000000 in
theorem brk_any (S : SortRow R ra rl rc n B) (a b : Nat) (V : RA) (w : World) (h : R V w) (hab : a ≤ b) (hb : b ≤ n) (hn : n < 4611686018427387904) :
    Calls Tryz.prog 105 #[.iface 131 (.slice ra rl rc), .int .i64 a, .int .i64 b] w (Mixed R a b V) := by
  obtain ⟨L, rfl⟩ : ∃ L, b = a + L := ⟨b - a, by omega⟩
  by_cases h8 : 8 ≤ L
  · exact brk_go S a L V w h hb h8 hn
  · have hLz : ((a : Int) + (L : Int) - (a : Int)) = (L : Int) := by omega
    have h8z : ¬ (8 : Int) ≤ (L : Int) := by omega
    have HR := Lib.hid h
    clear h
    go_enter Tryz.func105, Tryz.ntmps105
    go_wp2
    go_end0
    exact ⟨rfl, V, HR.out, permIn_refl _ _ _⟩
end Go.Proofs.YtdphganbnlmgcaaGreatDoor
