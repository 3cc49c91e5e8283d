
/- The library's IsSorted over the program's records in order, and RunOk of the program: whether a list is a run. Only new blocks are made. -/
import Derived.Test.YtldjahemgkkpbaaRuns4
namespace Go.Proofs.Ytldjahemgkkpbaa
open Go.ChangeShapes Go.WideShapes Go.ChangeAt Go.RowKit
set_option linter.unusedVariables false
set_option maxRecDepth 100000

theorem method_len (a : Option Addr) (len cap : Nat) (w : World) : (method 213 51 (.slice a len cap) "Len").run Try.prog w = .ok (91, .slice a len cap) w := by kernel_rfl
theorem method_less (a : Option Addr) (len cap : Nat) (w : World) : (method 213 51 (.slice a len cap) "Less").run Try.prog w = .ok (92, .slice a len cap) w := by kernel_rfl

theorem runOk_sorted {l : Recs} (h : recsOkB l = true) (hb : ∀ i, i < l.length → badAt l i = false) : runOkB l = true :=
  runOk_good (recsOk_parts h).1 (fun i hi => ⟨(recsOk_parts h).2 i hi, hb i hi⟩)

set_option maxHeartbeats 1000000 in
theorem issorted_any (a : Option Addr) (len cap : Nat) (l : Recs) (w : World) (h : RecsAt w a len l) (hok : recsOkB l = true) :
    Calls Try.prog 45 #[.iface 51 (.slice a len cap)] w (MadeBool (runOkB l) w) := by
  have hm := h.max
  unfold maxLen at hm
  have HR := Lib.hid h
  have HL := Lib.hid h.length
  have HOK := Lib.hid (recsOk_parts hok).2
  have HS := Lib.hid (runOk_sorted hok)
  clear h hok
  have m1 := method_len a len cap
  have m2 := method_less a len cap
  go_enter Try.func45, Try.ntmps45
  go_wp2_with (go_at_call 91; refine (lenm_any _ _ _ _).mono ?_; rintro e w' ⟨rfl, rfl⟩)
  go_loopw [4] (fun i wr => ∃ k : Nat, k ≤ len ∧ i = .int .i64 ((k : Int) - 1) ∧ Hid (Below w.heap.size w wr ∧ ∀ j, k ≤ j → j < len → badAt l j = false)) (fun i _ => (intOf i).toNat)
  case atStart => exact ⟨len, Nat.le_refl _, rfl, Below.refl _ _, fun j hj hj2 => by omega⟩
  case round =>
    obtain ⟨k, hk, rfl, HW⟩ := hrel
    by_cases h2 : 2 ≤ k
    · obtain ⟨m, rfl⟩ : ∃ m, k = m + 2 := ⟨k - 2, by omega⟩
      have hb1 : badAt l (m + 1) = lessAt l (m + 1) m := by
        unfold badAt; rw [decide_eq_true (by omega)]; rfl
      have ho1 := HOK.out (m + 1) (by rw [HL.out]; omega)
      have ho2 := HOK.out m (by rw [HL.out]; omega)
      rw [show (((m + 2 : Nat) : Int) - 1) = ((m + 1 : Nat) : Int) by omega]
      obtain ⟨p, hp⟩ : ∃ p, m + 1 = p := ⟨_, rfl⟩
      rw [hp] at hb1 ho1 ⊢
      have hpm : (p : Int) - 1 = (m : Int) := by omega
      have hp0 : 0 < p := by omega
      have hpl : p < len := by omega
      have hml : m < len := by omega
      have HP := Lib.hid hp
      have HB1 := Lib.hid hb1
      have HO := Lib.hid (And.intro ho1 ho2)
      clear hp hb1 ho1 ho2 h2
      cases hls : lessAt l p m with
      | true =>
        have HQ := Lib.hid (runOk_bad (l := l) (i := p) (by rw [HL.out]; exact hpl) (HB1.out.trans hls))
        go_wp2_with (go_at_call 92; refine (lessm_any _ _ _ _ p m _ (HR.out.keep HW.out.1) hpl hml).mono ?_; rw [HO.out.1, HO.out.2, hls]; rintro e w2 ⟨rfl, hB⟩; have HB := Lib.hid (below_via HW.out.1 hB); clear hB)
        go_ret
        exact ⟨ret_bool HQ.out.symm, HB.out⟩
      | false =>
        go_wp2_with (go_at_call 92; refine (lessm_any _ _ _ _ p m _ (HR.out.keep HW.out.1) hpl hml).mono ?_; rw [HO.out.1, HO.out.2, hls]; rintro e w2 ⟨rfl, hB⟩; have HB := Lib.hid (below_via HW.out.1 hB); clear hB)
        go_roundw
        case rel => exact ⟨p, by omega, by rw [hpm], HB.out, fun j hj hj2 => by
          rcases Nat.lt_or_ge p j with h | h
          · exact HW.out.2 j (by have := HP.out; omega) hj2
          · obtain rfl : j = p := by omega
            exact HB1.out.trans hls⟩
        case measure => simp [intOf]; omega
    · have HQ := Lib.hid (HS.out (fun i hi => by
        rcases Nat.lt_or_ge 0 i with h | h
        · exact HW.out.2 i (by omega) (by rw [← HL.out]; exact hi)
        · obtain rfl : i = 0 := by omega
          rfl))
      go_wp2
      go_ret
      exact ⟨ret_bool HQ.out.symm, HW.out.1⟩

set_option maxHeartbeats 1000000 in
theorem runok_any (a : Option Addr) (len cap : Nat) (l : Recs) (w : World) (h : RecsAt w a len l) :
    Calls Try.prog 28 #[.slice a len cap] w (MadeBool (runOkB l) w) := by
  have HR := Lib.hid h
  clear h
  cases hok : recsOkB l with
  | false =>
    have HQ := Lib.hid (recsOk_not hok)
    go_enter Try.func28, Try.ntmps28
    go_wp2_with (go_at_call 29; refine (recsok_any _ _ _ _ _ HR.out).mono ?_; rw [hok]; rintro e w1 ⟨rfl, hB⟩; have HB := Lib.hid hB; clear hB)
    go_ret
    exact ⟨ret_bool HQ.out.symm, HB.out⟩
  | true =>
    go_enter Try.func28, Try.ntmps28
    go_wp2_with (first | (go_at_call 29; refine (recsok_any _ _ _ _ _ HR.out).mono ?_; rw [hok]; rintro e w1 ⟨rfl, hB⟩; have HB := Lib.hid hB; have HR1 := Lib.hid (HR.out.keep hB); clear hB) | (go_at_call 45; refine (issorted_any _ _ _ _ _ HR1.out hok).mono ?_; rintro e w2 ⟨rfl, hB⟩; have HB2 := Lib.hid (below_via HB.out hB); clear hB))
    go_ret
    exact ⟨rfl, HB2.out⟩
end Go.Proofs.Ytldjahemgkkpbaa
