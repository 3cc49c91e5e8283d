
/- The library's two partitions over such a row: each computes the plain one. -/
import Derived.Test.YtldjahemgkkpbaaSo0
import Derived.Sort.LotC
namespace Go.Proofs.Ytldjahemgkkpbaa
open Go.ChangeShapes Go.WideShapes Go.ChangeAt Go.RowKit Go.Lib
open Go.Sort hiding Below
set_option linter.unusedVariables false
set_option maxRecDepth 100000
variable {R : RA → World → Prop} {ra : Option Addr} {rl rc n B : Nat}

theorem up_go {p : ByteArray × Int → Bool} {d : RA} {j i : Nat} (h : i ≤ j) (hp : p d[i]! = true) : scanUp p d j i = scanUp p d j (i + 1) := by
  rw [scanUp, if_pos (by rw [hp, decide_eq_true h]; rfl)]
theorem up_end {p : ByteArray × Int → Bool} {d : RA} {j i : Nat} (h : ¬ i ≤ j ∨ p d[i]! = false) : scanUp p d j i = i := by
  rw [scanUp, if_neg (by rcases h with h | h <;> simp [h])]
theorem down_go {p : ByteArray × Int → Bool} {d : RA} {i j : Nat} (h : i ≤ j) (h0 : 0 < j) (hp : p d[j]! = true) : scanDown p d i j = scanDown p d i (j - 1) := by
  cases j with
  | zero => omega
  | succ k => rw [scanDown, if_pos (by rw [hp, decide_eq_true h]; rfl)]; rfl
theorem down_end {p : ByteArray × Int → Bool} {d : RA} {i j : Nat} (h : ¬ i ≤ j ∨ p d[j]! = false) : scanDown p d i j = j := by
  cases j with
  | zero => rfl
  | succ k => rw [scanDown, if_neg (by rcases h with h | h <;> simp [h])]
/-- Where the scans stop at different tests they stop at different places. -/
theorem scan_apart {p q : ByteArray × Int → Bool} (hpq : ∀ x, q x = !p x) {d : RA} {i j i2 j2 : Nat} (hi2 : i2 = scanUp p d j i) (hj2 : j2 = scanDown q d i2 j) (h0 : 0 < i) (h : i2 ≤ j2) : i2 < j2 := by
  subst hi2; subst hj2
  obtain ⟨u1, _, _, u4⟩ := scanUp_spec p d j _ i rfl
  obtain ⟨v1, _, _, v4⟩ := scanDown_spec q d (scanUp p d j i) j
  refine Nat.lt_of_le_of_ne h fun e => ?_
  have f1 := u4 (by omega)
  have f2 := v4 h (by omega)
  rw [← e, hpq, f1] at f2
  cases f2

set_option maxHeartbeats 8000000 in
theorem partEq_any (S : SortRow R ra rl rc n B) (a b pivot : Nat) (V : RA) (w : World) (h : R V w) (hap : a ≤ pivot) (hpb : pivot < b) (hb : b ≤ n) (hn : n < 4611686018427387904) :
    Calls Try.prog 63 #[.iface 51 (.slice ra rl rc), .int .i64 a, .int .i64 b, .int .i64 pivot] w (EndR R (.int .i64 (partitionEqual ltR V a b pivot).1) (partitionEqual ltR V a b pivot).2) := by
  have m1 := method_less ra rl rc
  have m2 := method_swap ra rl rc
  have hs0 := S.swapZ a pivot (a : Int) (pivot : Int) h (by omega) (by omega) rfl rfl
  obtain ⟨X, hX⟩ : ∃ X, partitionEqual ltR V a b pivot = X := ⟨_, rfl⟩
  have HX := Lib.hid hX
  rw [hX]
  clear h hX
  go_enter Try.func63, Try.ntmps63
  go_wp2_with (go_at_call 93; refine hs0.mono ?_; rintro e w' ⟨rfl, hR⟩; have H := Lib.hid hR; clear hR hs0)
  go_loopw [9, 10] (fun vi vj wr => ∃ (i j : Nat) (dk : RA), vi = .int .i64 i ∧ vj = .int .i64 j ∧ a < i ∧ i ≤ j + 1 ∧ j < b ∧ Hid (R dk wr ∧ partEqLoop ltR a i j dk = X)) (fun vi vj _ => (intOf vj).toNat + 1 - (intOf vi).toNat)
  case atStart => exact ⟨a + 1, b - 1, swp V a pivot, by go_num, by congr 1 <;> omega, by omega, by omega, by omega, H.out, HX.out⟩
  case round =>
    obtain ⟨i, j, dk, rfl, rfl, hai, hij, hjb, HO⟩ := hrel
    go_wp2
    go_loopw [9] (fun vi w1 => ∃ (i' : Nat), vi = .int .i64 i' ∧ i ≤ i' ∧ i' ≤ j + 1 ∧ Hid (R dk w1 ∧ scanUp (fun x => !ltR dk[a]! x) dk j i' = scanUp (fun x => !ltR dk[a]! x) dk j i)) (fun vi _ => j + 1 - (intOf vi).toNat)
    case atStart => exact ⟨i, rfl, Nat.le_refl _, hij, HO.out.1, rfl⟩
    case round =>
      obtain ⟨i', rfl, hii, hij', HU⟩ := hrel
      by_cases hgo : i' ≤ j ∧ ltR dk[a]! dk[i']! = false
      · obtain ⟨hle, hlv⟩ := hgo
        have hl := S.lessZ a i' (a : Int) (i' : Int) false HU.out.1 (by omega) (by omega) rfl rfl hlv
        have HV := Lib.hid hlv
        clear hlv
        go_wp2_with (go_at_call 92; refine hl.mono ?_; rintro e w' ⟨rfl, hR⟩; have HR := Lib.hid hR; clear hR hl)
        go_roundw
        case rel => exact ⟨i' + 1, by go_num, by omega, by omega, HR.out, (up_go hle (by rw [HV.out]; rfl)).symm.trans HU.out.2⟩
        case measure => simp [intOf]; omega
      · have HI := Lib.hid (show i' = scanUp (fun x => !ltR dk[a]! x) dk j i by
          rw [← HU.out.2, up_end]
          by_cases hle : i' ≤ j
          · right
            cases hlv : ltR dk[a]! dk[i']! with
            | true => rfl
            | false => exact absurd ⟨hle, hlv⟩ hgo
          · exact .inl hle)
        by_cases hle : i' ≤ j
        · have hlv : ltR dk[a]! dk[i']! = true := by
            cases hlv : ltR dk[a]! dk[i']! with
            | true => rfl
            | false => exact absurd ⟨hle, hlv⟩ hgo
          have hl := S.lessZ a i' (a : Int) (i' : Int) true HU.out.1 (by omega) (by omega) rfl rfl hlv
          clear hlv hgo HU
          go_wp2_with (go_at_call 92; refine hl.mono ?_; rintro e w' ⟨rfl, hR⟩; have HR := Lib.hid hR; clear hR hl)
          go_loopw [10] (fun vj w2 => ∃ (j' : Nat), vj = .int .i64 j' ∧ j' ≤ j ∧ i' ≤ j' + 1 ∧ Hid (R dk w2 ∧ scanDown (fun x => ltR dk[a]! x) dk i' j' = scanDown (fun x => ltR dk[a]! x) dk i' j)) (fun vj _ => (intOf vj).toNat)
          case atStart => exact ⟨j, rfl, Nat.le_refl _, hij', HR.out, rfl⟩
          case round =>
            obtain ⟨j', rfl, hjj, hij2, HD⟩ := hrel
            clear HR
            by_cases hle2 : i' ≤ j'
            · cases hlv2 : ltR dk[a]! dk[j']! with
              | true =>
                have hl := S.lessZ a j' (a : Int) (j' : Int) true HD.out.1 (by omega) (by omega) rfl rfl hlv2
                have HV := Lib.hid hlv2
                clear hlv2
                go_wp2_with (go_at_call 92; refine hl.mono ?_; rintro e w' ⟨rfl, hR⟩; have HR := Lib.hid hR; clear hR hl)
                go_roundw
                case rel => exact ⟨j' - 1, by congr 1 <;> omega, by omega, by omega, HR.out, (down_go hle2 (by omega) HV.out).symm.trans HD.out.2⟩
                case measure => simp [intOf]; omega
              | false =>
                have hl := S.lessZ a j' (a : Int) (j' : Int) false HD.out.1 (by omega) (by omega) rfl rfl hlv2
                have HJ := Lib.hid (show j' = scanDown (fun x => ltR dk[a]! x) dk i' j by rw [← HD.out.2, down_end (Or.inr hlv2)])
                have hlt3 := scan_apart (p := fun x => !ltR dk[a]! x) (q := fun x => ltR dk[a]! x) (fun x => by simp) HI.out HJ.out (by omega) hle2
                have hnz : ¬ ((j' : Int) < (i' : Int)) := by omega
                clear hlv2
                go_wp2_with (first
                  | (go_at_call 92; refine hl.mono ?_; rintro e w' ⟨rfl, hR⟩; have hs := S.swapZ i' j' (i' : Int) (j' : Int) hR (by omega) (by omega) rfl rfl; clear hR hl)
                  | (go_at_call 93; refine hs.mono ?_; rintro e w2 ⟨rfl, hR⟩; have HR := Lib.hid hR; clear hR hs))
                go_roundw
                case rel => exact ⟨i' + 1, j' - 1, swp dk i' j', by go_num, by congr 1 <;> omega, by omega, by omega, by omega, HR.out, by rw [← HO.out.2, partEqLoop_eq ltR a i j dk, ← HI.out, ← HJ.out, if_neg (by omega)]⟩
                case measure => simp [intOf]; omega
            · have HJ := Lib.hid (show j' = scanDown (fun x => ltR dk[a]! x) dk i' j by rw [← HD.out.2, down_end (Or.inl hle2)])
              go_wp2
              go_ret
              have e : X = (i', dk) := by rw [← HO.out.2, partEqLoop_eq ltR a i j dk, ← HI.out, ← HJ.out, if_pos (by omega)]
              rw [e]
              exact ⟨rfl, HD.out.1⟩

        · have HR := Lib.hid HU.out.1
          clear hgo HU
          go_wp2
          go_loopw [10] (fun vj w2 => vj = .int .i64 j ∧ Hid (R dk w2)) (fun vj _ => 0)
          case atStart => exact ⟨rfl, HR.out⟩
          case round =>
            obtain ⟨rfl, HD⟩ := hrel
            clear HR
            have HJ := Lib.hid (show j = scanDown (fun x => ltR dk[a]! x) dk i' j by rw [down_end (Or.inl hle)])
            go_wp2
            go_ret
            have e : X = (i', dk) := by rw [← HO.out.2, partEqLoop_eq ltR a i j dk, ← HI.out, ← HJ.out, if_pos (by omega)]
            rw [e]
            exact ⟨rfl, HD.out⟩
end Go.Proofs.Ytldjahemgkkpbaa
