/- Texts put together, as a claim holds at most sixty files. -/
import Derived.Test.YtjofbeokkainlaaGreatDoorMg28
import Derived.Sort.LotC
namespace Go.Proofs.YtjofbeokkainlaaGreatDoor
open Go.ChangeShapes Go.WideShapes Go.ChangeAt Go.RowKit Go.Lib
open Go.Sort hiding Below
set_option linter.unusedVariables false
set_option maxRecDepth 100000
variable {R : RA → World → Prop} {ra : Option Addr} {rl rc n B : Nat}

theorem up_go {p : ByteArray × Int → Bool} {d : RA} {j i : Nat} (h : i ≤ j) (hp : p d[i]! = true) : scanUp p d j i = scanUp p d j (i + 1) := by
  rw [scanUp, if_pos (by rw [hp, decide_eq_true h]; rfl)]
theorem up_end {p : ByteArray × Int → Bool} {d : RA} {j i : Nat} (h : ¬ i ≤ j ∨ p d[i]! = false) : scanUp p d j i = i := by
  rw [scanUp, if_neg (by rcases h with h | h <;> simp [h])]
theorem down_go {p : ByteArray × Int → Bool} {d : RA} {i j : Nat} (h : i ≤ j) (h0 : 0 < j) (hp : p d[j]! = true) : scanDown p d i j = scanDown p d i (j - 1) := by
  cases j with
  | zero => omega
  | succ k => rw [scanDown, if_pos (by rw [hp, decide_eq_true h]; rfl)]; rfl
theorem down_end {p : ByteArray × Int → Bool} {d : RA} {i j : Nat} (h : ¬ i ≤ j ∨ p d[j]! = false) : scanDown p d i j = j := by
  cases j with
  | zero => rfl
  | succ k => rw [scanDown, if_neg (by rcases h with h | h <;> simp [h])]
/-- Where the scans stop at different tests they stop at different places. -/
theorem scan_apart {p q : ByteArray × Int → Bool} (hpq : ∀ x, q x = !p x) {d : RA} {i j i2 j2 : Nat} (hi2 : i2 = scanUp p d j i) (hj2 : j2 = scanDown q d i2 j) (h0 : 0 < i) (h : i2 ≤ j2) : i2 < j2 := by
  subst hi2; subst hj2
  obtain ⟨u1, _, _, u4⟩ := scanUp_spec p d j _ i rfl
  obtain ⟨v1, _, _, v4⟩ := scanDown_spec q d (scanUp p d j i) j
  refine Nat.lt_of_le_of_ne h fun e => ?_
  have f1 := u4 (by omega)
  have f2 := v4 h (by omega)
  rw [← e, hpq, f1] at f2
  cases f2

set_option maxHeartbeats 8000000 in
theorem partEq_any (S : SortRow R ra rl rc n B) (a b pivot : Nat) (V : RA) (w : World) (h : R V w) (hap : a ≤ pivot) (hpb : pivot < b) (hb : b ≤ n) (hn : n < 4611686018427387904) :
    Calls Tryz.prog 99 #[.iface 78 (.slice ra rl rc), .int .i64 a, .int .i64 b, .int .i64 pivot] w (EndR R (.int .i64 (partitionEqual ltR V a b pivot).1) (partitionEqual ltR V a b pivot).2) := by
  have m1 := method_less ra rl rc
  have m2 := method_swap ra rl rc
  have hs0 := S.swapZ a pivot (a : Int) (pivot : Int) h (by omega) (by omega) rfl rfl
  obtain ⟨X, hX⟩ : ∃ X, partitionEqual ltR V a b pivot = X := ⟨_, rfl⟩
  have HX := Lib.hid hX
  rw [hX]
  clear h hX
  go_enter Tryz.func99, Tryz.ntmps99
  go_wp2_with (go_at_call 221; refine hs0.mono ?_; rintro e w' ⟨rfl, hR⟩; have H := Lib.hid hR; clear hR hs0)
  go_loopw [9, 10] (fun vi vj wr => ∃ (i j : Nat) (dk : RA), vi = .int .i64 i ∧ vj = .int .i64 j ∧ a < i ∧ i ≤ j + 1 ∧ j < b ∧ Hid (R dk wr ∧ partEqLoop ltR a i j dk = X)) (fun vi vj _ => (intOf vj).toNat + 1 - (intOf vi).toNat)
  case atStart => exact ⟨a + 1, b - 1, swp V a pivot, by go_num, by congr 1 <;> omega, by omega, by omega, by omega, H.out, HX.out⟩
  case round =>
    obtain ⟨i, j, dk, rfl, rfl, hai, hij, hjb, HO⟩ := hrel
    go_wp2
    go_loopw [9] (fun vi w1 => ∃ (i' : Nat), vi = .int .i64 i' ∧ i ≤ i' ∧ i' ≤ j + 1 ∧ Hid (R dk w1 ∧ scanUp (fun x => !ltR dk[a]! x) dk j i' = scanUp (fun x => !ltR dk[a]! x) dk j i)) (fun vi _ => j + 1 - (intOf vi).toNat)
    case atStart => exact ⟨i, rfl, Nat.le_refl _, hij, HO.out.1, rfl⟩
    case round =>
      obtain ⟨i', rfl, hii, hij', HU⟩ := hrel
      by_cases hgo : i' ≤ j ∧ ltR dk[a]! dk[i']! = false
      · obtain ⟨hle, hlv⟩ := hgo
        have hl := S.lessZ a i' (a : Int) (i' : Int) false HU.out.1 (by omega) (by omega) rfl rfl hlv
        have HV := Lib.hid hlv
        clear hlv
        go_wp2_with (go_at_call 220; refine hl.mono ?_; rintro e w' ⟨rfl, hR⟩; have HR := Lib.hid hR; clear hR hl)
        go_roundw
        case rel => exact ⟨i' + 1, by go_num, by omega, by omega, HR.out, (up_go hle (by rw [HV.out]; rfl)).symm.trans HU.out.2⟩
        case measure => simp [intOf]; omega
      · have HI := Lib.hid (show i' = scanUp (fun x => !ltR dk[a]! x) dk j i by
          rw [← HU.out.2, up_end]
          by_cases hle : i' ≤ j
          · right
            cases hlv : ltR dk[a]! dk[i']! with
            | true => rfl
            | false => exact absurd ⟨hle, hlv⟩ hgo
          · exact .inl hle)
        by_cases hle : i' ≤ j
        · have hlv : ltR dk[a]! dk[i']! = true := by
            cases hlv : ltR dk[a]! dk[i']! with
            | true => rfl
            | false => exact absurd ⟨hle, hlv⟩ hgo
          have hl := S.lessZ a i' (a : Int) (i' : Int) true HU.out.1 (by omega) (by omega) rfl rfl hlv
          clear hlv hgo HU
          go_wp2_with (go_at_call 220; refine hl.mono ?_; rintro e w' ⟨rfl, hR⟩; have HR := Lib.hid hR; clear hR hl)
          go_loopw [10] (fun vj w2 => ∃ (j' : Nat), vj = .int .i64 j' ∧ j' ≤ j ∧ i' ≤ j' + 1 ∧ Hid (R dk w2 ∧ scanDown (fun x => ltR dk[a]! x) dk i' j' = scanDown (fun x => ltR dk[a]! x) dk i' j)) (fun vj _ => (intOf vj).toNat)
          case atStart => exact ⟨j, rfl, Nat.le_refl _, hij', HR.out, rfl⟩
          case round =>
            obtain ⟨j', rfl, hjj, hij2, HD⟩ := hrel
            clear HR
            by_cases hle2 : i' ≤ j'
            · cases hlv2 : ltR dk[a]! dk[j']! with
              | true =>
                have hl := S.lessZ a j' (a : Int) (j' : Int) true HD.out.1 (by omega) (by omega) rfl rfl hlv2
                have HV := Lib.hid hlv2
                clear hlv2
                go_wp2_with (go_at_call 220; refine hl.mono ?_; rintro e w' ⟨rfl, hR⟩; have HR := Lib.hid hR; clear hR hl)
                go_roundw
                case rel => exact ⟨j' - 1, by congr 1 <;> omega, by omega, by omega, HR.out, (down_go hle2 (by omega) HV.out).symm.trans HD.out.2⟩
                case measure => simp [intOf]; omega
              | false =>
                have hl := S.lessZ a j' (a : Int) (j' : Int) false HD.out.1 (by omega) (by omega) rfl rfl hlv2
                have HJ := Lib.hid (show j' = scanDown (fun x => ltR dk[a]! x) dk i' j by rw [← HD.out.2, down_end (Or.inr hlv2)])
                have hlt3 := scan_apart (p := fun x => !ltR dk[a]! x) (q := fun x => ltR dk[a]! x) (fun x => by simp) HI.out HJ.out (by omega) hle2
                have hnz : ¬ ((j' : Int) < (i' : Int)) := by omega
                clear hlv2
                go_wp2_with (first
                  | (go_at_call 220; refine hl.mono ?_; rintro e w' ⟨rfl, hR⟩; have hs := S.swapZ i' j' (i' : Int) (j' : Int) hR (by omega) (by omega) rfl rfl; clear hR hl)
                  | (go_at_call 221; refine hs.mono ?_; rintro e w2 ⟨rfl, hR⟩; have HR := Lib.hid hR; clear hR hs))
                go_roundw
                case rel => exact ⟨i' + 1, j' - 1, swp dk i' j', by go_num, by congr 1 <;> omega, by omega, by omega, by omega, HR.out, by rw [← HO.out.2, partEqLoop_eq ltR a i j dk, ← HI.out, ← HJ.out, if_neg (by omega)]⟩
                case measure => simp [intOf]; omega
            · have HJ := Lib.hid (show j' = scanDown (fun x => ltR dk[a]! x) dk i' j by rw [← HD.out.2, down_end (Or.inl hle2)])
              go_wp2
              go_ret
              have e : X = (i', dk) := by rw [← HO.out.2, partEqLoop_eq ltR a i j dk, ← HI.out, ← HJ.out, if_pos (by omega)]
              rw [e]
              exact ⟨rfl, HD.out.1⟩

        · have HR := Lib.hid HU.out.1
          clear hgo HU
          go_wp2
          go_loopw [10] (fun vj w2 => vj = .int .i64 j ∧ Hid (R dk w2)) (fun vj _ => 0)
          case atStart => exact ⟨rfl, HR.out⟩
          case round =>
            obtain ⟨rfl, HD⟩ := hrel
            clear HR
            have HJ := Lib.hid (show j = scanDown (fun x => ltR dk[a]! x) dk i' j by rw [down_end (Or.inl hle)])
            go_wp2
            go_ret
            have e : X = (i', dk) := by rw [← HO.out.2, partEqLoop_eq ltR a i j dk, ← HI.out, ← HJ.out, if_pos (by omega)]
            rw [e]
            exact ⟨rfl, HD.out⟩
end Go.Proofs.YtjofbeokkainlaaGreatDoor
namespace Go.Proofs.YtjofbeokkainlaaGreatDoor
open Go.ChangeShapes Go.WideShapes Go.ChangeAt Go.RowKit Go.Lib
open Go.Sort hiding Below
set_option linter.unusedVariables false
set_option maxRecDepth 100000
variable {R : RA → World → Prop} {ra : Option Addr} {rl rc n B : Nat}

set_option maxHeartbeats 16000000 in
theorem sopart_any (S : SortRow R ra rl rc n B) (a b pivot : Nat) (V : RA) (w : World) (h : R V w) (hap : a ≤ pivot) (hpb : pivot < b) (hb : b ≤ n) (hn : n < 4611686018427387904) :
    Calls Tryz.prog 100 #[.iface 78 (.slice ra rl rc), .int .i64 a, .int .i64 b, .int .i64 pivot] w (EndR R (.tuple #[.int .i64 (partition ltR V a b pivot).1, .bool (partition ltR V a b pivot).2.1]) (partition ltR V a b pivot).2.2) := by
  have m1 := method_less ra rl rc
  have m2 := method_swap ra rl rc
  have hs0 := S.swapZ a pivot (a : Int) (pivot : Int) h (by omega) (by omega) rfl rfl
  obtain ⟨X, hX⟩ : ∃ X, partition ltR V a b pivot = X := ⟨_, rfl⟩
  obtain ⟨D, hD⟩ : ∃ D, swp V a pivot = D := ⟨_, rfl⟩
  obtain ⟨J, hJ⟩ : ∃ J, b - 1 = J := ⟨_, rfl⟩
  obtain ⟨I, hI⟩ : ∃ I, a + 1 = I := ⟨_, rfl⟩
  have hJz : (b : Int) - 1 = (J : Int) := by omega
  have hIz : (a : Int) + 1 = (I : Int) := by omega
  have hJb : J < b ∧ a ≤ J := by omega
  have hIJ : I ≤ J + 1 ∧ a < I := by omega
  have HX := Lib.hid (show partition ltR D a b a = partition ltR D a b a from rfl)
  have HP := Lib.hid (show (if scanUp (fun x => ltR x D[a]!) D J I > scanDown (fun x => !ltR x D[a]!) D (scanUp (fun x => ltR x D[a]!) D J I) J then (scanDown (fun x => !ltR x D[a]!) D (scanUp (fun x => ltR x D[a]!) D J I) J, true, swp D (scanDown (fun x => !ltR x D[a]!) D (scanUp (fun x => ltR x D[a]!) D J I) J) a) else
      ((partLoop ltR a (scanUp (fun x => ltR x D[a]!) D J I + 1) (scanDown (fun x => !ltR x D[a]!) D (scanUp (fun x => ltR x D[a]!) D J I) J - 1) (swp D (scanUp (fun x => ltR x D[a]!) D J I) (scanDown (fun x => !ltR x D[a]!) D (scanUp (fun x => ltR x D[a]!) D J I) J))).1, false,
        swp (partLoop ltR a (scanUp (fun x => ltR x D[a]!) D J I + 1) (scanDown (fun x => !ltR x D[a]!) D (scanUp (fun x => ltR x D[a]!) D J I) J - 1) (swp D (scanUp (fun x => ltR x D[a]!) D J I) (scanDown (fun x => !ltR x D[a]!) D (scanUp (fun x => ltR x D[a]!) D J I) J))).2
          (partLoop ltR a (scanUp (fun x => ltR x D[a]!) D J I + 1) (scanDown (fun x => !ltR x D[a]!) D (scanUp (fun x => ltR x D[a]!) D J I) J - 1) (swp D (scanUp (fun x => ltR x D[a]!) D J I) (scanDown (fun x => !ltR x D[a]!) D (scanUp (fun x => ltR x D[a]!) D J I) J))).1 a)) = X by
    rw [← hX, ← hD, ← hJ, ← hI]; rfl)
  rw [hX]
  rw [hD] at hs0
  clear h hX HX hD hJ hI
  go_enter Tryz.func100, Tryz.ntmps100
  go_wp2_with (go_at_call 221; refine hs0.mono ?_; rintro e w' ⟨rfl, hR⟩; have H := Lib.hid hR; clear hR hs0)
  go_loopw [10] (fun vi w1 => ∃ (i' : Nat), vi = .int .i64 i' ∧ I ≤ i' ∧ i' ≤ J + 1 ∧ Hid (R D w1 ∧ scanUp (fun x => ltR x D[a]!) D J i' = scanUp (fun x => ltR x D[a]!) D J I)) (fun vi _ => J + 1 - (intOf vi).toNat)
  case atStart => exact ⟨I, rfl, Nat.le_refl _, hIJ.1, H.out, rfl⟩
  case round =>
    obtain ⟨i', rfl, hii, hij', HU⟩ := hrel
    clear H
    by_cases hgo : i' ≤ J ∧ ltR D[i']! D[a]! = true
    · obtain ⟨hle, hlv⟩ := hgo
      have hl := S.lessZ i' a (i' : Int) (a : Int) true HU.out.1 (by omega) (by omega) rfl rfl hlv
      have HV := Lib.hid hlv
      clear hlv
      go_wp2_with (go_at_call 220; refine hl.mono ?_; rintro e w' ⟨rfl, hR⟩; have HR := Lib.hid hR; clear hR hl)
      go_roundw
      case rel => exact ⟨i' + 1, by go_num, by omega, by omega, HR.out, (up_go hle HV.out).symm.trans HU.out.2⟩
      case measure => simp [intOf]; omega
    · have HI := Lib.hid (show i' = scanUp (fun x => ltR x D[a]!) D J I by
        rw [← HU.out.2, up_end]
        by_cases hle : i' ≤ J
        · right
          cases hlv : ltR D[i']! D[a]! with
          | false => rfl
          | true => exact absurd ⟨hle, hlv⟩ hgo
        · exact .inl hle)
      by_cases hle : i' ≤ J
      · have hlv : ltR D[i']! D[a]! = false := by
          cases hlv : ltR D[i']! D[a]! with
          | false => rfl
          | true => exact absurd ⟨hle, hlv⟩ hgo
        have hl := S.lessZ i' a (i' : Int) (a : Int) false HU.out.1 (by omega) (by omega) rfl rfl hlv
        clear hlv hgo HU
        go_wp2_with (go_at_call 220; refine hl.mono ?_; rintro e w' ⟨rfl, hR⟩; have HR := Lib.hid hR; clear hR hl)
        go_loopw [11] (fun vj w2 => ∃ (j' : Nat), vj = .int .i64 j' ∧ j' ≤ J ∧ i' ≤ j' + 1 ∧ Hid (R D w2 ∧ scanDown (fun x => !ltR x D[a]!) D i' j' = scanDown (fun x => !ltR x D[a]!) D i' J)) (fun vj _ => (intOf vj).toNat)
        case atStart => exact ⟨J, rfl, Nat.le_refl _, hij', HR.out, rfl⟩
        case round =>
          obtain ⟨j', rfl, hjj, hij2, HD⟩ := hrel
          clear HR
          by_cases hle2 : i' ≤ j'
          · cases hlv2 : ltR D[j']! D[a]! with
            | false =>
              have hl := S.lessZ j' a (j' : Int) (a : Int) false HD.out.1 (by omega) (by omega) rfl rfl hlv2
              have HV := Lib.hid hlv2
              clear hlv2
              go_wp2_with (go_at_call 220; refine hl.mono ?_; rintro e w' ⟨rfl, hR⟩; have HR := Lib.hid hR; clear hR hl)
              go_roundw
              case rel => exact ⟨j' - 1, by congr 1 <;> omega, by omega, by omega, HR.out, (down_go hle2 (by omega) (by rw [HV.out]; rfl)).symm.trans HD.out.2⟩
              case measure => simp [intOf]; omega
            | true =>
              have hl := S.lessZ j' a (j' : Int) (a : Int) true HD.out.1 (by omega) (by omega) rfl rfl hlv2
              have HJ := Lib.hid (show j' = scanDown (fun x => !ltR x D[a]!) D i' J by rw [← HD.out.2, down_end (Or.inr (by rw [hlv2]; rfl))])
              have hlt3 := scan_apart (p := fun x => ltR x D[a]!) (q := fun x => !ltR x D[a]!) (fun x => rfl) HI.out HJ.out (by omega) hle2
              have hnz : ¬ ((j' : Int) < (i' : Int)) := by omega
              obtain ⟨I0, hI0⟩ : ∃ I0, i' + 1 = I0 := ⟨_, rfl⟩
              obtain ⟨J0, hJ0⟩ : ∃ J0, j' - 1 = J0 := ⟨_, rfl⟩
              have hI0z : (i' : Int) + 1 = (I0 : Int) := by omega
              have hJ0z : (j' : Int) - 1 = (J0 : Int) := by omega
              have hb0 : a < I0 ∧ I0 ≤ J0 + 1 ∧ J0 < b := by omega
              obtain ⟨D0, hD0⟩ : ∃ D0, swp D i' j' = D0 := ⟨_, rfl⟩
              have HQ := Lib.hid (show ((partLoop ltR a I0 J0 D0).1, false, swp (partLoop ltR a I0 J0 D0).2 (partLoop ltR a I0 J0 D0).1 a) = X by
                rw [← HP.out, ← HI.out, ← HJ.out, if_neg (by omega), hI0, hJ0, hD0])
              have HD0 := Lib.hid hD0
              clear hlv2 hI0 hJ0 hD0
              go_wp2_with (first
                | (go_at_call 220; refine hl.mono ?_; rintro e w' ⟨rfl, hR⟩; have hs := S.swapZ i' j' (i' : Int) (j' : Int) hR (by omega) (by omega) rfl rfl; clear hR hl)
                | (go_at_call 221; refine hs.mono ?_; rintro e w2 ⟨rfl, hR⟩; have HR := Lib.hid hR; clear hR hs))
              (try rw [decide_eq_false (show ¬ j' < i' by omega)])
              go_loopw [10, 11] (fun vi vj wr => ∃ (i j : Nat) (dk : RA), vi = .int .i64 i ∧ vj = .int .i64 j ∧ a < i ∧ i ≤ j + 1 ∧ j < b ∧ Hid (R dk wr ∧ partLoop ltR a i j dk = partLoop ltR a I0 J0 D0)) (fun vi vj _ => (intOf vj).toNat + 1 - (intOf vi).toNat)
              case atStart => exact ⟨I0, J0, D0, rfl, rfl, hb0.1, hb0.2.1, hb0.2.2, by rw [← HD0.out]; exact HR.out, rfl⟩
              case round =>
                clear HP HI HJ HD HR HD0 hIz hJz hI0z hJ0z hlt3 hnz
                obtain ⟨i, j, dk, rfl, rfl, hai, hij, hjb, HO⟩ := hrel
                go_wp2
                go_loopw [10] (fun vi w1 => ∃ (i' : Nat), vi = .int .i64 i' ∧ i ≤ i' ∧ i' ≤ j + 1 ∧ Hid (R dk w1 ∧ scanUp (fun x => ltR x dk[a]!) dk j i' = scanUp (fun x => ltR x dk[a]!) dk j i)) (fun vi _ => j + 1 - (intOf vi).toNat)
                case atStart => exact ⟨i, rfl, Nat.le_refl _, hij, HO.out.1, rfl⟩
                case round =>
                  obtain ⟨x, rfl, hix, hxj, HU⟩ := hrel
                  by_cases hgo : x ≤ j ∧ ltR dk[x]! dk[a]! = true
                  · obtain ⟨hle, hlv⟩ := hgo
                    have hl := S.lessZ x a (x : Int) (a : Int) true HU.out.1 (by omega) (by omega) rfl rfl hlv
                    have HV := Lib.hid hlv
                    clear hlv
                    go_wp2_with (go_at_call 220; refine hl.mono ?_; rintro e w' ⟨rfl, hR⟩; have HR := Lib.hid hR; clear hR hl)
                    go_roundw
                    case rel => exact ⟨x + 1, by go_num, by omega, by omega, HR.out, (up_go hle HV.out).symm.trans HU.out.2⟩
                    case measure => simp [intOf]; omega
                  · have HI := Lib.hid (show x = scanUp (fun x => ltR x dk[a]!) dk j i by
                      rw [← HU.out.2, up_end]
                      by_cases hle : x ≤ j
                      · right
                        cases hlv : ltR dk[x]! dk[a]! with
                        | false => rfl
                        | true => exact absurd ⟨hle, hlv⟩ hgo
                      · exact .inl hle)
                    by_cases hlex : x ≤ j
                    · have hlv : ltR dk[x]! dk[a]! = false := by
                        cases hlv : ltR dk[x]! dk[a]! with
                        | false => rfl
                        | true => exact absurd ⟨hlex, hlv⟩ hgo
                      have hl := S.lessZ x a (x : Int) (a : Int) false HU.out.1 (by omega) (by omega) rfl rfl hlv
                      clear hlv hgo HU
                      go_wp2_with (go_at_call 220; refine hl.mono ?_; rintro e w' ⟨rfl, hR⟩; have HR := Lib.hid hR; clear hR hl)
                      go_loopw [11] (fun vj w2 => ∃ (y : Nat), vj = .int .i64 y ∧ y ≤ j ∧ x ≤ y + 1 ∧ Hid (R dk w2 ∧ scanDown (fun x => !ltR x dk[a]!) dk x y = scanDown (fun x => !ltR x dk[a]!) dk x j)) (fun vj _ => (intOf vj).toNat)
                      case atStart => exact ⟨j, rfl, Nat.le_refl _, hxj, HR.out, rfl⟩
                      case round =>
                        obtain ⟨y, rfl, hyj, hxy, HD⟩ := hrel
                        clear HR
                        by_cases hle3 : x ≤ y
                        · cases hlv3 : ltR dk[y]! dk[a]! with
                          | false =>
                            have hl := S.lessZ y a (y : Int) (a : Int) false HD.out.1 (by omega) (by omega) rfl rfl hlv3
                            have HV := Lib.hid hlv3
                            clear hlv3
                            go_wp2_with (go_at_call 220; refine hl.mono ?_; rintro e w' ⟨rfl, hR⟩; have HR := Lib.hid hR; clear hR hl)
                            go_roundw
                            case rel => exact ⟨y - 1, by congr 1 <;> omega, by omega, by omega, HR.out, (down_go hle3 (by omega) (by rw [HV.out]; rfl)).symm.trans HD.out.2⟩
                            case measure => simp [intOf]; omega
                          | true =>
                            have hl := S.lessZ y a (y : Int) (a : Int) true HD.out.1 (by omega) (by omega) rfl rfl hlv3
                            have HJ := Lib.hid (show y = scanDown (fun x => !ltR x dk[a]!) dk x j by rw [← HD.out.2, down_end (Or.inr (by rw [hlv3]; rfl))])
                            have hlt4 := scan_apart (p := fun x => ltR x dk[a]!) (q := fun x => !ltR x dk[a]!) (fun x => rfl) HI.out HJ.out (by omega) hle3
                            have hnz : ¬ ((y : Int) < (x : Int)) := by omega
                            clear hlv3
                            go_wp2_with (first
                              | (go_at_call 220; refine hl.mono ?_; rintro e w' ⟨rfl, hR⟩; have hs := S.swapZ x y (x : Int) (y : Int) hR (by omega) (by omega) rfl rfl; clear hR hl)
                              | (go_at_call 221; refine hs.mono ?_; rintro e w2 ⟨rfl, hR⟩; have HR := Lib.hid hR; clear hR hs))
                            go_roundw
                            case rel => exact ⟨x + 1, y - 1, swp dk x y, by go_num, by congr 1 <;> omega, by omega, by omega, by omega, HR.out, by rw [← HO.out.2, partLoop_eq ltR a i j dk, ← HI.out, ← HJ.out, if_neg (by omega)]⟩
                            case measure => simp [intOf]; omega
                        · have HJ := Lib.hid (show y = scanDown (fun x => !ltR x dk[a]!) dk x j by rw [← HD.out.2, down_end (Or.inl hle3)])
                          have hs := S.swapZ y a (y : Int) (a : Int) HD.out.1 (by omega) (by omega) rfl rfl
                          go_wp2_with (go_at_call 221; refine hs.mono ?_; rintro e w2 ⟨rfl, hR⟩; have HR := Lib.hid hR; clear hR hs)
                          go_ret2
                          have e : partLoop ltR a I0 J0 D0 = (y, dk) := by rw [← HO.out.2, partLoop_eq ltR a i j dk, ← HI.out, ← HJ.out, if_pos (by omega)]
                          rw [← HQ.out, e]
                          exact ⟨rfl, HR.out⟩
                    · have HR := Lib.hid HU.out.1
                      clear hgo HU
                      go_wp2
                      go_loopw [11] (fun vj w2 => vj = .int .i64 j ∧ Hid (R dk w2)) (fun vj _ => 0)
                      case atStart => exact ⟨rfl, HR.out⟩
                      case round =>
                        obtain ⟨rfl, HD⟩ := hrel
                        clear HR
                        have HJ := Lib.hid (show j = scanDown (fun x => !ltR x dk[a]!) dk x j by rw [down_end (Or.inl hlex)])
                        have hs := S.swapZ j a (j : Int) (a : Int) HD.out (by omega) (by omega) rfl rfl
                        go_wp2_with (go_at_call 221; refine hs.mono ?_; rintro e w2 ⟨rfl, hR⟩; have HR := Lib.hid hR; clear hR hs)
                        go_ret2
                        have e : partLoop ltR a I0 J0 D0 = (j, dk) := by rw [← HO.out.2, partLoop_eq ltR a i j dk, ← HI.out, ← HJ.out, if_pos (by omega)]
                        rw [← HQ.out, e]
                        exact ⟨rfl, HR.out⟩
          · have HJ := Lib.hid (show j' = scanDown (fun x => !ltR x D[a]!) D i' J by rw [← HD.out.2, down_end (Or.inl hle2)])
            have hs := S.swapZ j' a (j' : Int) (a : Int) HD.out.1 (by omega) (by omega) rfl rfl
            go_wp2_with (go_at_call 221; refine hs.mono ?_; rintro e w2 ⟨rfl, hR⟩; have HR := Lib.hid hR; clear hR hs)
            go_ret2
            rw [← HP.out, ← HI.out, ← HJ.out, if_pos (by omega)]
            exact ⟨rfl, HR.out⟩
      · have HR := Lib.hid HU.out.1
        clear hgo HU
        go_wp2
        go_loopw [11] (fun vj w2 => vj = .int .i64 J ∧ Hid (R D w2)) (fun vj _ => 0)
        case atStart => exact ⟨rfl, HR.out⟩
        case round =>
          obtain ⟨rfl, HD⟩ := hrel
          clear HR
          have HJ := Lib.hid (show J = scanDown (fun x => !ltR x D[a]!) D i' J by rw [down_end (Or.inl hle)])
          have hs := S.swapZ J a (J : Int) (a : Int) HD.out (by omega) (by omega) rfl rfl
          go_wp2_with (go_at_call 221; refine hs.mono ?_; rintro e w2 ⟨rfl, hR⟩; have HR := Lib.hid hR; clear hR hs)
          go_ret2
          rw [← HP.out, ← HI.out, ← HJ.out, if_pos (by omega)]
          exact ⟨rfl, HR.out⟩
end Go.Proofs.YtjofbeokkainlaaGreatDoor
