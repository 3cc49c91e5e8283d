
/- The library's pdqsort and Sort over such a row: the records of the range, in order. -/
import Derived.Test.YtjofbeokkainlaaGreatDoorMg28
import Derived.Test.YtjofbeokkainlaaGreatDoorMg29
import Derived.Test.YtjofbeokkainlaaGreatDoorSo3
import Derived.Test.YtjofbeokkainlaaGreatDoorSo5
import Derived.Sort.AssemblyPlain
import Derived.Sort.LotD2
import Derived.Deep.Cut
namespace Go.Proofs.YtjofbeokkainlaaGreatDoor
open Go.ChangeShapes Go.WideShapes Go.ChangeAt Go.RowKit Go.Lib
open Go.Sort hiding Below
set_option linter.unusedVariables false
set_option maxRecDepth 1000000
variable {R : RA → World → Prop} {ra : Option Addr} {rl rc n B : Nat}

/-- The end of a sort of a range. -/
def InRow (R : RA → World → Prop) (a b : Nat) (V : RA) (e : Ending) (w' : World) : Prop := e = .returned (.tuple #[]) ∧ ∃ V', R V' w' ∧ PermIn a b V V' ∧ SortedIn ltR a b V'
/-- What is left to be sorted: whoever sorts it has sorted all. -/
def Left (R : RA → World → Prop) (a b : Nat) (V : RA) (a' b' : Nat) (D : RA) (w : World) : Prop :=
  R D w ∧ Go.Sort.Below ltR a' b' D ∧ ∀ V', PermIn a' b' D V' → SortedIn ltR a' b' V' → PermIn a b V V' ∧ SortedIn ltR a b V'

set_option maxHeartbeats 12800000 in
theorem pdq_any (S : SortRow R ra rl rc n B) (hO : SWO ltR) (hn : n < 4611686018427387904) :
    ∀ (N a b limit : Nat) (V : RA) (w : World), b - a < N → R V w → a ≤ b → b ≤ n → limit < 4611686018427387904 → Go.Sort.Below ltR a b V →
    Calls Tryz.prog 68 #[.iface 78 (.slice ra rl rc), .int .i64 a, .int .i64 b, .int .i64 limit] w (InRow R a b V) := by
  have m1 := method_less ra rl rc
  have m2 := method_swap ra rl rc
  intro N
  induction N with
  | zero => intro _ _ _ _ _ h; exact absurd h (Nat.not_lt_zero _)
  | succ N ih =>
    intro a b limit V w hN h hab hb hlimit hBel
    have H := Lib.hid (show Left R a b V a b V w from ⟨h, hBel, fun V' h1 h2 => ⟨h1, h2⟩⟩)
    clear h hBel
    go_enter Tryz.func68, Tryz.ntmps68
    go_wp2
    go_loopw [1, 2, 3, 8, 9] (fun s1 s2 s3 s8 s9 wr => ∃ (a' b' lim : Nat) (wb wp : Bool) (dk : RA), s1 = .int .i64 a' ∧ s2 = .int .i64 b' ∧ s3 = .int .i64 lim ∧ s8 = .bool wb ∧ s9 = .bool wp ∧
      a' ≤ b' ∧ b' ≤ n ∧ b' - a' ≤ b - a ∧ lim ≤ limit ∧ Hid (Left R a b V a' b' dk wr)) (fun s1 s2 _ _ _ _ => (intOf s2).toNat - (intOf s1).toNat)
    case atStart => exact ⟨a, b, limit, true, true, V, rfl, rfl, rfl, rfl, rfl, hab, hb, Nat.le_refl _, Nat.le_refl _, H.out⟩
    case round =>
      clear H
      obtain ⟨a', b', lim, wb, wp, dk, rfl, rfl, rfl, rfl, rfl, hab', hb', hk, hlim, HO⟩ := hrel
      have HS := Lib.hid (S.size HO.out.1)
      by_cases h12 : b' - a' ≤ 12
      · have h12z : (b' : Int) - (a' : Int) ≤ 12 := by omega
        have hc := isort_any S a' b' dk wr HO.out.1 hab' hb' hn
        go_wp2_with (go_at_call 93; refine hc.mono ?_; rintro e w1 ⟨rfl, hR⟩; have HR := Lib.hid hR; clear hR hc)
        (try simp only [Exit.inBlock, Exit.then]); refine bodyPost_ret (results_none rfl _ _ _) rfl ?_
        have hs := insertionSort_holds hO dk a' b' hab' (by rw [HS.out]; exact hb')
        exact ⟨rfl, _, HR.out, HO.out.2.2 _ hs.1 hs.2⟩
      · have h12z : ¬ ((b' : Int) - (a' : Int) ≤ 12) := by omega
        by_cases hl0 : lim = 0
        · subst hl0
          have hc := heap_any S a' b' dk wr HO.out.1 hab' hb' hn
          go_wp2_with (go_at_call 94; refine hc.mono ?_; rintro e w1 ⟨rfl, hR⟩; have HR := Lib.hid hR; clear hR hc)
          (try simp only [Exit.inBlock, Exit.then]); refine bodyPost_ret (results_none rfl _ _ _) rfl ?_
          have hs := heapSort_holds hO dk a' b' hab' (by rw [HS.out]; exact hb')
          exact ⟨rfl, _, HR.out, HO.out.2.2 _ hs.1 hs.2⟩
        · have hl0z : ¬ ((lim : Int) = 0) := by omega
          go_upto_if 35 with fail
          go_cut [3] from 19 (fun s3 wc => ∃ (l1 : Nat) (d1 : RA), s3 = .int .i64 l1 ∧ l1 ≤ limit ∧ Hid (R d1 wc ∧ PermIn a' b' dk d1))
          case first =>
            cases wb
            · have hc := brk_any S a' b' dk wr HO.out.1 hab' hb' hn
              go_wp2_with (go_at_call 95; refine hc.mono ?_; rintro e w1 ⟨rfl, d1, hR, hP⟩; have HR := Lib.hid hR; have HP := Lib.hid hP; clear hR hP hc)
              go_meet
              case rel => exact ⟨lim - 1, d1, by congr 1 <;> omega, by omega, HR.out, HP.out⟩
            · go_wp2_with fail
              go_meet
              case rel => exact ⟨lim, dk, rfl, hlim, HO.out.1, permIn_refl _ _ _⟩
          case rest =>
            obtain ⟨l1, d1, rfl, hl1, H1⟩ := hcut
            clear hl0 hl0z
            have hc := pivot_any S a' b' d1 wc H1.out.1 (by omega) hb' hn
            go_upto_if 50 with (go_at_call 96; refine hc.mono ?_; rintro e w2 ⟨p, hint, rfl, hp0, hp1, hh2, hR⟩; have HR := Lib.hid hR; clear hR hc)
            go_cut [11, 12] from 19 (fun s11 s12 wc => ∃ (p1 : Nat) (h1 : Int) (d2 : RA), s11 = .int .i64 p1 ∧ s12 = .int .i64 h1 ∧ a' ≤ p1 ∧ p1 < b' ∧ Hid (R d2 wc ∧ PermIn a' b' dk d2))
            case first =>
              by_cases hd : hint = 2
              · subst hd
                have hc := reverse_any S a' b' d1 w2 HR.out (by omega) hb' hn
                go_wp2_with (go_at_call 97; refine hc.mono ?_; rintro e w3 ⟨rfl, hR⟩; have HR2 := Lib.hid hR; clear hR hc)
                go_meet
                case rel => exact ⟨b' - 1 - (p - a'), 1, _, by congr 1 <;> omega, rfl, by omega, by omega, HR2.out, permIn_trans _ _ _ _ _ H1.out.2 (reverseRange_holds d1 a' b' hab' (by rw [H1.out.2.1, HS.out]; exact hb'))⟩
              · have hd1 : (hint == 2) = false := beq_eq_false_iff_ne.2 hd
                go_wp2_with fail
                go_meet
                case rel => exact ⟨p, hint, d1, rfl, rfl, hp0, hp1, HR.out, H1.out.2⟩
            case rest =>
              clear HR H1
              obtain ⟨p1, h1, d2, rfl, rfl, hp10, hp11, H2⟩ := hcut
              go_upto_region 15 with fail
              go_cut [12, 68] from 19 (fun s12 s68 wx => ∃ (t : Bool) (h2 : Int), s12 = .int .i64 h2 ∧ s68 = .bool t ∧ wx = wc)
              case first =>
                cases wb <;> cases wp
                all_goals
                  go_wp2_with fail
                  go_meet
                  exact ⟨_, _, rfl, rfl, rfl⟩
              case rest =>
                obtain ⟨t, h2, rfl, rfl, rfl⟩ := hcut
                go_upto_if 68 with fail
                go_cut [] from 19 (fun wx => ∃ d3 : RA, Hid (R d3 wx ∧ PermIn a' b' dk d3))
                case first =>
                  cases t
                  · go_wp2_with fail
                    go_meet
                    case rel => exact ⟨d2, H2.out.1, H2.out.2⟩
                  · have hc := pins_any S a' b' d2 wc H2.out.1 (by omega) hb' hn
                    have hbel := HO.out.2.1.perm (by rw [HS.out]; exact hb') H2.out.2
                    have hs := partialInsertionSort_holds hO d2 a' b' (by omega) (by rw [H2.out.2.1, HS.out]; exact hb') hbel
                    obtain ⟨D, hD⟩ : ∃ D, (partialInsertionSort ltR d2 a' b').1 = D := ⟨_, rfl⟩
                    obtain ⟨z, hz⟩ : ∃ z, (partialInsertionSort ltR d2 a' b').2 = z := ⟨_, rfl⟩
                    rw [hD, hz] at hc hs
                    have HSS := Lib.hid hs
                    clear hs hbel hD hz
                    cases z with
                    | false =>
                      go_wp2_with (go_at_call 98; refine hc.mono ?_; rintro e w4 ⟨rfl, hR⟩; have HR := Lib.hid hR; clear hR hc)
                      go_meet
                      exact ⟨D, HR.out, permIn_trans _ _ _ _ _ H2.out.2 HSS.out.1⟩
                    | true =>
                      go_wp2_with (go_at_call 98; refine hc.mono ?_; rintro e w4 ⟨rfl, hR⟩; have HR := Lib.hid hR; clear hR hc)
                      (try simp only [Exit.inBlock, Exit.then]); refine bodyPost_ret (results_none rfl _ _ _) rfl ?_
                      exact ⟨rfl, D, HR.out, HO.out.2.2 _ (permIn_trans _ _ _ _ _ H2.out.2 HSS.out.1) (HSS.out.2 (by trivial))⟩
                case rest =>
                  obtain ⟨d3, H3⟩ := hcut
                  clear H2
                  have HB3 := Lib.hid (show Go.Sort.Below ltR a' b' d3 ∧ d3.size = n from ⟨HO.out.2.1.perm (by rw [HS.out]; exact hb') H3.out.2, by rw [H3.out.2.1, HS.out]⟩)
                  go_upto_region 17 with fail
                  go_cut [82] from 19 (fun s82 wx => ∃ t : Bool, s82 = .bool t ∧ Hid ((t = true → 0 < a' ∧ ltR d3[a' - 1]! d3[p1]! = false) ∧ R d3 wx))
                  case first =>
                    rcases Nat.eq_zero_or_pos a' with ha0 | ha0
                    · have ha0z : decide ((a' : Int) > 0) = false := decide_eq_false (by omega)
                      have ha0y : ¬ ((a' : Int) > 0) := by omega
                      clear ha0
                      go_wp2_with fail
                      go_meet
                      case rel => exact ⟨false, rfl, fun h => (by cases h), H3.out.1⟩
                    · have ha0z : (a' : Int) > 0 := by omega
                      cases hlv : ltR d3[a' - 1]! d3[p1]! with
                      | true =>
                        have hl := S.lessZ (a' - 1) p1 ((a' : Int) - 1) (p1 : Int) true H3.out.1 (by omega) (by omega) (by omega) rfl hlv
                        have HV := Lib.hid hlv
                        clear hlv
                        go_wp2_with (go_at_call 220; refine hl.mono ?_; rintro e w' ⟨rfl, hR⟩; have HR := Lib.hid hR; clear hR hl)
                        go_meet
                        exact ⟨false, rfl, fun h => (by cases h), HR.out⟩
                      | false =>
                        have hl := S.lessZ (a' - 1) p1 ((a' : Int) - 1) (p1 : Int) false H3.out.1 (by omega) (by omega) (by omega) rfl hlv
                        have HV := Lib.hid hlv
                        clear hlv
                        go_wp2_with (go_at_call 220; refine hl.mono ?_; rintro e w' ⟨rfl, hR⟩; have HR := Lib.hid hR; clear hR hl)
                        go_meet
                        exact ⟨true, rfl, fun _ => ⟨ha0, HV.out⟩, HR.out⟩
                  case rest =>
                    obtain ⟨t, rfl, H4⟩ := hcut
                    cases t with
                    | false =>
                      obtain ⟨mid, ap, d4, hx⟩ : ∃ mid ap d4, partition ltR d3 a' b' p1 = (mid, ap, d4) := ⟨(partition ltR d3 a' b' p1).1, (partition ltR d3 a' b' p1).2.1, (partition ltR d3 a' b' p1).2.2, rfl⟩
                      obtain ⟨r1, r2, r3, r4, r5, r6, r7⟩ := round_part hO (partition_holds ltR) hp10 hp11 (by rw [HB3.out.2]; exact hb') HB3.out.1 hx
                      have hc := sopart_any S a' b' p1 d3 wc H4.out.2 hp10 hp11 hb' hn
                      rw [hx] at hc
                      have HR4 := Lib.hid r4
                      have HR5 := Lib.hid r5
                      have HR6 := Lib.hid r6
                      have HR7 := Lib.hid r7
                      clear hx r3 r4 r5 r6 r7
                      go_upto_if 108 with (go_at_call 100; refine hc.mono ?_; rintro e w7 ⟨rfl, hR⟩; have HR := Lib.hid hR; clear hR hc)
                      by_cases h4 : mid - a' < b' - mid
                      · have h4z : (mid : Int) - (a' : Int) < (b' : Int) - (mid : Int) := by omega
                        have hih := ih a' mid l1 d4 w7 (by omega) HR.out r1 (by omega) (by omega) HR4.out
                        go_wp2_with (go_at_call 68; refine hih.mono ?_; rintro e w8 ⟨rfl, V5, hR, hP, hS⟩; have H5 := Lib.hid (And.intro hR (And.intro hP hS)); clear hR hP hS hih)
                        go_roundw
                        case rel =>
                          refine ⟨mid + 1, b', l1, _, ap, V5, by simp, rfl, rfl, rfl, rfl, by omega, by omega, by omega, hl1, H5.out.1, (HR6.out _ H5.out.2.1 H5.out.2.2).1, fun V' k1 k2 => ?_⟩
                          have hq := (HR6.out _ H5.out.2.1 H5.out.2.2).2 V' k1 k2
                          exact HO.out.2.2 V' (permIn_trans _ _ _ _ _ H3.out.2 hq.1) hq.2
                        case measure => simp [intOf]; omega
                      · have h4z : ¬ ((mid : Int) - (a' : Int) < (b' : Int) - (mid : Int)) := by omega
                        have hih := ih (mid + 1) b' l1 d4 w7 (by omega) HR.out (by omega) (by omega) (by omega) HR5.out
                        rw [show ((mid + 1 : Nat) : Int) = (mid : Int) + 1 by omega] at hih
                        go_wp2_with (go_at_call 68; refine hih.mono ?_; rintro e w8 ⟨rfl, V5, hR, hP, hS⟩; have H5 := Lib.hid (And.intro hR (And.intro hP hS)); clear hR hP hS hih)
                        go_roundw
                        case rel =>
                          refine ⟨a', mid, l1, _, ap, V5, rfl, rfl, rfl, rfl, rfl, by omega, by omega, by omega, hl1, H5.out.1, (HR7.out _ H5.out.2.1 H5.out.2.2).1, fun V' k1 k2 => ?_⟩
                          have hq := (HR7.out _ H5.out.2.1 H5.out.2.2).2 V' k1 k2
                          exact HO.out.2.2 V' (permIn_trans _ _ _ _ _ H3.out.2 hq.1) hq.2
                        case measure => simp [intOf]; omega
                    | true =>
                      obtain ⟨mid, d4, hx⟩ : ∃ mid d4, partitionEqual ltR d3 a' b' p1 = (mid, d4) := ⟨(partitionEqual ltR d3 a' b' p1).1, (partitionEqual ltR d3 a' b' p1).2, rfl⟩
                      obtain ⟨r1, r2, r3, r4, r5⟩ := round_eq hO (partitionEqual_holds ltR) (H4.out.1 rfl).1 hp10 hp11 (by rw [HB3.out.2]; exact hb') HB3.out.1 (H4.out.1 rfl).2 hx
                      have hc := partEq_any S a' b' p1 d3 wc H4.out.2 hp10 hp11 hb' hn
                      rw [hx] at hc
                      have HR4 := Lib.hid r4
                      have HR5 := Lib.hid r5
                      clear hx r3 r4 r5
                      go_wp2_with (go_at_call 99; refine hc.mono ?_; rintro e w7 ⟨rfl, hR⟩; have HR := Lib.hid hR; clear hR hc)
                      go_roundw
                      case rel =>
                        refine ⟨mid, b', l1, wb, wp, d4, rfl, rfl, rfl, rfl, rfl, by omega, by omega, by omega, hl1, HR.out, HR4.out, fun V' k1 k2 => ?_⟩
                        have hq := HR5.out V' k1 k2
                        exact HO.out.2.2 V' (permIn_trans _ _ _ _ _ H3.out.2 hq.1) hq.2
                      case measure => simp [intOf]; omega
end Go.Proofs.YtjofbeokkainlaaGreatDoor
