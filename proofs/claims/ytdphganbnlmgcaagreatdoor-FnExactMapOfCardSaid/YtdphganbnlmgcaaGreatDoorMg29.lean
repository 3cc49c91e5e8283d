/- Texts put together, as a claim holds at most sixty files. -/
import Derived.Test.YtdphganbnlmgcaaGreatDoorMg27
import Derived.Test.YtdphganbnlmgcaaGreatDoorMg28
import Derived.Sort.AssemblyPlain
import Derived.Sort.LotD2
import Derived.Deep.Cut
import Derived.Test.YtdphganbnlmgcaaGreatDoorMg26
import Derived.Test.YtdphganbnlmgcaaGreatDoorMg23
import Derived.Test.YtdphganbnlmgcaaGreatDoorMg24
import Derived.Test.YtdphganbnlmgcaaGreatDoorMg4
import Derived.Laws.CopyOwn
namespace Go.Proofs.YtdphganbnlmgcaaGreatDoor
open Go.ChangeShapes Go.WideShapes Go.ChangeAt Go.RowKit Go.Lib
open Go.Sort hiding Below
set_option linter.unusedVariables false
set_option maxRecDepth 1000000
variable {R : RA → World → Prop} {ra : Option Addr} {rl rc n B : Nat}

/-- The end of a sort of a range. -/
def InRow (R : RA → World → Prop) (a b : Nat) (V : RA) (e : Ending) (w' : World) : Prop := e = .returned (.tuple #[]) ∧ ∃ V', R V' w' ∧ PermIn a b V V' ∧ SortedIn ltR a b V'
/-- What is left to be sorted: whoever sorts it has sorted all. -/
def Left (R : RA → World → Prop) (a b : Nat) (V : RA) (a' b' : Nat) (D : RA) (w : World) : Prop :=
  R D w ∧ Go.Sort.Below ltR a' b' D ∧ ∀ V', PermIn a' b' D V' → SortedIn ltR a' b' V' → PermIn a b V V' ∧ SortedIn ltR a b V'

set_option maxHeartbeats 12800000 in
theorem pdq_any (S : SortRow R ra rl rc n B) (hO : SWO ltR) (hn : n < 4611686018427387904) :
    ∀ (N a b limit : Nat) (V : RA) (w : World), b - a < N → R V w → a ≤ b → b ≤ n → limit < 4611686018427387904 → Go.Sort.Below ltR a b V →
    Calls Tryz.prog 96 #[.iface 131 (.slice ra rl rc), .int .i64 a, .int .i64 b, .int .i64 limit] w (InRow R a b V) := by
  have m1 := method_less ra rl rc
  have m2 := method_swap ra rl rc
  intro N
  induction N with
  | zero => intro _ _ _ _ _ h; exact absurd h (Nat.not_lt_zero _)
  | succ N ih =>
    intro a b limit V w hN h hab hb hlimit hBel
    have H := Lib.hid (show Left R a b V a b V w from ⟨h, hBel, fun V' h1 h2 => ⟨h1, h2⟩⟩)
    clear h hBel
    go_enter Tryz.func96, Tryz.ntmps96
    go_wp2
    go_loopw [1, 2, 3, 8, 9] (fun s1 s2 s3 s8 s9 wr => ∃ (a' b' lim : Nat) (wb wp : Bool) (dk : RA), s1 = .int .i64 a' ∧ s2 = .int .i64 b' ∧ s3 = .int .i64 lim ∧ s8 = .bool wb ∧ s9 = .bool wp ∧
      a' ≤ b' ∧ b' ≤ n ∧ b' - a' ≤ b - a ∧ lim ≤ limit ∧ Hid (Left R a b V a' b' dk wr)) (fun s1 s2 _ _ _ _ => (intOf s2).toNat - (intOf s1).toNat)
    case atStart => exact ⟨a, b, limit, true, true, V, rfl, rfl, rfl, rfl, rfl, hab, hb, Nat.le_refl _, Nat.le_refl _, H.out⟩
    case round =>
      clear H
      obtain ⟨a', b', lim, wb, wp, dk, rfl, rfl, rfl, rfl, rfl, hab', hb', hk, hlim, HO⟩ := hrel
      have HS := Lib.hid (S.size HO.out.1)
      by_cases h12 : b' - a' ≤ 12
      · have h12z : (b' : Int) - (a' : Int) ≤ 12 := by omega
        have hc := isort_any S a' b' dk wr HO.out.1 hab' hb' hn
        go_wp2_with (go_at_call 103; refine hc.mono ?_; rintro e w1 ⟨rfl, hR⟩; have HR := Lib.hid hR; clear hR hc)
        (try simp only [Exit.inBlock, Exit.then]); refine bodyPost_ret (results_none rfl _ _ _) rfl ?_
        have hs := insertionSort_holds hO dk a' b' hab' (by rw [HS.out]; exact hb')
        exact ⟨rfl, _, HR.out, HO.out.2.2 _ hs.1 hs.2⟩
      · have h12z : ¬ ((b' : Int) - (a' : Int) ≤ 12) := by omega
        by_cases hl0 : lim = 0
        · subst hl0
          have hc := heap_any S a' b' dk wr HO.out.1 hab' hb' hn
          go_wp2_with (go_at_call 104; refine hc.mono ?_; rintro e w1 ⟨rfl, hR⟩; have HR := Lib.hid hR; clear hR hc)
          (try simp only [Exit.inBlock, Exit.then]); refine bodyPost_ret (results_none rfl _ _ _) rfl ?_
          have hs := heapSort_holds hO dk a' b' hab' (by rw [HS.out]; exact hb')
          exact ⟨rfl, _, HR.out, HO.out.2.2 _ hs.1 hs.2⟩
        · have hl0z : ¬ ((lim : Int) = 0) := by omega
          go_upto_if 35 with fail
          go_cut [3] from 19 (fun s3 wc => ∃ (l1 : Nat) (d1 : RA), s3 = .int .i64 l1 ∧ l1 ≤ limit ∧ Hid (R d1 wc ∧ PermIn a' b' dk d1))
          case first =>
            cases wb
            · have hc := brk_any S a' b' dk wr HO.out.1 hab' hb' hn
              go_wp2_with (go_at_call 105; refine hc.mono ?_; rintro e w1 ⟨rfl, d1, hR, hP⟩; have HR := Lib.hid hR; have HP := Lib.hid hP; clear hR hP hc)
              go_meet
              case rel => exact ⟨lim - 1, d1, by congr 1 <;> omega, by omega, HR.out, HP.out⟩
            · go_wp2_with fail
              go_meet
              case rel => exact ⟨lim, dk, rfl, hlim, HO.out.1, permIn_refl _ _ _⟩
          case rest =>
            obtain ⟨l1, d1, rfl, hl1, H1⟩ := hcut
            clear hl0 hl0z
            have hc := pivot_any S a' b' d1 wc H1.out.1 (by omega) hb' hn
            go_upto_if 50 with (go_at_call 106; refine hc.mono ?_; rintro e w2 ⟨p, hint, rfl, hp0, hp1, hh2, hR⟩; have HR := Lib.hid hR; clear hR hc)
            go_cut [11, 12] from 19 (fun s11 s12 wc => ∃ (p1 : Nat) (h1 : Int) (d2 : RA), s11 = .int .i64 p1 ∧ s12 = .int .i64 h1 ∧ a' ≤ p1 ∧ p1 < b' ∧ Hid (R d2 wc ∧ PermIn a' b' dk d2))
            case first =>
              by_cases hd : hint = 2
              · subst hd
                have hc := reverse_any S a' b' d1 w2 HR.out (by omega) hb' hn
                go_wp2_with (go_at_call 107; refine hc.mono ?_; rintro e w3 ⟨rfl, hR⟩; have HR2 := Lib.hid hR; clear hR hc)
                go_meet
                case rel => exact ⟨b' - 1 - (p - a'), 1, _, by congr 1 <;> omega, rfl, by omega, by omega, HR2.out, permIn_trans _ _ _ _ _ H1.out.2 (reverseRange_holds d1 a' b' hab' (by rw [H1.out.2.1, HS.out]; exact hb'))⟩
              · have hd1 : (hint == 2) = false := beq_eq_false_iff_ne.2 hd
                go_wp2_with fail
                go_meet
                case rel => exact ⟨p, hint, d1, rfl, rfl, hp0, hp1, HR.out, H1.out.2⟩
            case rest =>
              clear HR H1
              obtain ⟨p1, h1, d2, rfl, rfl, hp10, hp11, H2⟩ := hcut
              go_upto_region 15 with fail
              go_cut [12, 68] from 19 (fun s12 s68 wx => ∃ (t : Bool) (h2 : Int), s12 = .int .i64 h2 ∧ s68 = .bool t ∧ wx = wc)
              case first =>
                cases wb <;> cases wp
                all_goals
                  go_wp2_with fail
                  go_meet
                  exact ⟨_, _, rfl, rfl, rfl⟩
              case rest =>
                obtain ⟨t, h2, rfl, rfl, rfl⟩ := hcut
                go_upto_if 68 with fail
                go_cut [] from 19 (fun wx => ∃ d3 : RA, Hid (R d3 wx ∧ PermIn a' b' dk d3))
                case first =>
                  cases t
                  · go_wp2_with fail
                    go_meet
                    case rel => exact ⟨d2, H2.out.1, H2.out.2⟩
                  · have hc := pins_any S a' b' d2 wc H2.out.1 (by omega) hb' hn
                    have hbel := HO.out.2.1.perm (by rw [HS.out]; exact hb') H2.out.2
                    have hs := partialInsertionSort_holds hO d2 a' b' (by omega) (by rw [H2.out.2.1, HS.out]; exact hb') hbel
                    obtain ⟨D, hD⟩ : ∃ D, (partialInsertionSort ltR d2 a' b').1 = D := ⟨_, rfl⟩
                    obtain ⟨z, hz⟩ : ∃ z, (partialInsertionSort ltR d2 a' b').2 = z := ⟨_, rfl⟩
                    rw [hD, hz] at hc hs
                    have HSS := Lib.hid hs
                    clear hs hbel hD hz
                    cases z with
                    | false =>
                      go_wp2_with (go_at_call 108; refine hc.mono ?_; rintro e w4 ⟨rfl, hR⟩; have HR := Lib.hid hR; clear hR hc)
                      go_meet
                      exact ⟨D, HR.out, permIn_trans _ _ _ _ _ H2.out.2 HSS.out.1⟩
                    | true =>
                      go_wp2_with (go_at_call 108; refine hc.mono ?_; rintro e w4 ⟨rfl, hR⟩; have HR := Lib.hid hR; clear hR hc)
                      (try simp only [Exit.inBlock, Exit.then]); refine bodyPost_ret (results_none rfl _ _ _) rfl ?_
                      exact ⟨rfl, D, HR.out, HO.out.2.2 _ (permIn_trans _ _ _ _ _ H2.out.2 HSS.out.1) (HSS.out.2 (by trivial))⟩
                case rest =>
                  obtain ⟨d3, H3⟩ := hcut
                  clear H2
                  have HB3 := Lib.hid (show Go.Sort.Below ltR a' b' d3 ∧ d3.size = n from ⟨HO.out.2.1.perm (by rw [HS.out]; exact hb') H3.out.2, by rw [H3.out.2.1, HS.out]⟩)
                  go_upto_region 17 with fail
                  go_cut [82] from 19 (fun s82 wx => ∃ t : Bool, s82 = .bool t ∧ Hid ((t = true → 0 < a' ∧ ltR d3[a' - 1]! d3[p1]! = false) ∧ R d3 wx))
                  case first =>
                    rcases Nat.eq_zero_or_pos a' with ha0 | ha0
                    · have ha0z : decide ((a' : Int) > 0) = false := decide_eq_false (by omega)
                      have ha0y : ¬ ((a' : Int) > 0) := by omega
                      clear ha0
                      go_wp2_with fail
                      go_meet
                      case rel => exact ⟨false, rfl, fun h => (by cases h), H3.out.1⟩
                    · have ha0z : (a' : Int) > 0 := by omega
                      cases hlv : ltR d3[a' - 1]! d3[p1]! with
                      | true =>
                        have hl := S.lessZ (a' - 1) p1 ((a' : Int) - 1) (p1 : Int) true H3.out.1 (by omega) (by omega) (by omega) rfl hlv
                        have HV := Lib.hid hlv
                        clear hlv
                        go_wp2_with (go_at_call 217; refine hl.mono ?_; rintro e w' ⟨rfl, hR⟩; have HR := Lib.hid hR; clear hR hl)
                        go_meet
                        exact ⟨false, rfl, fun h => (by cases h), HR.out⟩
                      | false =>
                        have hl := S.lessZ (a' - 1) p1 ((a' : Int) - 1) (p1 : Int) false H3.out.1 (by omega) (by omega) (by omega) rfl hlv
                        have HV := Lib.hid hlv
                        clear hlv
                        go_wp2_with (go_at_call 217; refine hl.mono ?_; rintro e w' ⟨rfl, hR⟩; have HR := Lib.hid hR; clear hR hl)
                        go_meet
                        exact ⟨true, rfl, fun _ => ⟨ha0, HV.out⟩, HR.out⟩
                  case rest =>
                    obtain ⟨t, rfl, H4⟩ := hcut
                    cases t with
                    | false =>
                      obtain ⟨mid, ap, d4, hx⟩ : ∃ mid ap d4, partition ltR d3 a' b' p1 = (mid, ap, d4) := ⟨(partition ltR d3 a' b' p1).1, (partition ltR d3 a' b' p1).2.1, (partition ltR d3 a' b' p1).2.2, rfl⟩
                      obtain ⟨r1, r2, r3, r4, r5, r6, r7⟩ := round_part hO (partition_holds ltR) hp10 hp11 (by rw [HB3.out.2]; exact hb') HB3.out.1 hx
                      have hc := sopart_any S a' b' p1 d3 wc H4.out.2 hp10 hp11 hb' hn
                      rw [hx] at hc
                      have HR4 := Lib.hid r4
                      have HR5 := Lib.hid r5
                      have HR6 := Lib.hid r6
                      have HR7 := Lib.hid r7
                      clear hx r3 r4 r5 r6 r7
                      go_upto_if 108 with (go_at_call 110; refine hc.mono ?_; rintro e w7 ⟨rfl, hR⟩; have HR := Lib.hid hR; clear hR hc)
                      by_cases h4 : mid - a' < b' - mid
                      · have h4z : (mid : Int) - (a' : Int) < (b' : Int) - (mid : Int) := by omega
                        have hih := ih a' mid l1 d4 w7 (by omega) HR.out r1 (by omega) (by omega) HR4.out
                        go_wp2_with (go_at_call 96; refine hih.mono ?_; rintro e w8 ⟨rfl, V5, hR, hP, hS⟩; have H5 := Lib.hid (And.intro hR (And.intro hP hS)); clear hR hP hS hih)
                        go_roundw
                        case rel =>
                          refine ⟨mid + 1, b', l1, _, ap, V5, by simp, rfl, rfl, rfl, rfl, by omega, by omega, by omega, hl1, H5.out.1, (HR6.out _ H5.out.2.1 H5.out.2.2).1, fun V' k1 k2 => ?_⟩
                          have hq := (HR6.out _ H5.out.2.1 H5.out.2.2).2 V' k1 k2
                          exact HO.out.2.2 V' (permIn_trans _ _ _ _ _ H3.out.2 hq.1) hq.2
                        case measure => simp [intOf]; omega
                      · have h4z : ¬ ((mid : Int) - (a' : Int) < (b' : Int) - (mid : Int)) := by omega
                        have hih := ih (mid + 1) b' l1 d4 w7 (by omega) HR.out (by omega) (by omega) (by omega) HR5.out
                        rw [show ((mid + 1 : Nat) : Int) = (mid : Int) + 1 by omega] at hih
                        go_wp2_with (go_at_call 96; refine hih.mono ?_; rintro e w8 ⟨rfl, V5, hR, hP, hS⟩; have H5 := Lib.hid (And.intro hR (And.intro hP hS)); clear hR hP hS hih)
                        go_roundw
                        case rel =>
                          refine ⟨a', mid, l1, _, ap, V5, rfl, rfl, rfl, rfl, rfl, by omega, by omega, by omega, hl1, H5.out.1, (HR7.out _ H5.out.2.1 H5.out.2.2).1, fun V' k1 k2 => ?_⟩
                          have hq := (HR7.out _ H5.out.2.1 H5.out.2.2).2 V' k1 k2
                          exact HO.out.2.2 V' (permIn_trans _ _ _ _ _ H3.out.2 hq.1) hq.2
                        case measure => simp [intOf]; omega
                    | true =>
                      obtain ⟨mid, d4, hx⟩ : ∃ mid d4, partitionEqual ltR d3 a' b' p1 = (mid, d4) := ⟨(partitionEqual ltR d3 a' b' p1).1, (partitionEqual ltR d3 a' b' p1).2, rfl⟩
                      obtain ⟨r1, r2, r3, r4, r5⟩ := round_eq hO (partitionEqual_holds ltR) (H4.out.1 rfl).1 hp10 hp11 (by rw [HB3.out.2]; exact hb') HB3.out.1 (H4.out.1 rfl).2 hx
                      have hc := partEq_any S a' b' p1 d3 wc H4.out.2 hp10 hp11 hb' hn
                      rw [hx] at hc
                      have HR4 := Lib.hid r4
                      have HR5 := Lib.hid r5
                      clear hx r3 r4 r5
                      go_wp2_with (go_at_call 109; refine hc.mono ?_; rintro e w7 ⟨rfl, hR⟩; have HR := Lib.hid hR; clear hR hc)
                      go_roundw
                      case rel =>
                        refine ⟨mid, b', l1, wb, wp, d4, rfl, rfl, rfl, rfl, rfl, by omega, by omega, by omega, hl1, HR.out, HR4.out, fun V' k1 k2 => ?_⟩
                        have hq := HR5.out V' k1 k2
                        exact HO.out.2.2 V' (permIn_trans _ _ _ _ _ H3.out.2 hq.1) hq.2
                      case measure => simp [intOf]; omega
end Go.Proofs.YtdphganbnlmgcaaGreatDoor
namespace Go.Proofs.YtdphganbnlmgcaaGreatDoor
open Go.ChangeShapes Go.WideShapes Go.ChangeAt Go.RowKit Go.Lib
open Go.Sort (swp PermIn SortedIn SWO)
set_option linter.unusedVariables false
set_option maxRecDepth 100000

def Swapped (w : World) (g i j : Nat) (ki kj : ByteArray) (ni nj : Int) (e : Ending) (w' : World) : Prop :=
  e = .returned (.tuple #[]) ∧ ∃ q, w' = ((((w.setCell ⟨g, i * 2, none⟩ (.string kj)).setCell ⟨g, i * 2 + 1, none⟩ (.int .i64 nj)).setCell ⟨g, j * 2, none⟩ (.string ki)).setCell ⟨g, j * 2 + 1, none⟩ (.int .i64 ni)).drewN q

set_option maxHeartbeats 2000000 in
theorem swapm_any (g n cp i j : Nat) (ki kj : ByteArray) (ni nj : Int) (w : World) (hn : n < 4611686018427387904) (hi : i < n) (hj : j < n)
    (c0 : w.cell? ⟨g, i * 2, none⟩ = some (.string ki)) (c1 : w.cell? ⟨g, i * 2 + 1, none⟩ = some (.int .i64 ni))
    (d0 : w.cell? ⟨g, j * 2, none⟩ = some (.string kj)) (d1 : w.cell? ⟨g, j * 2 + 1, none⟩ = some (.int .i64 nj)) (hf : ∀ o, w.frozen? ⟨g, o, none⟩ = false) :
    Calls Tryz.prog 218 #[.slice (some ⟨g, 0, none⟩) n cp, .int .i64 i, .int .i64 j] w (Swapped w g i j ki kj ni nj) := by
  have z0 := hf (i * 2)
  have z1 := hf (i * 2 + 1)
  have z2 := hf (j * 2)
  have z3 := hf (j * 2 + 1)
  have hiz : (i : Int) < (n : Int) := by omega
  have hjz : (j : Int) < (n : Int) := by omega
  clear hf
  by_cases hij : i = j
  · subst hij
    obtain rfl : ki = kj := by rw [c0] at d0; simpa using d0
    obtain rfl : ni = nj := by rw [c1] at d1; simpa using d1
    clear d0 d1 z2 z3
    go_enter Tryz.func218, Tryz.ntmps218
    go_wp2_with fail
    go_region_with fail
    all_goals (go_wp2_with fail)
    all_goals (go_end0; exact ⟨rfl, 1, rfl⟩)
  · have n0 : i * 2 ≠ j * 2 := by omega
    have n1 : i * 2 ≠ j * 2 + 1 := by omega
    have n2 : i * 2 + 1 ≠ j * 2 := by omega
    have n3 : i * 2 + 1 ≠ j * 2 + 1 := by omega
    go_enter Tryz.func218, Tryz.ntmps218
    go_wp2_with fail
    go_region_with fail
    all_goals (go_wp2_with fail)
    all_goals (go_end0; exact ⟨rfl, 1, rfl⟩)

/-- copy of k elements of two cells onto a row. -/
theorem run_copy2 {P : Program} (w : World) (dT sT ty elem : TypeId) (g dLen dCap : Nat) (a : Addr) (sLen sCap : Nat) (cur : Array Value) (t : TypeId) (cs : List Value)
    (hu : P.underlying dT = some (.slice elem)) (hs : (P.info? elem).map (·.size) = some 2) (hg : w.heap[g]? = some (.cells cur t (0, 0))) (hn : cs.length = Nat.min sLen dLen * 2)
    (hsrc : ∀ j v, cs[j]? = some v → w.cell? (a.add j) = some v) (hfit : cs.length ≤ cur.size) (h1 : ∀ v ∈ cs, v.oneCell' = true) :
    (Builtin.copy_ #[dT, sT] ty #[.slice (some ⟨g, 0, none⟩) dLen dCap, .slice (some a) sLen sCap]).run P w =
      .ok (goInt (Nat.min sLen dLen)) (w.setRow g (cur.toList.take 0 ++ cs ++ cur.toList.drop (0 + cs.length)).toArray) := by
  have hl := run_loadCells_list (P := P) w a cs hsrc
  have hst := run_storeCells_at P g 0 t cs 0 cur w hg (by simpa using hfit) h1
  cases hq : P.info? elem with
  | none => simp [hq] at hs
  | some i =>
    have hi : i.size = 2 := by simpa [hq] using hs
    rw [hn] at hl
    simp [Builtin.copy_, run_underlying hu, Builtin.lenOf, Builtin.firstCells, sizeOf, typeInfo, hq, hi, hl]
    simp at hst
    rw [hst]
    rfl

/-! The row that is sorted. -/
theorem rget (V : RA) (i : Nat) (h : i < V.size) : V[i]! = (keyAt V.toList i, numAt V.toList i) := by
  rw [getElem!_pos V i h]
  unfold keyAt numAt
  rw [List.getD_eq_getElem?_getD, List.getElem?_eq_getElem (by simpa using h)]
  simp
theorem Laid.setRec {cur : Array Value} {W : Recs} {n i : Nat} (r : ByteArray × Int) (h : Laid cur W n) (hn : W.length = n) (hi : i < n) (hs : cur.size = n * 2) :
    Laid ((cur.setIfInBounds (i * 2) (.string r.1)).setIfInBounds (i * 2 + 1) (.int .i64 r.2)) (W.set i r) n := by
  intro j hj
  obtain ⟨e1, e2⟩ := h j hj
  have h1 : i * 2 < cur.size := by omega
  have h2 : i * 2 + 1 < cur.size := by omega
  by_cases hji : j = i
  · subst hji
    have hk : keyAt (W.set j r) j = r.1 ∧ numAt (W.set j r) j = r.2 := by
      unfold keyAt numAt
      rw [List.getD_eq_getElem?_getD, List.getElem?_set_self (by omega)]
      exact ⟨rfl, rfl⟩
    rw [hk.1, hk.2]
    constructor
    · rw [Array.getElem?_setIfInBounds_ne (by omega)]; simp [h1]
    · simp [h2]
  · have hk : keyAt (W.set i r) j = keyAt W j ∧ numAt (W.set i r) j = numAt W j := by
      unfold keyAt numAt
      rw [List.getD_eq_getElem?_getD, List.getElem?_set_ne (by omega), ← List.getD_eq_getElem?_getD]
      exact ⟨rfl, rfl⟩
    rw [hk.1, hk.2]
    constructor
    · rw [Array.getElem?_setIfInBounds_ne (by omega), Array.getElem?_setIfInBounds_ne (by omega)]; exact e1
    · rw [Array.getElem?_setIfInBounds_ne (by omega), Array.getElem?_setIfInBounds_ne (by omega)]; exact e2

/-- V stands in block g, whose keys are short; what W had below base is as it was. -/
def RowR (base g n : Nat) (W : World) (V : RA) (w : World) : Prop :=
  V.size = n ∧ (∃ cur, Row w g 50 cur ∧ cur.size = n * 2 ∧ Laid cur V.toList n) ∧ Below base W w ∧ ∀ i, i < n → (keyAt V.toList i).size ≤ 40

theorem rowR_sort (base g n cp : Nat) (W : World) (hbg : base ≤ g) (hn : n ≤ 600) : SortRow (RowR base g n W) (some ⟨g, 0, none⟩) n cp n (g + 1) where
  size := fun h => h.1
  room := fun h => by obtain ⟨cur, hr, _⟩ := h.2.1; exact hr.lt
  drewN := fun q h => ⟨h.1, by obtain ⟨cur, hr, h1⟩ := h.2.1; exact ⟨cur, hr, h1⟩, by exact ⟨h.2.2.1.os, h.2.2.1.tape, h.2.2.1.output, h.2.2.1.size, h.2.2.1.block⟩, h.2.2.2⟩
  alloc := fun o h => ⟨h.1, by obtain ⟨cur, hr, h1⟩ := h.2.1; exact ⟨cur, hr.keep (below_alloc (Below.refl _ _) o), h1⟩, by obtain ⟨cur, hr, h1⟩ := h.2.1; exact h.2.2.1.alloc (by have := hr.lt; omega) o, h.2.2.2⟩
  set := fun b o v h hb => ⟨h.1, by obtain ⟨cur, hr, h1⟩ := h.2.1; exact ⟨cur, hr.other (show g ≠ b by omega) o v, h1⟩, h.2.2.1.setCell (by show base ≤ b; omega) v, h.2.2.2⟩
  less := fun {V w} i j h hi hj => by
    obtain ⟨hs, ⟨cur, hr, hc, hl⟩, hB, hk⟩ := h
    have hre : RecsAt w (some ⟨g, 0, none⟩) n V.toList := RecsAt.ofRow hr (by simpa using hs) (by unfold maxLen; omega) (fun i hi => by have := hk i hi; unfold maxLen; omega) hl
    refine (lessm_any _ _ _ _ i j _ hre hi hj).mono ?_
    rintro e w' ⟨rfl, hB'⟩
    have ho : okAt V.toList i = true ∧ okAt V.toList j = true := ⟨okB_yes (hk i hi), okB_yes (hk j hj)⟩
    refine ⟨?_, ⟨hs, ⟨cur, hr.keep hB', hc, hl⟩, hB.trans (hB'.mono (by have := hr.lt; omega)), hk⟩, hB'.size, fun b o _ hb => ⟨hB'.cell (p := ⟨b, o, none⟩) hb, hB'.frozen (p := ⟨b, o, none⟩) hb⟩⟩
    rw [ho.1, ho.2, rget V i (by omega), rget V j (by omega)]
    rfl
  swap := fun {V w} i j h hi hj => by
    obtain ⟨hs, ⟨cur, hr, hc, hl⟩, hB, hk⟩ := h
    have hre : RecsAt w (some ⟨g, 0, none⟩) n V.toList := RecsAt.ofRow hr (by simpa using hs) (by unfold maxLen; omega) (fun i hi => by have := hk i hi; unfold maxLen; omega) hl
    rcases hre.src with h0 | ⟨b, off, hb, _, hcell⟩
    · omega
    · simp only [Option.some.injEq, Addr.mk.injEq, and_true] at hb
      obtain ⟨rfl, rfl⟩ := hb
      have hci := hcell i hi
      have hcj := hcell j hj
      simp only [Nat.zero_add] at hci hcj
      refine (swapm_any g n cp i j _ _ _ _ w (by omega) hi hj hci.1 hci.2 hcj.1 hcj.2 hr.free).mono ?_
      rintro e w' ⟨rfl, q, rfl⟩
      have hlen : V.toList.length = n := by simpa using hs
      have hset : (swp V i j).toList = (V.toList.set i (keyAt V.toList j, numAt V.toList j)).set j (keyAt V.toList i, numAt V.toList i) := by
        unfold Go.Sort.swp
        rw [rget V i (by omega), rget V j (by omega)]
        simp
      have hl2 := (hl.setRec (keyAt V.toList j, numAt V.toList j) hlen hi hc).setRec (keyAt V.toList i, numAt V.toList i) (by simpa using hlen) hj (by simpa using hc)
      rw [← hset] at hl2
      have hks : ∀ k, k < n → (keyAt (swp V i j).toList k).size ≤ 40 := fun k hkn => by
        rw [hset]
        unfold keyAt
        rw [List.getD_eq_getElem?_getD]
        by_cases hkj : k = j
        · subst hkj
          rw [List.getElem?_set_self (by simpa using by omega)]
          exact hk i hi
        · rw [List.getElem?_set_ne (by omega)]
          by_cases hki : k = i
          · subst hki
            rw [List.getElem?_set_self (by omega)]
            exact hk j hj
          · rw [List.getElem?_set_ne (by omega), ← List.getD_eq_getElem?_getD]
            exact hk k hkn
      have hrow := (((hr.set (i * 2) (.string (keyAt V.toList j))).set (i * 2 + 1) (.int .i64 (numAt V.toList j))).set (j * 2) (.string (keyAt V.toList i))).set (j * 2 + 1) (.int .i64 (numAt V.toList i))
      have hbel := (((hB.setCell (p := ⟨g, i * 2, none⟩) hbg (.string (keyAt V.toList j))).setCell (p := ⟨g, i * 2 + 1, none⟩) hbg (.int .i64 (numAt V.toList j))).setCell (p := ⟨g, j * 2, none⟩) hbg (.string (keyAt V.toList i))).setCell (p := ⟨g, j * 2 + 1, none⟩) hbg (.int .i64 (numAt V.toList i))
      refine ⟨rfl, ⟨by rw [← hs]; simp [Go.Sort.swp], ⟨_, hrow, by simpa using hc, hl2⟩, ⟨hbel.os, hbel.tape, hbel.output, hbel.size, hbel.block⟩, hks⟩, by simp [World.drewN], fun b o hb hlt => ?_⟩
      have ho : ∀ p, (⟨g, p, none⟩ : Addr) ≠ ⟨b, o, none⟩ := fun p e => by simp only [Addr.mk.injEq, and_true] at e; omega
      constructor
      · rw [World.cell?_drewN, World.cell?_setCell_other _ _ _ _ (ho _), World.cell?_setCell_other _ _ _ _ (ho _), World.cell?_setCell_other _ _ _ _ (ho _), World.cell?_setCell_other _ _ _ _ (ho _)]
      · rw [World.frozen?_drewN, World.frozen?_setCell, World.frozen?_setCell, World.frozen?_setCell, World.frozen?_setCell]

/-! The order. -/
theorem ltR_le (a b : ByteArray × Int) : ltR a b = !leR b a := by unfold ltR leR; simp
theorem ltR_swo : SWO ltR where
  irrefl := fun x => by
    have := leR_total x x
    rw [ltR_le]
    cases h : leR x x with
    | true => rfl
    | false => rw [h] at this; cases this
  trans := fun x y z h1 h2 => by
    rw [ltR_le, Bool.not_eq_true'] at h1 h2 ⊢
    cases h : leR z x with
    | false => rfl
    | true =>
      have hyz : leR y z = true := by
        have := leR_total y z
        rw [h2, Bool.or_false] at this; exact this
      rw [leR_trans y z x hyz h] at h1; cases h1
  ntrans := fun x y z h1 h2 => by
    rw [ltR_le, Bool.not_eq_false'] at h1 h2 ⊢
    exact leR_trans z y x h2 h1
/-- A sorted row with the records of V is V in order. -/
theorem sorted_row {V V' : RA} {n : Nat} (hn : V.size = n) (hp : PermIn 0 n V V') (hs : SortedIn ltR 0 n V') : V'.toList = sortL V.toList := by
  have hsz : V'.size = n := hp.1.trans hn
  have hperm : V'.toList.Perm V.toList := by
    have := hp.2.2
    rw [show V'.extract 0 n = V' by rw [← hsz]; simp, show V.extract 0 n = V by rw [← hn]; simp] at this
    exact this
  refine (sortL_of ?_ hperm).symm
  unfold InOrder
  rw [List.pairwise_iff_getElem]
  intro i j hi hj hij
  have hi' : i < V'.size := by simpa using hi
  have hj' : j < V'.size := by simpa using hj
  have := hs i j (Nat.zero_le _) hij (by omega)
  rw [ltR_le, Bool.not_eq_false', rget V' i hi', rget V' j hj', ← at_get V'.toList i hi, ← at_get V'.toList j hj] at this
  exact this
end Go.Proofs.YtdphganbnlmgcaaGreatDoor
namespace Go.Proofs.YtdphganbnlmgcaaGreatDoor
open Go.ChangeShapes Go.WideShapes Go.ChangeAt Go.RowKit
open Go.Sort (swp PermIn SortedIn SWO)
set_option linter.unusedVariables false
set_option maxRecDepth 100000

set_option maxHeartbeats 1000000 in
theorem sort_any (base g n cp : Nat) (W : World) (V : RA) (w : World) (h : RowR base g n W V w) (hbg : base ≤ g) (hn : n ≤ 600) :
    Calls Tryz.prog 87 #[.iface 131 (.slice (some ⟨g, 0, none⟩) n cp)] w (InRow (RowR base g n W) 0 n V) := by
  have m0 := method_len (some ⟨g, 0, none⟩) n cp
  by_cases h1 : n ≤ 1
  · have h1z : (n : Int) ≤ 1 := by omega
    have H := Lib.hid h
    clear h
    go_enter Tryz.func87, Tryz.ntmps87
    go_wp2_with (go_at_call 216; refine (lenm_any _ _ _ _).mono ?_; rintro e w' ⟨rfl, rfl⟩)
    (try simp only [Exit.inBlock, Exit.then]); refine bodyPost_ret (results_none rfl _ _ _) rfl ?_
    exact ⟨rfl, V, H.out, Go.Sort.permIn_refl _ _ _, fun i j _ _ _ => by omega⟩
  · have h1z : ¬ (n : Int) ≤ 1 := by omega
    obtain ⟨lim, hlim⟩ : ∃ lim, Lib.bitLen n = lim := ⟨_, rfl⟩
    have hlb : lim < 4611686018427387904 := by
      have := Lib.bitLen_le n 62 (by omega) (by omega)
      rw [hlim] at this
      exact Nat.lt_of_le_of_lt this (by omega)
    have hb : Calls Tryz.prog 95 #[.int .u64 (n : Int)] w fun e w' => e = .returned (.int .i64 (lim : Int)) ∧ w = w' := by
      have := Tryz.bits_Len (n : Int) w (by omega) (by omega)
      rw [Int.toNat_natCast, hlim] at this
      exact this.mono fun _ _ ⟨he, hw⟩ => ⟨he, hw.symm⟩
    have hp := pdq_any (rowR_sort base g n cp W hbg hn) ltR_swo (by omega) (n + 1) 0 n lim V w (by omega) h (Nat.zero_le _) (Nat.le_refl _) hlb (Or.inl rfl)
    have wr : IntKind.u64.wrap (n : Int) = n := by simp [IntKind.wrap, IntKind.bits, IntKind.signed]; omega
    clear h hlim
    go_enter Tryz.func87, Tryz.ntmps87
    go_wp2_with (first
      | (go_at_call 216; refine (lenm_any _ _ _ _).mono ?_; rintro e w' ⟨rfl, rfl⟩)
      | (go_at_call 95; refine hb.mono ?_; rintro e w' ⟨rfl, rfl⟩)
      | (go_at_call 96; refine hp.mono ?_; rintro e w' ⟨rfl, V', hR, hP, hS⟩; have H := Lib.hid (And.intro hR (And.intro hP hS)); clear hR hP hS hp))
    go_end0
    exact ⟨rfl, V', H.out⟩

theorem run_copy_none2 {P : Program} (w : World) (dT sT ty elem : TypeId) (d a : Option Addr) (dLen dCap sLen sCap : Nat) (hu : P.underlying dT = some (.slice elem)) (hs : (P.info? elem).map (·.size) = some 2) (hn : Nat.min sLen dLen = 0) :
    (Builtin.copy_ #[dT, sT] ty #[.slice d dLen dCap, .slice a sLen sCap]).run P w = .ok (goInt 0) w := by
  cases hq : P.info? elem with
  | none => simp [hq] at hs
  | some i =>
    have hl : ∀ (x : Addr), (loadCells x 0).run P w = .ok #[] w := fun x => by simpa using run_loadCells_list (P := P) w x [] (by simp)
    cases d <;> cases a <;> simp [Builtin.copy_, run_underlying hu, Builtin.lenOf, Builtin.firstCells, sizeOf, typeInfo, hq, hn, storeCells, hl]
theorem sizeRec : (Tryz.prog.info? 50).map (·.size) = some 2 := by kernel_rfl

theorem laid_cells (l : Recs) : Laid (cellsL l).toArray l l.length := by
  intro j hj
  obtain ⟨h1, h2⟩ := cellsL_get l j hj
  exact ⟨by simpa using h1, by simpa using h2⟩
theorem sortedB_not {l : Recs} (h : recsOkB l = false) : sortedB l = [] := by unfold sortedB; rw [h]; rfl
theorem sortedB_is {l : Recs} (h : recsOkB l = true) : sortedB l = sortL l := by unfold sortedB; rw [h]; rfl
/-- Records laid down in a new row are ready to be sorted. -/
theorem rowR_new {base g n : Nat} {W w : World} {l : Recs} (hl : l.length = n) (hok : recsOkB l = true) (hr : Row w g 50 (cellsL l).toArray) (hB : Below base W w) : RowR base g n W l.toArray w := by
  obtain ⟨h6, h40⟩ := recsOk_parts hok
  refine ⟨by simpa using hl, ⟨_, hr, by simp [cellsL_len, hl], ?_⟩, hB, fun i hi => ?_⟩
  · have := laid_cells l
    rw [hl] at this
    simpa using this
  · have := h40 i (by omega)
    unfold okAt okB at this
    simpa using of_decide_eq_true this
theorem made_of_sort {g n cp : Nat} {W w' : World} {l : Recs} {V' : RA} (hl : l.length = n) (hn : n ≤ 600) (hbg : W.heap.size ≤ g) (hcp : n ≤ cp ∧ cp ≤ maxLen) (h : RowR W.heap.size g n W V' w') (hp : PermIn 0 n l.toArray V') (hs : SortedIn ltR 0 n V') :
    MadeRs (sortL l) W (.returned (.slice (some ⟨g, 0, none⟩) n cp)) w' := by
  have e := sorted_row (by simpa using hl) hp hs
  simp only at e
  have hlen : (sortL l).length = n := by rw [(sortL_perm l).length_eq]; exact hl
  obtain ⟨h1, ⟨cur, hr, hc, hla⟩, hB, _⟩ := h
  rw [e] at hla
  exact ⟨some ⟨g, 0, none⟩, cp, by rw [hlen], .inr ⟨g, cur, rfl, hbg, hr, by rw [hlen]; omega, by rw [hlen]; exact hla⟩, hB, by rw [hlen]; exact hcp.1, hcp.2, fun h => by cases h⟩

set_option maxHeartbeats 4000000 in
theorem sorted_any (a : Option Addr) (len cap : Nat) (l : Recs) (w : World) (h : RecsAt w a len l) :
    Calls Tryz.prog 71 #[.slice a len cap] w (MadeRs (sortedB l) w) := by
  obtain ⟨i0, hi, hz0, hz1, hz2⟩ := info_parts infoRec
  have HR := Lib.hid h
  clear h
  cases hok : recsOkB l with
  | false =>
    have HOK := Lib.hid hok
    have HQ := Lib.hid (sortedB_not hok)
    clear hok
    go_enter Tryz.func71, Tryz.ntmps71
    go_wp2_with (go_at_call 73; refine (recsok_any _ _ _ _ _ HR.out).mono ?_; rw [HOK.out]; rintro e w1 ⟨rfl, hB⟩; have HB := Lib.hid hB; clear hB)
    go_ret
    rw [HQ.out]
    exact ⟨none, 0, rfl, .inl rfl, HB.out, Nat.le_refl _, Nat.zero_le _, fun _ => rfl⟩
  | true =>
    have HOK := Lib.hid hok
    have HQ := Lib.hid (sortedB_is hok)
    have h6 : len ≤ 600 := by rw [← HR.out.length]; exact (recsOk_parts hok).1
    clear hok
    go_enter Tryz.func71, Tryz.ntmps71
    go_wp2_with fail
    refine (recsok_any _ _ _ _ _ HR.out).mono ?_
    rw [HOK.out]
    rintro e w1 ⟨rfl, hB⟩
    have HB := Lib.hid hB
    have HR := Lib.hid (HR.out.keep hB)
    clear hB
    go_wp2_with (at_make; refine wpList_make_full _ rfl _ _ 45 rfl w1.heap.size 50 i0 _ 2 Tryz.underlying45 hi hz0 hz1 .i64 .i64 _ _ len rfl rfl rfl rfl (by rw [hz2]; omega) (by unfold maxLen; omega) (Nat.le_refl _) ?_; intro w2 hown hgrow)
    obtain ⟨cur0, hrow0, hsz0⟩ : ∃ cur, Row w2 w1.heap.size 50 cur ∧ cur.size = len * 2 := by
      rcases hown.2 with ⟨h, _⟩ | ⟨g, cp, cur, hv, _, hh, _, _, hs, _⟩
      · simp at h
      · simp only [Value.slice.injEq, Option.some.injEq, Addr.mk.injEq, true_and, and_true] at hv
        obtain ⟨rfl, rfl⟩ := hv
        exact ⟨cur, hh, hs⟩
    have hgrow1 := (Below.refl w1.heap.size w1).grown hgrow (Nat.le_refl _) (fun k hk => by cases hk)
    obtain ⟨g, hg⟩ : ∃ g, w1.heap.size = g := ⟨_, rfl⟩
    have HR := Lib.hid (HR.out.keep hgrow1)
    have HBG := Lib.hid (show w.heap.size ≤ g by rw [← hg]; exact HB.out.size)
    have HB := Lib.hid (below_via HB.out hgrow1)
    rw [hg] at hrow0 ⊢
    have HRW := Lib.hid hrow0
    have HSZ := Lib.hid hsz0
    clear hown hgrow hgrow1 hrow0 hsz0 hg
    have tail : ∀ w3, Row w3 g 50 (cellsL l).toArray → Below w.heap.size w w3 → Calls Tryz.prog 87 #[.iface 131 (.slice (some ⟨g, 0, none⟩) len len)] w3 fun e w' => e = .returned (.tuple #[]) ∧ MadeRs (sortL l) w (.returned (.slice (some ⟨g, 0, none⟩) len len)) w' := fun w3 h1 h2 =>
      (sort_any w.heap.size g len len w l.toArray w3 (rowR_new HR.out.length HOK.out h1 h2) HBG.out h6).mono fun e w' ⟨he, V', k1, k2, k3⟩ => ⟨he, made_of_sort (cp := len) HR.out.length h6 HBG.out ⟨Nat.le_refl _, by unfold maxLen; omega⟩ k1 k2 k3⟩
    have TL := Lib.hid tail
    clear tail
    cases a with
    | none =>
      have h0 : len = 0 := by
        rcases HR.out.src with h | ⟨b, off, h, _⟩
        · exact h
        · cases h
      subst h0
      have hl0 : l = [] := List.length_eq_zero_iff.1 HR.out.length
      have HRW0 := Lib.hid (show Row w2 g 50 (cellsL l).toArray by
        have h1 := HRW.out
        have h2 : cur0 = #[] := Array.eq_empty_of_size_eq_zero (by have := HSZ.out; omega)
        rw [h2] at h1
        rw [hl0]
        exact h1)
      have hc := TL.out w2 HRW0.out HB.out
      clear hl0
      have hrun := run_copy_none2 (P := Tryz.prog) w2 45 45 3 50 (some ⟨g, 0, none⟩) none 0 0 0 cap Tryz.underlying45 sizeRec rfl
      rw [hrun]
      go_wp2_with (go_at_call 87; refine hc.mono ?_; rintro e w4 ⟨rfl, hM⟩; have HM := Lib.hid hM; clear hM hc)
      go_ret
      rw [HQ.out]
      exact HM.out
    | some ad =>
      have hrun := run_copy2 (P := Tryz.prog) w2 45 45 3 50 g len len ad len cap cur0 50 (cellsL l) Tryz.underlying45 sizeRec HRW.out (by rw [cellsL_len, HR.out.length]; simp) (recs_cellsO HR.out) (by rw [cellsL_len, HR.out.length, HSZ.out]; exact Nat.le_refl _) (cellsL_one l)
      have e0 : (cur0.toList.take 0 ++ cellsL l ++ cur0.toList.drop (0 + (cellsL l).length)).toArray = (cellsL l).toArray := by
        rw [List.take_zero, List.nil_append, Nat.zero_add, List.drop_eq_nil_of_le (by rw [cellsL_len, HR.out.length, Array.length_toList, HSZ.out]; exact Nat.le_refl _), List.append_nil]
      rw [e0] at hrun
      have hrow : Row (w2.setRow g (cellsL l).toArray) g 50 (cellsL l).toArray := setRow_heap w2 g _ _ _ _ HRW.out
      have hB3 := below_setRow HB.out HBG.out (cellsL l).toArray
      have hc := TL.out _ hrow hB3
      generalize w2.setRow g (cellsL l).toArray = w3 at hrun hrow hB3 hc
      clear e0 hrow hB3
      rw [hrun]
      go_wp2_with (go_at_call 87; refine hc.mono ?_; rintro e w4 ⟨rfl, hM⟩; have HM := Lib.hid hM; clear hM hc)
      go_ret
      rw [HQ.out]
      exact HM.out
theorem sortedB_few (l : Recs) : (sortedB l).length ≤ 600 ∧ ∀ i, i < (sortedB l).length → (keyAt (sortedB l) i).size ≤ 40 := by
  cases h : recsOkB l with
  | false => rw [sortedB_not h]; exact ⟨Nat.zero_le _, fun i hi => by simp at hi⟩
  | true =>
    rw [sortedB_is h]
    obtain ⟨h1, h2⟩ := recsOk_parts h
    refine ⟨by rw [(sortL_perm l).length_eq]; exact h1, fun i hi => ?_⟩
    have hm := (sortL_perm l).mem_iff.1 (List.getElem_mem hi)
    obtain ⟨k, hk, e⟩ := List.getElem_of_mem hm
    have := h2 k hk
    unfold okAt okB at this
    have h40 := of_decide_eq_true this
    rw [at_get _ i hi, at_get _ k hk] at e
    have e1 : keyAt l k = keyAt (sortL l) i := congrArg Prod.fst e
    rw [← e1]; exact h40
end Go.Proofs.YtdphganbnlmgcaaGreatDoor
