
/- What KeysOf computes in the program: the keys of a run, each once, in a row of its own. Only new blocks are made. -/
import Derived.Test.YtldjahemgkkpbaaKeys
namespace Go.Proofs.Ytldjahemgkkpbaa
open Go.ChangeShapes Go.WideShapes Go.ChangeAt Go.RowKit
set_option linter.unusedVariables false
set_option maxRecDepth 100000

set_option maxHeartbeats 2000000 in
theorem keys_any (a : Option Addr) (len cap : Nat) (l : Recs) (w : World) (h : RecsAt w a len l) (hfew : len ≤ 1048576) :
    Calls Try.prog 13 #[.slice a len cap] w (MadeKeys (keysB l) w) := by
  obtain ⟨i0, hi, hz0, hz1, hz2⟩ := info_parts infoStr
  have HL := Lib.hid h.length
  have HR0 := Lib.hid h
  have hm := h.max
  unfold maxLen at hm
  clear h
  cases hok : runOkB l with
  | false =>
    have HK := Lib.hid (show keysB l = [] by unfold keysB; rw [hok]; rfl)
    go_enter Try.func13, Try.ntmps13
    go_wp2_with fail
    refine (runok_any _ _ _ _ _ HR0.out).mono ?_
    rw [hok]
    rintro e w1 ⟨rfl, hB⟩
    have HB := Lib.hid hB
    clear hB
    go_wp2
    go_ret
    exact ⟨_, rfl, by rw [HK.out]; exact World.ownsRow_nil _ _ _ _, HB.out⟩
  | true =>
    have HK := Lib.hid (show keysB l = keysTo l len by unfold keysB; rw [hok, HL.out]; rfl)
    go_enter Try.func13, Try.ntmps13
    go_wp2_with fail
    refine (runok_any _ _ _ _ _ HR0.out).mono ?_
    rw [hok]
    rintro e w1 ⟨rfl, hB⟩
    have HB := Lib.hid hB
    clear hB
    go_wp2_with fail
    go_loopw [3, 11] (fun v i wr => ∃ (k wl : Nat) (q : Option Addr) (cp : Nat), k ≤ len ∧ v = .slice q wl cp ∧ i = .int .i64 k ∧ wl ≤ k ∧ Hid ((keysTo l k).length = wl ∧ KeysSt l w wr (.slice q wl cp) k)) (fun _ i _ => len - (intOf i).toNat)
    case atStart => exact ⟨0, 0, none, 0, Nat.zero_le _, rfl, rfl, Nat.le_refl _, rfl, World.ownsRow_nil _ _ _ _, HB.out⟩
    case round =>
      obtain ⟨k, wl, q, cp, hk, rfl, rfl, hwk, HS⟩ := hrel
      by_cases hlt : k < len
      · rcases HR0.out.src with hz | ⟨b, off, rfl, hb, hc⟩
        · omega
        · have c0 := (HS.out.2.below.cell (p := ⟨b, off + k * 2, none⟩) hb).trans (hc k hlt).1
          have c1 := (HS.out.2.below.cell (p := ⟨b, off + k * 2 + 1, none⟩) hb).trans (hc k hlt).2
          have hown : wr.ownsRow w.heap.size 9 1 (.slice q wl cp) wl ((keysTo l k).map Value.string) := by
            have := HS.out.2.own
            rw [HS.out.1] at this
            exact this
          have HBW := Lib.hid HS.out.2.below
          by_cases hk0 : k = 0
          · have HNEW := Lib.hid (show newKey l k = true by unfold newKey; rw [decide_eq_true hk0]; rfl)
            have hke : ((k : Int) == 0) = true := by simp; omega
            have hki : (0 : Int) ≤ (k : Int) := by omega
            have hkj : (k : Int) < (len : Int) := by omega
            have HO := Lib.hid hown
            clear hc hb hown hk0
            go_wp2_with fail
            go_quiet (fail)
            have cb := (Box2.new wr (.string (keyAt l k)) (.int .i64 (numAt l k)) 30).c0
            have c0q : ((wr.alloc (.cells #[.string (keyAt l k), .int .i64 (numAt l k)] 30)).drewN nq).cell? ⟨wr.heap.size, 0, none⟩ = some (.string (keyAt l k)) := cb
            have HO := Lib.hid (own_below (HO.out.alloc (.cells #[.string (keyAt l k), .int .i64 (numAt l k)] 30)) (below_drewN (Below.refl (wr.alloc (.cells #[.string (keyAt l k), .int .i64 (numAt l k)] 30)).heap.size (wr.alloc (.cells #[.string (keyAt l k), .int .i64 (numAt l k)] 30))) nq))
            have HBW := Lib.hid (below_drewN (below_alloc HBW.out (.cells #[.string (keyAt l k), .int .i64 (numAt l k)] 30)) nq)
            clear c0 c1 cb
            generalize (wr.alloc (.cells #[.string (keyAt l k), .int .i64 (numAt l k)] 30)).drewN nq = wq at c0q HO HBW ⊢
            go_wp2_with (at_builtin; (refine wpList_append_own _ rfl _ _ 33 rfl w.heap.size 9 i0 _ 1 16 Try.underlying33 hi hz0 hz1 hz2 rfl (by decide) _ _ _ rfl (HO.out.alloc _) ⟨wq.heap.size, 0, none⟩ 1 1 [.string (keyAt l k)] rfl rfl (one_new _ _ _) (fun u hu => by simp at hu; subst hu; rfl) (by unfold maxLen; omega) (by omega) (Nat.le_trans HBW.out.size (by simp)) ?_); intro v' w2 hown1 hgrow hnil; have HO1 := Lib.hid hown1; have HG := Lib.hid hgrow; clear hown1 hgrow hnil)
            obtain ⟨q1, cp1, rfl⟩ := own_form HO1.out
            go_roundw
            case rel =>
              have hb : Below w.heap.size w w2 := (HBW.out.alloc HBW.out.size _).grown HG.out (Nat.le_trans HBW.out.size (by simp)) (fun j hj => (HO.out.lt j hj).1)
              have e1 := HS.out.1
              have ho := HO1.out
              refine ⟨k + 1, wl + 1, q1, cp1, by omega, rfl, by go_num, by omega, by rw [keysTo_yes HNEW.out]; simp; exact e1, ?_, hb⟩
              rw [keysTo_yes HNEW.out]
              simp only [List.length_append, List.length_singleton, List.map_append, List.map_cons, List.map_nil]
              rw [e1]
              exact ho
            case measure => simp [intOf]; omega
          · obtain ⟨m, hm1, hm2⟩ : ∃ m : Nat, (k : Int) - 1 = (m : Int) ∧ m + 1 = k := ⟨k - 1, by omega, by omega⟩
            have hml : m < len := by omega
            have d0 := (HS.out.2.below.cell (p := ⟨b, off + m * 2, none⟩) hb).trans (hc m hml).1
            have hbw : b < wr.heap.size := Nat.lt_of_lt_of_le hb HS.out.2.below.size
            have hnew : newKey l k = !((keyAt l k).toList == (keyAt l m).toList) := by
              unfold newKey; rw [decide_eq_false hk0, show k - 1 = m by omega]; rfl
            have hke : ((k : Int) == 0) = false := by simp; omega
            have hki : (0 : Int) ≤ (k : Int) := by omega
            have hkj : (k : Int) < (len : Int) := by omega
            have hmi : (0 : Int) ≤ (m : Int) := by omega
            have hmj : (m : Int) < (len : Int) := by omega
            have d0a : (wr.alloc (.cells #[.string (keyAt l k), .int .i64 (numAt l k)] 30)).cell? ⟨b, off + m * 2, none⟩ = some (.string (keyAt l m)) := (((Below.refl wr.heap.size wr).alloc (Nat.le_refl _) _).cell (p := ⟨b, off + m * 2, none⟩) hbw).trans d0
            have HO := Lib.hid hown
            clear hc hb hown hk0 hm2 hbw
            cases hsk : ((keyAt l k).toList == (keyAt l m).toList) with
            | true =>
              have HNEW := Lib.hid (show newKey l k = false by rw [hnew, hsk]; rfl)
              clear hnew
              go_wp2_with fail
              have hw1 : IntKind.i64.wrap (m : Int) = (m : Int) := IntWalk.i64_in _ (by omega)
              go_quiet (fail)
              clear hw1 d0a
              have cb := (Box2.new wr (.string (keyAt l k)) (.int .i64 (numAt l k)) 30).c0
              have c0q : ((wr.alloc (.cells #[.string (keyAt l k), .int .i64 (numAt l k)] 30)).drewN nq).cell? ⟨wr.heap.size, 0, none⟩ = some (.string (keyAt l k)) := cb
              have HO := Lib.hid (own_below (HO.out.alloc (.cells #[.string (keyAt l k), .int .i64 (numAt l k)] 30)) (below_drewN (Below.refl (wr.alloc (.cells #[.string (keyAt l k), .int .i64 (numAt l k)] 30)).heap.size (wr.alloc (.cells #[.string (keyAt l k), .int .i64 (numAt l k)] 30))) nq))
              have HBW := Lib.hid (below_drewN (below_alloc HBW.out (.cells #[.string (keyAt l k), .int .i64 (numAt l k)] 30)) nq)
              clear c0 c1 cb
              generalize (wr.alloc (.cells #[.string (keyAt l k), .int .i64 (numAt l k)] 30)).drewN nq = wq at c0q HO HBW ⊢
              go_wp2
              go_roundw
              case rel =>
                refine ⟨k + 1, wl, q, cp, by omega, rfl, by go_num, by omega, by rw [keysTo_no HNEW.out]; exact HS.out.1, ?_, HBW.out⟩
                rw [keysTo_no HNEW.out, HS.out.1]
                exact HO.out
              case measure => simp [intOf]; omega
            | false =>
              have HNEW := Lib.hid (show newKey l k = true by rw [hnew, hsk]; rfl)
              clear hnew
              go_wp2_with fail
              have hw1 : IntKind.i64.wrap (m : Int) = (m : Int) := IntWalk.i64_in _ (by omega)
              go_quiet (fail)
              clear hw1 d0a
              have cb := (Box2.new wr (.string (keyAt l k)) (.int .i64 (numAt l k)) 30).c0
              have c0q : ((wr.alloc (.cells #[.string (keyAt l k), .int .i64 (numAt l k)] 30)).drewN nq).cell? ⟨wr.heap.size, 0, none⟩ = some (.string (keyAt l k)) := cb
              have HO := Lib.hid (own_below (HO.out.alloc (.cells #[.string (keyAt l k), .int .i64 (numAt l k)] 30)) (below_drewN (Below.refl (wr.alloc (.cells #[.string (keyAt l k), .int .i64 (numAt l k)] 30)).heap.size (wr.alloc (.cells #[.string (keyAt l k), .int .i64 (numAt l k)] 30))) nq))
              have HBW := Lib.hid (below_drewN (below_alloc HBW.out (.cells #[.string (keyAt l k), .int .i64 (numAt l k)] 30)) nq)
              clear c0 c1 cb
              generalize (wr.alloc (.cells #[.string (keyAt l k), .int .i64 (numAt l k)] 30)).drewN nq = wq at c0q HO HBW ⊢
              go_wp2_with (at_builtin; (refine wpList_append_own _ rfl _ _ 33 rfl w.heap.size 9 i0 _ 1 16 Try.underlying33 hi hz0 hz1 hz2 rfl (by decide) _ _ _ rfl (HO.out.alloc _) ⟨wq.heap.size, 0, none⟩ 1 1 [.string (keyAt l k)] rfl rfl (one_new _ _ _) (fun u hu => by simp at hu; subst hu; rfl) (by unfold maxLen; omega) (by omega) (Nat.le_trans HBW.out.size (by simp)) ?_); intro v' w2 hown1 hgrow hnil; have HO1 := Lib.hid hown1; have HG := Lib.hid hgrow; clear hown1 hgrow hnil)
              obtain ⟨q1, cp1, rfl⟩ := own_form HO1.out
              go_roundw
              case rel =>
                have hb : Below w.heap.size w w2 := (HBW.out.alloc HBW.out.size _).grown HG.out (Nat.le_trans HBW.out.size (by simp)) (fun j hj => (HO.out.lt j hj).1)
                have e1 := HS.out.1
                have ho := HO1.out
                refine ⟨k + 1, wl + 1, q1, cp1, by omega, rfl, by go_num, by omega, by rw [keysTo_yes HNEW.out]; simp; exact e1, ?_, hb⟩
                rw [keysTo_yes HNEW.out]
                simp only [List.length_append, List.length_singleton, List.map_append, List.map_cons, List.map_nil]
                rw [e1]
                exact ho
              case measure => simp [intOf]; omega
      · obtain rfl : k = len := by omega
        go_wp2
        go_ret
        refine ⟨_, rfl, ?_, HS.out.2.below⟩
        rw [HK.out, HS.out.1]
        have := HS.out.2.own
        rw [HS.out.1] at this
        exact this
end Go.Proofs.Ytldjahemgkkpbaa
