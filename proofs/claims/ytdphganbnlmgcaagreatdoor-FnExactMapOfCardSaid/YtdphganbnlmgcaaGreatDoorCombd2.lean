
/- The walk of joined over the program's records. -/
import Derived.Test.YtdphganbnlmgcaaGreatDoorCombd1
import Derived.Test.YtdphganbnlmgcaaGreatDoorMerge
namespace Go.Proofs.YtdphganbnlmgcaaGreatDoor
open Go.ChangeShapes Go.WideShapes Go.ChangeAt Go.RowKit
set_option linter.unusedVariables false
set_option maxRecDepth 100000

set_option maxHeartbeats 8000000 in
theorem joined_any (op : Int) (p : Nat) (a : Option Addr) (len cap : Nat) (l : Recs) (w : World) (h : RecsAt w a len l) (h6 : len ≤ 600) (hop : opOkB op = true) (hp : w.cell? ⟨p, 0, none⟩ = some (fnOf op)) :
    Calls Tryz.prog 70 #[.slice a len cap, .func (Fn.func 72) #[] #[], .func (Fn.func 69) #[] #[.pointer (some ⟨p, 0, none⟩)]] w (MadeRs (cTo op l len) w) := by
  obtain ⟨i0, hi, hz0, hz1, hz2⟩ := info_parts infoRec
  have hpl : p < w.heap.size := World.block_lt_of_cell? _ _ hp
  have HP := Lib.hid hp
  have HR := Lib.hid h
  have HL := Lib.hid h.length
  clear h hp
  go_enter Tryz.func70, Tryz.ntmps70
  go_wp2
  go_loopw [7, 13] (fun v i wr => ∃ (k n : Nat) (q : Option Addr) (cp : Nat), k ≤ len ∧ i = .int .i64 k ∧ v = .slice q n cp ∧ n ≤ k ∧ Hid (CSt op l w wr q n cp k)) (fun _ i _ => len - (intOf i).toNat)
  case atStart => exact ⟨0, 0, none, 0, Nat.zero_le _, rfl, rfl, Nat.le_refl _, World.ownsRow_nil _ _ _ _, rfl, Below.refl _ _⟩
  case round =>
    obtain ⟨k, n, q, cp, hk, rfl, rfl, hnk, HS⟩ := hrel
    by_cases hlt : k < len
    · rcases HR.out.src with hz | ⟨b, off, rfl, hb, hc⟩
      · omega
      · have c0 := (HS.out.below.cell (p := ⟨b, off + k * 2, none⟩) hb).trans (hc k hlt).1
        have c1 := (HS.out.below.cell (p := ⟨b, off + k * 2 + 1, none⟩) hb).trans (hc k hlt).2
        have hki : (k : Int) < (len : Int) := by omega
        have HST := Lib.hid (cTo_succ op l k (by rw [HL.out]; exact hlt))
        obtain ⟨V, hV⟩ : ∃ V, cTo op l k = V := ⟨_, rfl⟩
        have HV := Lib.hid hV
        have HO := Lib.hid (show wr.ownsRow w.heap.size 50 2 (.slice q n cp) n (cellsL V) from hV ▸ HS.out.own)
        have HN := Lib.hid (show V.length = n from hV ▸ HS.out.size)
        have HB := Lib.hid HS.out.below
        obtain ⟨y, hy⟩ : ∃ y, keyAt l k = y := ⟨_, rfl⟩
        obtain ⟨x, hx⟩ : ∃ x, numAt l k = x := ⟨_, rfl⟩
        have HY := Lib.hid (show cTo op l (k + 1) = cStep op V (y, x) by rw [HST.out, hV, hy, hx])
        rw [hy] at c0
        rw [hx] at c1
        clear hc hb hV hy hx HST HS
        -- the box of the record that comes
        obtain ⟨wa, hwa⟩ : ∃ wa, wr.alloc (.cells #[.string y, .int .i64 x] 50) = wa := ⟨_, rfl⟩
        have hrow : Row wa wr.heap.size 50 #[.string y, .int .i64 x] := hwa ▸ Row.new _ _ _
        have hBa : Below wr.heap.size wr wa := hwa ▸ below_alloc (Below.refl _ _) _
        have b0 := hrow.cell (j := 0) (by simp)
        have b1 := hrow.cell (j := 1) (by simp)
        simp only [List.getElem_toArray, List.getElem_cons_zero, List.getElem_cons_succ] at b0 b1
        have HO := Lib.hid (own_below HO.out hBa)
        have HB := Lib.hid (below_via HB.out hBa)
        have HRW := Lib.hid hrow
        have HWA := Lib.hid hwa
        clear hwa hrow hBa
        by_cases hn0 : n = 0
        · have hd : decide ((0 : Int) ≤ (n : Int) - 1) = false := decide_eq_false (by omega)
          have hd2 : decide ((1 : Int) ≤ (n : Int)) = false := decide_eq_false (by omega)
          have HJ := Lib.hid (show joinsB V (y, x) = false by unfold joinsB; rw [HN.out, decide_eq_false (by omega)]; rfl)
          have hnn : ¬ (0 : Int) ≤ (n : Int) - 1 := by omega
          clear hn0
          go_wp2_with fail
          rw [HWA.out]
          go_quiet (fail)
          have b0 : (wa.drewN nq).cell? ⟨wr.heap.size, 0, none⟩ = some (.string y) := b0
          have b1 : (wa.drewN nq).cell? ⟨wr.heap.size, 1, none⟩ = some (.int .i64 x) := b1
          have HO := Lib.hid (own_below HO.out (below_drewN (Below.refl _ wa) nq))
          have HB := Lib.hid (below_drewN HB.out nq)
          generalize wa.drewN nq = wq at b0 b1 HO HB ⊢
          go_wp2_with (at_builtin; (refine wpList_append_own _ rfl _ _ 45 rfl w.heap.size 50 i0 _ 2 24 Tryz.underlying45 hi hz0 hz1 hz2 rfl (by decide) _ _ _ rfl (HO.out.alloc _) ⟨wq.heap.size, 0, none⟩ 1 1 [.string y, .int .i64 x] rfl rfl (two_new _ _ _ _) (two_cells _ _) (by unfold maxLen; omega) (by omega) (Nat.le_trans HB.out.size (below_alloc (Below.refl _ _) _).size) ?_); intro v' w3 hown1 hgrow hnil; have HO1 := Lib.hid hown1; have HG := Lib.hid hgrow; clear hown1 hgrow hnil)
          have hb3 : Below w.heap.size w w3 := (below_alloc HB.out _).grown HG.out (below_alloc HB.out _).size (fun j hj => (HO.out.lt j hj).1)
          have HB3 := Lib.hid hb3
          clear hb3
          obtain ⟨q1, cp1, rfl⟩ := own_form HO1.out
          go_roundw
          case rel =>
            have e1 : cTo op l (k + 1) = V ++ [(y, x)] := by rw [HY.out, cStep_new HJ.out]
            refine ⟨k + 1, n + 1, q1, cp1, by omega, by go_num, rfl, by omega, ?_, by rw [e1, List.length_append, HN.out]; rfl, HB3.out⟩
            rw [e1, cellsL_snoc]
            exact HO1.out
          case measure => simp [intOf]; omega
        · obtain ⟨m, rfl⟩ : ∃ m, n = m + 1 := ⟨n - 1, by omega⟩
          obtain ⟨g, rfl, hbg, d0, d1, hf⟩ := own_cells HO.out HN.out (i := m) (by omega)
          have hm1 : ((m + 1 : Nat) : Int) - 1 = (m : Int) := by omega
          have hm0 : (0 : Int) ≤ (m : Int) := by omega
          have hml : (m : Int) < ((m + 1 : Nat) : Int) := by omega
          have hml2 : (m : Int) < (m : Int) + 1 := by omega
          have hd : decide ((0 : Int) ≤ (m : Int)) = true := decide_eq_true (by omega)
          have HBB := Lib.hid ((Below.refl wa.heap.size wa).drew)
          cases hsk : sameKey (keyAt V m) y with
          | true =>
            have hs2 : ((keyAt V m).toList == y.toList) = true := hsk
            have HJ := Lib.hid (show joinsB V (y, x) = true by unfold joinsB; rw [HN.out, Nat.add_sub_cancel, hsk, decide_eq_true (by omega)]; rfl)
            clear hsk
            go_wp2_with fail
            rw [HWA.out]
            have d0w := d0
            have d1w := d1
            go_region_held3 (fun w' => Hid (Below wa.heap.size wa w') ∧ w'.cell? ⟨g, m * 2, none⟩ = some (.string (keyAt V m)) ∧ w'.cell? ⟨g, m * 2 + 1, none⟩ = some (.int .i64 (numAt V m)) ∧ w'.cell? ⟨wr.heap.size, 0, none⟩ = some (.string y) ∧ w'.cell? ⟨wr.heap.size, 1, none⟩ = some (.int .i64 x))
              (first | exact ⟨HBB, d0, d1, b0, b1⟩)
              (first | (go_at_call 72; refine (reckey_any _ _ _).mono ?_; rintro e w5 ⟨rfl, hB⟩; have d0 := (hB.cell (p := ⟨g, m * 2, none⟩) (World.block_lt_of_cell? _ _ d0)).trans d0; have d1 := (hB.cell (p := ⟨g, m * 2 + 1, none⟩) (World.block_lt_of_cell? _ _ d1)).trans d1; have b0 := (hB.cell (p := ⟨wr.heap.size, 0, none⟩) (World.block_lt_of_cell? _ _ b0)).trans b0; have b1 := (hB.cell (p := ⟨wr.heap.size, 1, none⟩) (World.block_lt_of_cell? _ _ b1)).trans b1; have HBB := Lib.hid (below_via HBB.out hB); clear hB))
            have HO := Lib.hid (own_below HO.out HBB.out)
            have HB := Lib.hid (below_via HB.out HBB.out)
            have hf0 := (HBB.out.frozen (p := ⟨g, m * 2, none⟩) (World.block_lt_of_cell? _ _ d0w)).trans (hf (m * 2))
            have hf1 := (HBB.out.frozen (p := ⟨g, m * 2 + 1, none⟩) (World.block_lt_of_cell? _ _ d1w)).trans (hf (m * 2 + 1))
            have hp5 := (HB.out.cell (p := ⟨p, 0, none⟩) hpl).trans HP.out
            have HP5 := Lib.hid hp5
            clear hp5 hf d0w d1w
            go_wp2_with fail
            go_region_with (first | (go_at_call 69; refine (join_any op p _ _ _ _ _ hop (by exact HP5.out)).mono ?_; rintro e w6 ⟨rfl, hB⟩; have g0 := (hB.cell (p := ⟨g, m * 2, none⟩) (World.block_lt_of_cell? _ _ d0)).trans d0; have g1 := (hB.cell (p := ⟨g, m * 2 + 1, none⟩) (World.block_lt_of_cell? _ _ d1)).trans d1; have z0 := (hB.frozen (p := ⟨g, m * 2, none⟩) (World.block_lt_of_cell? _ _ d0)).trans hf0; have z1 := (hB.frozen (p := ⟨g, m * 2 + 1, none⟩) (World.block_lt_of_cell? _ _ d1)).trans hf1; have HB6 := Lib.hid hB; clear hB))
            all_goals (go_wp2_with fail)
            all_goals (
              go_roundw
              case rel =>
                have e1 : cTo op l (k + 1) = V.set m (keyAt V m, combN op (numAt V m) x) := by rw [HY.out, cStep_join HJ.out HN.out]
                have ho := own_put (own_below HO.out (Below.trans (Below.refl _ _).drew HB6.out)) HN.out (i := m) (by omega) (keyAt V m, combN op (numAt V m) x)
                have hb := ((HB.out.trans (Below.trans (Below.refl _ _).drew (HB6.out.mono HB.out.size))).setCell (p := ⟨g, m * 2, none⟩) hbg (.string (keyAt V m))).setCell (p := ⟨g, m * 2 + 1, none⟩) hbg (.int .i64 (combN op (numAt V m) x))
                exact ⟨k + 1, m + 1, _, cp, by omega, by go_num, rfl, by omega, by rw [e1]; exact ho, by rw [e1, List.length_set]; exact HN.out, hb⟩
              case measure => simp [intOf]; omega)
          | false =>
            have hs2 : ((keyAt V m).toList == y.toList) = false := hsk
            have HJ := Lib.hid (show joinsB V (y, x) = false by unfold joinsB; rw [HN.out, Nat.add_sub_cancel, hsk, Bool.and_false])
            clear hsk
            go_wp2_with fail
            rw [HWA.out]
            go_region_held3 (fun w' => Hid (Below wa.heap.size wa w') ∧ w'.cell? ⟨g, m * 2, none⟩ = some (.string (keyAt V m)) ∧ w'.cell? ⟨g, m * 2 + 1, none⟩ = some (.int .i64 (numAt V m)) ∧ w'.cell? ⟨wr.heap.size, 0, none⟩ = some (.string y) ∧ w'.cell? ⟨wr.heap.size, 1, none⟩ = some (.int .i64 x))
              (first | exact ⟨HBB, d0, d1, b0, b1⟩)
              (first | (go_at_call 72; refine (reckey_any _ _ _).mono ?_; rintro e w5 ⟨rfl, hB⟩; have d0 := (hB.cell (p := ⟨g, m * 2, none⟩) (World.block_lt_of_cell? _ _ d0)).trans d0; have d1 := (hB.cell (p := ⟨g, m * 2 + 1, none⟩) (World.block_lt_of_cell? _ _ d1)).trans d1; have b0 := (hB.cell (p := ⟨wr.heap.size, 0, none⟩) (World.block_lt_of_cell? _ _ b0)).trans b0; have b1 := (hB.cell (p := ⟨wr.heap.size, 1, none⟩) (World.block_lt_of_cell? _ _ b1)).trans b1; have HBB := Lib.hid (below_via HBB.out hB); clear hB))
            have HO := Lib.hid (own_below HO.out HBB.out)
            have HB := Lib.hid (below_via HB.out HBB.out)
            clear HBB hf
            rename World => wq
            go_wp2_with (at_builtin; (refine wpList_append_own _ rfl _ _ 45 rfl w.heap.size 50 i0 _ 2 24 Tryz.underlying45 hi hz0 hz1 hz2 rfl (by decide) _ _ _ rfl (HO.out.alloc _) ⟨wq.heap.size, 0, none⟩ 1 1 [.string y, .int .i64 x] rfl rfl (two_new _ _ _ _) (two_cells _ _) (by unfold maxLen; omega) (by omega) (Nat.le_trans HB.out.size (below_alloc (Below.refl _ _) _).size) ?_); intro v' w3 hown1 hgrow hnil; have HO1 := Lib.hid hown1; have HG := Lib.hid hgrow; clear hown1 hgrow hnil)
            have hb3 : Below w.heap.size w w3 := (below_alloc HB.out _).grown HG.out (below_alloc HB.out _).size (fun j hj => (HO.out.lt j hj).1)
            have HB3 := Lib.hid hb3
            clear hb3
            obtain ⟨q1, cp1, rfl⟩ := own_form HO1.out
            go_roundw
            case rel =>
              have e1 : cTo op l (k + 1) = V ++ [(y, x)] := by rw [HY.out, cStep_new HJ.out]
              refine ⟨k + 1, m + 1 + 1, q1, cp1, by omega, by go_num, rfl, by omega, ?_, by rw [e1, List.length_append, HN.out]; rfl, HB3.out⟩
              rw [e1, cellsL_snoc]
              exact HO1.out
            case measure => simp [intOf]; omega
    · obtain rfl : k = len := by omega
      have hki : ¬ (k : Int) < (k : Int) := by omega
      go_wp2
      go_ret
      exact ⟨q, cp, by rw [HS.out.size]; rfl, rs_of_own (by rw [HS.out.size]; exact HS.out.own), HS.out.below, by rw [HS.out.size]; exact (own_cap HS.out.own).1, (own_cap HS.out.own).2⟩
end Go.Proofs.YtdphganbnlmgcaaGreatDoor
