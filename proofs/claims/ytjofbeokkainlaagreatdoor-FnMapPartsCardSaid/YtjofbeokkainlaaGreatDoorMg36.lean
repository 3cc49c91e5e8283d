/- Texts put together, as a claim holds at most sixty files. -/
import Derived.Test.YtjofbeokkainlaaGreatDoorMg27
import Derived.Test.YtjofbeokkainlaaGreatDoorSo8
import Derived.Test.YtjofbeokkainlaaGreatDoorMg35
import Derived.Test.YtjofbeokkainlaaGreatDoorMg1
import Derived.Test.YtjofbeokkainlaaGreatDoorMg18
namespace Go.Proofs.YtjofbeokkainlaaGreatDoor
open Go.ChangeShapes Go.WideShapes Go.ChangeAt Go.RowKit
set_option linter.unusedVariables false
set_option maxRecDepth 100000

def combW (op : Int) (l : Recs) : Recs := if opOkB op then cTo op (sortedB l) (sortedB l).length else []
theorem comb_bad {op : Int} {l : Recs} (h : opOkB op = false) : combW op l = [] := by unfold combW; rw [h]; rfl
theorem comb_of {op : Int} {l S : Recs} {n : Nat} (h : opOkB op = true) (hs : sortedB l = S) (hn : S.length = n) : combW op l = cTo op S n := by unfold combW; rw [if_pos h, hs, hn]
theorem comb_not {op : Int} {l : Recs} (h : recsOkB l = false) : combW op l = [] := by
  unfold combW
  rw [sortedB_not h]
  split <;> rfl
theorem Rs.base {b c : Nat} {w : World} {q : Option Addr} {W : Recs} (h : Rs b w q W) (hc : c ≤ b) : Rs c w q W := by
  rcases h with h0 | ⟨g, cur, e1, hb, h2⟩
  · exact .inl h0
  · exact .inr ⟨g, cur, e1, Nat.le_trans hc hb, h2⟩

theorem store_fn (w : World) (v : Value) (h : v.oneCell' = true) : Sem.run Tryz.prog (store ⟨w.heap.size, 0, none⟩ v) (w.alloc (.cells #[.nilFunc] 50)) = .ok () ((w.alloc (.cells #[.nilFunc] 50)).setCell ⟨w.heap.size, 0, none⟩ v) := by
  rw [run_store Tryz.prog _ _ v _ h]
  simp

set_option maxHeartbeats 4000000 in
theorem combined_any (op : Int) (a : Option Addr) (len cap : Nat) (l : Recs) (w : World) (h : RecsAt w a len l) :
    Calls Tryz.prog 14 #[.int .i64 op, .slice a len cap] w (MadeRs (combW op l) w) := by
  have HR := Lib.hid h
  clear h
  cases hop : opOkB op with
  | false =>
    have HQ := Lib.hid (comb_bad (l := l) hop)
    have HO := Lib.hid hop
    clear hop
    go_enter Tryz.func14, Tryz.ntmps14
    go_wp2_with fail
    refine (combinerF_no op _ HO.out).mono ?_
    rintro e w1 ⟨rfl, rfl⟩
    go_wp2_with fail
    have hst := store_fn w .nilFunc rfl
    rw [hst]
    go_wp2
    go_ret
    rw [HQ.out]
    first
      | exact ⟨none, 0, rfl, .inl rfl, below_alloc (Below.refl _ _) _, Nat.le_refl _, Nat.zero_le _, fun _ => rfl⟩
      | exact ⟨none, 0, rfl, .inl rfl, (below_alloc (Below.refl _ _) _).setCell (Nat.le_refl _) _, Nat.le_refl _, Nat.zero_le _, fun _ => rfl⟩
  | true =>
    obtain ⟨fv, hfv⟩ : ∃ fv, fnOf op = .func (Fn.func fv) #[] #[] := ⟨fnNum op, rfl⟩
    have hcomb : Calls Tryz.prog 36 #[.int .i64 op] w fun e w' => e = .returned (.tuple #[.func (Fn.func fv) #[] #[], .bool true]) ∧ w = w' := by rw [← hfv]; exact combinerF_any op w hop
    obtain ⟨S, hS⟩ : ∃ S, sortedB l = S := ⟨_, rfl⟩
    obtain ⟨n, hn⟩ : ∃ n, S.length = n := ⟨_, rfl⟩
    have hfew := sortedB_few l
    rw [hS, hn] at hfew
    have HQ := Lib.hid (comb_of hop hS hn)
    have HO := Lib.hid hop
    have HF := Lib.hid hfv
    have HS := Lib.hid hS
    have HN := Lib.hid hn
    have HK := Lib.hid hfew.2
    have hn6 := hfew.1
    clear hop hfv hS hn hfew
    go_enter Tryz.func14, Tryz.ntmps14
    go_wp2_with fail
    refine hcomb.mono ?_
    rintro e w1 ⟨rfl, rfl⟩
    clear hcomb
    go_wp2_with fail
    have hst := store_fn w (.func (Fn.func fv) #[] #[]) rfl
    rw [hst]
    obtain ⟨wp, hwp⟩ : ∃ wp, (w.alloc (.cells #[.nilFunc] 50)).setCell ⟨w.heap.size, 0, none⟩ (.func (Fn.func fv) #[] #[]) = wp := ⟨_, rfl⟩
    have hrow : Row wp w.heap.size 50 #[.func (Fn.func fv) #[] #[]] := hwp ▸ (Row.new w 50 #[.nilFunc]).set 0 _
    have hBp : Below w.heap.size w wp := hwp ▸ (below_alloc (Below.refl _ _) _).setCell (Nat.le_refl _) _
    clear hst
    go_wp2_with fail
    have hp0 := Row.cell hrow (j := 0) (by simp)
    simp only [List.getElem_toArray, List.getElem_cons_zero] at hp0
    refine (sorted_any _ _ _ _ _ (HR.out.keep hBp)).mono ?_
    rw [HS.out]
    rintro e w2 ⟨q1, cp1, rfl, hrs, hB, hc1, hc2, hc3⟩
    have hplt : w.heap.size < wp.heap.size := Row.lt hrow
    have HP := Lib.hid (show w2.cell? ⟨w.heap.size, 0, none⟩ = some (fnOf op) by rw [HF.out]; exact (hB.cell (p := ⟨w.heap.size, 0, none⟩) hplt).trans hp0)
    have HRS := Lib.hid hrs
    have HB := Lib.hid (hBp.trans (hB.mono hBp.size))
    rw [HN.out]
    clear hrs hB hc1 hc2 hc3 hrow hBp hp0 hwp hplt
    go_wp2_with fail
    refine (joined_any op w.heap.size q1 n cp1 S w2 (recs_of_rs HRS.out HN.out (by unfold maxLen; omega) (fun i hi => by have := HK.out i hi; unfold maxLen; omega)) hn6 HO.out HP.out).mono ?_
    rw [← HQ.out]
    rintro e w3 ⟨q2, cp2, rfl, hrs, hB, hc⟩
    have HRS2 := Lib.hid (Rs.base hrs HB.out.size)
    have HB := Lib.hid (below_via HB.out hB)
    have HC := Lib.hid hc
    clear hrs hB hc
    go_wp2
    go_ret
    exact ⟨q2, cp2, rfl, HRS2.out, HB.out, HC.out⟩

set_option maxHeartbeats 8000000 in
theorem scombined_any (op : Int) (a : Option Addr) (len cap : Nat) (l : Recs) (w : World) (h : RecsAt w a len l) :
    Calls Tryz.prog 29 #[.int .i64 op, .slice a len cap] w (MadeRs (combW op l) w) := by
  obtain ⟨i0, hi, hz0, hz1, hz2⟩ := info_parts infoRec
  have HR := Lib.hid h
  clear h
  cases hok : (opOkB op && recsOkB l) with
  | false =>
    have HQ := Lib.hid (show combW op l = [] by
      cases ho : opOkB op with
      | false => exact comb_bad ho
      | true => exact comb_not (by rw [ho, Bool.true_and] at hok; exact hok))
    have HO := Lib.hid hok
    clear hok
    go_enter Tryz.func29, Tryz.ntmps29
    go_wp2_with (go_at_call 58; refine (l4recs_any _ _ _ _ _ _ HR.out).mono ?_; rw [HO.out]; rintro e w1 ⟨rfl, hB⟩; have HB := Lib.hid hB; clear hB)
    go_ret
    rw [HQ.out]
    exact ⟨none, 0, rfl, .inl rfl, HB.out, Nat.le_refl _, Nat.zero_le _, fun _ => rfl⟩
  | true =>
    have hop : opOkB op = true := by rw [Bool.and_eq_true] at hok; exact hok.1
    obtain ⟨S, hS⟩ : ∃ S, sortedB l = S := ⟨_, rfl⟩
    obtain ⟨len1, hn⟩ : ∃ n, S.length = n := ⟨_, rfl⟩
    have hfew := sortedB_few l
    rw [hS, hn] at hfew
    have HQ := Lib.hid (comb_of hop hS hn)
    have HO := Lib.hid hok
    have HS := Lib.hid hS
    have HL := Lib.hid hn
    have HK := Lib.hid hfew.2
    have hn6 := hfew.1
    clear hop hok hS hn hfew
    go_enter Tryz.func29, Tryz.ntmps29
    go_wp2_with fail
    refine (l4recs_any _ _ _ _ _ _ HR.out).mono ?_
    rw [HO.out]
    rintro e w1 ⟨rfl, hB⟩
    have HB := Lib.hid hB
    have HR := Lib.hid (HR.out.keep hB)
    clear hB
    go_wp2_with fail
    refine (ssorted_any _ _ _ _ _ HR.out).mono ?_
    rw [HS.out]
    rintro e w2 ⟨q1, cp1, rfl, hrs, hB, hc1, hc2, hc3⟩
    have HRE := Lib.hid (show RecsAt w2 q1 len1 S from recs_of_rs hrs HL.out (by unfold maxLen; omega) (fun i hi => by have := HK.out i hi; unfold maxLen; omega))
    have HB := Lib.hid (below_via HB.out hB)
    have HBO := Lib.hid HB.out
    rw [HL.out]
    clear hrs hB hc1 hc2 hc3 HR HB
    go_wp2_with fail
    go_loopw [6, 7] (fun v i wr => ∃ (k n : Nat) (q : Option Addr) (cp : Nat), k ≤ len1 ∧ i = .int .i64 k ∧ v = .slice q n cp ∧ n ≤ k ∧ Hid (CSt op S w2 wr q n cp k)) (fun _ i _ => len1 - (intOf i).toNat)
    case atStart => exact ⟨0, 0, _, _, Nat.zero_le _, rfl, rfl, Nat.le_refl _, World.ownsRow_lit w2 #[] 0 (Nat.le_refl _) (Nat.zero_le _) rfl, rfl, below_alloc (Below.refl _ _) _⟩
    case round =>
      obtain ⟨k, n, q, cp, hk, rfl, rfl, hnk, HT⟩ := hrel
      by_cases hlt : k < len1
      · rcases HRE.out.src with hz | ⟨b, off, rfl, hb, hc⟩
        · omega
        · have c0 := (HT.out.below.cell (p := ⟨b, off + k * 2, none⟩) hb).trans (hc k hlt).1
          have c1 := (HT.out.below.cell (p := ⟨b, off + k * 2 + 1, none⟩) hb).trans (hc k hlt).2
          have hki : (k : Int) < (len1 : Int) := by omega
          have HST := Lib.hid (cTo_succ op S k (by rw [HL.out]; exact hlt))
          obtain ⟨V, hV⟩ : ∃ V, cTo op S k = V := ⟨_, rfl⟩
          have HO := Lib.hid (show wr.ownsRow w2.heap.size 37 2 (.slice q n cp) n (cellsL V) from hV ▸ HT.out.own)
          have HN := Lib.hid (show V.length = n from hV ▸ HT.out.size)
          have HB := Lib.hid HT.out.below
          obtain ⟨y, hy⟩ : ∃ y, keyAt S k = y := ⟨_, rfl⟩
          obtain ⟨x, hx⟩ : ∃ x, numAt S k = x := ⟨_, rfl⟩
          have HY := Lib.hid (show cTo op S (k + 1) = cStep op V (y, x) by rw [HST.out, hV, hy, hx])
          rw [hy] at c0
          rw [hx] at c1
          clear hc hb hV hy hx HST HT
          by_cases hn0 : n = 0
          · have hd : decide ((0 : Int) < (n : Int)) = false := decide_eq_false (by omega)
            have hnn : ¬ (0 : Int) < (n : Int) := by omega
            have hdn : decide (0 < n) = false := decide_eq_false (by omega)
            have HJ := Lib.hid (show joinsB V (y, x) = false by unfold joinsB; rw [HN.out, decide_eq_false (by omega)]; rfl)
            clear hn0
            go_wp2_with fail
            go_quiet (fail)
            have c0 : (wr.drewN nq).cell? ⟨b, off + k * 2, none⟩ = some (.string y) := c0
            have c1 : (wr.drewN nq).cell? ⟨b, off + k * 2 + 1, none⟩ = some (.int .i64 x) := c1
            have HO := Lib.hid (own_below HO.out (below_drewN (Below.refl _ wr) nq))
            have HB := Lib.hid (below_drewN HB.out nq)
            generalize wr.drewN nq = wq at c0 c1 HO HB ⊢
            go_wp2_with (at_builtin; (refine wpList_append_own _ rfl _ _ 34 rfl w2.heap.size 37 i0 _ 2 24 Tryz.underlying34 hi hz0 hz1 hz2 rfl (by decide) _ _ _ rfl (HO.out.alloc _) ⟨wq.heap.size, 0, none⟩ 1 1 [.string y, .int .i64 x] rfl rfl (two_new _ _ _ _) (two_cells _ _) (by unfold maxLen; omega) (by omega) (Nat.le_trans HB.out.size (below_alloc (Below.refl _ _) _).size) ?_); intro v' w3 hown1 hgrow hnil; have HO1 := Lib.hid hown1; have HG := Lib.hid hgrow; clear hown1 hgrow hnil)
            have HB3 := Lib.hid ((below_alloc HB.out _).grown HG.out (below_alloc HB.out _).size (fun j hj => (HO.out.lt j hj).1))
            obtain ⟨q1, cp1, rfl⟩ := own_form HO1.out
            go_roundw
            case rel =>
              have e1 : cTo op S (k + 1) = V ++ [(y, x)] := by rw [HY.out, cStep_new HJ.out]
              refine ⟨k + 1, n + 1, q1, cp1, by omega, by go_num, rfl, by omega, ?_, by rw [e1, List.length_append, HN.out]; rfl, HB3.out⟩
              rw [e1, cellsL_snoc]
              exact HO1.out
            case measure => simp [intOf]; omega
          · obtain ⟨m, rfl⟩ : ∃ m, n = m + 1 := ⟨n - 1, by omega⟩
            obtain ⟨g, rfl, hbg, d0, d1, hf⟩ := own_cells HO.out HN.out (i := m) (by omega)
            have hm1 : ((m + 1 : Nat) : Int) - 1 = (m : Int) := by omega
            have hm0 : (0 : Int) ≤ (m : Int) := by omega
            have hml : (m : Int) < ((m + 1 : Nat) : Int) := by omega
            have hml2 : (m : Int) < (m : Int) + 1 := by omega
            have hd : decide ((0 : Int) < ((m + 1 : Nat) : Int)) = true := decide_eq_true (by omega)
            have hd0 : (0 : Int) < ((m + 1 : Nat) : Int) := by omega
            cases hsk : sameKey (keyAt V m) y with
            | true =>
              have hs2 : ((keyAt V m).toList == y.toList) = true := hsk
              have HJ := Lib.hid (show joinsB V (y, x) = true by unfold joinsB; rw [HN.out, Nat.add_sub_cancel, hsk, decide_eq_true (by omega)]; rfl)
              have f1 := hf (m * 2 + 1)
              clear hsk hf
              go_wp2_with fail
              have hw1 : IntKind.i64.wrap (m : Int) = (m : Int) := IntWalk.i64_in _ (by omega)
              go_quiet (fail)
              clear hw1
              have c0 : (wr.drewN nq).cell? ⟨b, off + k * 2, none⟩ = some (.string y) := c0
              have c1 : (wr.drewN nq).cell? ⟨b, off + k * 2 + 1, none⟩ = some (.int .i64 x) := c1
              have d0 : (wr.drewN nq).cell? ⟨g, m * 2, none⟩ = some (.string (keyAt V m)) := d0
              have d1 : (wr.drewN nq).cell? ⟨g, m * 2 + 1, none⟩ = some (.int .i64 (numAt V m)) := d1
              have f1 : (wr.drewN nq).frozen? ⟨g, m * 2 + 1, none⟩ = false := f1
              have HO := Lib.hid (own_below HO.out (below_drewN (Below.refl _ wr) nq))
              have HB := Lib.hid (below_drewN HB.out nq)
              generalize wr.drewN nq = wq at c0 c1 d0 d1 f1 HO HB ⊢
              go_wp2_with fail
              have hw1 : IntKind.i64.wrap (m : Int) = (m : Int) := IntWalk.i64_in _ (by omega)
              refine wp_region_still_tail 18 (by kernel_rfl) (by kernel_rfl) ?_
              simp only [List.take_succ_cons, List.take_zero, List.drop_succ_cons, List.drop_zero]
              iterate 15 still_step
              still_call ((scomb_any op _ _ _).mono fun _ _ ⟨he, hw⟩ => ⟨he, hw.symm⟩)
              iterate 2 still_step
              refine wpStill_nil ?_
              change wpList _ _ _ _ _ wq.drew
              clear hw1
              go_wp2
              go_roundw
              case rel =>
                have e1 : cTo op S (k + 1) = V.set m (keyAt V m, combN op (numAt V m) x) := by rw [HY.out, cStep_join HJ.out HN.out]
                have ho := own_putN (own_below HO.out (Below.refl _ _).drew) HN.out (i := m) (by omega) (combN op (numAt V m) x)
                have hb := (HB.out.drew).setCell (p := ⟨g, m * 2 + 1, none⟩) hbg (.int .i64 (combN op (numAt V m) x))
                exact ⟨k + 1, m + 1, _, cp, by omega, by go_num, rfl, by omega, by rw [e1]; exact ho, by rw [e1, List.length_set]; exact HN.out, hb⟩
              case measure => simp [intOf]; omega
            | false =>
              have hs2 : ((keyAt V m).toList == y.toList) = false := hsk
              have HJ := Lib.hid (show joinsB V (y, x) = false by unfold joinsB; rw [HN.out, Nat.add_sub_cancel, hsk, Bool.and_false])
              clear hsk hf
              go_wp2_with fail
              have hw1 : IntKind.i64.wrap (m : Int) = (m : Int) := IntWalk.i64_in _ (by omega)
              go_quiet (fail)
              clear hw1
              have c0 : (wr.drewN nq).cell? ⟨b, off + k * 2, none⟩ = some (.string y) := c0
              have c1 : (wr.drewN nq).cell? ⟨b, off + k * 2 + 1, none⟩ = some (.int .i64 x) := c1
              have HO := Lib.hid (own_below HO.out (below_drewN (Below.refl _ wr) nq))
              have HB := Lib.hid (below_drewN HB.out nq)
              clear d0 d1
              generalize wr.drewN nq = wq at c0 c1 HO HB ⊢
              go_wp2_with (at_builtin; (refine wpList_append_own _ rfl _ _ 34 rfl w2.heap.size 37 i0 _ 2 24 Tryz.underlying34 hi hz0 hz1 hz2 rfl (by decide) _ _ _ rfl (HO.out.alloc _) ⟨wq.heap.size, 0, none⟩ 1 1 [.string y, .int .i64 x] rfl rfl (two_new _ _ _ _) (two_cells _ _) (by unfold maxLen; omega) (by omega) (Nat.le_trans HB.out.size (below_alloc (Below.refl _ _) _).size) ?_); intro v' w3 hown1 hgrow hnil; have HO1 := Lib.hid hown1; have HG := Lib.hid hgrow; clear hown1 hgrow hnil)
              have HB3 := Lib.hid ((below_alloc HB.out _).grown HG.out (below_alloc HB.out _).size (fun j hj => (HO.out.lt j hj).1))
              obtain ⟨q1, cp1, rfl⟩ := own_form HO1.out
              go_roundw
              case rel =>
                have e1 : cTo op S (k + 1) = V ++ [(y, x)] := by rw [HY.out, cStep_new HJ.out]
                refine ⟨k + 1, m + 1 + 1, q1, cp1, by omega, by go_num, rfl, by omega, ?_, by rw [e1, List.length_append, HN.out]; rfl, HB3.out⟩
                rw [e1, cellsL_snoc]
                exact HO1.out
              case measure => simp [intOf]; omega
      · obtain rfl : k = len1 := by omega
        have hki : ¬ (k : Int) < (k : Int) := by omega
        go_wp2
        go_ret
        rw [HQ.out]
        exact ⟨q, cp, by rw [HT.out.size]; rfl, Rs.base (rs_of_own (by rw [HT.out.size]; exact HT.out.own)) HBO.out.size, below_via HBO.out HT.out.below, by rw [HT.out.size]; exact (own_cap HT.out.own).1, (own_cap HT.out.own).2⟩
end Go.Proofs.YtjofbeokkainlaaGreatDoor
namespace Go.Proofs.YtjofbeokkainlaaGreatDoor
open Go.ChangeShapes Go.WideShapes Go.ChangeAt Go.RowKit
set_option linter.unusedVariables false
set_option maxRecDepth 100000

theorem cTo_keys (op : Int) (S : Recs) : ∀ k, k ≤ S.length → ∀ r ∈ cTo op S k, ∃ j, j < k ∧ r.1 = keyAt S j
  | 0, _, r, hr => by simp [cTo] at hr
  | k + 1, h, r, hr => by
    have ih := cTo_keys op S k (by omega)
    rw [cTo_succ op S k (by omega)] at hr
    unfold cStep at hr
    split at hr
    · rename_i hj
      have hpos : 0 < (cTo op S k).length := by
        unfold joinsB at hj
        rw [Bool.and_eq_true, decide_eq_true_eq] at hj
        exact hj.1
      rcases List.mem_or_eq_of_mem_set hr with h1 | h1
      · obtain ⟨j, hj, e⟩ := ih r h1
        exact ⟨j, by omega, e⟩
      · subst h1
        have hm : (cTo op S k).length - 1 < (cTo op S k).length := by omega
        obtain ⟨j, hj, e⟩ := ih _ (List.getElem_mem hm)
        rw [at_get _ _ hm] at e
        exact ⟨j, by omega, e⟩
    · rcases List.mem_append.1 hr with h1 | h1
      · obtain ⟨j, hj, e⟩ := ih r h1
        exact ⟨j, by omega, e⟩
      · simp at h1
        subst h1
        exact ⟨k, by omega, rfl⟩
theorem combW_few (op : Int) (l : Recs) : (combW op l).length ≤ 600 ∧ ∀ i, i < (combW op l).length → (keyAt (combW op l) i).size ≤ 40 := by
  unfold combW
  split
  · have hf := sortedB_few l
    refine ⟨Nat.le_trans (cTo_len op _ _ (Nat.le_refl _)) hf.1, fun i hi => ?_⟩
    obtain ⟨j, hj, e⟩ := cTo_keys op (sortedB l) _ (Nat.le_refl _) _ (List.getElem_mem hi)
    rw [at_get _ i hi] at e
    have e1 : keyAt (cTo op (sortedB l) (sortedB l).length) i = keyAt (sortedB l) j := e
    rw [e1]
    exact hf.2 j hj
  · exact ⟨Nat.zero_le _, fun i hi => by simp at hi⟩

end Go.Proofs.YtjofbeokkainlaaGreatDoor
namespace Go.Proofs.YtjofbeokkainlaaGreatDoor
set_option linter.unusedVariables false

def fO (op : Int) : Option Int → Int → Option Int
  | none, x => some x
  | some n, x => some (combN op n x)
/-- What comes of the numbers of a key. -/
def resT (op : Int) (key : ByteArray) (V : Recs) : Option Int := (V.filter fun r => sameKey r.1 key).foldl (fun o r => fO op o r.2) none
theorem fO_comm (op : Int) (o : Option Int) (x y : Int) : fO op (fO op o x) y = fO op (fO op o y) x := by
  cases o with
  | none => show some _ = some _; rw [comb_comm]
  | some n =>
    show some _ = some _
    rw [comb_assoc, comb_assoc, comb_comm op x y]
theorem res_perm {op : Int} {key : ByteArray} {V S : Recs} (h : V.Perm S) : resT op key V = resT op key S := by
  unfold resT
  exact List.Perm.foldl_eq' (h.filter _) (fun x _ y _ z => fO_comm op z x.2 y.2) none
theorem res_snoc (op : Int) (key : ByteArray) (V : Recs) (r : ByteArray × Int) : resT op key (V ++ [r]) = if sameKey r.1 key then fO op (resT op key V) r.2 else resT op key V := by
  unfold resT
  rw [List.filter_append]
  cases h : sameKey r.1 key with
  | true => simp [h, List.foldl_append]
  | false => simp [h]
theorem res_none {op : Int} {key : ByteArray} {V : Recs} (h : ∀ r ∈ V, sameKey r.1 key = false) : resT op key V = none := by
  unfold resT
  rw [List.filter_eq_nil_iff.2 (fun r hr => by rw [h r hr]; simp)]
  rfl
theorem same_no {s u : ByteArray} (h : s.toList ≠ u.toList) : sameKey s u = false := by
  unfold sameKey
  simpa using h
theorem same_yes {s u : ByteArray} (h : sameKey s u = true) : s = u := by
  unfold sameKey at h
  exact toList_inj (by simpa using h)
theorem same_self (s : ByteArray) : sameKey s s = true := by unfold sameKey; simp

def KeyUp (W : Recs) : Prop := List.Pairwise (fun a b => a.1.toList < b.1.toList) W
structure CInv (op : Int) (T W : Recs) : Prop where
  up : KeyUp W
  res : ∀ r ∈ W, resT op r.1 T = some r.2
  last : T ≠ [] → ∃ A x B y, W = A ++ [x] ∧ T = B ++ [y] ∧ x.1 = y.1
  nil : T = [] → W = []
theorem cinv_step {op : Int} {T W : Recs} {r : ByteArray × Int} (h : CInv op T W) (ho : InOrder (T ++ [r])) : CInv op (T ++ [r]) (cStep op W r) := by
  by_cases hT : T = []
  · have hW := h.nil hT
    subst hT
    subst hW
    have hj : joinsB [] r = false := by simp [joinsB]
    rw [cStep_new hj]
    refine ⟨by simp [KeyUp], fun x hx => ?_, fun _ => ⟨[], r, [], r, rfl, rfl, rfl⟩, fun hn => by simp at hn⟩
    simp at hx
    subst hx
    rw [res_snoc, same_self, if_pos rfl]
    rfl
  · obtain ⟨A, x, B, y, rfl, rfl, hxy⟩ := h.last hT
    have hup := h.up
    unfold KeyUp at hup
    rw [List.pairwise_append] at hup
    obtain ⟨hA, _, hAx⟩ := hup
    have hAx' : ∀ t ∈ A, t.1.toList < x.1.toList := fun t ht => hAx t ht x (by simp)
    have hkx : keyAt (A ++ [x]) A.length = x.1 ∧ numAt (A ++ [x]) A.length = x.2 := by
      have := at_get (A ++ [x]) A.length (by simp)
      have e : x = (keyAt (A ++ [x]) A.length, numAt (A ++ [x]) A.length) := by simpa using this
      exact ⟨(congrArg Prod.fst e).symm, (congrArg Prod.snd e).symm⟩
    have hlen : (A ++ [x]).length = A.length + 1 := by simp
    have hjo : joinsB (A ++ [x]) r = sameKey x.1 r.1 := by
      unfold joinsB
      rw [hlen, Nat.add_sub_cancel, hkx.1]
      simp
    cases hj : sameKey x.1 r.1 with
    | true =>
      rw [hj] at hjo
      have hxr := same_yes hj
      rw [cStep_join hjo hlen, hkx.1, hkx.2]
      have hset : ∀ z, (A ++ [x]).set A.length z = A ++ [z] := fun z => by simp
      rw [hset]
      refine ⟨?_, fun t ht => ?_, fun _ => ⟨A, _, B ++ [y], r, rfl, rfl, hxr⟩, fun hn => by simp at hn⟩
      · unfold KeyUp
        rw [List.pairwise_append]
        exact ⟨hA, by simp, fun t ht z hz => by simp at hz; subst hz; exact hAx' t ht⟩
      · rcases List.mem_append.1 ht with ht | ht
        · rw [res_snoc, same_no (by rw [← hxr]; exact fun e => by have := hAx' t ht; rw [e] at this; exact absurd this (List.lt_irrefl _)), if_neg (by simp)]
          exact h.res t (by simp [ht])
        · simp at ht
          subst ht
          show resT op x.1 _ = some (combN op x.2 r.2)
          rw [res_snoc, hxr, same_self, if_pos rfl, ← hxr, h.res x (by simp)]
          rfl
    | false =>
      rw [hj] at hjo
      rw [cStep_new hjo]
      unfold InOrder at ho
      rw [List.pairwise_append] at ho
      obtain ⟨hoT, _, hor⟩ := ho
      have hne : x.1.toList ≠ r.1.toList := fun e => by
        unfold sameKey at hj
        rw [e] at hj
        simp at hj
      have hyr : x.1.toList < r.1.toList := by
        have h1 := hor y (by simp) r (by simp)
        rw [leR_iff'] at h1
        rw [hxy] at hne ⊢
        rcases h1 with h1 | h1
        · exact h1
        · exact absurd h1.1 hne
      refine ⟨?_, fun t ht => ?_, fun _ => ⟨A ++ [x], r, B ++ [y], r, rfl, rfl, rfl⟩, fun hn => by simp at hn⟩
      · unfold KeyUp
        rw [List.pairwise_append]
        refine ⟨h.up, by simp, fun t ht z hz => ?_⟩
        simp at hz
        subst hz
        rcases List.mem_append.1 ht with ht | ht
        · exact List.lt_trans (hAx' t ht) hyr
        · simp at ht; subst ht; exact hyr
      · rcases List.mem_append.1 ht with ht | ht
        · have htr : t.1.toList < r.1.toList := by
            rcases List.mem_append.1 ht with ht | ht
            · exact List.lt_trans (hAx' t ht) hyr
            · simp at ht; subst ht; exact hyr
          rw [res_snoc, same_no (fun e => by rw [e] at htr; exact absurd htr (List.lt_irrefl _)), if_neg (by simp)]
          exact h.res t ht
        · simp at ht
          subst ht
          rw [res_snoc, same_self, if_pos rfl, res_none (V := B ++ [y]) (fun z hz => ?_)]
          · rfl
          · refine same_no fun e => ?_
            have hzr : z.1.toList < t.1.toList := by
              rcases List.mem_append.1 hz with hz | hz
              · rw [List.pairwise_append] at hoT
                have h1 := hoT.2.2 z hz y (by simp)
                rw [leR_iff'] at h1
                rw [← hxy] at h1
                rcases h1 with h1 | h1
                · exact List.lt_trans h1 hyr
                · rw [h1.1]; exact hyr
              · simp at hz; subst hz; rw [← hxy]; exact hyr
            rw [e] at hzr
            exact absurd hzr (List.lt_irrefl _)
theorem cTo_inv {op : Int} {S : Recs} (ho : InOrder S) : ∀ k, k ≤ S.length → CInv op (S.take k) (cTo op S k)
  | 0, _ => by
    have e : cTo op S 0 = [] := by simp [cTo]
    rw [e, List.take_zero]
    exact ⟨by simp [KeyUp], by simp, fun h => absurd rfl h, fun _ => rfl⟩
  | k + 1, hk => by
    have hlt : k < S.length := by omega
    have ih := cTo_inv (op := op) ho k (by omega)
    rw [cTo_succ op S k hlt, List.take_succ_eq_append_getElem hlt, at_get S k hlt]
    refine cinv_step ih ?_
    have e : S.take k ++ [(keyAt S k, numAt S k)] = S.take (k + 1) := by rw [List.take_succ_eq_append_getElem hlt, at_get S k hlt]
    rw [e]
    exact List.Pairwise.sublist (List.take_sublist _ _) ho

/-- What Combined holds of valid records: the keys grow, and each number is what comes of its key's. -/
theorem combW_holds {op : Int} {V : Recs} (h1 : opOkB op = true) (h2 : recsOkB V = true) : KeyUp (combW op V) ∧ ∀ r ∈ combW op V, resT op r.1 V = some r.2 := by
  have hs := sortedB_is h2
  rw [comb_of h1 hs rfl]
  have hi := cTo_inv (op := op) (sortL_order V) (sortL V).length (Nat.le_refl _)
  rw [List.take_length] at hi
  exact ⟨hi.up, fun r hr => by rw [res_perm (sortL_perm V).symm]; exact hi.res r hr⟩
end Go.Proofs.YtjofbeokkainlaaGreatDoor
