/- Texts put together, as a claim holds at most sixty files. -/
import Derived.Test.YthnlllbanfemaaaGreatDoorMg14
import Derived.Test.YthnlllbanfemaaaGreatDoorMg16
import Derived.Test.YthnlllbanfemaaaGreatDoorMg13
import Derived.Laws.EntriesVeiled
namespace Go.Proofs.YthnlllbanfemaaaGreatDoor
open Go.ChangeShapes Go.WideShapes Go.ChangeAt Go.RowKit
set_option linter.unusedVariables false
set_option maxRecDepth 100000

theorem instr_out {op n : Int} {s : ByteArray} (h : ¬ (1 ≤ op ∧ op ≤ 14)) : instrB op n s = false := by
  cases hb : instrB op n s with
  | false => rfl
  | true => exact absurd (instr_op hb) h
theorem push_empty {s : ByteArray} (h : s.size = 0) : pushB s = true := by
  have : s = ByteArray.empty := ByteArray.ext (Array.eq_empty_of_size_eq_zero h)
  rw [this]; exact push_none

set_option maxHeartbeats 4000000 in
theorem instrok_any (op n : Int) (s : ByteArray) (w : World) (hs : s.size ≤ maxLen) (hT : TabsP w) :
    Calls Tryz.prog 53 #[.agg #[.int .i64 op, .int .i64 n, .string s]] w (MadeBool (instrB op n s) w) := by
  have HSZ := Lib.hid hs
  unfold maxLen at hs
  by_cases hlo : op < 1
  · have HC := Lib.hid (instr_out (n := n) (s := s) (by omega : ¬ (1 ≤ op ∧ op ≤ 14)))
    clear hT
    go_enter Tryz.func53, Tryz.ntmps53
    go_wp2
    go_ret
    exact ⟨ret_bool HC.out.symm, below_alloc (Below.refl _ _) _⟩
  by_cases hhi : 14 < op
  · have HC := Lib.hid (instr_out (n := n) (s := s) (by omega : ¬ (1 ≤ op ∧ op ≤ 14)))
    clear hT
    go_enter Tryz.func53, Tryz.ntmps53
    go_wp2
    go_ret
    exact ⟨ret_bool HC.out.symm, below_alloc (Below.refl _ _) _⟩
  have HT := Lib.hid (hT.keep (below_alloc (Below.refl w.heap.size w) (.cells #[.int .i64 op, .int .i64 n, .string s] 52)))
  have HB := Lib.hid (below_alloc (Below.refl w.heap.size w) (.cells #[.int .i64 op, .int .i64 n, .string s] 52))
  clear hT
  by_cases e1 : op = 1
  · subst e1
    obtain ⟨F, hF⟩ : ∃ F, fieldB 1 = F := ⟨_, rfl⟩
    have c1 := (HT.out.cell 1 (by omega)).2.1
    rw [hF] at c1
    have q1 : (F.toList == [78]) = true := lit_yes (by rw [← hF]; rfl)
    have q2 : (F.toList == [83]) = false := lit_no (by rw [← hF]; decide)
    clear hF
    by_cases h0 : s.size = 0
    · have HC := Lib.hid (show instrB 1 n s = decide (0 ≤ n ∧ n ≤ 19) by unfold instrB; rw [if_pos rfl, decide_eq_true h0, Bool.and_true])
      have he : s.toList.isEmpty = true := ba_nil h0
      by_cases hn0 : 0 ≤ n
      · have HC := Lib.hid (show instrB 1 n s = decide (n < 20) by rw [HC.out, decide_eq_decide]; omega)
        go_enter Tryz.func53, Tryz.ntmps53
        go_wp2
        go_ret
        exact ⟨ret_bool HC.out.symm, HB.out⟩
      · have HC := Lib.hid (show instrB 1 n s = false by rw [HC.out]; exact decide_eq_false (by omega))
        go_enter Tryz.func53, Tryz.ntmps53
        go_wp2
        go_ret
        exact ⟨ret_bool HC.out.symm, HB.out⟩
    · have HC := Lib.hid (show instrB 1 n s = false by unfold instrB; rw [if_pos rfl, decide_eq_false h0, Bool.and_false])
      have he : s.toList.isEmpty = false := ba_some (by omega)
      go_enter Tryz.func53, Tryz.ntmps53
      go_wp2
      go_ret
      exact ⟨ret_bool HC.out.symm, HB.out⟩
  by_cases e2 : op = 2
  · subst e2
    obtain ⟨F, hF⟩ : ∃ F, fieldB 2 = F := ⟨_, rfl⟩
    have c1 := (HT.out.cell 2 (by omega)).2.1
    rw [hF] at c1
    have q1 : (F.toList == [78]) = false := lit_no (by rw [← hF]; decide)
    have q2 : (F.toList == [83]) = true := lit_yes (by rw [← hF]; rfl)
    clear hF
    by_cases hn : n = 0
    · subst hn
      obtain ⟨q, hq⟩ : ∃ q, pushB s = q := ⟨_, rfl⟩
      have HQ := Lib.hid hq
      have HC := Lib.hid (show instrB 2 0 s = q by unfold instrB; rw [if_neg (by decide), if_pos rfl, decide_eq_true rfl, Bool.true_and, hq])
      clear hq
      go_enter Tryz.func53, Tryz.ntmps53
      go_wp2_with (go_at_call 75; refine (pushedok_any _ _ HSZ.out).mono ?_; rw [HQ.out]; rintro e w1 ⟨rfl, rfl⟩)
      go_ret
      exact ⟨ret_bool HC.out.symm, HB.out⟩
    · have HC := Lib.hid (show instrB 2 n s = false by unfold instrB; rw [if_neg (by decide), if_pos rfl, decide_eq_false hn, Bool.false_and])
      have hv2 : ((n : Int) == 0) = false := by rw [beq_eq_false_iff_ne]; exact hn

      go_enter Tryz.func53, Tryz.ntmps53
      go_wp2
      go_ret
      exact ⟨ret_bool HC.out.symm, HB.out⟩
  by_cases e3 : op = 3
  · subst e3
    obtain ⟨F, hF⟩ : ∃ F, fieldB 3 = F := ⟨_, rfl⟩
    have c1 := (HT.out.cell 3 (by omega)).2.1
    rw [hF] at c1
    have q1 : (F.toList == [78]) = true := lit_yes (by rw [← hF]; rfl)
    have q2 : (F.toList == [83]) = false := lit_no (by rw [← hF]; decide)
    clear hF
    have HC := Lib.hid (show instrB 3 n s = decide (s.size = 0) by unfold instrB; rw [if_neg (by decide), if_neg (by decide), if_pos rfl])
    by_cases h0 : s.size = 0
    · rw [decide_eq_true h0] at HC
      have HQ := Lib.hid (push_empty h0)
      have he : s.toList.isEmpty = true := ba_nil h0
      go_enter Tryz.func53, Tryz.ntmps53
      go_wp2_with (go_at_call 75; refine (pushedok_any _ _ HSZ.out).mono ?_; rw [HQ.out]; rintro e w1 ⟨rfl, rfl⟩)
      go_ret
      exact ⟨ret_bool HC.out.symm, HB.out⟩
    · rw [decide_eq_false h0] at HC
      have he : s.toList.isEmpty = false := ba_some (by omega)
      go_enter Tryz.func53, Tryz.ntmps53
      go_wp2
      go_ret
      exact ⟨ret_bool HC.out.symm, HB.out⟩
  have HC := Lib.hid (show instrB op n s = (decide (n = 0) && decide (s.size = 0)) by unfold instrB; rw [if_neg e1, if_neg e2, if_neg e3, decide_eq_true (by omega : 4 ≤ op ∧ op ≤ 14), Bool.true_and])
  obtain ⟨x, hx⟩ : ∃ x : Nat, op = x := ⟨op.toNat, by omega⟩
  subst hx
  have k1 : ((x : Int) == 1) = false := by rw [beq_eq_false_iff_ne]; exact e1
  have hF0 : fieldB x = ByteArray.empty := by
    unfold fieldB
    split <;> first | rfl | (exfalso; omega)
  have x0 : (0 : Int) ≤ (x : Int) := by omega
  have x1 : (x : Int) < 15 := by omega
  have x2 : ¬ (x : Int) < 1 := by omega
  have x3 : ¬ (14 : Int) < (x : Int) := by omega
  obtain ⟨F, hF⟩ : ∃ F, fieldB x = F := ⟨_, rfl⟩
  have c1 := (HT.out.cell x (by omega)).2.1
  rw [hF] at c1
  have q1 : (F.toList == [78]) = false := lit_no (by rw [← hF, hF0]; decide)
  have q2 : (F.toList == [83]) = false := lit_no (by rw [← hF, hF0]; decide)
  clear hF hF0 e1 e2 e3 hlo hhi
  by_cases hn : n = 0
  · subst hn
    rw [decide_eq_true rfl, Bool.true_and] at HC
    by_cases h0 : s.size = 0
    · rw [decide_eq_true h0] at HC
      have HQ := Lib.hid (push_empty h0)
      have he : s.toList.isEmpty = true := ba_nil h0
      go_enter Tryz.func53, Tryz.ntmps53
      go_wp2_with (go_at_call 75; refine (pushedok_any _ _ HSZ.out).mono ?_; rw [HQ.out]; rintro e w1 ⟨rfl, rfl⟩)
      go_ret
      exact ⟨ret_bool HC.out.symm, HB.out⟩
    · rw [decide_eq_false h0] at HC
      have he : s.toList.isEmpty = false := ba_some (by omega)
      go_enter Tryz.func53, Tryz.ntmps53
      go_wp2
      go_ret
      exact ⟨ret_bool HC.out.symm, HB.out⟩
  · rw [decide_eq_false hn, Bool.false_and] at HC
    have hv2 : ((n : Int) == 0) = false := by rw [beq_eq_false_iff_ne]; exact hn

    go_enter Tryz.func53, Tryz.ntmps53
    go_wp2
    go_ret
    exact ⟨ret_bool HC.out.symm, HB.out⟩
end Go.Proofs.YthnlllbanfemaaaGreatDoor
namespace Go.Proofs.YthnlllbanfemaaaGreatDoor
open Go.ChangeShapes Go.WideShapes Go.ChangeAt Go.RowKit
set_option linter.unusedVariables false
set_option maxRecDepth 100000

theorem prog_fin {l : Instrs} {st : ByteArray} {k len : Nat} (hl : l.length = len) (h30 : len ≤ 30) (hk : k = len) (h : stk l k = some st) : progB l = decide (st.size = 0) := prog_end (by omega) (by rw [hl, ← hk]; exact h)

set_option maxHeartbeats 8000000 in
theorem sprogok_any (a : Option Addr) (len cap : Nat) (l : Instrs) (w : World) (h : InstrsAt w a len l) :
    Calls Tryz.prog 29 #[.slice a len cap] w (MadeBool (progB l) w) := by
  have hm := h.max
  unfold maxLen at hm
  have HL := Lib.hid h.length
  have HR := Lib.hid h
  clear h
  go_enter Tryz.func29, Tryz.ntmps29
  go_wp2
  go_loopw [3, 4] (fun s i wr => ∃ (k : Nat) (st : ByteArray), k ≤ len ∧ i = .int .i64 k ∧ s = .string st ∧ st.size ≤ k ∧ Hid (stk l k = some st) ∧ Hid (Below w.heap.size w wr)) (fun _ i _ => len - (intOf i).toNat)
  case atStart => exact ⟨0, ByteArray.empty, Nat.zero_le _, rfl, rfl, Nat.le_refl _, Lib.hid rfl, Lib.hid (Below.refl _ _)⟩
  case round =>
    obtain ⟨k, st, hk, rfl, rfl, hst, HST, HW⟩ := hrel
    by_cases h30 : (len : Int) ≤ 30
    · by_cases hlt : k < len
      · rcases (HR.out.keep HW.out).src with hz | ⟨b, off, rfl, hb, hc⟩
        · omega
        obtain ⟨c0, c1, c2⟩ := hc k hlt
        have hi0 : (0 : Int) ≤ (k : Int) := by omega
        have hi1 : (k : Int) < (len : Int) := by omega
        have HKY := Lib.hid (HR.out.keys k hlt)
        obtain ⟨op, hop⟩ : ∃ op, ins0 l k = op := ⟨_, rfl⟩
        obtain ⟨n, hn⟩ : ∃ n, ins1 l k = n := ⟨_, rfl⟩
        obtain ⟨s, hs⟩ : ∃ s, ins2 l k = s := ⟨_, rfl⟩
        have HOP := Lib.hid hop
        have HN := Lib.hid hn
        have HS := Lib.hid hs
        rw [hop] at c0
        rw [hn] at c1
        rw [hs] at c2 HKY
        obtain ⟨q, hq⟩ : ∃ q, instrB op n s = q := ⟨_, rfl⟩
        have HQ := Lib.hid hq
        clear hc hb hop hn hs hq
        go_wp2_with fail
        refine (l3fields_any op n s _ HKY.out).mono ?_
        rw [HQ.out]
        rintro e w3 ⟨rfl, hB⟩
        have c0 := cell_keepP hB c0
        have HW := Lib.hid (below_via HW.out hB)
        clear hB c1 c2
        cases q
        · have HC := Lib.hid (prog_bad (l := l) (k := k + 1) (by rw [HL.out]; omega) (stk_wrong (by rw [HOP.out, HN.out, HS.out]; exact HQ.out)))
          go_wp2
          go_ret
          exact ⟨ret_bool HC.out.symm, HW.out⟩
        have hop := instr_op HQ.out
        obtain ⟨x, hx⟩ : ∃ x : Nat, op = (x : Int) + 1 := ⟨(op - 1).toNat, by omega⟩
        have HX := Lib.hid (show x < 14 by omega)
        have HSTEP := Lib.hid (show stk l (k + 1) = stepB st (takesB (x + 1)) (givesB (x + 1)) by
          rw [stk_step HST.out (by rw [HOP.out, HN.out, HS.out]; exact HQ.out), HOP.out, hx]
          rfl)
        rw [hx] at c0
        clear hop hx
        go_wp2_with fail
        refine (l3takes_any x _ HX.out).mono ?_
        have htk := takes_few (x + 1)
        have hgv := gives_few (x + 1)
        obtain ⟨tk, hTK⟩ : ∃ tk, takesB (x + 1) = tk := ⟨_, rfl⟩
        obtain ⟨gv, hGV⟩ : ∃ gv, givesB (x + 1) = gv := ⟨_, rfl⟩
        rw [hTK] at HSTEP htk ⊢
        rw [hGV] at HSTEP hgv ⊢
        rintro e w4 ⟨rfl, hB⟩
        have HW := Lib.hid (below_via HW.out hB)
        clear hB c0 hTK hGV
        by_cases hle : tk.size ≤ st.size
        · have hsub : (st.size : Int) - (tk.size : Int) = ((st.size - tk.size : Nat) : Int) := by omega
          have hpos : ¬ ((st.size - tk.size : Nat) : Int) < 0 := by omega
          by_cases hq : st.extract (st.size - tk.size) st.size = tk
          · have HF := Lib.hid (HSTEP.out.trans (step_fits hle hq))
            have hq2 : ((st.extract (st.size - tk.size) st.size).toList == tk.toList) = true := ba_eqv hq
            have hz : (st.extract 0 (st.size - tk.size)).size ≤ k := by rw [ByteArray.size_extract]; omega
            have k1 : ∀ w, (Op.stringOp .add (st.extract 0 (st.size - tk.size)) gv).run Tryz.prog w = .ok (.string (st.extract 0 (st.size - tk.size) ++ gv)) w := fun w => cat_runp _ _ 40 (by omega) (by omega)
            clear hq
            go_wp2
            go_roundw
            case rel => exact ⟨k + 1, _, by omega, by go_num, rfl, by rw [ByteArray.size_append]; omega, HF, HW⟩
            case measure => simp [intOf]; omega
          · have HC := Lib.hid (prog_bad (l := l) (k := k + 1) (by rw [HL.out]; omega) (HSTEP.out.trans (step_other hq)))
            have hq2 : ((st.extract (st.size - tk.size) st.size).toList == tk.toList) = false := ba_nev hq
            clear hq
            go_wp2
            go_ret
            exact ⟨ret_bool HC.out.symm, HW.out⟩
        · have HC := Lib.hid (prog_bad (l := l) (k := k + 1) (by rw [HL.out]; omega) (HSTEP.out.trans (step_short (by omega))))
          have hneg : (st.size : Int) - (tk.size : Int) < 0 := by omega
          go_wp2
          go_ret
          exact ⟨ret_bool HC.out.symm, HW.out⟩
      · have HC := Lib.hid (prog_fin HL.out (by omega) (by omega) HST.out)
        by_cases h0 : st.size = 0
        · have t1 := ba_nil h0
          rw [decide_eq_true h0] at HC
          go_wp2
          go_ret
          exact ⟨ret_bool HC.out.symm, HW.out⟩
        · have t1 := ba_some (s := st) (by omega)
          rw [decide_eq_false h0] at HC
          go_wp2
          go_ret
          exact ⟨ret_bool HC.out.symm, HW.out⟩
    · have HC := Lib.hid (prog_long (l := l) (by rw [HL.out]; omega))
      by_cases hlt : k < len
      · go_wp2
        go_ret
        exact ⟨ret_bool HC.out.symm, HW.out⟩
      · go_wp2
        go_ret
        exact ⟨ret_bool HC.out.symm, HW.out⟩

set_option maxHeartbeats 8000000 in
theorem progok_any (a : Option Addr) (len cap : Nat) (l : Instrs) (w : World) (h : InstrsAt w a len l) (hT : TabsP w) :
    Calls Tryz.prog 30 #[.slice a len cap] w (MadeBool (progB l) w) := by
  have hm := h.max
  unfold maxLen at hm
  have HL := Lib.hid h.length
  have HR := Lib.hid h
  have HT := Lib.hid hT
  clear h hT
  by_cases hbig : (30 : Int) < (len : Int)
  · have HC := Lib.hid (prog_long (l := l) (by rw [HL.out]; omega))
    go_enter Tryz.func30, Tryz.ntmps30
    go_wp2
    go_ret
    exact ⟨ret_bool HC.out.symm, Below.refl _ _⟩
  go_enter Tryz.func30, Tryz.ntmps30
  go_wp2
  go_loopw [3, 13] (fun s i wr => ∃ (k : Nat) (st : ByteArray), k ≤ len ∧ i = .int .i64 k ∧ s = .string st ∧ st.size ≤ k ∧ Hid (stk l k = some st) ∧ Hid (Below w.heap.size w wr)) (fun _ i _ => len - (intOf i).toNat)
  case atStart => exact ⟨0, ByteArray.empty, Nat.zero_le _, rfl, rfl, Nat.le_refl _, Lib.hid rfl, Lib.hid (Below.refl _ _)⟩
  case round =>
    obtain ⟨k, st, hk, rfl, rfl, hst, HST, HW⟩ := hrel
    by_cases hlt : k < len
    · rcases (HR.out.keep HW.out).src with hz | ⟨b, off, rfl, hb, hc⟩
      · omega
      obtain ⟨c0, c1, c2⟩ := hc k hlt
      have hi0 : (0 : Int) ≤ (k : Int) := by omega
      have hi1 : (k : Int) < (len : Int) := by omega
      have HKY := Lib.hid (HR.out.keys k hlt)
      obtain ⟨op, hop⟩ : ∃ op, ins0 l k = op := ⟨_, rfl⟩
      obtain ⟨n, hn⟩ : ∃ n, ins1 l k = n := ⟨_, rfl⟩
      obtain ⟨s, hs⟩ : ∃ s, ins2 l k = s := ⟨_, rfl⟩
      have HOP := Lib.hid hop
      have HN := Lib.hid hn
      have HS := Lib.hid hs
      rw [hop] at c0
      rw [hn] at c1
      rw [hs] at c2 HKY
      obtain ⟨q, hq⟩ : ∃ q, instrB op n s = q := ⟨_, rfl⟩
      have HQ := Lib.hid hq
      clear hc hb hop hn hs hq
      have HX5 := Lib.hid (Row.new wr 52 #[.int .i64 op, .int .i64 n, .string s])
      have HW := Lib.hid (below_alloc HW.out (.cells #[.int .i64 op, .int .i64 n, .string s] 52))
      go_wp2_with fail
      refine (instrok_any op n s _ HKY.out (HT.out.keep HW.out)).mono ?_
      rw [HQ.out]
      rintro e w3 ⟨rfl, hB⟩
      have HX5 := Lib.hid (HX5.out.keep hB)
      have HW := Lib.hid (below_via HW.out hB)
      clear hB c0 c1 c2
      cases q
      · have HC := Lib.hid (prog_bad (l := l) (k := k + 1) (by rw [HL.out]; omega) (stk_wrong (by rw [HOP.out, HN.out, HS.out]; exact HQ.out)))
        go_wp2
        go_ret
        exact ⟨ret_bool HC.out.symm, HW.out⟩
      have hop := instr_op HQ.out
      obtain ⟨x, hx⟩ : ∃ x : Nat, op = (x : Int) := ⟨op.toNat, by omega⟩
      have HSTEP := Lib.hid (show stk l (k + 1) = stepB st (takesB x) (givesB x) by
        rw [stk_step HST.out (by rw [HOP.out, HN.out, HS.out]; exact HQ.out), HOP.out, hx]
        rfl)
      have hx0 : (0 : Int) ≤ (x : Int) := by omega
      have hx1 : (x : Int) < 15 := by omega
      have c0 := HX5.out.cell (j := 0) (by simp)
      simp at c0
      rw [hx] at c0
      have t2 := ((HT.out.keep HW.out).cell x (by omega)).2.2.1
      have HT3 := Lib.hid (HT.out.keep HW.out)
      have htk := takes_few x
      have hgv := gives_few x
      have HT4 := Lib.hid (show (HT3.out.cell x (by omega)).2.2.2 = (HT3.out.cell x (by omega)).2.2.2 from rfl)
      have t3 := ((HT.out.keep HW.out).cell x (by omega)).2.2.2
      obtain ⟨tk, hTK⟩ : ∃ tk, takesB x = tk := ⟨_, rfl⟩
      obtain ⟨gv, hGV⟩ : ∃ gv, givesB x = gv := ⟨_, rfl⟩
      rw [hTK] at HSTEP htk t2
      rw [hGV] at HSTEP hgv t3
      clear hop hx hTK hGV HT4
      go_wp2_with fail
      refine (cutsuf_any st tk _ (by omega) (by omega)).mono ?_
      rintro e w4 ⟨rfl, ⟨hle, hq, rfl⟩ | ⟨hno, rfl⟩⟩
      · have HF := Lib.hid (HSTEP.out.trans (step_fits hle hq))
        have hz : (st.extract 0 (st.size - tk.size)).size ≤ k := by rw [ByteArray.size_extract]; omega
        have k1 : ∀ w, (Op.stringOp .add (st.extract 0 (st.size - tk.size)) gv).run Tryz.prog w = .ok (.string (st.extract 0 (st.size - tk.size) ++ gv)) w := fun w => cat_runp _ _ 40 (by omega) (by omega)
        clear hq
        go_wp2
        go_roundw
        case rel => exact ⟨k + 1, _, by omega, by go_num, rfl, by rw [ByteArray.size_append]; omega, HF, HW⟩
        case measure => simp [intOf]; omega
      · have HC := Lib.hid (prog_bad (l := l) (k := k + 1) (by rw [HL.out]; omega) (HSTEP.out.trans (by
          by_cases hle : tk.size ≤ st.size
          · exact step_other (fun e => hno ⟨hle, e⟩)
          · exact step_short (by omega))))
        clear hno
        go_wp2
        go_ret
        exact ⟨ret_bool HC.out.symm, HW.out⟩
    · have HC := Lib.hid (prog_fin HL.out (by omega) (by omega) HST.out)
      by_cases h0 : st.size = 0
      · have t1 := ba_nil h0
        rw [decide_eq_true h0] at HC
        go_wp2
        go_ret
        exact ⟨ret_bool HC.out.symm, HW.out⟩
      · have t1 := ba_some (s := st) (by omega)
        rw [decide_eq_false h0] at HC
        go_wp2
        go_ret
        exact ⟨ret_bool HC.out.symm, HW.out⟩
end Go.Proofs.YthnlllbanfemaaaGreatDoor
namespace Go.Proofs.YthnlllbanfemaaaGreatDoor
open Go.ChangeShapes Go.WideShapes Go.ChangeAt Go.RowKit
set_option linter.unusedVariables false
set_option maxRecDepth 100000

theorem infoStep : (Tryz.prog.info? 121).map (fun i => (i.zero, i.size, i.bytes)) = some (some .nilFunc, 1, 8) := by kernel_rfl
theorem inss_grown {w w1 : World} {a : Option Addr} {len g : Nat} {l : Instrs} (h : InstrsAt w a len l) (hg : w.grownBy w1 (some g)) (hne : 0 < len → ∀ b off, a = some ⟨b, off, none⟩ → b ≠ g) : InstrsAt w1 a len l := by
  refine ⟨h.length, h.max, h.keys, ?_⟩
  rcases Nat.eq_zero_or_pos len with hz | hz
  · exact .inl hz
  rcases h.src with h0 | ⟨b, off, ha, hb, hc⟩
  · exact .inl h0
  · have e : ∀ o, w1.cell? ⟨b, o, none⟩ = w.cell? ⟨b, o, none⟩ := fun o => World.cell?_of_block (w := w) (hg.block b hb (by intro he; exact hne hz b off ha (Option.some.inj he)))
    exact .inr ⟨b, off, ha, Nat.lt_of_lt_of_le hb hg.size, fun i hi => by simpa only [e] using hc i hi⟩
theorem StepV.form {E D : Nat} {w : World} {op : Nat} {n : Int} {s : ByteArray} {v : Value} (h : StepV E D w op n s v) : ∃ F cap, v = .func (.func F) #[] cap := by
  unfold StepV at h
  split at h
  · obtain ⟨b, _, hv, _⟩ := h; exact ⟨_, _, hv⟩
  · split at h
    · obtain ⟨b, _, hv, _⟩ := h; exact ⟨_, _, hv⟩
    · split at h
      · obtain ⟨b, _, hv, _⟩ := h; exact ⟨_, _, hv⟩
      · exact ⟨_, _, h⟩
/-- The steps of the first k instructions lie in block G. -/
def StepsAt (G : Nat) (l : Instrs) (k : Nat) (w : World) : Prop :=
  ∃ cur, Row w G 121 cur ∧ l.length = cur.size ∧ ∀ j, j < k → ∃ v, cur[j]? = some v ∧ StepV (G + 1) w.heap.size w (ins0 l j).toNat (ins1 l j) (ins2 l j) v
theorem StepsAt.keep {G k : Nat} {l : Instrs} {w w1 : World} (h : StepsAt G l k w) (hB : Below w.heap.size w w1) : StepsAt G l k w1 := by
  obtain ⟨cur, hr, hs, hv⟩ := h
  exact ⟨cur, hr.keep hB, hs, fun j hj => by
    obtain ⟨v, h1, h2⟩ := hv j hj
    exact ⟨v, h1, (h2.keep hB).wide (Nat.le_refl _) hB.size⟩⟩
theorem StepsAt.other {G k X : Nat} {l : Instrs} {w : World} (h : StepsAt G l k w) (hX : X < G) (j : Nat) (x : Value) : StepsAt G l k (w.setCell ⟨X, j, none⟩ x) := by
  obtain ⟨cur, hr, hs, hv⟩ := h
  refine ⟨cur, hr.otPut (by omega) j x, hs, fun i hi => ?_⟩
  obtain ⟨v, h1, h2⟩ := hv i hi
  refine ⟨v, h1, ?_⟩
  have := h2.put (G := X) (by omega) j x
  simpa [World.setCell] using this
theorem StepsAt.add {G k : Nat} {l : Instrs} {w : World} {v : Value} (h : StepsAt G l k w) (hk : k < l.length) (hv : StepV (G + 1) w.heap.size w (ins0 l k).toNat (ins1 l k) (ins2 l k) v) : StepsAt G l (k + 1) (w.setCell ⟨G, k, none⟩ v) := by
  obtain ⟨cur, hr, hs, hvs⟩ := h
  refine ⟨cur.setIfInBounds k v, hr.set k v, by simpa using hs, fun j hj => ?_⟩
  have hsz : (w.setCell ⟨G, k, none⟩ v).heap.size = w.heap.size := by simp [World.setCell]
  rw [hsz]
  rcases Nat.lt_or_ge j k with h1 | h1
  · obtain ⟨u, h2, h3⟩ := hvs j h1
    exact ⟨u, by rw [Array.getElem?_setIfInBounds_ne (by omega)]; exact h2, h3.put (Nat.lt_succ_self _) k v⟩
  · obtain rfl : j = k := by omega
    exact ⟨v, by rw [Array.getElem?_setIfInBounds_self, if_pos (by omega)], hv.put (Nat.lt_succ_self _) j v⟩
def ProgRow (w : World) (P : Nat) (a : Option Addr) (len cap : Nat) (c1 c2 c3 ok st : Value) : Prop := Row w P 83 #[.slice a len cap, c1, c2, c3, ok, st]
/-- The end of compile. -/
def Compiled (P : Nat) (a : Option Addr) (len cap : Nat) (l : Instrs) (c1 c2 c3 : Value) (w : World) (w' : World) : Prop :=
  w.grownBy w' (some P) ∧ ((progB l = false ∧ ProgRow w' P a len cap c1 c2 c3 (.bool false) (.slice none 0 0)) ∨
    (progB l = true ∧ ∃ G, w.heap.size ≤ G ∧ ProgRow w' P a len cap c1 c2 c3 (.bool true) (.slice (some ⟨G, 0, none⟩) len len) ∧ StepsAt G l len w'))

set_option maxHeartbeats 8000000 in
theorem compile_any (P : Nat) (a : Option Addr) (len cap : Nat) (l : Instrs) (c1 c2 c3 : Value) (w : World) (hr : ProgRow w P a len cap c1 c2 c3 (.bool false) (.slice none 0 0)) (h : InstrsAt w a len l) (hne : 0 < len → ∀ b off, a = some ⟨b, off, none⟩ → b ≠ P) (hT : TabsP w) :
    Calls Tryz.prog 83 #[.pointer (some ⟨P, 0, none⟩)] w fun e w' => e = .returned (.tuple #[]) ∧ Compiled P a len cap l c1 c2 c3 w w' := by
  unfold ProgRow at hr
  have HL := Lib.hid h.length
  have HI := Lib.hid h
  have HNE := Lib.hid hne
  have HPR := Lib.hid hr
  obtain ⟨p, hp⟩ : ∃ p, progB l = p := ⟨_, rfl⟩
  have HP := Lib.hid hp
  have k0 := hr.cell (j := 0) (by simp)
  have k4 := hr.cell (j := 4) (by simp)
  simp at k0 k4
  have HT := Lib.hid hT
  obtain ⟨i0, hi, hz0, hz1, hz2⟩ := info_parts infoStep
  clear h hne hr hp hT
  go_enter Tryz.func83, Tryz.ntmps83
  go_wp2_with fail
  refine (progok_any _ _ _ _ _ HI.out HT.out).mono ?_
  rw [HP.out]
  rintro e w1 ⟨rfl, hB⟩
  have HB1 := Lib.hid hB
  have HR1 := Lib.hid (HPR.out.keep hB)
  have f4 := HR1.out.free 4
  clear k0 k4
  have k0 := HR1.out.cell (j := 0) (by simp)
  have k4 := HR1.out.cell (j := 4) (by simp)
  simp at k0 k4
  clear hB
  cases p with
  | false =>
    have HR2 := Lib.hid (HR1.out.set 4 (.bool false))
    go_wp2
    refine bodyPost_ret (results_none rfl _ _ _) rfl ?_
    exact ⟨rfl, growT (belowGrow HB1.out (some P)) ⟨rfl, rfl, rfl, by simp [World.setCell], fun k hk hn => Below.heap_setCell _ _ _ _ (fun e => hn (by rw [e]))⟩, .inl ⟨HP.out, by have := HR2.out; unfold ProgRow; simpa using this⟩⟩
  | true =>
    have hl30 : len ≤ 30 := by have := prog_len HP.out; rw [HL.out] at this; exact this
    have HR2 := Lib.hid (show Row (w1.setCell ⟨P, 4, none⟩ (.bool true)) P 83 #[.slice a len cap, c1, c2, c3, .bool true, .slice none 0 0] from by simpa using HR1.out.set 4 (.bool true))
    have HG2 := Lib.hid (show w.grownBy (w1.setCell ⟨P, 4, none⟩ (.bool true)) (some P) from growS (belowGrow HB1.out (some P)) 4 (.bool true))
    have k5 := HR1.out.cell (j := 5) (by simp)
    have f5 := HR1.out.free 5
    simp at k5
    have hsz1 : (w1.setCell ⟨P, 4, none⟩ (.bool true)).heap.size = w1.heap.size := by simp [World.setCell]
    have HPG := Lib.hid (show P < w1.heap.size from HR1.out.lt)
    have HSZ := Lib.hid hsz1
    go_wp2_with (at_make; go_loud (refine wpList_make_full _ rfl _ _ 81 rfl (w1.setCell ⟨P, 4, none⟩ (.bool true)).heap.size 121 i0 _ 1 Tryz.underlying81 hi hz0 hz1 .i64 .i64 _ _ len rfl rfl rfl rfl (by rw [hz2]; omega) (by unfold maxLen; omega) (Nat.le_refl _) ?_); intro w2 hown hgrow; have HR3 := Lib.hid (HR2.out.grown hgrow (by simp)); have z0 := HR3.out.cell (j := 0) (by simp); have z5 := HR3.out.cell (j := 5) (by simp); have fz5 := HR3.out.free 5; have HOW := Lib.hid hown; have HGR := Lib.hid hgrow; simp at z0 z5; clear hown hgrow k0 k4 k5 f4 f5)
    obtain ⟨G, hG⟩ : ∃ G, w1.heap.size = G := ⟨_, rfl⟩
    have HG4 := Lib.hid (show w.grownBy (w2.setCell ⟨P, 5, none⟩ (.slice (some ⟨G, 0, none⟩) len len)) (some P) from growS (growT HG2.out ⟨HGR.out.os, HGR.out.tape, HGR.out.output, HGR.out.size, fun k hk _ => HGR.out.block k hk (by simp)⟩) 5 _)
    have HR4 := Lib.hid (show Row (w2.setCell ⟨P, 5, none⟩ (.slice (some ⟨G, 0, none⟩) len len)) P 83 #[.slice a len cap, c1, c2, c3, .bool true, .slice (some ⟨G, 0, none⟩) len len] from by simpa using HR3.out.set 5 (.slice (some ⟨G, 0, none⟩) len len))
    have HS4 : Hid (StepsAt G l 0 (w2.setCell ⟨P, 5, none⟩ (.slice (some ⟨G, 0, none⟩) len len))) := Lib.hid (by
      have := HOW.out
      rw [HSZ.out, hG] at this
      rcases this.2 with ⟨h, _⟩ | ⟨g, cp, cur, hv, _, hh, _, _, hs, _⟩
      · simp at h
      · simp only [Value.slice.injEq, Option.some.injEq, Addr.mk.injEq, true_and, and_true] at hv
        obtain ⟨rfl, rfl⟩ := hv
        exact StepsAt.other ⟨cur, hh, by rw [HL.out]; omega, fun j hj => by omega⟩ (by rw [← hG]; exact HPG.out) 5 _)
    have HWG := Lib.hid (show w.heap.size ≤ G from by rw [← hG]; exact HB1.out.size)
    have HPG := Lib.hid (show P < G from by rw [← hG]; exact HPG.out)
    obtain ⟨w3, hw3⟩ : ∃ x, w2.setCell ⟨P, 5, none⟩ (.slice (some ⟨G, 0, none⟩) len len) = x := ⟨_, rfl⟩
    rw [hw3] at HG4 HR4 HS4
    have HW3 := Lib.hid hw3
    try rw [hG]
    try rw [hw3]
    clear HOW HGR HR3 HR2 HR1 HG2 HSZ hG hw3 z0 z5 fz5 hsz1
    go_loopw [31] (fun i wr => ∃ k : Nat, k ≤ len ∧ i = .int .i64 k ∧ Hid (w.grownBy wr (some P) ∧ Row wr P 83 #[.slice a len cap, c1, c2, c3, .bool true, .slice (some ⟨G, 0, none⟩) len len] ∧ StepsAt G l k wr)) (fun i _ => len - (intOf i).toNat)
    case atStart => exact ⟨0, Nat.zero_le _, rfl, Lib.hid ⟨HG4.out, HR4.out, HS4.out⟩⟩
    case round =>
      clear HG4 HR4 HS4
      obtain ⟨k, hk, rfl, HS⟩ := hrel
      by_cases hlt : k < len
      · have HIR := Lib.hid (inss_grown HI.out HS.out.1 HNE.out)
        rcases HIR.out.src with hz | ⟨b, off, rfl, hb, hc⟩
        · omega
        obtain ⟨c0', c1', c2'⟩ := hc k hlt
        have hi0 : (0 : Int) ≤ (k : Int) := by omega
        have hi1 : (k : Int) < (len : Int) := by omega
        have HIN := Lib.hid (prog_instr HP.out (k := k) (by rw [HL.out]; exact hlt))
        obtain ⟨op, hop⟩ : ∃ op, ins0 l k = op := ⟨_, rfl⟩
        obtain ⟨n, hn⟩ : ∃ n, ins1 l k = n := ⟨_, rfl⟩
        obtain ⟨s, hs⟩ : ∃ s, ins2 l k = s := ⟨_, rfl⟩
        have HE := Lib.hid (show ins0 l k = op ∧ ins1 l k = n ∧ ins2 l k = s from ⟨hop, hn, hs⟩)
        rw [hop, hn, hs] at HIN
        rw [hop] at c0'
        rw [hn] at c1'
        rw [hs] at c2'
        clear hop hn hs hc hb
        have hopb := instr_op HIN.out
        obtain ⟨x, rfl⟩ : ∃ x : Nat, op = (x : Int) := ⟨op.toNat, by omega⟩
        have HSTEP := Lib.hid (fun w => stepof_any x n s w (by omega) (by omega))
        go_wp2_with fail
        obtain ⟨X, hX⟩ : ∃ X, wr.heap.size = X := ⟨_, rfl⟩
        have HBA := Lib.hid (below_alloc (Below.refl wr.heap.size wr) (.cells #[.int .i64 x, .int .i64 n, .string s] 52))
        have HX4 := Lib.hid (show Row (wr.alloc (.cells #[.int .i64 x, .int .i64 n, .string s] 52)) X 52 #[.int .i64 x, .int .i64 n, .string s] from by rw [← hX]; exact ot_row_new _ _ _)
        obtain ⟨w4, hw4⟩ : ∃ y, wr.alloc (.cells #[.int .i64 x, .int .i64 n, .string s] 52) = y := ⟨_, rfl⟩
        rw [hw4] at HX4 HBA
        try rw [hX]
        try rw [hw4]
        have HS4 := Lib.hid (HS.out.2.2.keep HBA.out)
        have HP4 := Lib.hid (HS.out.2.1.keep HBA.out)
        have HG4 := Lib.hid (growB HS.out.1 HBA.out)
        clear hw4 hX HBA c0' c1' c2'
        refine wp_region_noPanic ?_
        obtain ⟨w5, hw5⟩ : ∃ y, w4.drew = y := ⟨_, rfl⟩
        have HS5 : Hid (StepsAt G l k w5) := Lib.hid (by rw [← hw5]; exact HS4.out.keep (Below.refl _ _).drew)
        have HP5 : Hid (Row w5 P 83 #[.slice (some ⟨b, off, none⟩) len cap, c1, c2, c3, .bool true, .slice (some ⟨G, 0, none⟩) len len]) := Lib.hid (by rw [← hw5]; exact HP4.out)
        have HX5 : Hid (Row w5 X 52 #[.int .i64 x, .int .i64 n, .string s]) := Lib.hid (by rw [← hw5]; exact HX4.out)
        have HG5 : Hid (w.grownBy w5 (some P)) := Lib.hid (by rw [← hw5]; exact growB HG4.out (Below.refl _ _).drew)
        refine wp_region_held_drew (S := (fun w' => Hid (Row w' P 83 #[.slice (some ⟨b, off, none⟩) len cap, c1, c2, c3, .bool true, .slice (some ⟨G, 0, none⟩) len len] ∧ Row w' X 52 #[.int .i64 x, .int .i64 n, .string s]))) (by kernel_rfl) (by rw [hw5]; exact Lib.hid ⟨HP5.out, HX5.out⟩) (fun HS => ?_)
        rw [hw5] at HS ⊢
        clear hw5 HS4 HP4 HX4 HG4 HP5 HX5
        refine held_take (i := 0) (d := 36) (v := .pointer (some ⟨P, 0, none⟩)) rfl rfl (by kernel_rfl) (by kernel_rfl) (by kernel_rfl) (by kernel_rfl) (fun wx hS => by go_simp) HS ?_
        refine held_take (i := 1) (d := 37) (v := .pointer (some ⟨P, 0, none⟩)) rfl rfl (by kernel_rfl) (by kernel_rfl) (by kernel_rfl) (by kernel_rfl) (fun wx hS => by go_simp) HS ?_
        refine held_take (i := 2) (d := 38) (v := .pointer (some ⟨P, 5, none⟩)) rfl rfl (by kernel_rfl) (by kernel_rfl) (by kernel_rfl) (by kernel_rfl) (fun wx hS => by go_simp) HS ?_
        refine held_take (i := 3) (d := 39) (v := .slice (some ⟨G, 0, none⟩) len len) rfl rfl (by kernel_rfl) (by kernel_rfl) (by kernel_rfl) (by kernel_rfl) (fun wx hS => by have z5 := hS.out.1.cell (j := 5) (by simp); simp at z5; go_simp) HS ?_
        refine held_take (i := 4) (d := 40) (v := .int .i64 k) rfl rfl (by kernel_rfl) (by kernel_rfl) (by kernel_rfl) (by kernel_rfl) (fun wx hS => by go_simp) HS ?_
        refine held_take (i := 5) (d := 41) (v := .agg #[.int .i64 x, .int .i64 n, .string s]) rfl rfl (by kernel_rfl) (by kernel_rfl) (by kernel_rfl) (by kernel_rfl) (fun wx hS => by have z0 := hS.out.2.cell (j := 0) (by simp); have z1 := hS.out.2.cell (j := 1) (by simp); have z2 := hS.out.2.cell (j := 2) (by simp); simp at z0 z1 z2; go_simp) HS ?_
        refine wpAnyH_ready (rs := [6]) (by kernel_rfl) (by simp) (AllReadyH.cons rfl (fun K hK => ?_) AllReadyH.nil)
        go_simp
        refine (HSTEP.out _).mono ?_
        rintro e w6 ⟨v, rfl, hB6, hv6⟩
        obtain ⟨F, fc, rfl⟩ := hv6.form
        have HS6 := Lib.hid (HS5.out.keep hB6)
        have HG6 := Lib.hid (growB HG5.out hB6)
        have HV6 := Lib.hid (show StepV (G + 1) w6.heap.size w6 x n s (.func (.func F) #[] fc) from hv6.wide (by obtain ⟨cur, hr, _⟩ := HS5.out; exact hr.lt) (Nat.le_refl _))
        refine hK.out _ _ (Lib.hid ⟨HS.out.1.keep hB6, HS.out.2.keep hB6⟩) (fun HS => ?_)
        clear hK K hB6 hv6 HS5 HG5
        refine held_take (i := 7) (d := 43) (v := .pointer (some ⟨G, k, none⟩)) rfl rfl (by kernel_rfl) (by kernel_rfl) (by kernel_rfl) (by kernel_rfl) (fun wx hS => by go_simp) HS ?_
        refine wpAnyH_ready (rs := [8]) (by kernel_rfl) (by simp) (AllReadyH.cons rfl (fun K hK => ?_) AllReadyH.nil)
        obtain ⟨cur, hrG, hsG, _⟩ := HS6.out
        have hLL := HL.out
        have g0 := hrG.cell (j := k) (by omega)
        generalize cur[k]'(by omega) = u0 at g0
        have fg := hrG.free k
        have HS7 := Lib.hid (HS6.out.add (by rw [HL.out]; exact hlt) (by rw [HE.out.1, HE.out.2.1, HE.out.2.2]; exact HV6.out))
        have HG7 := Lib.hid (show w.grownBy (w6.setCell ⟨G, k, none⟩ (.func (.func F) #[] fc)) (some P) from growP HG6.out HWG.out k _)
        clear hrG hsG hLL
        go_simp
        refine hK.out _ _ (Lib.hid ⟨HS.out.1.otPut (X := G) (by have := HPG.out; omega) k _, HS.out.2.otPut (X := G) (by intro he; subst he; obtain ⟨cur2, hr2, _⟩ := HS6.out; have h1 := HS.out.2; unfold Row at h1 hr2; rw [h1] at hr2; simp at hr2) k _⟩) (fun HS => ?_)
        clear hK K g0 fg HS6 HG6 HV6
        refine wpAnyH_done (by kernel_rfl) (NoPanic.normal ?_) _
        go_wp2
        go_roundw
        case rel => exact ⟨k + 1, by omega, by go_num, Lib.hid ⟨HG7.out, HS.out.1, HS7.out⟩⟩
        case measure => simp [intOf]; omega
      · obtain rfl : k = len := by omega
        have HFIN := Lib.hid (show Compiled P a k cap l c1 c2 c3 w wr from ⟨HS.out.1, .inr ⟨HP.out, G, HWG.out, HS.out.2.1, HS.out.2.2⟩⟩)
        go_wp2
        go_end0
        exact ⟨rfl, HFIN.out⟩
end Go.Proofs.YthnlllbanfemaaaGreatDoor
