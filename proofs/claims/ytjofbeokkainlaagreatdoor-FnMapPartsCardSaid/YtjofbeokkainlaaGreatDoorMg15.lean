/- Texts put together, as a claim holds at most sixty files. -/
import Derived.Test.YtjofbeokkainlaaGreatDoorProgS
import Derived.Test.YtjofbeokkainlaaGreatDoorTabsP
import Derived.Test.YtjofbeokkainlaaGreatDoorMg1
namespace Go.Proofs.YtjofbeokkainlaaGreatDoor
open Go.ChangeShapes Go.WideShapes Go.ChangeAt Go.RowKit
set_option linter.unusedVariables false
set_option maxRecDepth 100000

theorem cell_keepP {w w' : World} {p : Addr} {v : Value} (hB : Below w.heap.size w w') (h : w.cell? p = some v) : w'.cell? p = some v := (hB.cell (World.block_lt_of_cell? _ _ h)).trans h
def CutS (s t : ByteArray) (w : World) (e : Ending) (w' : World) : Prop := w = w' ∧
  ((t.size ≤ s.size ∧ s.extract (s.size - t.size) s.size = t ∧ e = .returned (.tuple #[.string (s.extract 0 (s.size - t.size)), .bool true])) ∨
   (¬ (t.size ≤ s.size ∧ s.extract (s.size - t.size) s.size = t) ∧ e = .returned (.tuple #[.string s, .bool false])))
set_option maxHeartbeats 2000000 in
theorem cutsuf_any (s t : ByteArray) (w : World) (hs : s.size ≤ 1000) (ht : t.size ≤ 1000) : Calls Tryz.prog 79 #[.string s, .string t] w (CutS s t w) := by
  by_cases hlt : t.size ≤ s.size
  · have hsub : (s.size : Int) - (t.size : Int) = ((s.size - t.size : Nat) : Int) := by omega
    have hge : (t.size : Int) ≤ (s.size : Int) := by omega
    by_cases hq : s.extract (s.size - t.size) s.size = t
    · have HQ := Lib.hid hq
      have hq2 : ((s.extract (s.size - t.size) s.size).toList == t.toList) = true := ba_eqv hq
      clear hq
      go_enter Tryz.func79, Tryz.ntmps79
      go_wp2
      go_ret2
      exact ⟨rfl, .inl ⟨hlt, HQ.out, rfl⟩⟩
    · have HQ := Lib.hid hq
      have hq2 : ((s.extract (s.size - t.size) s.size).toList == t.toList) = false := ba_nev hq
      clear hq
      go_enter Tryz.func79, Tryz.ntmps79
      go_wp2
      go_ret2
      exact ⟨rfl, .inr ⟨fun h => HQ.out h.2, rfl⟩⟩
  · have hge : ¬ (t.size : Int) ≤ (s.size : Int) := by omega
    go_enter Tryz.func79, Tryz.ntmps79
    go_wp2
    go_ret2
    exact ⟨rfl, .inr ⟨fun h => hlt h.1, rfl⟩⟩
end Go.Proofs.YtjofbeokkainlaaGreatDoor
namespace Go.Proofs.YtjofbeokkainlaaGreatDoor
open Go.ChangeShapes Go.WideShapes Go.ChangeAt Go.RowKit
set_option linter.unusedVariables false
set_option maxRecDepth 100000

theorem instr_out {op n : Int} {s : ByteArray} (h : ¬ (1 ≤ op ∧ op ≤ 14)) : instrB op n s = false := by
  cases hb : instrB op n s with
  | false => rfl
  | true => exact absurd (instr_op hb) h
theorem push_empty {s : ByteArray} (h : s.size = 0) : pushB s = true := by
  have : s = ByteArray.empty := ByteArray.ext (Array.eq_empty_of_size_eq_zero h)
  rw [this]; exact push_none

set_option maxHeartbeats 4000000 in
theorem instrok_any (op n : Int) (s : ByteArray) (w : World) (hs : s.size ≤ maxLen) (hT : TabsP w) :
    Calls Tryz.prog 78 #[.agg #[.int .i64 op, .int .i64 n, .string s]] w (MadeBool (instrB op n s) w) := by
  have HSZ := Lib.hid hs
  unfold maxLen at hs
  by_cases hlo : op < 1
  · have HC := Lib.hid (instr_out (n := n) (s := s) (by omega : ¬ (1 ≤ op ∧ op ≤ 14)))
    clear hT
    go_enter Tryz.func78, Tryz.ntmps78
    go_wp2
    go_ret
    exact ⟨ret_bool HC.out.symm, below_alloc (Below.refl _ _) _⟩
  by_cases hhi : 14 < op
  · have HC := Lib.hid (instr_out (n := n) (s := s) (by omega : ¬ (1 ≤ op ∧ op ≤ 14)))
    clear hT
    go_enter Tryz.func78, Tryz.ntmps78
    go_wp2
    go_ret
    exact ⟨ret_bool HC.out.symm, below_alloc (Below.refl _ _) _⟩
  have HT := Lib.hid (hT.keep (below_alloc (Below.refl w.heap.size w) (.cells #[.int .i64 op, .int .i64 n, .string s] 89)))
  have HB := Lib.hid (below_alloc (Below.refl w.heap.size w) (.cells #[.int .i64 op, .int .i64 n, .string s] 89))
  clear hT
  by_cases e1 : op = 1
  · subst e1
    obtain ⟨F, hF⟩ : ∃ F, fieldB 1 = F := ⟨_, rfl⟩
    have c1 := (HT.out.cell 1 (by omega)).2.1
    rw [hF] at c1
    have q1 : (F.toList == [78]) = true := lit_yes (by rw [← hF]; rfl)
    have q2 : (F.toList == [83]) = false := lit_no (by rw [← hF]; decide)
    clear hF
    by_cases h0 : s.size = 0
    · have HC := Lib.hid (show instrB 1 n s = decide (0 ≤ n ∧ n ≤ 19) by unfold instrB; rw [if_pos rfl, decide_eq_true h0, Bool.and_true])
      have he : s.toList.isEmpty = true := ba_nil h0
      by_cases hn0 : 0 ≤ n
      · have HC := Lib.hid (show instrB 1 n s = decide (n < 20) by rw [HC.out, decide_eq_decide]; omega)
        go_enter Tryz.func78, Tryz.ntmps78
        go_wp2
        go_ret
        exact ⟨ret_bool HC.out.symm, HB.out⟩
      · have HC := Lib.hid (show instrB 1 n s = false by rw [HC.out]; exact decide_eq_false (by omega))
        go_enter Tryz.func78, Tryz.ntmps78
        go_wp2
        go_ret
        exact ⟨ret_bool HC.out.symm, HB.out⟩
    · have HC := Lib.hid (show instrB 1 n s = false by unfold instrB; rw [if_pos rfl, decide_eq_false h0, Bool.and_false])
      have he : s.toList.isEmpty = false := ba_some (by omega)
      go_enter Tryz.func78, Tryz.ntmps78
      go_wp2
      go_ret
      exact ⟨ret_bool HC.out.symm, HB.out⟩
  by_cases e2 : op = 2
  · subst e2
    obtain ⟨F, hF⟩ : ∃ F, fieldB 2 = F := ⟨_, rfl⟩
    have c1 := (HT.out.cell 2 (by omega)).2.1
    rw [hF] at c1
    have q1 : (F.toList == [78]) = false := lit_no (by rw [← hF]; decide)
    have q2 : (F.toList == [83]) = true := lit_yes (by rw [← hF]; rfl)
    clear hF
    by_cases hn : n = 0
    · subst hn
      obtain ⟨q, hq⟩ : ∃ q, pushB s = q := ⟨_, rfl⟩
      have HQ := Lib.hid hq
      have HC := Lib.hid (show instrB 2 0 s = q by unfold instrB; rw [if_neg (by decide), if_pos rfl, decide_eq_true rfl, Bool.true_and, hq])
      clear hq
      go_enter Tryz.func78, Tryz.ntmps78
      go_wp2_with (go_at_call 103; refine (pushedok_any _ _ HSZ.out).mono ?_; rw [HQ.out]; rintro e w1 ⟨rfl, rfl⟩)
      go_ret
      exact ⟨ret_bool HC.out.symm, HB.out⟩
    · have HC := Lib.hid (show instrB 2 n s = false by unfold instrB; rw [if_neg (by decide), if_pos rfl, decide_eq_false hn, Bool.false_and])
      have hv2 : ((n : Int) == 0) = false := by rw [beq_eq_false_iff_ne]; exact hn

      go_enter Tryz.func78, Tryz.ntmps78
      go_wp2
      go_ret
      exact ⟨ret_bool HC.out.symm, HB.out⟩
  by_cases e3 : op = 3
  · subst e3
    obtain ⟨F, hF⟩ : ∃ F, fieldB 3 = F := ⟨_, rfl⟩
    have c1 := (HT.out.cell 3 (by omega)).2.1
    rw [hF] at c1
    have q1 : (F.toList == [78]) = true := lit_yes (by rw [← hF]; rfl)
    have q2 : (F.toList == [83]) = false := lit_no (by rw [← hF]; decide)
    clear hF
    have HC := Lib.hid (show instrB 3 n s = decide (s.size = 0) by unfold instrB; rw [if_neg (by decide), if_neg (by decide), if_pos rfl])
    by_cases h0 : s.size = 0
    · rw [decide_eq_true h0] at HC
      have HQ := Lib.hid (push_empty h0)
      have he : s.toList.isEmpty = true := ba_nil h0
      go_enter Tryz.func78, Tryz.ntmps78
      go_wp2_with (go_at_call 103; refine (pushedok_any _ _ HSZ.out).mono ?_; rw [HQ.out]; rintro e w1 ⟨rfl, rfl⟩)
      go_ret
      exact ⟨ret_bool HC.out.symm, HB.out⟩
    · rw [decide_eq_false h0] at HC
      have he : s.toList.isEmpty = false := ba_some (by omega)
      go_enter Tryz.func78, Tryz.ntmps78
      go_wp2
      go_ret
      exact ⟨ret_bool HC.out.symm, HB.out⟩
  have HC := Lib.hid (show instrB op n s = (decide (n = 0) && decide (s.size = 0)) by unfold instrB; rw [if_neg e1, if_neg e2, if_neg e3, decide_eq_true (by omega : 4 ≤ op ∧ op ≤ 14), Bool.true_and])
  obtain ⟨x, hx⟩ : ∃ x : Nat, op = x := ⟨op.toNat, by omega⟩
  subst hx
  have k1 : ((x : Int) == 1) = false := by rw [beq_eq_false_iff_ne]; exact e1
  have hF0 : fieldB x = ByteArray.empty := by
    unfold fieldB
    split <;> first | rfl | (exfalso; omega)
  have x0 : (0 : Int) ≤ (x : Int) := by omega
  have x1 : (x : Int) < 15 := by omega
  have x2 : ¬ (x : Int) < 1 := by omega
  have x3 : ¬ (14 : Int) < (x : Int) := by omega
  obtain ⟨F, hF⟩ : ∃ F, fieldB x = F := ⟨_, rfl⟩
  have c1 := (HT.out.cell x (by omega)).2.1
  rw [hF] at c1
  have q1 : (F.toList == [78]) = false := lit_no (by rw [← hF, hF0]; decide)
  have q2 : (F.toList == [83]) = false := lit_no (by rw [← hF, hF0]; decide)
  clear hF hF0 e1 e2 e3 hlo hhi
  by_cases hn : n = 0
  · subst hn
    rw [decide_eq_true rfl, Bool.true_and] at HC
    by_cases h0 : s.size = 0
    · rw [decide_eq_true h0] at HC
      have HQ := Lib.hid (push_empty h0)
      have he : s.toList.isEmpty = true := ba_nil h0
      go_enter Tryz.func78, Tryz.ntmps78
      go_wp2_with (go_at_call 103; refine (pushedok_any _ _ HSZ.out).mono ?_; rw [HQ.out]; rintro e w1 ⟨rfl, rfl⟩)
      go_ret
      exact ⟨ret_bool HC.out.symm, HB.out⟩
    · rw [decide_eq_false h0] at HC
      have he : s.toList.isEmpty = false := ba_some (by omega)
      go_enter Tryz.func78, Tryz.ntmps78
      go_wp2
      go_ret
      exact ⟨ret_bool HC.out.symm, HB.out⟩
  · rw [decide_eq_false hn, Bool.false_and] at HC
    have hv2 : ((n : Int) == 0) = false := by rw [beq_eq_false_iff_ne]; exact hn

    go_enter Tryz.func78, Tryz.ntmps78
    go_wp2
    go_ret
    exact ⟨ret_bool HC.out.symm, HB.out⟩
end Go.Proofs.YtjofbeokkainlaaGreatDoor
namespace Go.Proofs.YtjofbeokkainlaaGreatDoor
open Go.ChangeShapes Go.WideShapes Go.ChangeAt Go.RowKit
set_option linter.unusedVariables false
set_option maxRecDepth 100000

theorem prog_fin {l : Instrs} {st : ByteArray} {k len : Nat} (hl : l.length = len) (h30 : len ≤ 30) (hk : k = len) (h : stk l k = some st) : progB l = decide (st.size = 0) := prog_end (by omega) (by rw [hl, ← hk]; exact h)

set_option maxHeartbeats 8000000 in
theorem sprogok_any (a : Option Addr) (len cap : Nat) (l : Instrs) (w : World) (h : InstrsAt w a len l) :
    Calls Tryz.prog 51 #[.slice a len cap] w (MadeBool (progB l) w) := by
  have hm := h.max
  unfold maxLen at hm
  have HL := Lib.hid h.length
  have HR := Lib.hid h
  clear h
  go_enter Tryz.func51, Tryz.ntmps51
  go_wp2
  go_loopw [3, 4] (fun s i wr => ∃ (k : Nat) (st : ByteArray), k ≤ len ∧ i = .int .i64 k ∧ s = .string st ∧ st.size ≤ k ∧ Hid (stk l k = some st) ∧ Hid (Below w.heap.size w wr)) (fun _ i _ => len - (intOf i).toNat)
  case atStart => exact ⟨0, ByteArray.empty, Nat.zero_le _, rfl, rfl, Nat.le_refl _, Lib.hid rfl, Lib.hid (Below.refl _ _)⟩
  case round =>
    obtain ⟨k, st, hk, rfl, rfl, hst, HST, HW⟩ := hrel
    by_cases h30 : (len : Int) ≤ 30
    · by_cases hlt : k < len
      · rcases (HR.out.keep HW.out).src with hz | ⟨b, off, rfl, hb, hc⟩
        · omega
        obtain ⟨c0, c1, c2⟩ := hc k hlt
        have hi0 : (0 : Int) ≤ (k : Int) := by omega
        have hi1 : (k : Int) < (len : Int) := by omega
        have HKY := Lib.hid (HR.out.keys k hlt)
        obtain ⟨op, hop⟩ : ∃ op, ins0 l k = op := ⟨_, rfl⟩
        obtain ⟨n, hn⟩ : ∃ n, ins1 l k = n := ⟨_, rfl⟩
        obtain ⟨s, hs⟩ : ∃ s, ins2 l k = s := ⟨_, rfl⟩
        have HOP := Lib.hid hop
        have HN := Lib.hid hn
        have HS := Lib.hid hs
        rw [hop] at c0
        rw [hn] at c1
        rw [hs] at c2 HKY
        obtain ⟨q, hq⟩ : ∃ q, instrB op n s = q := ⟨_, rfl⟩
        have HQ := Lib.hid hq
        clear hc hb hop hn hs hq
        go_wp2_with fail
        refine (l3fields_any op n s _ HKY.out).mono ?_
        rw [HQ.out]
        rintro e w3 ⟨rfl, hB⟩
        have c0 := cell_keepP hB c0
        have HW := Lib.hid (below_via HW.out hB)
        clear hB c1 c2
        cases q
        · have HC := Lib.hid (prog_bad (l := l) (k := k + 1) (by rw [HL.out]; omega) (stk_wrong (by rw [HOP.out, HN.out, HS.out]; exact HQ.out)))
          go_wp2
          go_ret
          exact ⟨ret_bool HC.out.symm, HW.out⟩
        have hop := instr_op HQ.out
        obtain ⟨x, hx⟩ : ∃ x : Nat, op = (x : Int) + 1 := ⟨(op - 1).toNat, by omega⟩
        have HX := Lib.hid (show x < 14 by omega)
        have HSTEP := Lib.hid (show stk l (k + 1) = stepB st (takesB (x + 1)) (givesB (x + 1)) by
          rw [stk_step HST.out (by rw [HOP.out, HN.out, HS.out]; exact HQ.out), HOP.out, hx]
          rfl)
        rw [hx] at c0
        clear hop hx
        go_wp2_with fail
        refine (l3takes_any x _ HX.out).mono ?_
        have htk := takes_few (x + 1)
        have hgv := gives_few (x + 1)
        obtain ⟨tk, hTK⟩ : ∃ tk, takesB (x + 1) = tk := ⟨_, rfl⟩
        obtain ⟨gv, hGV⟩ : ∃ gv, givesB (x + 1) = gv := ⟨_, rfl⟩
        rw [hTK] at HSTEP htk ⊢
        rw [hGV] at HSTEP hgv ⊢
        rintro e w4 ⟨rfl, hB⟩
        have HW := Lib.hid (below_via HW.out hB)
        clear hB c0 hTK hGV
        by_cases hle : tk.size ≤ st.size
        · have hsub : (st.size : Int) - (tk.size : Int) = ((st.size - tk.size : Nat) : Int) := by omega
          have hpos : ¬ ((st.size - tk.size : Nat) : Int) < 0 := by omega
          by_cases hq : st.extract (st.size - tk.size) st.size = tk
          · have HF := Lib.hid (HSTEP.out.trans (step_fits hle hq))
            have hq2 : ((st.extract (st.size - tk.size) st.size).toList == tk.toList) = true := ba_eqv hq
            have hz : (st.extract 0 (st.size - tk.size)).size ≤ k := by rw [ByteArray.size_extract]; omega
            have k1 : ∀ w, (Op.stringOp .add (st.extract 0 (st.size - tk.size)) gv).run Tryz.prog w = .ok (.string (st.extract 0 (st.size - tk.size) ++ gv)) w := fun w => cat_runp _ _ 40 (by omega) (by omega)
            clear hq
            go_wp2
            go_roundw
            case rel => exact ⟨k + 1, _, by omega, by go_num, rfl, by rw [ByteArray.size_append]; omega, HF, HW⟩
            case measure => simp [intOf]; omega
          · have HC := Lib.hid (prog_bad (l := l) (k := k + 1) (by rw [HL.out]; omega) (HSTEP.out.trans (step_other hq)))
            have hq2 : ((st.extract (st.size - tk.size) st.size).toList == tk.toList) = false := ba_nev hq
            clear hq
            go_wp2
            go_ret
            exact ⟨ret_bool HC.out.symm, HW.out⟩
        · have HC := Lib.hid (prog_bad (l := l) (k := k + 1) (by rw [HL.out]; omega) (HSTEP.out.trans (step_short (by omega))))
          have hneg : (st.size : Int) - (tk.size : Int) < 0 := by omega
          go_wp2
          go_ret
          exact ⟨ret_bool HC.out.symm, HW.out⟩
      · have HC := Lib.hid (prog_fin HL.out (by omega) (by omega) HST.out)
        by_cases h0 : st.size = 0
        · have t1 := ba_nil h0
          rw [decide_eq_true h0] at HC
          go_wp2
          go_ret
          exact ⟨ret_bool HC.out.symm, HW.out⟩
        · have t1 := ba_some (s := st) (by omega)
          rw [decide_eq_false h0] at HC
          go_wp2
          go_ret
          exact ⟨ret_bool HC.out.symm, HW.out⟩
    · have HC := Lib.hid (prog_long (l := l) (by rw [HL.out]; omega))
      by_cases hlt : k < len
      · go_wp2
        go_ret
        exact ⟨ret_bool HC.out.symm, HW.out⟩
      · go_wp2
        go_ret
        exact ⟨ret_bool HC.out.symm, HW.out⟩

set_option maxHeartbeats 8000000 in
theorem progok_any (a : Option Addr) (len cap : Nat) (l : Instrs) (w : World) (h : InstrsAt w a len l) (hT : TabsP w) :
    Calls Tryz.prog 47 #[.slice a len cap] w (MadeBool (progB l) w) := by
  have hm := h.max
  unfold maxLen at hm
  have HL := Lib.hid h.length
  have HR := Lib.hid h
  have HT := Lib.hid hT
  clear h hT
  by_cases hbig : (30 : Int) < (len : Int)
  · have HC := Lib.hid (prog_long (l := l) (by rw [HL.out]; omega))
    go_enter Tryz.func47, Tryz.ntmps47
    go_wp2
    go_ret
    exact ⟨ret_bool HC.out.symm, Below.refl _ _⟩
  go_enter Tryz.func47, Tryz.ntmps47
  go_wp2
  go_loopw [3, 13] (fun s i wr => ∃ (k : Nat) (st : ByteArray), k ≤ len ∧ i = .int .i64 k ∧ s = .string st ∧ st.size ≤ k ∧ Hid (stk l k = some st) ∧ Hid (Below w.heap.size w wr)) (fun _ i _ => len - (intOf i).toNat)
  case atStart => exact ⟨0, ByteArray.empty, Nat.zero_le _, rfl, rfl, Nat.le_refl _, Lib.hid rfl, Lib.hid (Below.refl _ _)⟩
  case round =>
    obtain ⟨k, st, hk, rfl, rfl, hst, HST, HW⟩ := hrel
    by_cases hlt : k < len
    · rcases (HR.out.keep HW.out).src with hz | ⟨b, off, rfl, hb, hc⟩
      · omega
      obtain ⟨c0, c1, c2⟩ := hc k hlt
      have hi0 : (0 : Int) ≤ (k : Int) := by omega
      have hi1 : (k : Int) < (len : Int) := by omega
      have HKY := Lib.hid (HR.out.keys k hlt)
      obtain ⟨op, hop⟩ : ∃ op, ins0 l k = op := ⟨_, rfl⟩
      obtain ⟨n, hn⟩ : ∃ n, ins1 l k = n := ⟨_, rfl⟩
      obtain ⟨s, hs⟩ : ∃ s, ins2 l k = s := ⟨_, rfl⟩
      have HOP := Lib.hid hop
      have HN := Lib.hid hn
      have HS := Lib.hid hs
      rw [hop] at c0
      rw [hn] at c1
      rw [hs] at c2 HKY
      obtain ⟨q, hq⟩ : ∃ q, instrB op n s = q := ⟨_, rfl⟩
      have HQ := Lib.hid hq
      clear hc hb hop hn hs hq
      have HX5 := Lib.hid (Row.new wr 89 #[.int .i64 op, .int .i64 n, .string s])
      have HW := Lib.hid (below_alloc HW.out (.cells #[.int .i64 op, .int .i64 n, .string s] 89))
      go_wp2_with fail
      refine (instrok_any op n s _ HKY.out (HT.out.keep HW.out)).mono ?_
      rw [HQ.out]
      rintro e w3 ⟨rfl, hB⟩
      have HX5 := Lib.hid (HX5.out.keep hB)
      have HW := Lib.hid (below_via HW.out hB)
      clear hB c0 c1 c2
      cases q
      · have HC := Lib.hid (prog_bad (l := l) (k := k + 1) (by rw [HL.out]; omega) (stk_wrong (by rw [HOP.out, HN.out, HS.out]; exact HQ.out)))
        go_wp2
        go_ret
        exact ⟨ret_bool HC.out.symm, HW.out⟩
      have hop := instr_op HQ.out
      obtain ⟨x, hx⟩ : ∃ x : Nat, op = (x : Int) := ⟨op.toNat, by omega⟩
      have HSTEP := Lib.hid (show stk l (k + 1) = stepB st (takesB x) (givesB x) by
        rw [stk_step HST.out (by rw [HOP.out, HN.out, HS.out]; exact HQ.out), HOP.out, hx]
        rfl)
      have hx0 : (0 : Int) ≤ (x : Int) := by omega
      have hx1 : (x : Int) < 15 := by omega
      have c0 := HX5.out.cell (j := 0) (by simp)
      simp at c0
      rw [hx] at c0
      have t2 := ((HT.out.keep HW.out).cell x (by omega)).2.2.1
      have HT3 := Lib.hid (HT.out.keep HW.out)
      have htk := takes_few x
      have hgv := gives_few x
      have HT4 := Lib.hid (show (HT3.out.cell x (by omega)).2.2.2 = (HT3.out.cell x (by omega)).2.2.2 from rfl)
      have t3 := ((HT.out.keep HW.out).cell x (by omega)).2.2.2
      obtain ⟨tk, hTK⟩ : ∃ tk, takesB x = tk := ⟨_, rfl⟩
      obtain ⟨gv, hGV⟩ : ∃ gv, givesB x = gv := ⟨_, rfl⟩
      rw [hTK] at HSTEP htk t2
      rw [hGV] at HSTEP hgv t3
      clear hop hx hTK hGV HT4
      go_wp2_with fail
      refine (cutsuf_any st tk _ (by omega) (by omega)).mono ?_
      rintro e w4 ⟨rfl, ⟨hle, hq, rfl⟩ | ⟨hno, rfl⟩⟩
      · have HF := Lib.hid (HSTEP.out.trans (step_fits hle hq))
        have hz : (st.extract 0 (st.size - tk.size)).size ≤ k := by rw [ByteArray.size_extract]; omega
        have k1 : ∀ w, (Op.stringOp .add (st.extract 0 (st.size - tk.size)) gv).run Tryz.prog w = .ok (.string (st.extract 0 (st.size - tk.size) ++ gv)) w := fun w => cat_runp _ _ 40 (by omega) (by omega)
        clear hq
        go_wp2
        go_roundw
        case rel => exact ⟨k + 1, _, by omega, by go_num, rfl, by rw [ByteArray.size_append]; omega, HF, HW⟩
        case measure => simp [intOf]; omega
      · have HC := Lib.hid (prog_bad (l := l) (k := k + 1) (by rw [HL.out]; omega) (HSTEP.out.trans (by
          by_cases hle : tk.size ≤ st.size
          · exact step_other (fun e => hno ⟨hle, e⟩)
          · exact step_short (by omega))))
        clear hno
        go_wp2
        go_ret
        exact ⟨ret_bool HC.out.symm, HW.out⟩
    · have HC := Lib.hid (prog_fin HL.out (by omega) (by omega) HST.out)
      by_cases h0 : st.size = 0
      · have t1 := ba_nil h0
        rw [decide_eq_true h0] at HC
        go_wp2
        go_ret
        exact ⟨ret_bool HC.out.symm, HW.out⟩
      · have t1 := ba_some (s := st) (by omega)
        rw [decide_eq_false h0] at HC
        go_wp2
        go_ret
        exact ⟨ret_bool HC.out.symm, HW.out⟩
end Go.Proofs.YtjofbeokkainlaaGreatDoor
