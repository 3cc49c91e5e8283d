/- Texts put together, as a claim holds at most sixty files. -/
import Derived.Test.YtjofbeokkainlaaDoorProgS
import Derived.Test.YtjofbeokkainlaaDoorMg8
import Derived.Test.YtjofbeokkainlaaDoorMg2
namespace Go.Proofs.YtjofbeokkainlaaDoor
open Go.ChangeShapes Go.WideShapes Go.ChangeAt Go.RowKit
set_option linter.unusedVariables false
set_option maxRecDepth 100000

theorem cell_keepP {w w' : World} {p : Addr} {v : Value} (hB : Below w.heap.size w w') (h : w.cell? p = some v) : w'.cell? p = some v := (hB.cell (World.block_lt_of_cell? _ _ h)).trans h
def CutS (s t : ByteArray) (w : World) (e : Ending) (w' : World) : Prop := w = w' ∧
  ((t.size ≤ s.size ∧ s.extract (s.size - t.size) s.size = t ∧ e = .returned (.tuple #[.string (s.extract 0 (s.size - t.size)), .bool true])) ∨
   (¬ (t.size ≤ s.size ∧ s.extract (s.size - t.size) s.size = t) ∧ e = .returned (.tuple #[.string s, .bool false])))
end Go.Proofs.YtjofbeokkainlaaDoor
namespace Go.Proofs.YtjofbeokkainlaaDoor
open Go.ChangeShapes Go.WideShapes Go.ChangeAt Go.RowKit
set_option linter.unusedVariables false
set_option maxRecDepth 100000

theorem instr_out {op n : Int} {s : ByteArray} (h : ¬ (1 ≤ op ∧ op ≤ 14)) : instrB op n s = false := by
  cases hb : instrB op n s with
  | false => rfl
  | true => exact absurd (instr_op hb) h
theorem push_empty {s : ByteArray} (h : s.size = 0) : pushB s = true := by
  have : s = ByteArray.empty := ByteArray.ext (Array.eq_empty_of_size_eq_zero h)
  rw [this]; exact push_none

end Go.Proofs.YtjofbeokkainlaaDoor
namespace Go.Proofs.YtjofbeokkainlaaDoor
open Go.ChangeShapes Go.WideShapes Go.ChangeAt Go.RowKit
set_option linter.unusedVariables false
set_option maxRecDepth 100000

theorem prog_fin {l : Instrs} {st : ByteArray} {k len : Nat} (hl : l.length = len) (h30 : len ≤ 30) (hk : k = len) (h : stk l k = some st) : progB l = decide (st.size = 0) := prog_end (by omega) (by rw [hl, ← hk]; exact h)

set_option maxHeartbeats 8000000 in
theorem sprogok_any (a : Option Addr) (len cap : Nat) (l : Instrs) (w : World) (h : InstrsAt w a len l) :
    Calls Tryd.prog 28 #[.slice a len cap] w (MadeBool (progB l) w) := by
  have hm := h.max
  unfold maxLen at hm
  have HL := Lib.hid h.length
  have HR := Lib.hid h
  clear h
  go_enter Tryd.func28, Tryd.ntmps28
  go_wp2
  go_loopw [3, 4] (fun s i wr => ∃ (k : Nat) (st : ByteArray), k ≤ len ∧ i = .int .i64 k ∧ s = .string st ∧ st.size ≤ k ∧ Hid (stk l k = some st) ∧ Hid (Below w.heap.size w wr)) (fun _ i _ => len - (intOf i).toNat)
  case atStart => exact ⟨0, ByteArray.empty, Nat.zero_le _, rfl, rfl, Nat.le_refl _, Lib.hid rfl, Lib.hid (Below.refl _ _)⟩
  case round =>
    obtain ⟨k, st, hk, rfl, rfl, hst, HST, HW⟩ := hrel
    by_cases h30 : (len : Int) ≤ 30
    · by_cases hlt : k < len
      · rcases (HR.out.keep HW.out).src with hz | ⟨b, off, rfl, hb, hc⟩
        · omega
        obtain ⟨c0, c1, c2⟩ := hc k hlt
        have hi0 : (0 : Int) ≤ (k : Int) := by omega
        have hi1 : (k : Int) < (len : Int) := by omega
        have HKY := Lib.hid (HR.out.keys k hlt)
        obtain ⟨op, hop⟩ : ∃ op, ins0 l k = op := ⟨_, rfl⟩
        obtain ⟨n, hn⟩ : ∃ n, ins1 l k = n := ⟨_, rfl⟩
        obtain ⟨s, hs⟩ : ∃ s, ins2 l k = s := ⟨_, rfl⟩
        have HOP := Lib.hid hop
        have HN := Lib.hid hn
        have HS := Lib.hid hs
        rw [hop] at c0
        rw [hn] at c1
        rw [hs] at c2 HKY
        obtain ⟨q, hq⟩ : ∃ q, instrB op n s = q := ⟨_, rfl⟩
        have HQ := Lib.hid hq
        clear hc hb hop hn hs hq
        go_wp2_with fail
        refine (l3fields_any op n s _ HKY.out).mono ?_
        rw [HQ.out]
        rintro e w3 ⟨rfl, hB⟩
        have c0 := cell_keepP hB c0
        have HW := Lib.hid (below_via HW.out hB)
        clear hB c1 c2
        cases q
        · have HC := Lib.hid (prog_bad (l := l) (k := k + 1) (by rw [HL.out]; omega) (stk_wrong (by rw [HOP.out, HN.out, HS.out]; exact HQ.out)))
          go_wp2
          go_ret
          exact ⟨ret_bool HC.out.symm, HW.out⟩
        have hop := instr_op HQ.out
        obtain ⟨x, hx⟩ : ∃ x : Nat, op = (x : Int) + 1 := ⟨(op - 1).toNat, by omega⟩
        have HX := Lib.hid (show x < 14 by omega)
        have HSTEP := Lib.hid (show stk l (k + 1) = stepB st (takesB (x + 1)) (givesB (x + 1)) by
          rw [stk_step HST.out (by rw [HOP.out, HN.out, HS.out]; exact HQ.out), HOP.out, hx]
          rfl)
        rw [hx] at c0
        clear hop hx
        go_wp2_with fail
        refine (l3takes_any x _ HX.out).mono ?_
        have htk := takes_few (x + 1)
        have hgv := gives_few (x + 1)
        obtain ⟨tk, hTK⟩ : ∃ tk, takesB (x + 1) = tk := ⟨_, rfl⟩
        obtain ⟨gv, hGV⟩ : ∃ gv, givesB (x + 1) = gv := ⟨_, rfl⟩
        rw [hTK] at HSTEP htk ⊢
        rw [hGV] at HSTEP hgv ⊢
        rintro e w4 ⟨rfl, hB⟩
        have HW := Lib.hid (below_via HW.out hB)
        clear hB c0 hTK hGV
        by_cases hle : tk.size ≤ st.size
        · have hsub : (st.size : Int) - (tk.size : Int) = ((st.size - tk.size : Nat) : Int) := by omega
          have hpos : ¬ ((st.size - tk.size : Nat) : Int) < 0 := by omega
          by_cases hq : st.extract (st.size - tk.size) st.size = tk
          · have HF := Lib.hid (HSTEP.out.trans (step_fits hle hq))
            have hq2 : ((st.extract (st.size - tk.size) st.size).toList == tk.toList) = true := ba_eqv hq
            have hz : (st.extract 0 (st.size - tk.size)).size ≤ k := by rw [ByteArray.size_extract]; omega
            have k1 : ∀ w, (Op.stringOp .add (st.extract 0 (st.size - tk.size)) gv).run Tryd.prog w = .ok (.string (st.extract 0 (st.size - tk.size) ++ gv)) w := fun w => cat_runp _ _ 40 (by omega) (by omega)
            clear hq
            go_wp2
            go_roundw
            case rel => exact ⟨k + 1, _, by omega, by go_num, rfl, by rw [ByteArray.size_append]; omega, HF, HW⟩
            case measure => simp [intOf]; omega
          · have HC := Lib.hid (prog_bad (l := l) (k := k + 1) (by rw [HL.out]; omega) (HSTEP.out.trans (step_other hq)))
            have hq2 : ((st.extract (st.size - tk.size) st.size).toList == tk.toList) = false := ba_nev hq
            clear hq
            go_wp2
            go_ret
            exact ⟨ret_bool HC.out.symm, HW.out⟩
        · have HC := Lib.hid (prog_bad (l := l) (k := k + 1) (by rw [HL.out]; omega) (HSTEP.out.trans (step_short (by omega))))
          have hneg : (st.size : Int) - (tk.size : Int) < 0 := by omega
          go_wp2
          go_ret
          exact ⟨ret_bool HC.out.symm, HW.out⟩
      · have HC := Lib.hid (prog_fin HL.out (by omega) (by omega) HST.out)
        by_cases h0 : st.size = 0
        · have t1 := ba_nil h0
          rw [decide_eq_true h0] at HC
          go_wp2
          go_ret
          exact ⟨ret_bool HC.out.symm, HW.out⟩
        · have t1 := ba_some (s := st) (by omega)
          rw [decide_eq_false h0] at HC
          go_wp2
          go_ret
          exact ⟨ret_bool HC.out.symm, HW.out⟩
    · have HC := Lib.hid (prog_long (l := l) (by rw [HL.out]; omega))
      by_cases hlt : k < len
      · go_wp2
        go_ret
        exact ⟨ret_bool HC.out.symm, HW.out⟩
      · go_wp2
        go_ret
        exact ⟨ret_bool HC.out.symm, HW.out⟩

end Go.Proofs.YtjofbeokkainlaaDoor
