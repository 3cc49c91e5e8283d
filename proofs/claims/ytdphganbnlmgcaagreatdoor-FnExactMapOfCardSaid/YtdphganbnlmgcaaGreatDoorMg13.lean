/- Texts put together, as a claim holds at most sixty files. -/
import Derived.Test.YtdphganbnlmgcaaGreatDoorMg12
import Derived.Test.YtdphganbnlmgcaaGreatDoorMg6
import Derived.Test.YtdphganbnlmgcaaGreatDoorMg1
import Derived.Test.YtdphganbnlmgcaaGreatDoorMg4
import Derived.Laws.AppendOwnNone
namespace Go.Proofs.YtdphganbnlmgcaaGreatDoor
open Go.ChangeShapes Go.WideShapes Go.ChangeAt Go.RowKit
set_option linter.unusedVariables false
set_option maxRecDepth 100000

theorem prog_fin {l : Instrs} {st : ByteArray} {k len : Nat} (hl : l.length = len) (h30 : len ≤ 30) (hk : k = len) (h : stk l k = some st) : progB l = decide (st.size = 0) := prog_end (by omega) (by rw [hl, ← hk]; exact h)

set_option maxHeartbeats 8000000 in
theorem sprogok_any (a : Option Addr) (len cap : Nat) (l : Instrs) (w : World) (h : InstrsAt w a len l) :
    Calls Tryz.prog 34 #[.slice a len cap] w (MadeBool (progB l) w) := by
  have hm := h.max
  unfold maxLen at hm
  have HL := Lib.hid h.length
  have HR := Lib.hid h
  clear h
  go_enter Tryz.func34, Tryz.ntmps34
  go_wp2
  go_loopw [3, 4] (fun s i wr => ∃ (k : Nat) (st : ByteArray), k ≤ len ∧ i = .int .i64 k ∧ s = .string st ∧ st.size ≤ k ∧ Hid (stk l k = some st) ∧ Hid (Below w.heap.size w wr)) (fun _ i _ => len - (intOf i).toNat)
  case atStart => exact ⟨0, ByteArray.empty, Nat.zero_le _, rfl, rfl, Nat.le_refl _, Lib.hid rfl, Lib.hid (Below.refl _ _)⟩
  case round =>
    obtain ⟨k, st, hk, rfl, rfl, hst, HST, HW⟩ := hrel
    by_cases h30 : (len : Int) ≤ 30
    · by_cases hlt : k < len
      · rcases (HR.out.keep HW.out).src with hz | ⟨b, off, rfl, hb, hc⟩
        · omega
        obtain ⟨c0, c1, c2⟩ := hc k hlt
        have hi0 : (0 : Int) ≤ (k : Int) := by omega
        have hi1 : (k : Int) < (len : Int) := by omega
        have HKY := Lib.hid (HR.out.keys k hlt)
        obtain ⟨op, hop⟩ : ∃ op, ins0 l k = op := ⟨_, rfl⟩
        obtain ⟨n, hn⟩ : ∃ n, ins1 l k = n := ⟨_, rfl⟩
        obtain ⟨s, hs⟩ : ∃ s, ins2 l k = s := ⟨_, rfl⟩
        have HOP := Lib.hid hop
        have HN := Lib.hid hn
        have HS := Lib.hid hs
        rw [hop] at c0
        rw [hn] at c1
        rw [hs] at c2 HKY
        obtain ⟨q, hq⟩ : ∃ q, instrB op n s = q := ⟨_, rfl⟩
        have HQ := Lib.hid hq
        clear hc hb hop hn hs hq
        go_wp2_with fail
        refine (l3fields_any op n s _ HKY.out).mono ?_
        rw [HQ.out]
        rintro e w3 ⟨rfl, hB⟩
        have c0 := cell_keepP hB c0
        have HW := Lib.hid (below_via HW.out hB)
        clear hB c1 c2
        cases q
        · have HC := Lib.hid (prog_bad (l := l) (k := k + 1) (by rw [HL.out]; omega) (stk_wrong (by rw [HOP.out, HN.out, HS.out]; exact HQ.out)))
          go_wp2
          go_ret
          exact ⟨ret_bool HC.out.symm, HW.out⟩
        have hop := instr_op HQ.out
        obtain ⟨x, hx⟩ : ∃ x : Nat, op = (x : Int) + 1 := ⟨(op - 1).toNat, by omega⟩
        have HX := Lib.hid (show x < 14 by omega)
        have HSTEP := Lib.hid (show stk l (k + 1) = stepB st (takesB (x + 1)) (givesB (x + 1)) by
          rw [stk_step HST.out (by rw [HOP.out, HN.out, HS.out]; exact HQ.out), HOP.out, hx]
          rfl)
        rw [hx] at c0
        clear hop hx
        go_wp2_with fail
        refine (l3takes_any x _ HX.out).mono ?_
        have htk := takes_few (x + 1)
        have hgv := gives_few (x + 1)
        obtain ⟨tk, hTK⟩ : ∃ tk, takesB (x + 1) = tk := ⟨_, rfl⟩
        obtain ⟨gv, hGV⟩ : ∃ gv, givesB (x + 1) = gv := ⟨_, rfl⟩
        rw [hTK] at HSTEP htk ⊢
        rw [hGV] at HSTEP hgv ⊢
        rintro e w4 ⟨rfl, hB⟩
        have HW := Lib.hid (below_via HW.out hB)
        clear hB c0 hTK hGV
        by_cases hle : tk.size ≤ st.size
        · have hsub : (st.size : Int) - (tk.size : Int) = ((st.size - tk.size : Nat) : Int) := by omega
          have hpos : ¬ ((st.size - tk.size : Nat) : Int) < 0 := by omega
          by_cases hq : st.extract (st.size - tk.size) st.size = tk
          · have HF := Lib.hid (HSTEP.out.trans (step_fits hle hq))
            have hq2 : ((st.extract (st.size - tk.size) st.size).toList == tk.toList) = true := ba_eqv hq
            have hz : (st.extract 0 (st.size - tk.size)).size ≤ k := by rw [ByteArray.size_extract]; omega
            have k1 : ∀ w, (Op.stringOp .add (st.extract 0 (st.size - tk.size)) gv).run Tryz.prog w = .ok (.string (st.extract 0 (st.size - tk.size) ++ gv)) w := fun w => cat_runp _ _ 40 (by omega) (by omega)
            clear hq
            go_wp2
            go_roundw
            case rel => exact ⟨k + 1, _, by omega, by go_num, rfl, by rw [ByteArray.size_append]; omega, HF, HW⟩
            case measure => simp [intOf]; omega
          · have HC := Lib.hid (prog_bad (l := l) (k := k + 1) (by rw [HL.out]; omega) (HSTEP.out.trans (step_other hq)))
            have hq2 : ((st.extract (st.size - tk.size) st.size).toList == tk.toList) = false := ba_nev hq
            clear hq
            go_wp2
            go_ret
            exact ⟨ret_bool HC.out.symm, HW.out⟩
        · have HC := Lib.hid (prog_bad (l := l) (k := k + 1) (by rw [HL.out]; omega) (HSTEP.out.trans (step_short (by omega))))
          have hneg : (st.size : Int) - (tk.size : Int) < 0 := by omega
          go_wp2
          go_ret
          exact ⟨ret_bool HC.out.symm, HW.out⟩
      · have HC := Lib.hid (prog_fin HL.out (by omega) (by omega) HST.out)
        by_cases h0 : st.size = 0
        · have t1 := ba_nil h0
          rw [decide_eq_true h0] at HC
          go_wp2
          go_ret
          exact ⟨ret_bool HC.out.symm, HW.out⟩
        · have t1 := ba_some (s := st) (by omega)
          rw [decide_eq_false h0] at HC
          go_wp2
          go_ret
          exact ⟨ret_bool HC.out.symm, HW.out⟩
    · have HC := Lib.hid (prog_long (l := l) (by rw [HL.out]; omega))
      by_cases hlt : k < len
      · go_wp2
        go_ret
        exact ⟨ret_bool HC.out.symm, HW.out⟩
      · go_wp2
        go_ret
        exact ⟨ret_bool HC.out.symm, HW.out⟩

set_option maxHeartbeats 8000000 in
theorem progok_any (a : Option Addr) (len cap : Nat) (l : Instrs) (w : World) (h : InstrsAt w a len l) (hT : TabsP w) :
    Calls Tryz.prog 46 #[.slice a len cap] w (MadeBool (progB l) w) := by
  have hm := h.max
  unfold maxLen at hm
  have HL := Lib.hid h.length
  have HR := Lib.hid h
  have HT := Lib.hid hT
  clear h hT
  by_cases hbig : (30 : Int) < (len : Int)
  · have HC := Lib.hid (prog_long (l := l) (by rw [HL.out]; omega))
    go_enter Tryz.func46, Tryz.ntmps46
    go_wp2
    go_ret
    exact ⟨ret_bool HC.out.symm, Below.refl _ _⟩
  go_enter Tryz.func46, Tryz.ntmps46
  go_wp2
  go_loopw [3, 13] (fun s i wr => ∃ (k : Nat) (st : ByteArray), k ≤ len ∧ i = .int .i64 k ∧ s = .string st ∧ st.size ≤ k ∧ Hid (stk l k = some st) ∧ Hid (Below w.heap.size w wr)) (fun _ i _ => len - (intOf i).toNat)
  case atStart => exact ⟨0, ByteArray.empty, Nat.zero_le _, rfl, rfl, Nat.le_refl _, Lib.hid rfl, Lib.hid (Below.refl _ _)⟩
  case round =>
    obtain ⟨k, st, hk, rfl, rfl, hst, HST, HW⟩ := hrel
    by_cases hlt : k < len
    · rcases (HR.out.keep HW.out).src with hz | ⟨b, off, rfl, hb, hc⟩
      · omega
      obtain ⟨c0, c1, c2⟩ := hc k hlt
      have hi0 : (0 : Int) ≤ (k : Int) := by omega
      have hi1 : (k : Int) < (len : Int) := by omega
      have HKY := Lib.hid (HR.out.keys k hlt)
      obtain ⟨op, hop⟩ : ∃ op, ins0 l k = op := ⟨_, rfl⟩
      obtain ⟨n, hn⟩ : ∃ n, ins1 l k = n := ⟨_, rfl⟩
      obtain ⟨s, hs⟩ : ∃ s, ins2 l k = s := ⟨_, rfl⟩
      have HOP := Lib.hid hop
      have HN := Lib.hid hn
      have HS := Lib.hid hs
      rw [hop] at c0
      rw [hn] at c1
      rw [hs] at c2 HKY
      obtain ⟨q, hq⟩ : ∃ q, instrB op n s = q := ⟨_, rfl⟩
      have HQ := Lib.hid hq
      clear hc hb hop hn hs hq
      have HX5 := Lib.hid (Row.new wr 90 #[.int .i64 op, .int .i64 n, .string s])
      have HW := Lib.hid (below_alloc HW.out (.cells #[.int .i64 op, .int .i64 n, .string s] 90))
      go_wp2_with fail
      refine (instrok_any op n s _ HKY.out (HT.out.keep HW.out)).mono ?_
      rw [HQ.out]
      rintro e w3 ⟨rfl, hB⟩
      have HX5 := Lib.hid (HX5.out.keep hB)
      have HW := Lib.hid (below_via HW.out hB)
      clear hB c0 c1 c2
      cases q
      · have HC := Lib.hid (prog_bad (l := l) (k := k + 1) (by rw [HL.out]; omega) (stk_wrong (by rw [HOP.out, HN.out, HS.out]; exact HQ.out)))
        go_wp2
        go_ret
        exact ⟨ret_bool HC.out.symm, HW.out⟩
      have hop := instr_op HQ.out
      obtain ⟨x, hx⟩ : ∃ x : Nat, op = (x : Int) := ⟨op.toNat, by omega⟩
      have HSTEP := Lib.hid (show stk l (k + 1) = stepB st (takesB x) (givesB x) by
        rw [stk_step HST.out (by rw [HOP.out, HN.out, HS.out]; exact HQ.out), HOP.out, hx]
        rfl)
      have hx0 : (0 : Int) ≤ (x : Int) := by omega
      have hx1 : (x : Int) < 15 := by omega
      have c0 := HX5.out.cell (j := 0) (by simp)
      simp at c0
      rw [hx] at c0
      have t2 := ((HT.out.keep HW.out).cell x (by omega)).2.2.1
      have HT3 := Lib.hid (HT.out.keep HW.out)
      have htk := takes_few x
      have hgv := gives_few x
      have HT4 := Lib.hid (show (HT3.out.cell x (by omega)).2.2.2 = (HT3.out.cell x (by omega)).2.2.2 from rfl)
      have t3 := ((HT.out.keep HW.out).cell x (by omega)).2.2.2
      obtain ⟨tk, hTK⟩ : ∃ tk, takesB x = tk := ⟨_, rfl⟩
      obtain ⟨gv, hGV⟩ : ∃ gv, givesB x = gv := ⟨_, rfl⟩
      rw [hTK] at HSTEP htk t2
      rw [hGV] at HSTEP hgv t3
      clear hop hx hTK hGV HT4
      go_wp2_with fail
      refine (cutsuf_any st tk _ (by omega) (by omega)).mono ?_
      rintro e w4 ⟨rfl, ⟨hle, hq, rfl⟩ | ⟨hno, rfl⟩⟩
      · have HF := Lib.hid (HSTEP.out.trans (step_fits hle hq))
        have hz : (st.extract 0 (st.size - tk.size)).size ≤ k := by rw [ByteArray.size_extract]; omega
        have k1 : ∀ w, (Op.stringOp .add (st.extract 0 (st.size - tk.size)) gv).run Tryz.prog w = .ok (.string (st.extract 0 (st.size - tk.size) ++ gv)) w := fun w => cat_runp _ _ 40 (by omega) (by omega)
        clear hq
        go_wp2
        go_roundw
        case rel => exact ⟨k + 1, _, by omega, by go_num, rfl, by rw [ByteArray.size_append]; omega, HF, HW⟩
        case measure => simp [intOf]; omega
      · have HC := Lib.hid (prog_bad (l := l) (k := k + 1) (by rw [HL.out]; omega) (HSTEP.out.trans (by
          by_cases hle : tk.size ≤ st.size
          · exact step_other (fun e => hno ⟨hle, e⟩)
          · exact step_short (by omega))))
        clear hno
        go_wp2
        go_ret
        exact ⟨ret_bool HC.out.symm, HW.out⟩
    · have HC := Lib.hid (prog_fin HL.out (by omega) (by omega) HST.out)
      by_cases h0 : st.size = 0
      · have t1 := ba_nil h0
        rw [decide_eq_true h0] at HC
        go_wp2
        go_ret
        exact ⟨ret_bool HC.out.symm, HW.out⟩
      · have t1 := ba_some (s := st) (by omega)
        rw [decide_eq_false h0] at HC
        go_wp2
        go_ret
        exact ⟨ret_bool HC.out.symm, HW.out⟩
end Go.Proofs.YtdphganbnlmgcaaGreatDoor
namespace Go.Proofs.YtdphganbnlmgcaaGreatDoor
open Go.ChangeShapes Go.WideShapes Go.ChangeAt Go.RowKit
set_option linter.unusedVariables false
set_option maxRecDepth 100000

theorem infoRc : (Tryz.prog.info? 50).map (fun i => (i.zero, i.size, i.bytes)) = some (some (.agg #[.string ByteArray.empty, .int .i64 0]), 2, 24) := by kernel_rfl
def RcLaid (cur : Array Value) (l : Recs) (k : Nat) : Prop := ∀ j, j < k → cur[j * 2]? = some (.string (keyAt l j)) ∧ cur[j * 2 + 1]? = some (.int .i64 (numAt l j))
def cellsRc (W : Recs) : List Value := W.flatMap fun r => [Value.string r.1, Value.int .i64 r.2]
theorem cellsRc_nil : cellsRc [] = [] := rfl
theorem cellsRc_snoc (W : Recs) (x0 : ByteArray) (x1 : Int) : cellsRc (W ++ [(x0, x1)]) = cellsRc W ++ [.string x0, .int .i64 x1] := by simp [cellsRc]
theorem cellsRc_append (W V : Recs) : cellsRc (W ++ V) = cellsRc W ++ cellsRc V := by simp [cellsRc]
theorem cellsRc_one_row (x0 : ByteArray) (x1 : Int) : cellsRc [(x0, x1)] = [.string x0, .int .i64 x1] := by simp [cellsRc]
theorem cellsRc_len : ∀ W : Recs, (cellsRc W).length = W.length * 2
  | [] => rfl
  | r :: t => by
    have := cellsRc_len t
    simp only [cellsRc] at this
    simp [cellsRc, List.flatMap_cons, this]; omega
theorem cellsRc_get : ∀ (W : Recs) (j : Nat), j < W.length → (cellsRc W)[j * 2]? = some (.string (keyAt W j)) ∧ (cellsRc W)[j * 2 + 1]? = some (.int .i64 (numAt W j))
  | [], j, h => by simp at h
  | r :: t, 0, h => by simp [cellsRc, keyAt, numAt]
  | r :: t, j + 1, h => by
    have := cellsRc_get t j (by simpa using h)
    have e : (j + 1) * 2 = j * 2 + 2 := by omega
    simp only [cellsRc] at this
    rw [e]
    have e0 : j * 2 + 2 = j * 2 + 1 + 1 := by omega
    have e1 : j * 2 + 2 + 1 = j * 2 + 1 + 1 + 1 := by omega
    rw [e1, e0]
    simp only [cellsRc, List.flatMap_cons, List.cons_append, List.nil_append, List.getElem?_cons_succ]
    simpa [keyAt, numAt] using this
theorem rc_cells1 : ∀ W : Recs, ∀ u ∈ cellsRc W, u.oneCell' = true := by
  intro W u hu
  unfold cellsRc at hu
  rw [List.mem_flatMap] at hu
  obtain ⟨r, _, hr⟩ := hu
  simp only [List.mem_cons, or_false, List.not_mem_nil] at hr
  rcases hr with rfl | rfl
  all_goals rfl
theorem rc_new (w : World) (x0 : ByteArray) (x1 : Int) (t : TypeId) : ∀ j u, [Value.string x0, Value.int .i64 x1][j]? = some u → (w.alloc (.cells #[.string x0, .int .i64 x1] t)).cell? ((⟨w.heap.size, 0, none⟩ : Addr).add j) = some u := by
  intro j u hj
  match j, hj with
  | 0, hj => simp at hj; subst hj; simp [Addr.add]
  | 1, hj => simp at hj; subst hj; simp [Addr.add]
theorem rc_at_row {w : World} {B : Nat} (x0 : ByteArray) (x1 : Int) {t : TypeId} (h : Row w B t #[.string x0, .int .i64 x1]) : ∀ j u, [Value.string x0, Value.int .i64 x1][j]? = some u → w.cell? ((⟨B, 0, none⟩ : Addr).add j) = some u := by
  intro j u hj
  unfold Row at h
  match j, hj with
  | 0, hj => simp at hj; subst hj; simp [Addr.add, World.cell?, h]
  | 1, hj => simp at hj; subst hj; simp [Addr.add, World.cell?, h]

/-- The slice (q, length of W) holds the values W in a row from block 'base' on. -/
def RcK (base : Nat) (w : World) (q : Option Addr) (W : Recs) : Prop :=
  W.length = 0 ∨ ∃ g cur, q = some ⟨g, 0, none⟩ ∧ base ≤ g ∧ Row w g 50 cur ∧ W.length * 2 ≤ cur.size ∧ RcLaid cur W W.length
theorem rck_of_own {base : Nat} {w : World} {q : Option Addr} {m cp : Nat} {W : Recs} (h : w.ownsRow base 50 2 (.slice q m cp) W.length (cellsRc W)) : RcK base w q W := by
  rcases h.2 with ⟨h1, h2⟩ | ⟨g, cap, cur, hv, hb, hh, h1, _, h3, h4⟩
  · exact .inl h2
  · simp only [Value.slice.injEq] at hv
    obtain ⟨rfl, _, rfl⟩ := hv
    refine .inr ⟨g, cur, rfl, hb, hh, by omega, fun j hj => ?_⟩
    obtain ⟨e0, e1⟩ := cellsRc_get W j hj
    rw [← h4, List.getElem?_take_of_lt (by omega)] at e0 e1
    exact ⟨by simpa using e0, by simpa using e1⟩
theorem rck_keep {base : Nat} {w w1 : World} {q : Option Addr} {W : Recs} (h : RcK base w q W) (hB : Below w.heap.size w w1) : RcK base w1 q W := by
  rcases h with h0 | ⟨g, cur, rfl, hb, hr, h1, h2⟩
  · exact .inl h0
  · exact .inr ⟨g, cur, rfl, hb, hr.keep hB, h1, h2⟩
theorem rck_low {base B : Nat} {w : World} {q : Option Addr} {W : Recs} (h : RcK B w q W) (hb : base ≤ B) : RcK base w q W := by
  rcases h with h0 | ⟨g, cur, rfl, h1, hr, h2, h3⟩
  · exact .inl h0
  · exact .inr ⟨g, cur, rfl, Nat.le_trans hb h1, hr, h2, h3⟩
theorem rck_lt {base : Nat} {w : World} {q : Option Addr} {W : Recs} (h : RcK base w q W) (hn : 0 < W.length) : ∀ g, q = some ⟨g, 0, none⟩ → base ≤ g ∧ g < w.heap.size := by
  intro g hg
  rcases h with h0 | ⟨g', cur, rfl, hb, hr, h1, h2⟩
  · omega
  · simp only [Option.some.injEq, Addr.mk.injEq, and_true] at hg
    rw [← hg]; exact ⟨hb, hr.lt⟩
theorem rck_grown {base : Nat} {w w1 : World} {q : Option Addr} {W : Recs} {row : Option Nat} (h : RcK base w q W) (hg : w.grownBy w1 row) (hne : ∀ g, q = some ⟨g, 0, none⟩ → some g ≠ row) : RcK base w1 q W := by
  rcases h with h0 | ⟨g', cur, rfl, hb, hr, h1, h2⟩
  · exact .inl h0
  · exact .inr ⟨g', cur, rfl, hb, (hg.block g' hr.lt (hne g' rfl)).trans hr, h1, h2⟩
theorem rck_put {base : Nat} {w : World} {q : Option Addr} {W : Recs} (h : RcK base w q W) {X : Nat} (hne : ∀ g, q = some ⟨g, 0, none⟩ → g ≠ X) (j : Nat) (v : Value) : RcK base (w.setCell ⟨X, j, none⟩ v) q W := by
  rcases h with h0 | ⟨g', cur, rfl, hb, hr, h1, h2⟩
  · exact .inl h0
  · exact .inr ⟨g', cur, rfl, hb, hr.other (hne g' rfl) j v, h1, h2⟩
theorem rcs_of_k {base n : Nat} {w : World} {q : Option Addr} {W : Recs} (h : RcK base w q W) (hn : W.length = n) (hm : n ≤ maxLen) (hs : ∀ i, i < n → (keyAt W i).size ≤ maxLen) : RecsAt w q n W := by
  subst hn
  refine ⟨rfl, hm, hs, ?_⟩
  rcases h with h0 | ⟨g, cur, rfl, _, hr, _, hc⟩
  · exact .inl h0
  · refine .inr ⟨g, 0, rfl, hr.lt, fun i hi => ?_⟩
    obtain ⟨e0, e1⟩ := hc i hi
    unfold Row at hr
    simp [World.cell?, hr, e0, e1]

/-! ### pieces of a slice that may be read, and appends of them -/
theorem rc_at_take (l : Recs) (k i : Nat) (h : i < k) : keyAt (l.take k) i = keyAt l i ∧ numAt (l.take k) i = numAt l i := by
  refine ⟨?_, ?_⟩ <;> simp [keyAt, numAt, List.getElem?_take_of_lt h]
theorem rc_at_drop (l : Recs) (k i : Nat) : keyAt (l.drop k) i = keyAt l (k + i) ∧ numAt (l.drop k) i = numAt l (k + i) := by
  refine ⟨?_, ?_⟩ <;> simp [keyAt, numAt]
theorem rcs_take {w : World} {a : Option Addr} {len : Nat} {l : Recs} (h : RecsAt w a len l) {k : Nat} (hk : k ≤ len) : RecsAt w a k (l.take k) := by
  have hl := h.length
  refine ⟨by rw [List.length_take]; omega, Nat.le_trans hk h.max, fun i hi => ?_, ?_⟩
  · obtain ⟨e0, e1⟩ := rc_at_take l k i hi
    have := h.keys i (by omega)
    simpa only [e0, e1] using this
  · rcases h.src with h0 | ⟨b, off, ha, hb, hc⟩
    · exact .inl (by omega)
    · refine .inr ⟨b, off, ha, hb, fun i hi => ?_⟩
      obtain ⟨e0, e1⟩ := rc_at_take l k i hi
      have := hc i (by omega)
      simpa only [e0, e1] using this
theorem rcs_drop {w : World} {b off : Nat} {len : Nat} {l : Recs} (h : RecsAt w (some ⟨b, off, none⟩) len l) {k : Nat} (hk : k ≤ len) : RecsAt w (some ⟨b, off + k * 2, none⟩) (len - k) (l.drop k) := by
  have hl := h.length
  have hm := h.max
  refine ⟨by rw [List.length_drop]; omega, by omega, fun i hi => ?_, ?_⟩
  · obtain ⟨e0, e1⟩ := rc_at_drop l k i
    have := h.keys (k + i) (by omega)
    simpa only [e0, e1] using this
  · rcases h.src with h0 | ⟨b', off', ha, hb, hc⟩
    · exact .inl (by omega)
    · simp only [Option.some.injEq, Addr.mk.injEq, and_true] at ha
      obtain ⟨rfl, rfl⟩ := ha
      refine .inr ⟨b, off + k * 2, rfl, hb, fun i hi => ?_⟩
      obtain ⟨e0, e1⟩ := rc_at_drop l k i
      have := hc (k + i) (by omega)
      rw [show off + (k + i) * 2 = off + k * 2 + i * 2 by rw [Nat.add_mul]; omega] at this
      simpa only [e0, e1] using this
theorem rcs_none {w : World} {a a' : Option Addr} {len : Nat} {l : Recs} (h : RecsAt w a len l) (hn : len = 0) : RecsAt w a' 0 [] := ⟨rfl, Nat.zero_le _, fun i hi => by omega, .inl rfl⟩
theorem rc_cells_at {w : World} {q : Addr} {len : Nat} {l : Recs} (h : RecsAt w (some q) len l) : ∀ j u, (cellsRc l)[j]? = some u → w.cell? (q.add j) = some u := by
  intro j u hj
  have hl := h.length
  have hjl : j < l.length * 2 := by
    obtain ⟨h1, _⟩ := List.getElem?_eq_some_iff.1 hj
    rw [cellsRc_len] at h1; exact h1
  rcases h.src with h0 | ⟨b, off, ha, hb, hc⟩
  · omega
  · simp only [Option.some.injEq] at ha
    subst ha
    have hi : j / 2 < len := by omega
    obtain ⟨c0, c1⟩ := hc (j / 2) hi
    obtain ⟨e0, e1⟩ := cellsRc_get l (j / 2) (by omega)
    have hadd : (⟨b, off, none⟩ : Addr).add j = ⟨b, off + j, none⟩ := by
      unfold Addr.add
      split
      · rename_i h0; subst h0; rfl
      · rfl
    rw [hadd]
    have hr : j % 2 < 2 := Nat.mod_lt _ (by decide)
    have hd : 2 * (j / 2) + j % 2 = j := Nat.div_add_mod j 2
    rcases (show j % 2 = 0 ∨ j % 2 = 1 by omega) with hr0 | hr1
    · have ej : j = j / 2 * 2 := by omega
      have e := e0
      rw [← ej] at e
      rw [e] at hj
      rw [← hj, show off + j = off + j / 2 * 2 by omega]
      exact c0
    · have ej : j = j / 2 * 2 + 1 := by omega
      have e := e1
      rw [← ej] at e
      rw [e] at hj
      rw [← hj, show off + j = off + j / 2 * 2 + 1 by omega]
      exact c1

theorem own_cellsRc {w : World} {base : Nat} {v : Value} {W : Recs} {xs : List Value} {m k : Nat} (h : w.ownsRow base 50 2 v m xs) (hm : m = k) (hx : xs = cellsRc W) : w.ownsRow base 50 2 v k (cellsRc W) := by rw [← hm, ← hx]; exact h
/-- append of values that may be read, nil or not, to a row of the call's own. -/
theorem wp_append_rc {o : Oper} {a : Act} {K : Act → World → Prop} {Q : Exit → Act → World → Prop} {w : World} (s x : Operand)
    (ho : o.op = .call { callee := .builtin .append, args := #[s, x], argTypes := #[45, 45] })
    (base : Nat) (v : Value) (n : Nat) (W : Recs) (hs : a.eval s = v) (hown : w.ownsRow base 50 2 v n (cellsRc W))
    (q : Option Addr) (m c : Nat) (V : Recs) (hx : a.eval x = .slice q m c) (hrec : RecsAt w q m V) (hnone : q = none → c = 0) (h6 : n + m ≤ 2097152) (hbase : base ≤ w.heap.size)
    (h : ∀ q' c' w', w'.ownsRow base 50 2 (.slice q' (n + m) c') (n + m) (cellsRc (W ++ V)) → w.grownBy w' v.ownBlock → K (a.put o.dst (.slice q' (n + m) c')) w') : o.wp Tryz.prog a w K Q := by
  obtain ⟨i0, hi, hz0, hz1, hz2⟩ := info_parts infoRc
  cases q with
  | none =>
    have hc := hnone rfl
    have hm : m = 0 := by
      rcases hrec.src with h0 | ⟨b, off, ha, _⟩
      · exact h0
      · cases ha
    subst hm hc
    obtain rfl : V = [] := List.eq_nil_of_length_eq_zero hrec.length
    obtain ⟨q', c', rfl⟩ := own_form hown
    have h0 := h q' c' w (by simpa using hown) (World.grownBy.refl _ _)
    have hrun := run_append_owned_none (P := Tryz.prog) (w := w) base 45 o.type 50 i0 2 Tryz.underlying45 hi _ n _ hown
    unfold Oper.wp
    simp [execOp, ho, resolve, invoke, builtin, hs, hx, hrun, Result.andThen]
    exact h0
  | some p =>
    exact wp_append_own w s x 45 ho base 50 i0 _ 2 24 Tryz.underlying45 hi hz0 hz1 hz2 rfl (by decide) v n _ hs hown p m c (cellsRc V) hx (by rw [cellsRc_len, hrec.length]) (rc_cells_at hrec) (rc_cells1 _) (by unfold maxLen; omega) (by omega) hbase fun v' w' h2 h3 h4 => by
      obtain ⟨q', c', rfl⟩ := own_form h2
      exact h q' c' w' (by rw [cellsRc_append]; exact h2) h3
theorem append_rc {ops : Array Oper} {rest : List Oper} {o : Oper} {a : Act} {Q : Exit → Act → World → Prop} {w : World} (hg : o.guard = none) (s x : Operand)
    (ho : o.op = .call { callee := .builtin .append, args := #[s, x], argTypes := #[45, 45] })
    (base : Nat) (v : Value) (n : Nat) (W : Recs) (hs : a.eval s = v) (hown : w.ownsRow base 50 2 v n (cellsRc W))
    (q : Option Addr) (m c : Nat) (V : Recs) (hx : a.eval x = .slice q m c) (hrec : RecsAt w q m V) (hnone : q = none → c = 0) (h6 : n + m ≤ 2097152) (hbase : base ≤ w.heap.size)
    (h : ∀ q' c' w', w'.ownsRow base 50 2 (.slice q' (n + m) c') (n + m) (cellsRc (W ++ V)) → w.grownBy w' v.ownBlock → wpList Tryz.prog ops Q rest (a.put o.dst (.slice q' (n + m) c')) w') : wpList Tryz.prog ops Q (o :: rest) a w :=
  wpList_plain hg fun _ hK => wp_append_rc s x ho base v n W hs hown q m c V hx hrec hnone h6 hbase fun q' c' w' h2 h3 => hK _ _ (h q' c' w' h2 h3)
/-- At a step of a region that draws its order. -/
theorem step_append_rc {ops : Array Oper} {o : Oper} {a : Act} {K : Act → World → Prop} {Q : Exit → Act → World → Prop} {Ee : Prop} {w : World} (hg : o.guard = none) (s x : Operand)
    (ho : o.op = .call { callee := .builtin .append, args := #[s, x], argTypes := #[45, 45] })
    (base : Nat) (v : Value) (n : Nat) (W : Recs) (hs : a.eval s = v) (hown : w.ownsRow base 50 2 v n (cellsRc W))
    (q : Option Addr) (m c : Nat) (V : Recs) (hx : a.eval x = .slice q m c) (hrec : RecsAt w q m V) (hnone : q = none → c = 0) (h6 : n + m ≤ 2097152) (hbase : base ≤ w.heap.size)
    (h : ∀ q' c' w', w'.ownsRow base 50 2 (.slice q' (n + m) c') (n + m) (cellsRc (W ++ V)) → w.grownBy w' v.ownBlock → K (a.put o.dst (.slice q' (n + m) c')) w') :
    if Region.wanted o (yielded ops a.tmps) = true then Oper.wp Tryz.prog o a w K Q else Ee := by
  have hw : Region.wanted o (yielded ops a.tmps) = true := by simp [Region.wanted, hg]
  rw [if_pos hw]
  exact wp_append_rc s x ho base v n W hs hown q m c V hx hrec hnone h6 hbase h
/-- append of one value that has just been laid in a block of its own. -/
theorem wp_append1_rc {o : Oper} {a : Act} {K : Act → World → Prop} {Q : Exit → Act → World → Prop} {w : World} (s x : Operand)
    (ho : o.op = .call { callee := .builtin .append, args := #[s, x], argTypes := #[45, 45] })
    (base : Nat) (v : Value) (n : Nat) (W : Recs) (hs : a.eval s = v) (hown : w.ownsRow base 50 2 v n (cellsRc W))
    (B c : Nat) (x0 : ByteArray) (x1 : Int) (hx : a.eval x = .slice (some ⟨B, 0, none⟩) 1 c) (hrow : ∀ j u, [Value.string x0, Value.int .i64 x1][j]? = some u → w.cell? ((⟨B, 0, none⟩ : Addr).add j) = some u) (h6 : n + 1 ≤ 2097152) (hbase : base ≤ w.heap.size)
    (h : ∀ q' c' w', w'.ownsRow base 50 2 (.slice q' (n + 1) c') (n + 1) (cellsRc (W ++ [(x0, x1)])) → w.grownBy w' v.ownBlock → K (a.put o.dst (.slice q' (n + 1) c')) w') : o.wp Tryz.prog a w K Q := by
  obtain ⟨i0, hi, hz0, hz1, hz2⟩ := info_parts infoRc
  exact wp_append_own w s x 45 ho base 50 i0 _ 2 24 Tryz.underlying45 hi hz0 hz1 hz2 rfl (by decide) v n _ hs hown ⟨B, 0, none⟩ 1 c [Value.string x0, Value.int .i64 x1] hx rfl hrow (fun u hu => rc_cells1 [(x0, x1)] u (by rw [cellsRc_one_row]; exact hu)) (by unfold maxLen; omega) (by omega) hbase fun v' w' h2 h3 h4 => by
    obtain ⟨q', c', rfl⟩ := own_form h2
    exact h q' c' w' (by rw [cellsRc_snoc]; exact h2) h3
theorem step_append1_rc {ops : Array Oper} {Ee : Prop} {o : Oper} {a : Act} {K : Act → World → Prop} {Q : Exit → Act → World → Prop} {w : World} (hg : o.guard = none) (s x : Operand)
    (ho : o.op = .call { callee := .builtin .append, args := #[s, x], argTypes := #[45, 45] })
    (base : Nat) (v : Value) (n : Nat) (W : Recs) (hs : a.eval s = v) (hown : w.ownsRow base 50 2 v n (cellsRc W))
    (B c : Nat) (x0 : ByteArray) (x1 : Int) (hx : a.eval x = .slice (some ⟨B, 0, none⟩) 1 c) (hrow : ∀ j u, [Value.string x0, Value.int .i64 x1][j]? = some u → w.cell? ((⟨B, 0, none⟩ : Addr).add j) = some u) (h6 : n + 1 ≤ 2097152) (hbase : base ≤ w.heap.size)
    (h : ∀ q' c' w', w'.ownsRow base 50 2 (.slice q' (n + 1) c') (n + 1) (cellsRc (W ++ [(x0, x1)])) → w.grownBy w' v.ownBlock → K (a.put o.dst (.slice q' (n + 1) c')) w') :
    if Region.wanted o (yielded ops a.tmps) = true then Oper.wp Tryz.prog o a w K Q else Ee := by
  have hw : Region.wanted o (yielded ops a.tmps) = true := by simp [Region.wanted, hg]
  rw [if_pos hw]
  exact wp_append1_rc s x ho base v n W hs hown B c x0 x1 hx hrow h6 hbase h
theorem append1_rc {ops : Array Oper} {rest : List Oper} {o : Oper} {a : Act} {Q : Exit → Act → World → Prop} {w : World} (hg : o.guard = none) (s x : Operand)
    (ho : o.op = .call { callee := .builtin .append, args := #[s, x], argTypes := #[45, 45] })
    (base : Nat) (v : Value) (n : Nat) (W : Recs) (hs : a.eval s = v) (hown : w.ownsRow base 50 2 v n (cellsRc W))
    (B c : Nat) (x0 : ByteArray) (x1 : Int) (hx : a.eval x = .slice (some ⟨B, 0, none⟩) 1 c) (hrow : ∀ j u, [Value.string x0, Value.int .i64 x1][j]? = some u → w.cell? ((⟨B, 0, none⟩ : Addr).add j) = some u) (h6 : n + 1 ≤ 2097152) (hbase : base ≤ w.heap.size)
    (h : ∀ q' c' w', w'.ownsRow base 50 2 (.slice q' (n + 1) c') (n + 1) (cellsRc (W ++ [(x0, x1)])) → w.grownBy w' v.ownBlock → wpList Tryz.prog ops Q rest (a.put o.dst (.slice q' (n + 1) c')) w') : wpList Tryz.prog ops Q (o :: rest) a w :=
  wpList_plain hg fun _ hK => wp_append1_rc s x ho base v n W hs hown B c x0 x1 hx hrow h6 hbase fun q' c' w' h2 h3 => hK _ _ (h q' c' w' h2 h3)
theorem own_nilRc (w : World) (base : Nat) : w.ownsRow base 50 2 (.slice none 0 0) 0 (cellsRc []) := ⟨rfl, .inl ⟨rfl, rfl⟩⟩
/-- An array of no length that has just been made. -/
theorem own_zeroRc {w : World} {base B : Nat} (h : Row w B 50 #[]) (hb : base ≤ B) : w.ownsRow base 50 2 (.slice (some ⟨B, 0, none⟩) 0 0) 0 (cellsRc []) := ⟨rfl, .inr ⟨B, 0, #[], rfl, hb, h, Nat.le_refl _, Nat.zero_le _, rfl, rfl⟩⟩

/-- The row of a slice that is not empty. -/
theorem own_rowRc {w : World} {base : Nat} {q : Option Addr} {n m c : Nat} {xs : List Value} (h : w.ownsRow base 50 2 (.slice q m c) n xs) (hn : 0 < n) : ∃ g cur, q = some ⟨g, 0, none⟩ ∧ m = n ∧ base ≤ g ∧ Row w g 50 cur ∧ n ≤ c ∧ c ≤ maxLen ∧ cur.size = c * 2 ∧ cur.toList.take (n * 2) = xs := by
  rcases h.2 with ⟨_, h0⟩ | ⟨g, cap, cur, hv, hb, hh, h1, h2, h3, h4⟩
  · omega
  · simp only [Value.slice.injEq] at hv
    obtain ⟨rfl, rfl, rfl⟩ := hv
    exact ⟨g, cur, rfl, rfl, hb, hh, h1, h2, h3, h4⟩
theorem cellsRc_set : ∀ (W : Recs) (p : Nat) (x0 : ByteArray) (x1 : Int), p < W.length → cellsRc (W.set p (x0, x1)) = (((cellsRc W).set (p * 2) (.string x0)).set (p * 2 + 1) (.int .i64 x1))
  | [], p, x0, x1, h => by simp at h
  | r :: t, 0, x0, x1, h => by simp [cellsRc]
  | r :: t, p + 1, x0, x1, h => by
    have ih := cellsRc_set t p x0 x1 (by simpa using h)
    rw [List.set_cons_succ]
    have e : ∀ W : Recs, ∀ r, cellsRc (r :: W) = [Value.string r.1, Value.int .i64 r.2] ++ cellsRc W := fun W r => rfl
    rw [e, e, ih]
    have f0 : (p + 1) * 2 = p * 2 + 1 + 1 := by omega
    have f1 : (p + 1) * 2 + 1 = p * 2 + 1 + 1 + 1 := by omega
    rw [f1, f0]
    simp only [List.cons_append, List.nil_append, List.set_cons_succ]
/-- One value of an own row laid anew. -/
theorem own_setRc {w : World} {base g n c : Nat} {W : Recs} (h : w.ownsRow base 50 2 (.slice (some ⟨g, 0, none⟩) n c) n (cellsRc W)) {p : Nat} (hp : p < n) (x0 : ByteArray) (x1 : Int) :
    ((w.setCell ⟨g, p * 2, none⟩ (.string x0)).setCell ⟨g, p * 2 + 1, none⟩ (.int .i64 x1)).ownsRow base 50 2 (.slice (some ⟨g, 0, none⟩) n c) n (cellsRc (W.set p (x0, x1))) := by
  have hl := h.1
  rw [cellsRc_len] at hl
  have hl2 : W.length = n := by omega
  obtain ⟨g', cur, hq, _, hb, hr, h1, h2, h3, h4⟩ := own_rowRc h (by omega)
  simp only [Option.some.injEq, Addr.mk.injEq, and_true] at hq
  subst hq
  refine ⟨by rw [cellsRc_len, List.length_set, hl2], .inr ⟨g, c, ((cur.setIfInBounds (p * 2) (.string x0)).setIfInBounds (p * 2 + 1) (.int .i64 x1)), rfl, hb, (hr.set _ _).set _ _, h1, h2, by simpa using h3, ?_⟩⟩
  rw [cellsRc_set W p x0 x1 (by omega), ← h4]
  simp only [Array.toList_setIfInBounds, List.take_set]
end Go.Proofs.YtdphganbnlmgcaaGreatDoor
namespace Go.Proofs.YtdphganbnlmgcaaGreatDoor
open Go.ChangeShapes Go.WideShapes Go.ChangeAt Go.RowKit
set_option linter.unusedVariables false
set_option maxRecDepth 100000

theorem infoV3 : (Tryz.prog.info? 107).map (fun i => (i.zero, i.size, i.bytes)) = some (some (.agg #[.string ByteArray.empty, .int .i64 0]), 2, 24) := by kernel_rfl
def V3Laid (cur : Array Value) (l : Recs) (k : Nat) : Prop := ∀ j, j < k → cur[j * 2]? = some (.string (keyAt l j)) ∧ cur[j * 2 + 1]? = some (.int .i64 (numAt l j))
def cellsV3 (W : Recs) : List Value := W.flatMap fun r => [Value.string r.1, Value.int .i64 r.2]
theorem cellsV3_nil : cellsV3 [] = [] := rfl
theorem cellsV3_snoc (W : Recs) (x0 : ByteArray) (x1 : Int) : cellsV3 (W ++ [(x0, x1)]) = cellsV3 W ++ [.string x0, .int .i64 x1] := by simp [cellsV3]
theorem cellsV3_append (W V : Recs) : cellsV3 (W ++ V) = cellsV3 W ++ cellsV3 V := by simp [cellsV3]
theorem cellsV3_one_row (x0 : ByteArray) (x1 : Int) : cellsV3 [(x0, x1)] = [.string x0, .int .i64 x1] := by simp [cellsV3]
theorem cellsV3_len : ∀ W : Recs, (cellsV3 W).length = W.length * 2
  | [] => rfl
  | r :: t => by
    have := cellsV3_len t
    simp only [cellsV3] at this
    simp [cellsV3, List.flatMap_cons, this]; omega
theorem cellsV3_get : ∀ (W : Recs) (j : Nat), j < W.length → (cellsV3 W)[j * 2]? = some (.string (keyAt W j)) ∧ (cellsV3 W)[j * 2 + 1]? = some (.int .i64 (numAt W j))
  | [], j, h => by simp at h
  | r :: t, 0, h => by simp [cellsV3, keyAt, numAt]
  | r :: t, j + 1, h => by
    have := cellsV3_get t j (by simpa using h)
    have e : (j + 1) * 2 = j * 2 + 2 := by omega
    simp only [cellsV3] at this
    rw [e]
    have e0 : j * 2 + 2 = j * 2 + 1 + 1 := by omega
    have e1 : j * 2 + 2 + 1 = j * 2 + 1 + 1 + 1 := by omega
    rw [e1, e0]
    simp only [cellsV3, List.flatMap_cons, List.cons_append, List.nil_append, List.getElem?_cons_succ]
    simpa [keyAt, numAt] using this
theorem vt_cells1 : ∀ W : Recs, ∀ u ∈ cellsV3 W, u.oneCell' = true := by
  intro W u hu
  unfold cellsV3 at hu
  rw [List.mem_flatMap] at hu
  obtain ⟨r, _, hr⟩ := hu
  simp only [List.mem_cons, or_false, List.not_mem_nil] at hr
  rcases hr with rfl | rfl
  all_goals rfl
theorem vt_new (w : World) (x0 : ByteArray) (x1 : Int) (t : TypeId) : ∀ j u, [Value.string x0, Value.int .i64 x1][j]? = some u → (w.alloc (.cells #[.string x0, .int .i64 x1] t)).cell? ((⟨w.heap.size, 0, none⟩ : Addr).add j) = some u := by
  intro j u hj
  match j, hj with
  | 0, hj => simp at hj; subst hj; simp [Addr.add]
  | 1, hj => simp at hj; subst hj; simp [Addr.add]
theorem vt_at_row {w : World} {B : Nat} (x0 : ByteArray) (x1 : Int) {t : TypeId} (h : Row w B t #[.string x0, .int .i64 x1]) : ∀ j u, [Value.string x0, Value.int .i64 x1][j]? = some u → w.cell? ((⟨B, 0, none⟩ : Addr).add j) = some u := by
  intro j u hj
  unfold Row at h
  match j, hj with
  | 0, hj => simp at hj; subst hj; simp [Addr.add, World.cell?, h]
  | 1, hj => simp at hj; subst hj; simp [Addr.add, World.cell?, h]

/-- The slice (q, length of W) holds the values W in a row from block 'base' on. -/
def V3K (base : Nat) (w : World) (q : Option Addr) (W : Recs) : Prop :=
  W.length = 0 ∨ ∃ g cur, q = some ⟨g, 0, none⟩ ∧ base ≤ g ∧ Row w g 107 cur ∧ W.length * 2 ≤ cur.size ∧ V3Laid cur W W.length
theorem vtk_of_own {base : Nat} {w : World} {q : Option Addr} {m cp : Nat} {W : Recs} (h : w.ownsRow base 107 2 (.slice q m cp) W.length (cellsV3 W)) : V3K base w q W := by
  rcases h.2 with ⟨h1, h2⟩ | ⟨g, cap, cur, hv, hb, hh, h1, _, h3, h4⟩
  · exact .inl h2
  · simp only [Value.slice.injEq] at hv
    obtain ⟨rfl, _, rfl⟩ := hv
    refine .inr ⟨g, cur, rfl, hb, hh, by omega, fun j hj => ?_⟩
    obtain ⟨e0, e1⟩ := cellsV3_get W j hj
    rw [← h4, List.getElem?_take_of_lt (by omega)] at e0 e1
    exact ⟨by simpa using e0, by simpa using e1⟩
theorem vtk_keep {base : Nat} {w w1 : World} {q : Option Addr} {W : Recs} (h : V3K base w q W) (hB : Below w.heap.size w w1) : V3K base w1 q W := by
  rcases h with h0 | ⟨g, cur, rfl, hb, hr, h1, h2⟩
  · exact .inl h0
  · exact .inr ⟨g, cur, rfl, hb, hr.keep hB, h1, h2⟩
theorem vtk_low {base B : Nat} {w : World} {q : Option Addr} {W : Recs} (h : V3K B w q W) (hb : base ≤ B) : V3K base w q W := by
  rcases h with h0 | ⟨g, cur, rfl, h1, hr, h2, h3⟩
  · exact .inl h0
  · exact .inr ⟨g, cur, rfl, Nat.le_trans hb h1, hr, h2, h3⟩
theorem vtk_lt {base : Nat} {w : World} {q : Option Addr} {W : Recs} (h : V3K base w q W) (hn : 0 < W.length) : ∀ g, q = some ⟨g, 0, none⟩ → base ≤ g ∧ g < w.heap.size := by
  intro g hg
  rcases h with h0 | ⟨g', cur, rfl, hb, hr, h1, h2⟩
  · omega
  · simp only [Option.some.injEq, Addr.mk.injEq, and_true] at hg
    rw [← hg]; exact ⟨hb, hr.lt⟩
theorem vtk_grown {base : Nat} {w w1 : World} {q : Option Addr} {W : Recs} {row : Option Nat} (h : V3K base w q W) (hg : w.grownBy w1 row) (hne : ∀ g, q = some ⟨g, 0, none⟩ → some g ≠ row) : V3K base w1 q W := by
  rcases h with h0 | ⟨g', cur, rfl, hb, hr, h1, h2⟩
  · exact .inl h0
  · exact .inr ⟨g', cur, rfl, hb, (hg.block g' hr.lt (hne g' rfl)).trans hr, h1, h2⟩
theorem vtk_put {base : Nat} {w : World} {q : Option Addr} {W : Recs} (h : V3K base w q W) {X : Nat} (hne : ∀ g, q = some ⟨g, 0, none⟩ → g ≠ X) (j : Nat) (v : Value) : V3K base (w.setCell ⟨X, j, none⟩ v) q W := by
  rcases h with h0 | ⟨g', cur, rfl, hb, hr, h1, h2⟩
  · exact .inl h0
  · exact .inr ⟨g', cur, rfl, hb, hr.other (hne g' rfl) j v, h1, h2⟩
theorem vts_of_k {base n : Nat} {w : World} {q : Option Addr} {W : Recs} (h : V3K base w q W) (hn : W.length = n) (hm : n ≤ maxLen) (hs : ∀ i, i < n → (keyAt W i).size ≤ maxLen) : RecsAt w q n W := by
  subst hn
  refine ⟨rfl, hm, hs, ?_⟩
  rcases h with h0 | ⟨g, cur, rfl, _, hr, _, hc⟩
  · exact .inl h0
  · refine .inr ⟨g, 0, rfl, hr.lt, fun i hi => ?_⟩
    obtain ⟨e0, e1⟩ := hc i hi
    unfold Row at hr
    simp [World.cell?, hr, e0, e1]

/-! ### pieces of a slice that may be read, and appends of them -/
theorem vt_at_take (l : Recs) (k i : Nat) (h : i < k) : keyAt (l.take k) i = keyAt l i ∧ numAt (l.take k) i = numAt l i := by
  refine ⟨?_, ?_⟩ <;> simp [keyAt, numAt, List.getElem?_take_of_lt h]
theorem vt_at_drop (l : Recs) (k i : Nat) : keyAt (l.drop k) i = keyAt l (k + i) ∧ numAt (l.drop k) i = numAt l (k + i) := by
  refine ⟨?_, ?_⟩ <;> simp [keyAt, numAt]
theorem vts_take {w : World} {a : Option Addr} {len : Nat} {l : Recs} (h : RecsAt w a len l) {k : Nat} (hk : k ≤ len) : RecsAt w a k (l.take k) := by
  have hl := h.length
  refine ⟨by rw [List.length_take]; omega, Nat.le_trans hk h.max, fun i hi => ?_, ?_⟩
  · obtain ⟨e0, e1⟩ := vt_at_take l k i hi
    have := h.keys i (by omega)
    simpa only [e0, e1] using this
  · rcases h.src with h0 | ⟨b, off, ha, hb, hc⟩
    · exact .inl (by omega)
    · refine .inr ⟨b, off, ha, hb, fun i hi => ?_⟩
      obtain ⟨e0, e1⟩ := vt_at_take l k i hi
      have := hc i (by omega)
      simpa only [e0, e1] using this
theorem vts_drop {w : World} {b off : Nat} {len : Nat} {l : Recs} (h : RecsAt w (some ⟨b, off, none⟩) len l) {k : Nat} (hk : k ≤ len) : RecsAt w (some ⟨b, off + k * 2, none⟩) (len - k) (l.drop k) := by
  have hl := h.length
  have hm := h.max
  refine ⟨by rw [List.length_drop]; omega, by omega, fun i hi => ?_, ?_⟩
  · obtain ⟨e0, e1⟩ := vt_at_drop l k i
    have := h.keys (k + i) (by omega)
    simpa only [e0, e1] using this
  · rcases h.src with h0 | ⟨b', off', ha, hb, hc⟩
    · exact .inl (by omega)
    · simp only [Option.some.injEq, Addr.mk.injEq, and_true] at ha
      obtain ⟨rfl, rfl⟩ := ha
      refine .inr ⟨b, off + k * 2, rfl, hb, fun i hi => ?_⟩
      obtain ⟨e0, e1⟩ := vt_at_drop l k i
      have := hc (k + i) (by omega)
      rw [show off + (k + i) * 2 = off + k * 2 + i * 2 by rw [Nat.add_mul]; omega] at this
      simpa only [e0, e1] using this
theorem vts_none {w : World} {a a' : Option Addr} {len : Nat} {l : Recs} (h : RecsAt w a len l) (hn : len = 0) : RecsAt w a' 0 [] := ⟨rfl, Nat.zero_le _, fun i hi => by omega, .inl rfl⟩
theorem vt_cells_at {w : World} {q : Addr} {len : Nat} {l : Recs} (h : RecsAt w (some q) len l) : ∀ j u, (cellsV3 l)[j]? = some u → w.cell? (q.add j) = some u := by
  intro j u hj
  have hl := h.length
  have hjl : j < l.length * 2 := by
    obtain ⟨h1, _⟩ := List.getElem?_eq_some_iff.1 hj
    rw [cellsV3_len] at h1; exact h1
  rcases h.src with h0 | ⟨b, off, ha, hb, hc⟩
  · omega
  · simp only [Option.some.injEq] at ha
    subst ha
    have hi : j / 2 < len := by omega
    obtain ⟨c0, c1⟩ := hc (j / 2) hi
    obtain ⟨e0, e1⟩ := cellsV3_get l (j / 2) (by omega)
    have hadd : (⟨b, off, none⟩ : Addr).add j = ⟨b, off + j, none⟩ := by
      unfold Addr.add
      split
      · rename_i h0; subst h0; rfl
      · rfl
    rw [hadd]
    have hr : j % 2 < 2 := Nat.mod_lt _ (by decide)
    have hd : 2 * (j / 2) + j % 2 = j := Nat.div_add_mod j 2
    rcases (show j % 2 = 0 ∨ j % 2 = 1 by omega) with hr0 | hr1
    · have ej : j = j / 2 * 2 := by omega
      have e := e0
      rw [← ej] at e
      rw [e] at hj
      rw [← hj, show off + j = off + j / 2 * 2 by omega]
      exact c0
    · have ej : j = j / 2 * 2 + 1 := by omega
      have e := e1
      rw [← ej] at e
      rw [e] at hj
      rw [← hj, show off + j = off + j / 2 * 2 + 1 by omega]
      exact c1

theorem own_cellsV3 {w : World} {base : Nat} {v : Value} {W : Recs} {xs : List Value} {m k : Nat} (h : w.ownsRow base 107 2 v m xs) (hm : m = k) (hx : xs = cellsV3 W) : w.ownsRow base 107 2 v k (cellsV3 W) := by rw [← hm, ← hx]; exact h
/-- append of values that may be read, nil or not, to a row of the call's own. -/
theorem wp_append_vt {o : Oper} {a : Act} {K : Act → World → Prop} {Q : Exit → Act → World → Prop} {w : World} (s x : Operand)
    (ho : o.op = .call { callee := .builtin .append, args := #[s, x], argTypes := #[105, 105] })
    (base : Nat) (v : Value) (n : Nat) (W : Recs) (hs : a.eval s = v) (hown : w.ownsRow base 107 2 v n (cellsV3 W))
    (q : Option Addr) (m c : Nat) (V : Recs) (hx : a.eval x = .slice q m c) (hrec : RecsAt w q m V) (hnone : q = none → c = 0) (h6 : n + m ≤ 2097152) (hbase : base ≤ w.heap.size)
    (h : ∀ q' c' w', w'.ownsRow base 107 2 (.slice q' (n + m) c') (n + m) (cellsV3 (W ++ V)) → w.grownBy w' v.ownBlock → K (a.put o.dst (.slice q' (n + m) c')) w') : o.wp Tryz.prog a w K Q := by
  obtain ⟨i0, hi, hz0, hz1, hz2⟩ := info_parts infoV3
  cases q with
  | none =>
    have hc := hnone rfl
    have hm : m = 0 := by
      rcases hrec.src with h0 | ⟨b, off, ha, _⟩
      · exact h0
      · cases ha
    subst hm hc
    obtain rfl : V = [] := List.eq_nil_of_length_eq_zero hrec.length
    obtain ⟨q', c', rfl⟩ := own_form hown
    have h0 := h q' c' w (by simpa using hown) (World.grownBy.refl _ _)
    have hrun := run_append_owned_none (P := Tryz.prog) (w := w) base 105 o.type 107 i0 2 Tryz.underlying105 hi _ n _ hown
    unfold Oper.wp
    simp [execOp, ho, resolve, invoke, builtin, hs, hx, hrun, Result.andThen]
    exact h0
  | some p =>
    exact wp_append_own w s x 105 ho base 107 i0 _ 2 24 Tryz.underlying105 hi hz0 hz1 hz2 rfl (by decide) v n _ hs hown p m c (cellsV3 V) hx (by rw [cellsV3_len, hrec.length]) (vt_cells_at hrec) (vt_cells1 _) (by unfold maxLen; omega) (by omega) hbase fun v' w' h2 h3 h4 => by
      obtain ⟨q', c', rfl⟩ := own_form h2
      exact h q' c' w' (by rw [cellsV3_append]; exact h2) h3
theorem append_vt {ops : Array Oper} {rest : List Oper} {o : Oper} {a : Act} {Q : Exit → Act → World → Prop} {w : World} (hg : o.guard = none) (s x : Operand)
    (ho : o.op = .call { callee := .builtin .append, args := #[s, x], argTypes := #[105, 105] })
    (base : Nat) (v : Value) (n : Nat) (W : Recs) (hs : a.eval s = v) (hown : w.ownsRow base 107 2 v n (cellsV3 W))
    (q : Option Addr) (m c : Nat) (V : Recs) (hx : a.eval x = .slice q m c) (hrec : RecsAt w q m V) (hnone : q = none → c = 0) (h6 : n + m ≤ 2097152) (hbase : base ≤ w.heap.size)
    (h : ∀ q' c' w', w'.ownsRow base 107 2 (.slice q' (n + m) c') (n + m) (cellsV3 (W ++ V)) → w.grownBy w' v.ownBlock → wpList Tryz.prog ops Q rest (a.put o.dst (.slice q' (n + m) c')) w') : wpList Tryz.prog ops Q (o :: rest) a w :=
  wpList_plain hg fun _ hK => wp_append_vt s x ho base v n W hs hown q m c V hx hrec hnone h6 hbase fun q' c' w' h2 h3 => hK _ _ (h q' c' w' h2 h3)
/-- At a step of a region that draws its order. -/
theorem step_append_vt {ops : Array Oper} {o : Oper} {a : Act} {K : Act → World → Prop} {Q : Exit → Act → World → Prop} {Ee : Prop} {w : World} (hg : o.guard = none) (s x : Operand)
    (ho : o.op = .call { callee := .builtin .append, args := #[s, x], argTypes := #[105, 105] })
    (base : Nat) (v : Value) (n : Nat) (W : Recs) (hs : a.eval s = v) (hown : w.ownsRow base 107 2 v n (cellsV3 W))
    (q : Option Addr) (m c : Nat) (V : Recs) (hx : a.eval x = .slice q m c) (hrec : RecsAt w q m V) (hnone : q = none → c = 0) (h6 : n + m ≤ 2097152) (hbase : base ≤ w.heap.size)
    (h : ∀ q' c' w', w'.ownsRow base 107 2 (.slice q' (n + m) c') (n + m) (cellsV3 (W ++ V)) → w.grownBy w' v.ownBlock → K (a.put o.dst (.slice q' (n + m) c')) w') :
    if Region.wanted o (yielded ops a.tmps) = true then Oper.wp Tryz.prog o a w K Q else Ee := by
  have hw : Region.wanted o (yielded ops a.tmps) = true := by simp [Region.wanted, hg]
  rw [if_pos hw]
  exact wp_append_vt s x ho base v n W hs hown q m c V hx hrec hnone h6 hbase h
/-- append of one value that has just been laid in a block of its own. -/
theorem wp_append1_vt {o : Oper} {a : Act} {K : Act → World → Prop} {Q : Exit → Act → World → Prop} {w : World} (s x : Operand)
    (ho : o.op = .call { callee := .builtin .append, args := #[s, x], argTypes := #[105, 105] })
    (base : Nat) (v : Value) (n : Nat) (W : Recs) (hs : a.eval s = v) (hown : w.ownsRow base 107 2 v n (cellsV3 W))
    (B c : Nat) (x0 : ByteArray) (x1 : Int) (hx : a.eval x = .slice (some ⟨B, 0, none⟩) 1 c) (hrow : ∀ j u, [Value.string x0, Value.int .i64 x1][j]? = some u → w.cell? ((⟨B, 0, none⟩ : Addr).add j) = some u) (h6 : n + 1 ≤ 2097152) (hbase : base ≤ w.heap.size)
    (h : ∀ q' c' w', w'.ownsRow base 107 2 (.slice q' (n + 1) c') (n + 1) (cellsV3 (W ++ [(x0, x1)])) → w.grownBy w' v.ownBlock → K (a.put o.dst (.slice q' (n + 1) c')) w') : o.wp Tryz.prog a w K Q := by
  obtain ⟨i0, hi, hz0, hz1, hz2⟩ := info_parts infoV3
  exact wp_append_own w s x 105 ho base 107 i0 _ 2 24 Tryz.underlying105 hi hz0 hz1 hz2 rfl (by decide) v n _ hs hown ⟨B, 0, none⟩ 1 c [Value.string x0, Value.int .i64 x1] hx rfl hrow (fun u hu => vt_cells1 [(x0, x1)] u (by rw [cellsV3_one_row]; exact hu)) (by unfold maxLen; omega) (by omega) hbase fun v' w' h2 h3 h4 => by
    obtain ⟨q', c', rfl⟩ := own_form h2
    exact h q' c' w' (by rw [cellsV3_snoc]; exact h2) h3
theorem step_append1_vt {ops : Array Oper} {Ee : Prop} {o : Oper} {a : Act} {K : Act → World → Prop} {Q : Exit → Act → World → Prop} {w : World} (hg : o.guard = none) (s x : Operand)
    (ho : o.op = .call { callee := .builtin .append, args := #[s, x], argTypes := #[105, 105] })
    (base : Nat) (v : Value) (n : Nat) (W : Recs) (hs : a.eval s = v) (hown : w.ownsRow base 107 2 v n (cellsV3 W))
    (B c : Nat) (x0 : ByteArray) (x1 : Int) (hx : a.eval x = .slice (some ⟨B, 0, none⟩) 1 c) (hrow : ∀ j u, [Value.string x0, Value.int .i64 x1][j]? = some u → w.cell? ((⟨B, 0, none⟩ : Addr).add j) = some u) (h6 : n + 1 ≤ 2097152) (hbase : base ≤ w.heap.size)
    (h : ∀ q' c' w', w'.ownsRow base 107 2 (.slice q' (n + 1) c') (n + 1) (cellsV3 (W ++ [(x0, x1)])) → w.grownBy w' v.ownBlock → K (a.put o.dst (.slice q' (n + 1) c')) w') :
    if Region.wanted o (yielded ops a.tmps) = true then Oper.wp Tryz.prog o a w K Q else Ee := by
  have hw : Region.wanted o (yielded ops a.tmps) = true := by simp [Region.wanted, hg]
  rw [if_pos hw]
  exact wp_append1_vt s x ho base v n W hs hown B c x0 x1 hx hrow h6 hbase h
theorem append1_vt {ops : Array Oper} {rest : List Oper} {o : Oper} {a : Act} {Q : Exit → Act → World → Prop} {w : World} (hg : o.guard = none) (s x : Operand)
    (ho : o.op = .call { callee := .builtin .append, args := #[s, x], argTypes := #[105, 105] })
    (base : Nat) (v : Value) (n : Nat) (W : Recs) (hs : a.eval s = v) (hown : w.ownsRow base 107 2 v n (cellsV3 W))
    (B c : Nat) (x0 : ByteArray) (x1 : Int) (hx : a.eval x = .slice (some ⟨B, 0, none⟩) 1 c) (hrow : ∀ j u, [Value.string x0, Value.int .i64 x1][j]? = some u → w.cell? ((⟨B, 0, none⟩ : Addr).add j) = some u) (h6 : n + 1 ≤ 2097152) (hbase : base ≤ w.heap.size)
    (h : ∀ q' c' w', w'.ownsRow base 107 2 (.slice q' (n + 1) c') (n + 1) (cellsV3 (W ++ [(x0, x1)])) → w.grownBy w' v.ownBlock → wpList Tryz.prog ops Q rest (a.put o.dst (.slice q' (n + 1) c')) w') : wpList Tryz.prog ops Q (o :: rest) a w :=
  wpList_plain hg fun _ hK => wp_append1_vt s x ho base v n W hs hown B c x0 x1 hx hrow h6 hbase fun q' c' w' h2 h3 => hK _ _ (h q' c' w' h2 h3)
theorem own_nilV3 (w : World) (base : Nat) : w.ownsRow base 107 2 (.slice none 0 0) 0 (cellsV3 []) := ⟨rfl, .inl ⟨rfl, rfl⟩⟩
/-- An array of no length that has just been made. -/
theorem own_zeroV3 {w : World} {base B : Nat} (h : Row w B 107 #[]) (hb : base ≤ B) : w.ownsRow base 107 2 (.slice (some ⟨B, 0, none⟩) 0 0) 0 (cellsV3 []) := ⟨rfl, .inr ⟨B, 0, #[], rfl, hb, h, Nat.le_refl _, Nat.zero_le _, rfl, rfl⟩⟩

/-- The row of a slice that is not empty. -/
theorem own_rowV3 {w : World} {base : Nat} {q : Option Addr} {n m c : Nat} {xs : List Value} (h : w.ownsRow base 107 2 (.slice q m c) n xs) (hn : 0 < n) : ∃ g cur, q = some ⟨g, 0, none⟩ ∧ m = n ∧ base ≤ g ∧ Row w g 107 cur ∧ n ≤ c ∧ c ≤ maxLen ∧ cur.size = c * 2 ∧ cur.toList.take (n * 2) = xs := by
  rcases h.2 with ⟨_, h0⟩ | ⟨g, cap, cur, hv, hb, hh, h1, h2, h3, h4⟩
  · omega
  · simp only [Value.slice.injEq] at hv
    obtain ⟨rfl, rfl, rfl⟩ := hv
    exact ⟨g, cur, rfl, rfl, hb, hh, h1, h2, h3, h4⟩
theorem cellsV3_set : ∀ (W : Recs) (p : Nat) (x0 : ByteArray) (x1 : Int), p < W.length → cellsV3 (W.set p (x0, x1)) = (((cellsV3 W).set (p * 2) (.string x0)).set (p * 2 + 1) (.int .i64 x1))
  | [], p, x0, x1, h => by simp at h
  | r :: t, 0, x0, x1, h => by simp [cellsV3]
  | r :: t, p + 1, x0, x1, h => by
    have ih := cellsV3_set t p x0 x1 (by simpa using h)
    rw [List.set_cons_succ]
    have e : ∀ W : Recs, ∀ r, cellsV3 (r :: W) = [Value.string r.1, Value.int .i64 r.2] ++ cellsV3 W := fun W r => rfl
    rw [e, e, ih]
    have f0 : (p + 1) * 2 = p * 2 + 1 + 1 := by omega
    have f1 : (p + 1) * 2 + 1 = p * 2 + 1 + 1 + 1 := by omega
    rw [f1, f0]
    simp only [List.cons_append, List.nil_append, List.set_cons_succ]
/-- One value of an own row laid anew. -/
theorem own_setV3 {w : World} {base g n c : Nat} {W : Recs} (h : w.ownsRow base 107 2 (.slice (some ⟨g, 0, none⟩) n c) n (cellsV3 W)) {p : Nat} (hp : p < n) (x0 : ByteArray) (x1 : Int) :
    ((w.setCell ⟨g, p * 2, none⟩ (.string x0)).setCell ⟨g, p * 2 + 1, none⟩ (.int .i64 x1)).ownsRow base 107 2 (.slice (some ⟨g, 0, none⟩) n c) n (cellsV3 (W.set p (x0, x1))) := by
  have hl := h.1
  rw [cellsV3_len] at hl
  have hl2 : W.length = n := by omega
  obtain ⟨g', cur, hq, _, hb, hr, h1, h2, h3, h4⟩ := own_rowV3 h (by omega)
  simp only [Option.some.injEq, Addr.mk.injEq, and_true] at hq
  subst hq
  refine ⟨by rw [cellsV3_len, List.length_set, hl2], .inr ⟨g, c, ((cur.setIfInBounds (p * 2) (.string x0)).setIfInBounds (p * 2 + 1) (.int .i64 x1)), rfl, hb, (hr.set _ _).set _ _, h1, h2, by simpa using h3, ?_⟩⟩
  rw [cellsV3_set W p x0 x1 (by omega), ← h4]
  simp only [Array.toList_setIfInBounds, List.take_set]
end Go.Proofs.YtdphganbnlmgcaaGreatDoor
