/- Texts put together, as a claim holds at most sixty files. -/
import Derived.Test.YthnlllbanfemaaaGreatDoorMg12
import Derived.Test.YthnlllbanfemaaaGreatDoorMg1
import Derived.Test.YthnlllbanfemaaaGreatDoorMg4
import Derived.Laws.AppendOwnNone
import Derived.Test.YthnlllbanfemaaaGreatDoorRows
import Derived.WalkKit
import Derived.RegionTactic
import Derived.Deep.RegionHeld3
import Derived.Test.YthnlllbanfemaaaGreatDoorMg3
namespace Go.Proofs.YthnlllbanfemaaaGreatDoor
open Go.ChangeShapes Go.WideShapes Go.ChangeAt Go.RowKit
set_option linter.unusedVariables false
set_option maxRecDepth 100000

theorem infoRc : (Tryz.prog.info? 54).map (fun i => (i.zero, i.size, i.bytes)) = some (some (.agg #[.string ByteArray.empty, .int .i64 0]), 2, 24) := by kernel_rfl
def RcLaid (cur : Array Value) (l : Recs) (k : Nat) : Prop := ∀ j, j < k → cur[j * 2]? = some (.string (keyAt l j)) ∧ cur[j * 2 + 1]? = some (.int .i64 (numAt l j))
def cellsRc (W : Recs) : List Value := W.flatMap fun r => [Value.string r.1, Value.int .i64 r.2]
theorem cellsRc_nil : cellsRc [] = [] := rfl
theorem cellsRc_snoc (W : Recs) (x0 : ByteArray) (x1 : Int) : cellsRc (W ++ [(x0, x1)]) = cellsRc W ++ [.string x0, .int .i64 x1] := by simp [cellsRc]
theorem cellsRc_append (W V : Recs) : cellsRc (W ++ V) = cellsRc W ++ cellsRc V := by simp [cellsRc]
theorem cellsRc_one_row (x0 : ByteArray) (x1 : Int) : cellsRc [(x0, x1)] = [.string x0, .int .i64 x1] := by simp [cellsRc]
theorem cellsRc_len : ∀ W : Recs, (cellsRc W).length = W.length * 2
  | [] => rfl
  | r :: t => by
    have := cellsRc_len t
    simp only [cellsRc] at this
    simp [cellsRc, List.flatMap_cons, this]; omega
theorem cellsRc_get : ∀ (W : Recs) (j : Nat), j < W.length → (cellsRc W)[j * 2]? = some (.string (keyAt W j)) ∧ (cellsRc W)[j * 2 + 1]? = some (.int .i64 (numAt W j))
  | [], j, h => by simp at h
  | r :: t, 0, h => by simp [cellsRc, keyAt, numAt]
  | r :: t, j + 1, h => by
    have := cellsRc_get t j (by simpa using h)
    have e : (j + 1) * 2 = j * 2 + 2 := by omega
    simp only [cellsRc] at this
    rw [e]
    have e0 : j * 2 + 2 = j * 2 + 1 + 1 := by omega
    have e1 : j * 2 + 2 + 1 = j * 2 + 1 + 1 + 1 := by omega
    rw [e1, e0]
    simp only [cellsRc, List.flatMap_cons, List.cons_append, List.nil_append, List.getElem?_cons_succ]
    simpa [keyAt, numAt] using this
theorem rc_cells1 : ∀ W : Recs, ∀ u ∈ cellsRc W, u.oneCell' = true := by
  intro W u hu
  unfold cellsRc at hu
  rw [List.mem_flatMap] at hu
  obtain ⟨r, _, hr⟩ := hu
  simp only [List.mem_cons, or_false, List.not_mem_nil] at hr
  rcases hr with rfl | rfl
  all_goals rfl
theorem rc_new (w : World) (x0 : ByteArray) (x1 : Int) (t : TypeId) : ∀ j u, [Value.string x0, Value.int .i64 x1][j]? = some u → (w.alloc (.cells #[.string x0, .int .i64 x1] t)).cell? ((⟨w.heap.size, 0, none⟩ : Addr).add j) = some u := by
  intro j u hj
  match j, hj with
  | 0, hj => simp at hj; subst hj; simp [Addr.add]
  | 1, hj => simp at hj; subst hj; simp [Addr.add]
theorem rc_at_row {w : World} {B : Nat} (x0 : ByteArray) (x1 : Int) {t : TypeId} (h : Row w B t #[.string x0, .int .i64 x1]) : ∀ j u, [Value.string x0, Value.int .i64 x1][j]? = some u → w.cell? ((⟨B, 0, none⟩ : Addr).add j) = some u := by
  intro j u hj
  unfold Row at h
  match j, hj with
  | 0, hj => simp at hj; subst hj; simp [Addr.add, World.cell?, h]
  | 1, hj => simp at hj; subst hj; simp [Addr.add, World.cell?, h]

/-- The slice (q, length of W) holds the values W in a row from block 'base' on. -/
def RcK (base : Nat) (w : World) (q : Option Addr) (W : Recs) : Prop :=
  W.length = 0 ∨ ∃ g cur, q = some ⟨g, 0, none⟩ ∧ base ≤ g ∧ Row w g 54 cur ∧ W.length * 2 ≤ cur.size ∧ RcLaid cur W W.length
theorem rck_of_own {base : Nat} {w : World} {q : Option Addr} {m cp : Nat} {W : Recs} (h : w.ownsRow base 54 2 (.slice q m cp) W.length (cellsRc W)) : RcK base w q W := by
  rcases h.2 with ⟨h1, h2⟩ | ⟨g, cap, cur, hv, hb, hh, h1, _, h3, h4⟩
  · exact .inl h2
  · simp only [Value.slice.injEq] at hv
    obtain ⟨rfl, _, rfl⟩ := hv
    refine .inr ⟨g, cur, rfl, hb, hh, by omega, fun j hj => ?_⟩
    obtain ⟨e0, e1⟩ := cellsRc_get W j hj
    rw [← h4, List.getElem?_take_of_lt (by omega)] at e0 e1
    exact ⟨by simpa using e0, by simpa using e1⟩
theorem rck_keep {base : Nat} {w w1 : World} {q : Option Addr} {W : Recs} (h : RcK base w q W) (hB : Below w.heap.size w w1) : RcK base w1 q W := by
  rcases h with h0 | ⟨g, cur, rfl, hb, hr, h1, h2⟩
  · exact .inl h0
  · exact .inr ⟨g, cur, rfl, hb, hr.keep hB, h1, h2⟩
theorem rck_low {base B : Nat} {w : World} {q : Option Addr} {W : Recs} (h : RcK B w q W) (hb : base ≤ B) : RcK base w q W := by
  rcases h with h0 | ⟨g, cur, rfl, h1, hr, h2, h3⟩
  · exact .inl h0
  · exact .inr ⟨g, cur, rfl, Nat.le_trans hb h1, hr, h2, h3⟩
theorem rck_lt {base : Nat} {w : World} {q : Option Addr} {W : Recs} (h : RcK base w q W) (hn : 0 < W.length) : ∀ g, q = some ⟨g, 0, none⟩ → base ≤ g ∧ g < w.heap.size := by
  intro g hg
  rcases h with h0 | ⟨g', cur, rfl, hb, hr, h1, h2⟩
  · omega
  · simp only [Option.some.injEq, Addr.mk.injEq, and_true] at hg
    rw [← hg]; exact ⟨hb, hr.lt⟩
theorem rck_grown {base : Nat} {w w1 : World} {q : Option Addr} {W : Recs} {row : Option Nat} (h : RcK base w q W) (hg : w.grownBy w1 row) (hne : ∀ g, q = some ⟨g, 0, none⟩ → some g ≠ row) : RcK base w1 q W := by
  rcases h with h0 | ⟨g', cur, rfl, hb, hr, h1, h2⟩
  · exact .inl h0
  · exact .inr ⟨g', cur, rfl, hb, (hg.block g' hr.lt (hne g' rfl)).trans hr, h1, h2⟩
theorem rck_put {base : Nat} {w : World} {q : Option Addr} {W : Recs} (h : RcK base w q W) {X : Nat} (hne : ∀ g, q = some ⟨g, 0, none⟩ → g ≠ X) (j : Nat) (v : Value) : RcK base (w.setCell ⟨X, j, none⟩ v) q W := by
  rcases h with h0 | ⟨g', cur, rfl, hb, hr, h1, h2⟩
  · exact .inl h0
  · exact .inr ⟨g', cur, rfl, hb, hr.other (hne g' rfl) j v, h1, h2⟩
theorem rcs_of_k {base n : Nat} {w : World} {q : Option Addr} {W : Recs} (h : RcK base w q W) (hn : W.length = n) (hm : n ≤ maxLen) (hs : ∀ i, i < n → (keyAt W i).size ≤ maxLen) : RecsAt w q n W := by
  subst hn
  refine ⟨rfl, hm, hs, ?_⟩
  rcases h with h0 | ⟨g, cur, rfl, _, hr, _, hc⟩
  · exact .inl h0
  · refine .inr ⟨g, 0, rfl, hr.lt, fun i hi => ?_⟩
    obtain ⟨e0, e1⟩ := hc i hi
    unfold Row at hr
    simp [World.cell?, hr, e0, e1]

/-! ### pieces of a slice that may be read, and appends of them -/
theorem rc_at_take (l : Recs) (k i : Nat) (h : i < k) : keyAt (l.take k) i = keyAt l i ∧ numAt (l.take k) i = numAt l i := by
  refine ⟨?_, ?_⟩ <;> simp [keyAt, numAt, List.getElem?_take_of_lt h]
theorem rc_at_drop (l : Recs) (k i : Nat) : keyAt (l.drop k) i = keyAt l (k + i) ∧ numAt (l.drop k) i = numAt l (k + i) := by
  refine ⟨?_, ?_⟩ <;> simp [keyAt, numAt]
theorem rcs_take {w : World} {a : Option Addr} {len : Nat} {l : Recs} (h : RecsAt w a len l) {k : Nat} (hk : k ≤ len) : RecsAt w a k (l.take k) := by
  have hl := h.length
  refine ⟨by rw [List.length_take]; omega, Nat.le_trans hk h.max, fun i hi => ?_, ?_⟩
  · obtain ⟨e0, e1⟩ := rc_at_take l k i hi
    have := h.keys i (by omega)
    simpa only [e0, e1] using this
  · rcases h.src with h0 | ⟨b, off, ha, hb, hc⟩
    · exact .inl (by omega)
    · refine .inr ⟨b, off, ha, hb, fun i hi => ?_⟩
      obtain ⟨e0, e1⟩ := rc_at_take l k i hi
      have := hc i (by omega)
      simpa only [e0, e1] using this
theorem rcs_drop {w : World} {b off : Nat} {len : Nat} {l : Recs} (h : RecsAt w (some ⟨b, off, none⟩) len l) {k : Nat} (hk : k ≤ len) : RecsAt w (some ⟨b, off + k * 2, none⟩) (len - k) (l.drop k) := by
  have hl := h.length
  have hm := h.max
  refine ⟨by rw [List.length_drop]; omega, by omega, fun i hi => ?_, ?_⟩
  · obtain ⟨e0, e1⟩ := rc_at_drop l k i
    have := h.keys (k + i) (by omega)
    simpa only [e0, e1] using this
  · rcases h.src with h0 | ⟨b', off', ha, hb, hc⟩
    · exact .inl (by omega)
    · simp only [Option.some.injEq, Addr.mk.injEq, and_true] at ha
      obtain ⟨rfl, rfl⟩ := ha
      refine .inr ⟨b, off + k * 2, rfl, hb, fun i hi => ?_⟩
      obtain ⟨e0, e1⟩ := rc_at_drop l k i
      have := hc (k + i) (by omega)
      rw [show off + (k + i) * 2 = off + k * 2 + i * 2 by rw [Nat.add_mul]; omega] at this
      simpa only [e0, e1] using this
theorem rcs_none {w : World} {a a' : Option Addr} {len : Nat} {l : Recs} (h : RecsAt w a len l) (hn : len = 0) : RecsAt w a' 0 [] := ⟨rfl, Nat.zero_le _, fun i hi => by omega, .inl rfl⟩
theorem rc_cells_at {w : World} {q : Addr} {len : Nat} {l : Recs} (h : RecsAt w (some q) len l) : ∀ j u, (cellsRc l)[j]? = some u → w.cell? (q.add j) = some u := by
  intro j u hj
  have hl := h.length
  have hjl : j < l.length * 2 := by
    obtain ⟨h1, _⟩ := List.getElem?_eq_some_iff.1 hj
    rw [cellsRc_len] at h1; exact h1
  rcases h.src with h0 | ⟨b, off, ha, hb, hc⟩
  · omega
  · simp only [Option.some.injEq] at ha
    subst ha
    have hi : j / 2 < len := by omega
    obtain ⟨c0, c1⟩ := hc (j / 2) hi
    obtain ⟨e0, e1⟩ := cellsRc_get l (j / 2) (by omega)
    have hadd : (⟨b, off, none⟩ : Addr).add j = ⟨b, off + j, none⟩ := by
      unfold Addr.add
      split
      · rename_i h0; subst h0; rfl
      · rfl
    rw [hadd]
    have hr : j % 2 < 2 := Nat.mod_lt _ (by decide)
    have hd : 2 * (j / 2) + j % 2 = j := Nat.div_add_mod j 2
    rcases (show j % 2 = 0 ∨ j % 2 = 1 by omega) with hr0 | hr1
    · have ej : j = j / 2 * 2 := by omega
      have e := e0
      rw [← ej] at e
      rw [e] at hj
      rw [← hj, show off + j = off + j / 2 * 2 by omega]
      exact c0
    · have ej : j = j / 2 * 2 + 1 := by omega
      have e := e1
      rw [← ej] at e
      rw [e] at hj
      rw [← hj, show off + j = off + j / 2 * 2 + 1 by omega]
      exact c1

theorem own_cellsRc {w : World} {base : Nat} {v : Value} {W : Recs} {xs : List Value} {m k : Nat} (h : w.ownsRow base 54 2 v m xs) (hm : m = k) (hx : xs = cellsRc W) : w.ownsRow base 54 2 v k (cellsRc W) := by rw [← hm, ← hx]; exact h
/-- append of values that may be read, nil or not, to a row of the call's own. -/
theorem wp_append_rc {o : Oper} {a : Act} {K : Act → World → Prop} {Q : Exit → Act → World → Prop} {w : World} (s x : Operand)
    (ho : o.op = .call { callee := .builtin .append, args := #[s, x], argTypes := #[26, 26] })
    (base : Nat) (v : Value) (n : Nat) (W : Recs) (hs : a.eval s = v) (hown : w.ownsRow base 54 2 v n (cellsRc W))
    (q : Option Addr) (m c : Nat) (V : Recs) (hx : a.eval x = .slice q m c) (hrec : RecsAt w q m V) (hnone : q = none → c = 0) (h6 : n + m ≤ 2097152) (hbase : base ≤ w.heap.size)
    (h : ∀ q' c' w', w'.ownsRow base 54 2 (.slice q' (n + m) c') (n + m) (cellsRc (W ++ V)) → w.grownBy w' v.ownBlock → K (a.put o.dst (.slice q' (n + m) c')) w') : o.wp Tryz.prog a w K Q := by
  obtain ⟨i0, hi, hz0, hz1, hz2⟩ := info_parts infoRc
  cases q with
  | none =>
    have hc := hnone rfl
    have hm : m = 0 := by
      rcases hrec.src with h0 | ⟨b, off, ha, _⟩
      · exact h0
      · cases ha
    subst hm hc
    obtain rfl : V = [] := List.eq_nil_of_length_eq_zero hrec.length
    obtain ⟨q', c', rfl⟩ := own_form hown
    have h0 := h q' c' w (by simpa using hown) (World.grownBy.refl _ _)
    have hrun := run_append_owned_none (P := Tryz.prog) (w := w) base 26 o.type 54 i0 2 Tryz.underlying26 hi _ n _ hown
    unfold Oper.wp
    simp [execOp, ho, resolve, invoke, builtin, hs, hx, hrun, Result.andThen]
    exact h0
  | some p =>
    exact wp_append_own w s x 26 ho base 54 i0 _ 2 24 Tryz.underlying26 hi hz0 hz1 hz2 rfl (by decide) v n _ hs hown p m c (cellsRc V) hx (by rw [cellsRc_len, hrec.length]) (rc_cells_at hrec) (rc_cells1 _) (by unfold maxLen; omega) (by omega) hbase fun v' w' h2 h3 h4 => by
      obtain ⟨q', c', rfl⟩ := own_form h2
      exact h q' c' w' (by rw [cellsRc_append]; exact h2) h3
theorem append_rc {ops : Array Oper} {rest : List Oper} {o : Oper} {a : Act} {Q : Exit → Act → World → Prop} {w : World} (hg : o.guard = none) (s x : Operand)
    (ho : o.op = .call { callee := .builtin .append, args := #[s, x], argTypes := #[26, 26] })
    (base : Nat) (v : Value) (n : Nat) (W : Recs) (hs : a.eval s = v) (hown : w.ownsRow base 54 2 v n (cellsRc W))
    (q : Option Addr) (m c : Nat) (V : Recs) (hx : a.eval x = .slice q m c) (hrec : RecsAt w q m V) (hnone : q = none → c = 0) (h6 : n + m ≤ 2097152) (hbase : base ≤ w.heap.size)
    (h : ∀ q' c' w', w'.ownsRow base 54 2 (.slice q' (n + m) c') (n + m) (cellsRc (W ++ V)) → w.grownBy w' v.ownBlock → wpList Tryz.prog ops Q rest (a.put o.dst (.slice q' (n + m) c')) w') : wpList Tryz.prog ops Q (o :: rest) a w :=
  wpList_plain hg fun _ hK => wp_append_rc s x ho base v n W hs hown q m c V hx hrec hnone h6 hbase fun q' c' w' h2 h3 => hK _ _ (h q' c' w' h2 h3)
/-- At a step of a region that draws its order. -/
theorem step_append_rc {ops : Array Oper} {o : Oper} {a : Act} {K : Act → World → Prop} {Q : Exit → Act → World → Prop} {Ee : Prop} {w : World} (hg : o.guard = none) (s x : Operand)
    (ho : o.op = .call { callee := .builtin .append, args := #[s, x], argTypes := #[26, 26] })
    (base : Nat) (v : Value) (n : Nat) (W : Recs) (hs : a.eval s = v) (hown : w.ownsRow base 54 2 v n (cellsRc W))
    (q : Option Addr) (m c : Nat) (V : Recs) (hx : a.eval x = .slice q m c) (hrec : RecsAt w q m V) (hnone : q = none → c = 0) (h6 : n + m ≤ 2097152) (hbase : base ≤ w.heap.size)
    (h : ∀ q' c' w', w'.ownsRow base 54 2 (.slice q' (n + m) c') (n + m) (cellsRc (W ++ V)) → w.grownBy w' v.ownBlock → K (a.put o.dst (.slice q' (n + m) c')) w') :
    if Region.wanted o (yielded ops a.tmps) = true then Oper.wp Tryz.prog o a w K Q else Ee := by
  have hw : Region.wanted o (yielded ops a.tmps) = true := by simp [Region.wanted, hg]
  rw [if_pos hw]
  exact wp_append_rc s x ho base v n W hs hown q m c V hx hrec hnone h6 hbase h
/-- append of one value that has just been laid in a block of its own. -/
theorem wp_append1_rc {o : Oper} {a : Act} {K : Act → World → Prop} {Q : Exit → Act → World → Prop} {w : World} (s x : Operand)
    (ho : o.op = .call { callee := .builtin .append, args := #[s, x], argTypes := #[26, 26] })
    (base : Nat) (v : Value) (n : Nat) (W : Recs) (hs : a.eval s = v) (hown : w.ownsRow base 54 2 v n (cellsRc W))
    (B c : Nat) (x0 : ByteArray) (x1 : Int) (hx : a.eval x = .slice (some ⟨B, 0, none⟩) 1 c) (hrow : ∀ j u, [Value.string x0, Value.int .i64 x1][j]? = some u → w.cell? ((⟨B, 0, none⟩ : Addr).add j) = some u) (h6 : n + 1 ≤ 2097152) (hbase : base ≤ w.heap.size)
    (h : ∀ q' c' w', w'.ownsRow base 54 2 (.slice q' (n + 1) c') (n + 1) (cellsRc (W ++ [(x0, x1)])) → w.grownBy w' v.ownBlock → K (a.put o.dst (.slice q' (n + 1) c')) w') : o.wp Tryz.prog a w K Q := by
  obtain ⟨i0, hi, hz0, hz1, hz2⟩ := info_parts infoRc
  exact wp_append_own w s x 26 ho base 54 i0 _ 2 24 Tryz.underlying26 hi hz0 hz1 hz2 rfl (by decide) v n _ hs hown ⟨B, 0, none⟩ 1 c [Value.string x0, Value.int .i64 x1] hx rfl hrow (fun u hu => rc_cells1 [(x0, x1)] u (by rw [cellsRc_one_row]; exact hu)) (by unfold maxLen; omega) (by omega) hbase fun v' w' h2 h3 h4 => by
    obtain ⟨q', c', rfl⟩ := own_form h2
    exact h q' c' w' (by rw [cellsRc_snoc]; exact h2) h3
theorem step_append1_rc {ops : Array Oper} {Ee : Prop} {o : Oper} {a : Act} {K : Act → World → Prop} {Q : Exit → Act → World → Prop} {w : World} (hg : o.guard = none) (s x : Operand)
    (ho : o.op = .call { callee := .builtin .append, args := #[s, x], argTypes := #[26, 26] })
    (base : Nat) (v : Value) (n : Nat) (W : Recs) (hs : a.eval s = v) (hown : w.ownsRow base 54 2 v n (cellsRc W))
    (B c : Nat) (x0 : ByteArray) (x1 : Int) (hx : a.eval x = .slice (some ⟨B, 0, none⟩) 1 c) (hrow : ∀ j u, [Value.string x0, Value.int .i64 x1][j]? = some u → w.cell? ((⟨B, 0, none⟩ : Addr).add j) = some u) (h6 : n + 1 ≤ 2097152) (hbase : base ≤ w.heap.size)
    (h : ∀ q' c' w', w'.ownsRow base 54 2 (.slice q' (n + 1) c') (n + 1) (cellsRc (W ++ [(x0, x1)])) → w.grownBy w' v.ownBlock → K (a.put o.dst (.slice q' (n + 1) c')) w') :
    if Region.wanted o (yielded ops a.tmps) = true then Oper.wp Tryz.prog o a w K Q else Ee := by
  have hw : Region.wanted o (yielded ops a.tmps) = true := by simp [Region.wanted, hg]
  rw [if_pos hw]
  exact wp_append1_rc s x ho base v n W hs hown B c x0 x1 hx hrow h6 hbase h
theorem append1_rc {ops : Array Oper} {rest : List Oper} {o : Oper} {a : Act} {Q : Exit → Act → World → Prop} {w : World} (hg : o.guard = none) (s x : Operand)
    (ho : o.op = .call { callee := .builtin .append, args := #[s, x], argTypes := #[26, 26] })
    (base : Nat) (v : Value) (n : Nat) (W : Recs) (hs : a.eval s = v) (hown : w.ownsRow base 54 2 v n (cellsRc W))
    (B c : Nat) (x0 : ByteArray) (x1 : Int) (hx : a.eval x = .slice (some ⟨B, 0, none⟩) 1 c) (hrow : ∀ j u, [Value.string x0, Value.int .i64 x1][j]? = some u → w.cell? ((⟨B, 0, none⟩ : Addr).add j) = some u) (h6 : n + 1 ≤ 2097152) (hbase : base ≤ w.heap.size)
    (h : ∀ q' c' w', w'.ownsRow base 54 2 (.slice q' (n + 1) c') (n + 1) (cellsRc (W ++ [(x0, x1)])) → w.grownBy w' v.ownBlock → wpList Tryz.prog ops Q rest (a.put o.dst (.slice q' (n + 1) c')) w') : wpList Tryz.prog ops Q (o :: rest) a w :=
  wpList_plain hg fun _ hK => wp_append1_rc s x ho base v n W hs hown B c x0 x1 hx hrow h6 hbase fun q' c' w' h2 h3 => hK _ _ (h q' c' w' h2 h3)
theorem own_nilRc (w : World) (base : Nat) : w.ownsRow base 54 2 (.slice none 0 0) 0 (cellsRc []) := ⟨rfl, .inl ⟨rfl, rfl⟩⟩
/-- An array of no length that has just been made. -/
theorem own_zeroRc {w : World} {base B : Nat} (h : Row w B 54 #[]) (hb : base ≤ B) : w.ownsRow base 54 2 (.slice (some ⟨B, 0, none⟩) 0 0) 0 (cellsRc []) := ⟨rfl, .inr ⟨B, 0, #[], rfl, hb, h, Nat.le_refl _, Nat.zero_le _, rfl, rfl⟩⟩

/-- The row of a slice that is not empty. -/
theorem own_rowRc {w : World} {base : Nat} {q : Option Addr} {n m c : Nat} {xs : List Value} (h : w.ownsRow base 54 2 (.slice q m c) n xs) (hn : 0 < n) : ∃ g cur, q = some ⟨g, 0, none⟩ ∧ m = n ∧ base ≤ g ∧ Row w g 54 cur ∧ n ≤ c ∧ c ≤ maxLen ∧ cur.size = c * 2 ∧ cur.toList.take (n * 2) = xs := by
  rcases h.2 with ⟨_, h0⟩ | ⟨g, cap, cur, hv, hb, hh, h1, h2, h3, h4⟩
  · omega
  · simp only [Value.slice.injEq] at hv
    obtain ⟨rfl, rfl, rfl⟩ := hv
    exact ⟨g, cur, rfl, rfl, hb, hh, h1, h2, h3, h4⟩
theorem cellsRc_set : ∀ (W : Recs) (p : Nat) (x0 : ByteArray) (x1 : Int), p < W.length → cellsRc (W.set p (x0, x1)) = (((cellsRc W).set (p * 2) (.string x0)).set (p * 2 + 1) (.int .i64 x1))
  | [], p, x0, x1, h => by simp at h
  | r :: t, 0, x0, x1, h => by simp [cellsRc]
  | r :: t, p + 1, x0, x1, h => by
    have ih := cellsRc_set t p x0 x1 (by simpa using h)
    rw [List.set_cons_succ]
    have e : ∀ W : Recs, ∀ r, cellsRc (r :: W) = [Value.string r.1, Value.int .i64 r.2] ++ cellsRc W := fun W r => rfl
    rw [e, e, ih]
    have f0 : (p + 1) * 2 = p * 2 + 1 + 1 := by omega
    have f1 : (p + 1) * 2 + 1 = p * 2 + 1 + 1 + 1 := by omega
    rw [f1, f0]
    simp only [List.cons_append, List.nil_append, List.set_cons_succ]
/-- One value of an own row laid anew. -/
theorem own_setRc {w : World} {base g n c : Nat} {W : Recs} (h : w.ownsRow base 54 2 (.slice (some ⟨g, 0, none⟩) n c) n (cellsRc W)) {p : Nat} (hp : p < n) (x0 : ByteArray) (x1 : Int) :
    ((w.setCell ⟨g, p * 2, none⟩ (.string x0)).setCell ⟨g, p * 2 + 1, none⟩ (.int .i64 x1)).ownsRow base 54 2 (.slice (some ⟨g, 0, none⟩) n c) n (cellsRc (W.set p (x0, x1))) := by
  have hl := h.1
  rw [cellsRc_len] at hl
  have hl2 : W.length = n := by omega
  obtain ⟨g', cur, hq, _, hb, hr, h1, h2, h3, h4⟩ := own_rowRc h (by omega)
  simp only [Option.some.injEq, Addr.mk.injEq, and_true] at hq
  subst hq
  refine ⟨by rw [cellsRc_len, List.length_set, hl2], .inr ⟨g, c, ((cur.setIfInBounds (p * 2) (.string x0)).setIfInBounds (p * 2 + 1) (.int .i64 x1)), rfl, hb, (hr.set _ _).set _ _, h1, h2, by simpa using h3, ?_⟩⟩
  rw [cellsRc_set W p x0 x1 (by omega), ← h4]
  simp only [Array.toList_setIfInBounds, List.take_set]
end Go.Proofs.YthnlllbanfemaaaGreatDoor
namespace Go.Proofs.YthnlllbanfemaaaGreatDoor
set_option linter.unusedVariables false

section
variable {P : Program} {ops : Array Oper} {Q : Exit → Act → World → Prop} {md : Region.Mode} {S : World → Prop}

theorem held_take {i d : Nat} {oi : Oper} {v : Value} {fuel : Nat} {listed : Array Bool} {a : Act} {w : World} (hi : ops[i]? = some oi) (hd : oi.dst = some d)
    (hs : Region.noSelect ops = true) (hf : Region.free md ops listed i = true) (hr : (Region.ready md ops listed).contains i = true)
    (hw : Region.wanted oi (yielded ops a.tmps) = true) (hy : ∀ w, S w → (execOp a.eval oi).run P w = .ok (.value v) w) (hS : S w)
    (h : wpAnyH P md ops (NoPanic Q) S fuel (listed.setIfInBounds i true) { a with tmps := a.tmps.setIfInBounds d v } w) : wpAnyH P md ops (NoPanic Q) S (fuel + 1) listed a w :=
  wpAnyH_take hi hs hf hr (fun _ _ _ h => h) (Or.inl ⟨hw, hy⟩) hS (by rw [hd]; exact h)

theorem held_skip {i d : Nat} {oi : Oper} {fuel : Nat} {listed : Array Bool} {a : Act} {w : World} (hi : ops[i]? = some oi) (hd : oi.dst = some d)
    (hs : Region.noSelect ops = true) (hf : Region.free md ops listed i = true) (hr : (Region.ready md ops listed).contains i = true)
    (hw : Region.wanted oi (yielded ops a.tmps) = false) (hS : S w)
    (h : wpAnyH P md ops (NoPanic Q) S fuel (listed.setIfInBounds i true) { a with tmps := a.tmps.setIfInBounds d undef } w) : wpAnyH P md ops (NoPanic Q) S (fuel + 1) listed a w :=
  wpAnyH_take hi hs hf hr (fun _ _ _ h => h) (Or.inr ⟨hw, rfl⟩) hS (by rw [hd]; exact h)
/-- A stronger condition may be taken on the way. -/
theorem held_mono {S' : World → Prop} (hs : ∀ w, S' w → S w) : ∀ {fuel : Nat} {listed : Array Bool} {a : Act} {w : World}, wpAnyH P md ops Q S' fuel listed a w → wpAnyH P md ops Q S fuel listed a w
  | 0, _, _, _, h => h
  | fuel + 1, _, _, _, h => ⟨h.1, fun i hi => wpOp_mono (fun a' w' h' => ⟨hs w' h'.1, held_mono hs h'.2⟩) (h.2 i hi)⟩
end
end Go.Proofs.YthnlllbanfemaaaGreatDoor
namespace Go.Proofs.YthnlllbanfemaaaGreatDoor
open Go.ChangeShapes Go.WideShapes Go.ChangeAt Go.RowKit
set_option linter.unusedVariables false

theorem ba_eqv {a b : ByteArray} (h : a = b) : (a.toList == b.toList) = true := by rw [h]; simp
theorem ba_nev {a b : ByteArray} (h : ¬ a = b) : (a.toList == b.toList) = false := by
  rw [beq_eq_false_iff_ne]
  intro e
  rw [ByteArray.toList_eq, ByteArray.toList_eq] at e
  exact h (ba_eq e)
theorem ba_some {s : ByteArray} (h : 0 < s.size) : s.toList.isEmpty = false := by
  rw [ByteArray.toList_eq]
  cases hs : s.data.toList with
  | nil =>
    have : s.size = 0 := by rw [← ByteArray.size_data, ← Array.length_toList, hs]; rfl
    omega
  | cons x t => rfl
theorem ba_nil {s : ByteArray} (h : s.size = 0) : s.toList.isEmpty = true := by
  rw [ByteArray.toList_eq]
  have : s.data.toList = [] := List.eq_nil_of_length_eq_zero (by rw [Array.length_toList]; exact h)
  rw [this]; rfl
theorem lit_yes {a : ByteArray} {l : List UInt8} (h : a = ⟨l.toArray⟩) : (a.toList == l) = true := by rw [ByteArray.toList_eq, h]; simp
theorem lit_no {a : ByteArray} {l : List UInt8} (h : ¬ a = ⟨l.toArray⟩) : (a.toList == l) = false := by
  rw [ByteArray.toList_eq, beq_eq_false_iff_ne]
  intro e
  exact h (ba_eq (by rw [e]))
end Go.Proofs.YthnlllbanfemaaaGreatDoor
