
/- Slices of State values in rows of the call's own: appends to them, and the laws' look whether they were kept. Only the own row and new blocks change. -/
import Derived.Test.YtbjlojmadellgaaGreatDoorMg2
import Derived.Test.YtbjlojmadellgaaGreatDoorStateMark
import Derived.Test.YtbjlojmadellgaaGreatDoorMg1
import Derived.Laws.AppendOwnNone
namespace Go.Proofs.YtbjlojmadellgaaGreatDoor
open Go.ChangeShapes Go.WideShapes Go.ChangeAt Go.RowKit
set_option linter.unusedVariables false
set_option maxRecDepth 100000

def cellsState (W : States) : List Value := W.flatMap fun r => [Value.int .i64 r.1, Value.int .i64 r.2.1, Value.int .i64 r.2.2]
theorem cellsState_nil : cellsState [] = [] := rfl
theorem cellsState_snoc (W : States) (x0 : Int) (x1 : Int) (x2 : Int) : cellsState (W ++ [(x0, x1, x2)]) = cellsState W ++ [.int .i64 x0, .int .i64 x1, .int .i64 x2] := by simp [cellsState]
theorem cellsState_append (W V : States) : cellsState (W ++ V) = cellsState W ++ cellsState V := by simp [cellsState]
theorem cellsState_one_row (x0 : Int) (x1 : Int) (x2 : Int) : cellsState [(x0, x1, x2)] = [.int .i64 x0, .int .i64 x1, .int .i64 x2] := by simp [cellsState]
theorem cellsState_len : ∀ W : States, (cellsState W).length = W.length * 3
  | [] => rfl
  | r :: t => by
    have := cellsState_len t
    simp only [cellsState] at this
    simp [cellsState, List.flatMap_cons, this]; omega
theorem cellsState_get : ∀ (W : States) (j : Nat), j < W.length → (cellsState W)[j * 3]? = some (.int .i64 (bst0 W j)) ∧ (cellsState W)[j * 3 + 1]? = some (.int .i64 (bst1 W j)) ∧ (cellsState W)[j * 3 + 2]? = some (.int .i64 (bst2 W j))
  | [], j, h => by simp at h
  | r :: t, 0, h => by simp [cellsState, bst0, bst1, bst2]
  | r :: t, j + 1, h => by
    have := cellsState_get t j (by simpa using h)
    have e : (j + 1) * 3 = j * 3 + 3 := by omega
    simp only [cellsState] at this
    rw [e]
    have e0 : j * 3 + 3 = j * 3 + 1 + 1 + 1 := by omega
    have e1 : j * 3 + 3 + 1 = j * 3 + 1 + 1 + 1 + 1 := by omega
    have e2 : j * 3 + 3 + 2 = j * 3 + 2 + 1 + 1 + 1 := by omega
    rw [e1, e2, e0]
    simp only [cellsState, List.flatMap_cons, List.cons_append, List.nil_append, List.getElem?_cons_succ]
    simpa [bst0, bst1, bst2] using this
theorem bst_cells1 : ∀ W : States, ∀ u ∈ cellsState W, u.oneCell' = true := by
  intro W u hu
  unfold cellsState at hu
  rw [List.mem_flatMap] at hu
  obtain ⟨r, _, hr⟩ := hu
  simp only [List.mem_cons, or_false, List.not_mem_nil] at hr
  rcases hr with rfl | rfl | rfl
  all_goals rfl
theorem bst_new (w : World) (x0 : Int) (x1 : Int) (x2 : Int) (t : TypeId) : ∀ j u, [Value.int .i64 x0, Value.int .i64 x1, Value.int .i64 x2][j]? = some u → (w.alloc (.cells #[.int .i64 x0, .int .i64 x1, .int .i64 x2] t)).cell? ((⟨w.heap.size, 0, none⟩ : Addr).add j) = some u := by
  intro j u hj
  match j, hj with
  | 0, hj => simp at hj; subst hj; simp [Addr.add]
  | 1, hj => simp at hj; subst hj; simp [Addr.add]
  | 2, hj => simp at hj; subst hj; simp [Addr.add]
theorem bst_at_row {w : World} {B : Nat} (x0 : Int) (x1 : Int) (x2 : Int) {t : TypeId} (h : Row w B t #[.int .i64 x0, .int .i64 x1, .int .i64 x2]) : ∀ j u, [Value.int .i64 x0, Value.int .i64 x1, Value.int .i64 x2][j]? = some u → w.cell? ((⟨B, 0, none⟩ : Addr).add j) = some u := by
  intro j u hj
  unfold Row at h
  match j, hj with
  | 0, hj => simp at hj; subst hj; simp [Addr.add, World.cell?, h]
  | 1, hj => simp at hj; subst hj; simp [Addr.add, World.cell?, h]
  | 2, hj => simp at hj; subst hj; simp [Addr.add, World.cell?, h]

/-- The slice (q, length of W) holds the values W in a row from block 'base' on. -/
def StateK (base : Nat) (w : World) (q : Option Addr) (W : States) : Prop :=
  W.length = 0 ∨ ∃ g cur, q = some ⟨g, 0, none⟩ ∧ base ≤ g ∧ Row w g 77 cur ∧ W.length * 3 ≤ cur.size ∧ StateLaid cur W W.length
theorem bstk_of_own {base : Nat} {w : World} {q : Option Addr} {m cp : Nat} {W : States} (h : w.ownsRow base 77 3 (.slice q m cp) W.length (cellsState W)) : StateK base w q W := by
  rcases h.2 with ⟨h1, h2⟩ | ⟨g, cap, cur, hv, hb, hh, h1, _, h3, h4⟩
  · exact .inl h2
  · simp only [Value.slice.injEq] at hv
    obtain ⟨rfl, _, rfl⟩ := hv
    refine .inr ⟨g, cur, rfl, hb, hh, by omega, fun j hj => ?_⟩
    obtain ⟨e0, e1, e2⟩ := cellsState_get W j hj
    rw [← h4, List.getElem?_take_of_lt (by omega)] at e0 e1 e2
    exact ⟨by simpa using e0, by simpa using e1, by simpa using e2⟩
theorem bstk_keep {base : Nat} {w w1 : World} {q : Option Addr} {W : States} (h : StateK base w q W) (hB : Below w.heap.size w w1) : StateK base w1 q W := by
  rcases h with h0 | ⟨g, cur, rfl, hb, hr, h1, h2⟩
  · exact .inl h0
  · exact .inr ⟨g, cur, rfl, hb, hr.keep hB, h1, h2⟩
theorem bstk_low {base B : Nat} {w : World} {q : Option Addr} {W : States} (h : StateK B w q W) (hb : base ≤ B) : StateK base w q W := by
  rcases h with h0 | ⟨g, cur, rfl, h1, hr, h2, h3⟩
  · exact .inl h0
  · exact .inr ⟨g, cur, rfl, Nat.le_trans hb h1, hr, h2, h3⟩
theorem bstk_lt {base : Nat} {w : World} {q : Option Addr} {W : States} (h : StateK base w q W) (hn : 0 < W.length) : ∀ g, q = some ⟨g, 0, none⟩ → base ≤ g ∧ g < w.heap.size := by
  intro g hg
  rcases h with h0 | ⟨g', cur, rfl, hb, hr, h1, h2⟩
  · omega
  · simp only [Option.some.injEq, Addr.mk.injEq, and_true] at hg
    rw [← hg]; exact ⟨hb, hr.lt⟩
theorem bstk_grown {base : Nat} {w w1 : World} {q : Option Addr} {W : States} {row : Option Nat} (h : StateK base w q W) (hg : w.grownBy w1 row) (hne : ∀ g, q = some ⟨g, 0, none⟩ → some g ≠ row) : StateK base w1 q W := by
  rcases h with h0 | ⟨g', cur, rfl, hb, hr, h1, h2⟩
  · exact .inl h0
  · exact .inr ⟨g', cur, rfl, hb, (hg.block g' hr.lt (hne g' rfl)).trans hr, h1, h2⟩
theorem bstk_put {base : Nat} {w : World} {q : Option Addr} {W : States} (h : StateK base w q W) {X : Nat} (hne : ∀ g, q = some ⟨g, 0, none⟩ → g ≠ X) (j : Nat) (v : Value) : StateK base (w.setCell ⟨X, j, none⟩ v) q W := by
  rcases h with h0 | ⟨g', cur, rfl, hb, hr, h1, h2⟩
  · exact .inl h0
  · exact .inr ⟨g', cur, rfl, hb, hr.other (hne g' rfl) j v, h1, h2⟩
theorem bsts_of_k {base n : Nat} {w : World} {q : Option Addr} {W : States} (h : StateK base w q W) (hn : W.length = n) (hm : n ≤ maxLen) (hs : ∀ i, i < n → True) : StatesAt w q n W := by
  subst hn
  refine ⟨rfl, hm, hs, ?_⟩
  rcases h with h0 | ⟨g, cur, rfl, _, hr, _, hc⟩
  · exact .inl h0
  · refine .inr ⟨g, 0, rfl, hr.lt, fun i hi => ?_⟩
    obtain ⟨e0, e1, e2⟩ := hc i hi
    unfold Row at hr
    simp [World.cell?, hr, e0, e1, e2]

/-! ### pieces of a slice that may be read, and appends of them -/
theorem bst_at_take (l : States) (k i : Nat) (h : i < k) : bst0 (l.take k) i = bst0 l i ∧ bst1 (l.take k) i = bst1 l i ∧ bst2 (l.take k) i = bst2 l i := by
  refine ⟨?_, ?_, ?_⟩ <;> simp [bst0, bst1, bst2, List.getElem?_take_of_lt h]
theorem bst_at_drop (l : States) (k i : Nat) : bst0 (l.drop k) i = bst0 l (k + i) ∧ bst1 (l.drop k) i = bst1 l (k + i) ∧ bst2 (l.drop k) i = bst2 l (k + i) := by
  refine ⟨?_, ?_, ?_⟩ <;> simp [bst0, bst1, bst2]
theorem bsts_take {w : World} {a : Option Addr} {len : Nat} {l : States} (h : StatesAt w a len l) {k : Nat} (hk : k ≤ len) : StatesAt w a k (l.take k) := by
  have hl := h.length
  refine ⟨by rw [List.length_take]; omega, Nat.le_trans hk h.max, fun i hi => ?_, ?_⟩
  · trivial
  · rcases h.src with h0 | ⟨b, off, ha, hb, hc⟩
    · exact .inl (by omega)
    · refine .inr ⟨b, off, ha, hb, fun i hi => ?_⟩
      obtain ⟨e0, e1, e2⟩ := bst_at_take l k i hi
      have := hc i (by omega)
      simpa only [e0, e1, e2] using this
theorem bsts_drop {w : World} {b off : Nat} {len : Nat} {l : States} (h : StatesAt w (some ⟨b, off, none⟩) len l) {k : Nat} (hk : k ≤ len) : StatesAt w (some ⟨b, off + k * 3, none⟩) (len - k) (l.drop k) := by
  have hl := h.length
  have hm := h.max
  refine ⟨by rw [List.length_drop]; omega, by omega, fun i hi => ?_, ?_⟩
  · trivial
  · rcases h.src with h0 | ⟨b', off', ha, hb, hc⟩
    · exact .inl (by omega)
    · simp only [Option.some.injEq, Addr.mk.injEq, and_true] at ha
      obtain ⟨rfl, rfl⟩ := ha
      refine .inr ⟨b, off + k * 3, rfl, hb, fun i hi => ?_⟩
      obtain ⟨e0, e1, e2⟩ := bst_at_drop l k i
      have := hc (k + i) (by omega)
      rw [show off + (k + i) * 3 = off + k * 3 + i * 3 by rw [Nat.add_mul]; omega] at this
      simpa only [e0, e1, e2] using this
theorem bsts_none {w : World} {a a' : Option Addr} {len : Nat} {l : States} (h : StatesAt w a len l) (hn : len = 0) : StatesAt w a' 0 [] := ⟨rfl, Nat.zero_le _, fun i hi => by omega, .inl rfl⟩
theorem bst_cells_at {w : World} {q : Addr} {len : Nat} {l : States} (h : StatesAt w (some q) len l) : ∀ j u, (cellsState l)[j]? = some u → w.cell? (q.add j) = some u := by
  intro j u hj
  have hl := h.length
  have hjl : j < l.length * 3 := by
    obtain ⟨h1, _⟩ := List.getElem?_eq_some_iff.1 hj
    rw [cellsState_len] at h1; exact h1
  rcases h.src with h0 | ⟨b, off, ha, hb, hc⟩
  · omega
  · simp only [Option.some.injEq] at ha
    subst ha
    have hi : j / 3 < len := by omega
    obtain ⟨c0, c1, c2⟩ := hc (j / 3) hi
    obtain ⟨e0, e1, e2⟩ := cellsState_get l (j / 3) (by omega)
    have hadd : (⟨b, off, none⟩ : Addr).add j = ⟨b, off + j, none⟩ := by
      unfold Addr.add
      split
      · rename_i h0; subst h0; rfl
      · rfl
    rw [hadd]
    have hr : j % 3 < 3 := Nat.mod_lt _ (by decide)
    have hd : 3 * (j / 3) + j % 3 = j := Nat.div_add_mod j 3
    rcases (show j % 3 = 0 ∨ j % 3 = 1 ∨ j % 3 = 2 by omega) with hr0 | hr1 | hr2
    · have ej : j = j / 3 * 3 := by omega
      have e := e0
      rw [← ej] at e
      rw [e] at hj
      rw [← hj, show off + j = off + j / 3 * 3 by omega]
      exact c0
    · have ej : j = j / 3 * 3 + 1 := by omega
      have e := e1
      rw [← ej] at e
      rw [e] at hj
      rw [← hj, show off + j = off + j / 3 * 3 + 1 by omega]
      exact c1
    · have ej : j = j / 3 * 3 + 2 := by omega
      have e := e2
      rw [← ej] at e
      rw [e] at hj
      rw [← hj, show off + j = off + j / 3 * 3 + 2 by omega]
      exact c2

theorem own_cellsState {w : World} {base : Nat} {v : Value} {W : States} {xs : List Value} {m k : Nat} (h : w.ownsRow base 77 3 v m xs) (hm : m = k) (hx : xs = cellsState W) : w.ownsRow base 77 3 v k (cellsState W) := by rw [← hm, ← hx]; exact h
/-- append of values that may be read, nil or not, to a row of the call's own. -/
theorem wp_append_bst {o : Oper} {a : Act} {K : Act → World → Prop} {Q : Exit → Act → World → Prop} {w : World} (s x : Operand)
    (ho : o.op = .call { callee := .builtin .append, args := #[s, x], argTypes := #[45, 45] })
    (base : Nat) (v : Value) (n : Nat) (W : States) (hs : a.eval s = v) (hown : w.ownsRow base 77 3 v n (cellsState W))
    (q : Option Addr) (m c : Nat) (V : States) (hx : a.eval x = .slice q m c) (hrec : StatesAt w q m V) (hnone : q = none → c = 0) (h6 : n + m ≤ 2097152) (hbase : base ≤ w.heap.size)
    (h : ∀ q' c' w', w'.ownsRow base 77 3 (.slice q' (n + m) c') (n + m) (cellsState (W ++ V)) → w.grownBy w' v.ownBlock → K (a.put o.dst (.slice q' (n + m) c')) w') : o.wp Tryz.prog a w K Q := by
  obtain ⟨i0, hi, hz0, hz1, hz2⟩ := info_parts infoState
  cases q with
  | none =>
    have hc := hnone rfl
    have hm : m = 0 := by
      rcases hrec.src with h0 | ⟨b, off, ha, _⟩
      · exact h0
      · cases ha
    subst hm hc
    obtain rfl : V = [] := List.eq_nil_of_length_eq_zero hrec.length
    obtain ⟨q', c', rfl⟩ := own_form hown
    have h0 := h q' c' w (by simpa using hown) (World.grownBy.refl _ _)
    have hrun := run_append_owned_none (P := Tryz.prog) (w := w) base 45 o.type 77 i0 3 Tryz.underlying45 hi _ n _ hown
    unfold Oper.wp
    simp [execOp, ho, resolve, invoke, builtin, hs, hx, hrun, Result.andThen]
    exact h0
  | some p =>
    exact wp_append_own w s x 45 ho base 77 i0 _ 3 24 Tryz.underlying45 hi hz0 hz1 hz2 rfl (by decide) v n _ hs hown p m c (cellsState V) hx (by rw [cellsState_len, hrec.length]) (bst_cells_at hrec) (bst_cells1 _) (by unfold maxLen; omega) (by omega) hbase fun v' w' h2 h3 h4 => by
      obtain ⟨q', c', rfl⟩ := own_form h2
      exact h q' c' w' (by rw [cellsState_append]; exact h2) h3
theorem append_bst {ops : Array Oper} {rest : List Oper} {o : Oper} {a : Act} {Q : Exit → Act → World → Prop} {w : World} (hg : o.guard = none) (s x : Operand)
    (ho : o.op = .call { callee := .builtin .append, args := #[s, x], argTypes := #[45, 45] })
    (base : Nat) (v : Value) (n : Nat) (W : States) (hs : a.eval s = v) (hown : w.ownsRow base 77 3 v n (cellsState W))
    (q : Option Addr) (m c : Nat) (V : States) (hx : a.eval x = .slice q m c) (hrec : StatesAt w q m V) (hnone : q = none → c = 0) (h6 : n + m ≤ 2097152) (hbase : base ≤ w.heap.size)
    (h : ∀ q' c' w', w'.ownsRow base 77 3 (.slice q' (n + m) c') (n + m) (cellsState (W ++ V)) → w.grownBy w' v.ownBlock → wpList Tryz.prog ops Q rest (a.put o.dst (.slice q' (n + m) c')) w') : wpList Tryz.prog ops Q (o :: rest) a w :=
  wpList_plain hg fun _ hK => wp_append_bst s x ho base v n W hs hown q m c V hx hrec hnone h6 hbase fun q' c' w' h2 h3 => hK _ _ (h q' c' w' h2 h3)
/-- At a step of a region that draws its order. -/
theorem step_append_bst {ops : Array Oper} {o : Oper} {a : Act} {K : Act → World → Prop} {Q : Exit → Act → World → Prop} {Ee : Prop} {w : World} (hg : o.guard = none) (s x : Operand)
    (ho : o.op = .call { callee := .builtin .append, args := #[s, x], argTypes := #[45, 45] })
    (base : Nat) (v : Value) (n : Nat) (W : States) (hs : a.eval s = v) (hown : w.ownsRow base 77 3 v n (cellsState W))
    (q : Option Addr) (m c : Nat) (V : States) (hx : a.eval x = .slice q m c) (hrec : StatesAt w q m V) (hnone : q = none → c = 0) (h6 : n + m ≤ 2097152) (hbase : base ≤ w.heap.size)
    (h : ∀ q' c' w', w'.ownsRow base 77 3 (.slice q' (n + m) c') (n + m) (cellsState (W ++ V)) → w.grownBy w' v.ownBlock → K (a.put o.dst (.slice q' (n + m) c')) w') :
    if Region.wanted o (yielded ops a.tmps) = true then Oper.wp Tryz.prog o a w K Q else Ee := by
  have hw : Region.wanted o (yielded ops a.tmps) = true := by simp [Region.wanted, hg]
  rw [if_pos hw]
  exact wp_append_bst s x ho base v n W hs hown q m c V hx hrec hnone h6 hbase h
/-- append of one value that has just been laid in a block of its own. -/
theorem wp_append1_bst {o : Oper} {a : Act} {K : Act → World → Prop} {Q : Exit → Act → World → Prop} {w : World} (s x : Operand)
    (ho : o.op = .call { callee := .builtin .append, args := #[s, x], argTypes := #[45, 45] })
    (base : Nat) (v : Value) (n : Nat) (W : States) (hs : a.eval s = v) (hown : w.ownsRow base 77 3 v n (cellsState W))
    (B c : Nat) (x0 : Int) (x1 : Int) (x2 : Int) (hx : a.eval x = .slice (some ⟨B, 0, none⟩) 1 c) (hrow : ∀ j u, [Value.int .i64 x0, Value.int .i64 x1, Value.int .i64 x2][j]? = some u → w.cell? ((⟨B, 0, none⟩ : Addr).add j) = some u) (h6 : n + 1 ≤ 2097152) (hbase : base ≤ w.heap.size)
    (h : ∀ q' c' w', w'.ownsRow base 77 3 (.slice q' (n + 1) c') (n + 1) (cellsState (W ++ [(x0, x1, x2)])) → w.grownBy w' v.ownBlock → K (a.put o.dst (.slice q' (n + 1) c')) w') : o.wp Tryz.prog a w K Q := by
  obtain ⟨i0, hi, hz0, hz1, hz2⟩ := info_parts infoState
  exact wp_append_own w s x 45 ho base 77 i0 _ 3 24 Tryz.underlying45 hi hz0 hz1 hz2 rfl (by decide) v n _ hs hown ⟨B, 0, none⟩ 1 c [Value.int .i64 x0, Value.int .i64 x1, Value.int .i64 x2] hx rfl hrow (fun u hu => bst_cells1 [(x0, x1, x2)] u (by rw [cellsState_one_row]; exact hu)) (by unfold maxLen; omega) (by omega) hbase fun v' w' h2 h3 h4 => by
    obtain ⟨q', c', rfl⟩ := own_form h2
    exact h q' c' w' (by rw [cellsState_snoc]; exact h2) h3
theorem append1_bst {ops : Array Oper} {rest : List Oper} {o : Oper} {a : Act} {Q : Exit → Act → World → Prop} {w : World} (hg : o.guard = none) (s x : Operand)
    (ho : o.op = .call { callee := .builtin .append, args := #[s, x], argTypes := #[45, 45] })
    (base : Nat) (v : Value) (n : Nat) (W : States) (hs : a.eval s = v) (hown : w.ownsRow base 77 3 v n (cellsState W))
    (B c : Nat) (x0 : Int) (x1 : Int) (x2 : Int) (hx : a.eval x = .slice (some ⟨B, 0, none⟩) 1 c) (hrow : ∀ j u, [Value.int .i64 x0, Value.int .i64 x1, Value.int .i64 x2][j]? = some u → w.cell? ((⟨B, 0, none⟩ : Addr).add j) = some u) (h6 : n + 1 ≤ 2097152) (hbase : base ≤ w.heap.size)
    (h : ∀ q' c' w', w'.ownsRow base 77 3 (.slice q' (n + 1) c') (n + 1) (cellsState (W ++ [(x0, x1, x2)])) → w.grownBy w' v.ownBlock → wpList Tryz.prog ops Q rest (a.put o.dst (.slice q' (n + 1) c')) w') : wpList Tryz.prog ops Q (o :: rest) a w :=
  wpList_plain hg fun _ hK => wp_append1_bst s x ho base v n W hs hown B c x0 x1 x2 hx hrow h6 hbase fun q' c' w' h2 h3 => hK _ _ (h q' c' w' h2 h3)
theorem own_nilState (w : World) (base : Nat) : w.ownsRow base 77 3 (.slice none 0 0) 0 (cellsState []) := ⟨rfl, .inl ⟨rfl, rfl⟩⟩
/-- An array of no length that has just been made. -/
theorem own_zeroState {w : World} {base B : Nat} (h : Row w B 77 #[]) (hb : base ≤ B) : w.ownsRow base 77 3 (.slice (some ⟨B, 0, none⟩) 0 0) 0 (cellsState []) := ⟨rfl, .inr ⟨B, 0, #[], rfl, hb, h, Nat.le_refl _, Nat.zero_le _, rfl, rfl⟩⟩

/-- The row of a slice that is not empty. -/
theorem own_rowState {w : World} {base : Nat} {q : Option Addr} {n m c : Nat} {xs : List Value} (h : w.ownsRow base 77 3 (.slice q m c) n xs) (hn : 0 < n) : ∃ g cur, q = some ⟨g, 0, none⟩ ∧ m = n ∧ base ≤ g ∧ Row w g 77 cur ∧ n ≤ c ∧ c ≤ maxLen ∧ cur.size = c * 3 ∧ cur.toList.take (n * 3) = xs := by
  rcases h.2 with ⟨_, h0⟩ | ⟨g, cap, cur, hv, hb, hh, h1, h2, h3, h4⟩
  · omega
  · simp only [Value.slice.injEq] at hv
    obtain ⟨rfl, rfl, rfl⟩ := hv
    exact ⟨g, cur, rfl, rfl, hb, hh, h1, h2, h3, h4⟩
theorem cellsState_set : ∀ (W : States) (p : Nat) (x0 : Int) (x1 : Int) (x2 : Int), p < W.length → cellsState (W.set p (x0, x1, x2)) = ((((cellsState W).set (p * 3) (.int .i64 x0)).set (p * 3 + 1) (.int .i64 x1)).set (p * 3 + 2) (.int .i64 x2))
  | [], p, x0, x1, x2, h => by simp at h
  | r :: t, 0, x0, x1, x2, h => by simp [cellsState]
  | r :: t, p + 1, x0, x1, x2, h => by
    have ih := cellsState_set t p x0 x1 x2 (by simpa using h)
    rw [List.set_cons_succ]
    have e : ∀ W : States, ∀ r, cellsState (r :: W) = [Value.int .i64 r.1, Value.int .i64 r.2.1, Value.int .i64 r.2.2] ++ cellsState W := fun W r => rfl
    rw [e, e, ih]
    have f0 : (p + 1) * 3 = p * 3 + 1 + 1 + 1 := by omega
    have f1 : (p + 1) * 3 + 1 = p * 3 + 1 + 1 + 1 + 1 := by omega
    have f2 : (p + 1) * 3 + 2 = p * 3 + 2 + 1 + 1 + 1 := by omega
    rw [f1, f2, f0]
    simp only [List.cons_append, List.nil_append, List.set_cons_succ]
/-- One value of an own row laid anew. -/
theorem own_setState {w : World} {base g n c : Nat} {W : States} (h : w.ownsRow base 77 3 (.slice (some ⟨g, 0, none⟩) n c) n (cellsState W)) {p : Nat} (hp : p < n) (x0 : Int) (x1 : Int) (x2 : Int) :
    (((w.setCell ⟨g, p * 3, none⟩ (.int .i64 x0)).setCell ⟨g, p * 3 + 1, none⟩ (.int .i64 x1)).setCell ⟨g, p * 3 + 2, none⟩ (.int .i64 x2)).ownsRow base 77 3 (.slice (some ⟨g, 0, none⟩) n c) n (cellsState (W.set p (x0, x1, x2))) := by
  have hl := h.1
  rw [cellsState_len] at hl
  have hl2 : W.length = n := by omega
  obtain ⟨g', cur, hq, _, hb, hr, h1, h2, h3, h4⟩ := own_rowState h (by omega)
  simp only [Option.some.injEq, Addr.mk.injEq, and_true] at hq
  subst hq
  refine ⟨by rw [cellsState_len, List.length_set, hl2], .inr ⟨g, c, (((cur.setIfInBounds (p * 3) (.int .i64 x0)).setIfInBounds (p * 3 + 1) (.int .i64 x1)).setIfInBounds (p * 3 + 2) (.int .i64 x2)), rfl, hb, ((hr.set _ _).set _ _).set _ _, h1, h2, by simpa using h3, ?_⟩⟩
  rw [cellsState_set W p x0 x1 x2 (by omega), ← h4]
  simp only [Array.toList_setIfInBounds, List.take_set]

def HeldNumState (q : Nat) (w : World) (e : Ending) (w' : World) : Prop := e = .returned (.int .i64 (q : Int)) ∧ Below w.heap.size w w'
theorem heldbsts_none (q : Option Addr) (cap k0 : Nat) (w : World) : Calls Tryz.prog 19 #[.slice q 0 cap, .int .i64 k0] w fun e w' => e = .returned (.int .i64 k0) ∧ w = w' := by
  go_enter Tryz.func19, Tryz.ntmps19
  go_wp2
  go_loop [1, 5] (fun t i => t = .int .i64 k0 ∧ i = .int .i64 0) (fun _ _ => 0)
  case atStart => exact ⟨rfl, rfl⟩
  case round =>
    obtain ⟨rfl, rfl⟩ := hrel
    go_wp2
    go_ret
    exact ⟨rfl, rfl⟩

set_option maxHeartbeats 2000000 in
theorem heldbsts_any (B len cap k0 : Nat) (E : TypeId) (cur : Array Value) (w : World) (h : Row w B E cur) (hm : MarkedState cur k0 len) (h1 : 1 ≤ k0) (h2 : k0 + 3 * len ≤ 1099511627776) :
    Calls Tryz.prog 19 #[.slice (some ⟨B, 0, none⟩) len cap, .int .i64 k0] w (HeldNumState (k0 + 3 * len) w) := by
  have HC := Lib.hid (show ∀ j, j < len → w.cell? ⟨B, j * 3, none⟩ = some (.int .i64 ((((k0 + 3 * j) + 0 : Nat)) : Int)) ∧ w.cell? ⟨B, j * 3 + 1, none⟩ = some (.int .i64 ((((k0 + 3 * j) + 1 : Nat)) : Int)) ∧ w.cell? ⟨B, j * 3 + 2, none⟩ = some (.int .i64 ((((k0 + 3 * j) + 2 : Nat)) : Int)) by
    intro j hj
    have := hm j hj
    unfold Row at h
    simp [World.cell?, h, this])
  have HLT := Lib.hid h.lt
  clear h hm
  go_enter Tryz.func19, Tryz.ntmps19
  go_wp2
  go_loopw [1, 5] (fun t i wr => ∃ k : Nat, k ≤ len ∧ i = .int .i64 k ∧ t = .int .i64 ((k0 + 3 * k : Nat) : Int) ∧ Hid (Below w.heap.size w wr)) (fun _ i _ => len - (intOf i).toNat)
  case atStart => exact ⟨0, Nat.zero_le _, rfl, rfl, Below.refl _ _⟩
  case round =>
    obtain ⟨k, hk, rfl, rfl, HW⟩ := hrel
    by_cases hlt : k < len
    · have HCK := Lib.hid (HC.out k hlt)
      have c0 := (HW.out.cell (p := ⟨B, k * 3, none⟩) HLT.out).trans HCK.out.1
      have c1 := (HW.out.cell (p := ⟨B, k * 3 + 1, none⟩) HLT.out).trans HCK.out.2.1
      have c2 := (HW.out.cell (p := ⟨B, k * 3 + 2, none⟩) HLT.out).trans HCK.out.2.2
      obtain ⟨q, hq⟩ : ∃ q, k0 + 3 * k = q := ⟨_, rfl⟩
      rw [hq] at c0 c1 c2 ⊢
      clear HCK
      have hq1 : 1 ≤ q := by omega
      have hq2 : q + 3 ≤ 1099511627776 := by omega
      have HQ := Lib.hid hq
      have HB := Lib.hid HW.out.drew
      have hi1 : (k : Int) < (len : Int) := by omega
      have hi0 : (0 : Int) ≤ (k : Int) := by omega
      have c0' : wr.cell? ⟨B, k * 3, none⟩ = some (.int .i64 ((q : Int))) := by rw [c0]; simp
      clear c0
      have c1' : wr.cell? ⟨B, k * 3 + 1, none⟩ = some (.int .i64 ((q : Int) + 1)) := by rw [c1]; simp
      clear c1
      have c2' : wr.cell? ⟨B, k * 3 + 2, none⟩ = some (.int .i64 ((q : Int) + 2)) := by rw [c2]; simp
      clear c2
      clear hq
      go_wp2
      go_roundw
      case rel => exact ⟨k + 1, by omega, by go_num, by have := HQ.out; go_num, HW⟩
      case measure => simp [intOf]; omega
    · obtain rfl : k = len := by omega
      go_wp2
      go_ret
      exact ⟨rfl, HW.out⟩

end Go.Proofs.YtbjlojmadellgaaGreatDoor
