
/- Slices of Gone values in rows of the call's own: appends to them, and the laws' look whether they were kept. Only the own row and new blocks change. -/
import Derived.Test.YtblpebdjbenphaaMg4
import Derived.Test.YtblpebdjbenphaaGoneMark
import Derived.Test.YtblpebdjbenphaaMg2
import Derived.Laws.AppendOwnNone
namespace Go.Proofs.Ytblpebdjbenphaa
open Go.ChangeShapes Go.WideShapes Go.ChangeAt Go.RowKit
set_option linter.unusedVariables false
set_option maxRecDepth 100000

def cellsGone (W : Gones) : List Value := W.flatMap fun r => [Value.string r.1, Value.int .i64 r.2]
theorem cellsGone_nil : cellsGone [] = [] := rfl
theorem cellsGone_snoc (W : Gones) (x0 : ByteArray) (x1 : Int) : cellsGone (W ++ [(x0, x1)]) = cellsGone W ++ [.string x0, .int .i64 x1] := by simp [cellsGone]
theorem cellsGone_append (W V : Gones) : cellsGone (W ++ V) = cellsGone W ++ cellsGone V := by simp [cellsGone]
theorem cellsGone_one_row (x0 : ByteArray) (x1 : Int) : cellsGone [(x0, x1)] = [.string x0, .int .i64 x1] := by simp [cellsGone]
theorem cellsGone_len : ∀ W : Gones, (cellsGone W).length = W.length * 2
  | [] => rfl
  | r :: t => by
    have := cellsGone_len t
    simp only [cellsGone] at this
    simp [cellsGone, List.flatMap_cons, this]; omega
theorem cellsGone_get : ∀ (W : Gones) (j : Nat), j < W.length → (cellsGone W)[j * 2]? = some (.string (gone0 W j)) ∧ (cellsGone W)[j * 2 + 1]? = some (.int .i64 (gone1 W j))
  | [], j, h => by simp at h
  | r :: t, 0, h => by simp [cellsGone, gone0, gone1]
  | r :: t, j + 1, h => by
    have := cellsGone_get t j (by simpa using h)
    have e : (j + 1) * 2 = j * 2 + 2 := by omega
    simp only [cellsGone] at this
    rw [e]
    have e0 : j * 2 + 2 = j * 2 + 1 + 1 := by omega
    have e1 : j * 2 + 2 + 1 = j * 2 + 1 + 1 + 1 := by omega
    rw [e1, e0]
    simp only [cellsGone, List.flatMap_cons, List.cons_append, List.nil_append, List.getElem?_cons_succ]
    simpa [gone0, gone1] using this
theorem gone_cells1 : ∀ W : Gones, ∀ u ∈ cellsGone W, u.oneCell' = true := by
  intro W u hu
  unfold cellsGone at hu
  rw [List.mem_flatMap] at hu
  obtain ⟨r, _, hr⟩ := hu
  simp only [List.mem_cons, or_false, List.not_mem_nil] at hr
  rcases hr with rfl | rfl
  all_goals rfl
theorem gone_new (w : World) (x0 : ByteArray) (x1 : Int) (t : TypeId) : ∀ j u, [Value.string x0, Value.int .i64 x1][j]? = some u → (w.alloc (.cells #[.string x0, .int .i64 x1] t)).cell? ((⟨w.heap.size, 0, none⟩ : Addr).add j) = some u := by
  intro j u hj
  match j, hj with
  | 0, hj => simp at hj; subst hj; simp [Addr.add]
  | 1, hj => simp at hj; subst hj; simp [Addr.add]
theorem gone_at_row {w : World} {B : Nat} (x0 : ByteArray) (x1 : Int) {t : TypeId} (h : Row w B t #[.string x0, .int .i64 x1]) : ∀ j u, [Value.string x0, Value.int .i64 x1][j]? = some u → w.cell? ((⟨B, 0, none⟩ : Addr).add j) = some u := by
  intro j u hj
  unfold Row at h
  match j, hj with
  | 0, hj => simp at hj; subst hj; simp [Addr.add, World.cell?, h]
  | 1, hj => simp at hj; subst hj; simp [Addr.add, World.cell?, h]

/-- The slice (q, length of W) holds the values W in a row from block 'base' on. -/
def GoneK (base : Nat) (w : World) (q : Option Addr) (W : Gones) : Prop :=
  W.length = 0 ∨ ∃ g cur, q = some ⟨g, 0, none⟩ ∧ base ≤ g ∧ Row w g 45 cur ∧ W.length * 2 ≤ cur.size ∧ GoneLaid cur W W.length
theorem gonek_of_own {base : Nat} {w : World} {q : Option Addr} {m cp : Nat} {W : Gones} (h : w.ownsRow base 45 2 (.slice q m cp) W.length (cellsGone W)) : GoneK base w q W := by
  rcases h.2 with ⟨h1, h2⟩ | ⟨g, cap, cur, hv, hb, hh, h1, _, h3, h4⟩
  · exact .inl h2
  · simp only [Value.slice.injEq] at hv
    obtain ⟨rfl, _, rfl⟩ := hv
    refine .inr ⟨g, cur, rfl, hb, hh, by omega, fun j hj => ?_⟩
    obtain ⟨e0, e1⟩ := cellsGone_get W j hj
    rw [← h4, List.getElem?_take_of_lt (by omega)] at e0 e1
    exact ⟨by simpa using e0, by simpa using e1⟩
theorem gonek_keep {base : Nat} {w w1 : World} {q : Option Addr} {W : Gones} (h : GoneK base w q W) (hB : Below w.heap.size w w1) : GoneK base w1 q W := by
  rcases h with h0 | ⟨g, cur, rfl, hb, hr, h1, h2⟩
  · exact .inl h0
  · exact .inr ⟨g, cur, rfl, hb, hr.keep hB, h1, h2⟩
theorem gonek_low {base B : Nat} {w : World} {q : Option Addr} {W : Gones} (h : GoneK B w q W) (hb : base ≤ B) : GoneK base w q W := by
  rcases h with h0 | ⟨g, cur, rfl, h1, hr, h2, h3⟩
  · exact .inl h0
  · exact .inr ⟨g, cur, rfl, Nat.le_trans hb h1, hr, h2, h3⟩
theorem gonek_lt {base : Nat} {w : World} {q : Option Addr} {W : Gones} (h : GoneK base w q W) (hn : 0 < W.length) : ∀ g, q = some ⟨g, 0, none⟩ → base ≤ g ∧ g < w.heap.size := by
  intro g hg
  rcases h with h0 | ⟨g', cur, rfl, hb, hr, h1, h2⟩
  · omega
  · simp only [Option.some.injEq, Addr.mk.injEq, and_true] at hg
    rw [← hg]; exact ⟨hb, hr.lt⟩
theorem gonek_grown {base : Nat} {w w1 : World} {q : Option Addr} {W : Gones} {row : Option Nat} (h : GoneK base w q W) (hg : w.grownBy w1 row) (hne : ∀ g, q = some ⟨g, 0, none⟩ → some g ≠ row) : GoneK base w1 q W := by
  rcases h with h0 | ⟨g', cur, rfl, hb, hr, h1, h2⟩
  · exact .inl h0
  · exact .inr ⟨g', cur, rfl, hb, (hg.block g' hr.lt (hne g' rfl)).trans hr, h1, h2⟩
theorem gonek_put {base : Nat} {w : World} {q : Option Addr} {W : Gones} (h : GoneK base w q W) {X : Nat} (hne : ∀ g, q = some ⟨g, 0, none⟩ → g ≠ X) (j : Nat) (v : Value) : GoneK base (w.setCell ⟨X, j, none⟩ v) q W := by
  rcases h with h0 | ⟨g', cur, rfl, hb, hr, h1, h2⟩
  · exact .inl h0
  · exact .inr ⟨g', cur, rfl, hb, hr.other (hne g' rfl) j v, h1, h2⟩
theorem gones_of_k {base n : Nat} {w : World} {q : Option Addr} {W : Gones} (h : GoneK base w q W) (hn : W.length = n) (hm : n ≤ maxLen) (hs : ∀ i, i < n → (gone0 W i).size ≤ maxLen) : GonesAt w q n W := by
  subst hn
  refine ⟨rfl, hm, hs, ?_⟩
  rcases h with h0 | ⟨g, cur, rfl, _, hr, _, hc⟩
  · exact .inl h0
  · refine .inr ⟨g, 0, rfl, hr.lt, fun i hi => ?_⟩
    obtain ⟨e0, e1⟩ := hc i hi
    unfold Row at hr
    simp [World.cell?, hr, e0, e1]

/-! ### pieces of a slice that may be read, and appends of them -/
theorem gone_at_take (l : Gones) (k i : Nat) (h : i < k) : gone0 (l.take k) i = gone0 l i ∧ gone1 (l.take k) i = gone1 l i := by
  refine ⟨?_, ?_⟩ <;> simp [gone0, gone1, List.getElem?_take_of_lt h]
theorem gone_at_drop (l : Gones) (k i : Nat) : gone0 (l.drop k) i = gone0 l (k + i) ∧ gone1 (l.drop k) i = gone1 l (k + i) := by
  refine ⟨?_, ?_⟩ <;> simp [gone0, gone1]
theorem gones_take {w : World} {a : Option Addr} {len : Nat} {l : Gones} (h : GonesAt w a len l) {k : Nat} (hk : k ≤ len) : GonesAt w a k (l.take k) := by
  have hl := h.length
  refine ⟨by rw [List.length_take]; omega, Nat.le_trans hk h.max, fun i hi => ?_, ?_⟩
  · obtain ⟨e0, e1⟩ := gone_at_take l k i hi
    have := h.keys i (by omega)
    simpa only [e0, e1] using this
  · rcases h.src with h0 | ⟨b, off, ha, hb, hc⟩
    · exact .inl (by omega)
    · refine .inr ⟨b, off, ha, hb, fun i hi => ?_⟩
      obtain ⟨e0, e1⟩ := gone_at_take l k i hi
      have := hc i (by omega)
      simpa only [e0, e1] using this
theorem gones_drop {w : World} {b off : Nat} {len : Nat} {l : Gones} (h : GonesAt w (some ⟨b, off, none⟩) len l) {k : Nat} (hk : k ≤ len) : GonesAt w (some ⟨b, off + k * 2, none⟩) (len - k) (l.drop k) := by
  have hl := h.length
  have hm := h.max
  refine ⟨by rw [List.length_drop]; omega, by omega, fun i hi => ?_, ?_⟩
  · obtain ⟨e0, e1⟩ := gone_at_drop l k i
    have := h.keys (k + i) (by omega)
    simpa only [e0, e1] using this
  · rcases h.src with h0 | ⟨b', off', ha, hb, hc⟩
    · exact .inl (by omega)
    · simp only [Option.some.injEq, Addr.mk.injEq, and_true] at ha
      obtain ⟨rfl, rfl⟩ := ha
      refine .inr ⟨b, off + k * 2, rfl, hb, fun i hi => ?_⟩
      obtain ⟨e0, e1⟩ := gone_at_drop l k i
      have := hc (k + i) (by omega)
      rw [show off + (k + i) * 2 = off + k * 2 + i * 2 by rw [Nat.add_mul]; omega] at this
      simpa only [e0, e1] using this
theorem gones_none {w : World} {a a' : Option Addr} {len : Nat} {l : Gones} (h : GonesAt w a len l) (hn : len = 0) : GonesAt w a' 0 [] := ⟨rfl, Nat.zero_le _, fun i hi => by omega, .inl rfl⟩
theorem gone_cells_at {w : World} {q : Addr} {len : Nat} {l : Gones} (h : GonesAt w (some q) len l) : ∀ j u, (cellsGone l)[j]? = some u → w.cell? (q.add j) = some u := by
  intro j u hj
  have hl := h.length
  have hjl : j < l.length * 2 := by
    obtain ⟨h1, _⟩ := List.getElem?_eq_some_iff.1 hj
    rw [cellsGone_len] at h1; exact h1
  rcases h.src with h0 | ⟨b, off, ha, hb, hc⟩
  · omega
  · simp only [Option.some.injEq] at ha
    subst ha
    have hi : j / 2 < len := by omega
    obtain ⟨c0, c1⟩ := hc (j / 2) hi
    obtain ⟨e0, e1⟩ := cellsGone_get l (j / 2) (by omega)
    have hadd : (⟨b, off, none⟩ : Addr).add j = ⟨b, off + j, none⟩ := by
      unfold Addr.add
      split
      · rename_i h0; subst h0; rfl
      · rfl
    rw [hadd]
    have hr : j % 2 < 2 := Nat.mod_lt _ (by decide)
    have hd : 2 * (j / 2) + j % 2 = j := Nat.div_add_mod j 2
    rcases (show j % 2 = 0 ∨ j % 2 = 1 by omega) with hr0 | hr1
    · have ej : j = j / 2 * 2 := by omega
      have e := e0
      rw [← ej] at e
      rw [e] at hj
      rw [← hj, show off + j = off + j / 2 * 2 by omega]
      exact c0
    · have ej : j = j / 2 * 2 + 1 := by omega
      have e := e1
      rw [← ej] at e
      rw [e] at hj
      rw [← hj, show off + j = off + j / 2 * 2 + 1 by omega]
      exact c1

theorem own_cellsGone {w : World} {base : Nat} {v : Value} {W : Gones} {xs : List Value} {m k : Nat} (h : w.ownsRow base 45 2 v m xs) (hm : m = k) (hx : xs = cellsGone W) : w.ownsRow base 45 2 v k (cellsGone W) := by rw [← hm, ← hx]; exact h
/-- append of values that may be read, nil or not, to a row of the call's own. -/
theorem wp_append_gone {o : Oper} {a : Act} {K : Act → World → Prop} {Q : Exit → Act → World → Prop} {w : World} (s x : Operand)
    (ho : o.op = .call { callee := .builtin .append, args := #[s, x], argTypes := #[25, 25] })
    (base : Nat) (v : Value) (n : Nat) (W : Gones) (hs : a.eval s = v) (hown : w.ownsRow base 45 2 v n (cellsGone W))
    (q : Option Addr) (m c : Nat) (V : Gones) (hx : a.eval x = .slice q m c) (hrec : GonesAt w q m V) (hnone : q = none → c = 0) (h6 : n + m ≤ 2097152) (hbase : base ≤ w.heap.size)
    (h : ∀ q' c' w', w'.ownsRow base 45 2 (.slice q' (n + m) c') (n + m) (cellsGone (W ++ V)) → w.grownBy w' v.ownBlock → K (a.put o.dst (.slice q' (n + m) c')) w') : o.wp Try.prog a w K Q := by
  obtain ⟨i0, hi, hz0, hz1, hz2⟩ := info_parts infoGone
  cases q with
  | none =>
    have hc := hnone rfl
    have hm : m = 0 := by
      rcases hrec.src with h0 | ⟨b, off, ha, _⟩
      · exact h0
      · cases ha
    subst hm hc
    obtain rfl : V = [] := List.eq_nil_of_length_eq_zero hrec.length
    obtain ⟨q', c', rfl⟩ := own_form hown
    have h0 := h q' c' w (by simpa using hown) (World.grownBy.refl _ _)
    have hrun := run_append_owned_none (P := Try.prog) (w := w) base 25 o.type 45 i0 2 Try.underlying25 hi _ n _ hown
    unfold Oper.wp
    simp [execOp, ho, resolve, invoke, builtin, hs, hx, hrun, Result.andThen]
    exact h0
  | some p =>
    exact wp_append_own w s x 25 ho base 45 i0 _ 2 24 Try.underlying25 hi hz0 hz1 hz2 rfl (by decide) v n _ hs hown p m c (cellsGone V) hx (by rw [cellsGone_len, hrec.length]) (gone_cells_at hrec) (gone_cells1 _) (by unfold maxLen; omega) (by omega) hbase fun v' w' h2 h3 h4 => by
      obtain ⟨q', c', rfl⟩ := own_form h2
      exact h q' c' w' (by rw [cellsGone_append]; exact h2) h3
theorem append_gone {ops : Array Oper} {rest : List Oper} {o : Oper} {a : Act} {Q : Exit → Act → World → Prop} {w : World} (hg : o.guard = none) (s x : Operand)
    (ho : o.op = .call { callee := .builtin .append, args := #[s, x], argTypes := #[25, 25] })
    (base : Nat) (v : Value) (n : Nat) (W : Gones) (hs : a.eval s = v) (hown : w.ownsRow base 45 2 v n (cellsGone W))
    (q : Option Addr) (m c : Nat) (V : Gones) (hx : a.eval x = .slice q m c) (hrec : GonesAt w q m V) (hnone : q = none → c = 0) (h6 : n + m ≤ 2097152) (hbase : base ≤ w.heap.size)
    (h : ∀ q' c' w', w'.ownsRow base 45 2 (.slice q' (n + m) c') (n + m) (cellsGone (W ++ V)) → w.grownBy w' v.ownBlock → wpList Try.prog ops Q rest (a.put o.dst (.slice q' (n + m) c')) w') : wpList Try.prog ops Q (o :: rest) a w :=
  wpList_plain hg fun _ hK => wp_append_gone s x ho base v n W hs hown q m c V hx hrec hnone h6 hbase fun q' c' w' h2 h3 => hK _ _ (h q' c' w' h2 h3)
/-- At a step of a region that draws its order. -/
theorem step_append_gone {ops : Array Oper} {o : Oper} {a : Act} {K : Act → World → Prop} {Q : Exit → Act → World → Prop} {Ee : Prop} {w : World} (hg : o.guard = none) (s x : Operand)
    (ho : o.op = .call { callee := .builtin .append, args := #[s, x], argTypes := #[25, 25] })
    (base : Nat) (v : Value) (n : Nat) (W : Gones) (hs : a.eval s = v) (hown : w.ownsRow base 45 2 v n (cellsGone W))
    (q : Option Addr) (m c : Nat) (V : Gones) (hx : a.eval x = .slice q m c) (hrec : GonesAt w q m V) (hnone : q = none → c = 0) (h6 : n + m ≤ 2097152) (hbase : base ≤ w.heap.size)
    (h : ∀ q' c' w', w'.ownsRow base 45 2 (.slice q' (n + m) c') (n + m) (cellsGone (W ++ V)) → w.grownBy w' v.ownBlock → K (a.put o.dst (.slice q' (n + m) c')) w') :
    if Region.wanted o (yielded ops a.tmps) = true then Oper.wp Try.prog o a w K Q else Ee := by
  have hw : Region.wanted o (yielded ops a.tmps) = true := by simp [Region.wanted, hg]
  rw [if_pos hw]
  exact wp_append_gone s x ho base v n W hs hown q m c V hx hrec hnone h6 hbase h
/-- append of one value that has just been laid in a block of its own. -/
theorem wp_append1_gone {o : Oper} {a : Act} {K : Act → World → Prop} {Q : Exit → Act → World → Prop} {w : World} (s x : Operand)
    (ho : o.op = .call { callee := .builtin .append, args := #[s, x], argTypes := #[25, 25] })
    (base : Nat) (v : Value) (n : Nat) (W : Gones) (hs : a.eval s = v) (hown : w.ownsRow base 45 2 v n (cellsGone W))
    (B c : Nat) (x0 : ByteArray) (x1 : Int) (hx : a.eval x = .slice (some ⟨B, 0, none⟩) 1 c) (hrow : ∀ j u, [Value.string x0, Value.int .i64 x1][j]? = some u → w.cell? ((⟨B, 0, none⟩ : Addr).add j) = some u) (h6 : n + 1 ≤ 2097152) (hbase : base ≤ w.heap.size)
    (h : ∀ q' c' w', w'.ownsRow base 45 2 (.slice q' (n + 1) c') (n + 1) (cellsGone (W ++ [(x0, x1)])) → w.grownBy w' v.ownBlock → K (a.put o.dst (.slice q' (n + 1) c')) w') : o.wp Try.prog a w K Q := by
  obtain ⟨i0, hi, hz0, hz1, hz2⟩ := info_parts infoGone
  exact wp_append_own w s x 25 ho base 45 i0 _ 2 24 Try.underlying25 hi hz0 hz1 hz2 rfl (by decide) v n _ hs hown ⟨B, 0, none⟩ 1 c [Value.string x0, Value.int .i64 x1] hx rfl hrow (fun u hu => gone_cells1 [(x0, x1)] u (by rw [cellsGone_one_row]; exact hu)) (by unfold maxLen; omega) (by omega) hbase fun v' w' h2 h3 h4 => by
    obtain ⟨q', c', rfl⟩ := own_form h2
    exact h q' c' w' (by rw [cellsGone_snoc]; exact h2) h3
theorem append1_gone {ops : Array Oper} {rest : List Oper} {o : Oper} {a : Act} {Q : Exit → Act → World → Prop} {w : World} (hg : o.guard = none) (s x : Operand)
    (ho : o.op = .call { callee := .builtin .append, args := #[s, x], argTypes := #[25, 25] })
    (base : Nat) (v : Value) (n : Nat) (W : Gones) (hs : a.eval s = v) (hown : w.ownsRow base 45 2 v n (cellsGone W))
    (B c : Nat) (x0 : ByteArray) (x1 : Int) (hx : a.eval x = .slice (some ⟨B, 0, none⟩) 1 c) (hrow : ∀ j u, [Value.string x0, Value.int .i64 x1][j]? = some u → w.cell? ((⟨B, 0, none⟩ : Addr).add j) = some u) (h6 : n + 1 ≤ 2097152) (hbase : base ≤ w.heap.size)
    (h : ∀ q' c' w', w'.ownsRow base 45 2 (.slice q' (n + 1) c') (n + 1) (cellsGone (W ++ [(x0, x1)])) → w.grownBy w' v.ownBlock → wpList Try.prog ops Q rest (a.put o.dst (.slice q' (n + 1) c')) w') : wpList Try.prog ops Q (o :: rest) a w :=
  wpList_plain hg fun _ hK => wp_append1_gone s x ho base v n W hs hown B c x0 x1 hx hrow h6 hbase fun q' c' w' h2 h3 => hK _ _ (h q' c' w' h2 h3)
theorem own_nilGone (w : World) (base : Nat) : w.ownsRow base 45 2 (.slice none 0 0) 0 (cellsGone []) := ⟨rfl, .inl ⟨rfl, rfl⟩⟩
/-- An array of no length that has just been made. -/
theorem own_zeroGone {w : World} {base B : Nat} (h : Row w B 45 #[]) (hb : base ≤ B) : w.ownsRow base 45 2 (.slice (some ⟨B, 0, none⟩) 0 0) 0 (cellsGone []) := ⟨rfl, .inr ⟨B, 0, #[], rfl, hb, h, Nat.le_refl _, Nat.zero_le _, rfl, rfl⟩⟩

/-- The row of a slice that is not empty. -/
theorem own_rowGone {w : World} {base : Nat} {q : Option Addr} {n m c : Nat} {xs : List Value} (h : w.ownsRow base 45 2 (.slice q m c) n xs) (hn : 0 < n) : ∃ g cur, q = some ⟨g, 0, none⟩ ∧ m = n ∧ base ≤ g ∧ Row w g 45 cur ∧ n ≤ c ∧ c ≤ maxLen ∧ cur.size = c * 2 ∧ cur.toList.take (n * 2) = xs := by
  rcases h.2 with ⟨_, h0⟩ | ⟨g, cap, cur, hv, hb, hh, h1, h2, h3, h4⟩
  · omega
  · simp only [Value.slice.injEq] at hv
    obtain ⟨rfl, rfl, rfl⟩ := hv
    exact ⟨g, cur, rfl, rfl, hb, hh, h1, h2, h3, h4⟩
theorem cellsGone_set : ∀ (W : Gones) (p : Nat) (x0 : ByteArray) (x1 : Int), p < W.length → cellsGone (W.set p (x0, x1)) = (((cellsGone W).set (p * 2) (.string x0)).set (p * 2 + 1) (.int .i64 x1))
  | [], p, x0, x1, h => by simp at h
  | r :: t, 0, x0, x1, h => by simp [cellsGone]
  | r :: t, p + 1, x0, x1, h => by
    have ih := cellsGone_set t p x0 x1 (by simpa using h)
    rw [List.set_cons_succ]
    have e : ∀ W : Gones, ∀ r, cellsGone (r :: W) = [Value.string r.1, Value.int .i64 r.2] ++ cellsGone W := fun W r => rfl
    rw [e, e, ih]
    have f0 : (p + 1) * 2 = p * 2 + 1 + 1 := by omega
    have f1 : (p + 1) * 2 + 1 = p * 2 + 1 + 1 + 1 := by omega
    rw [f1, f0]
    simp only [List.cons_append, List.nil_append, List.set_cons_succ]
/-- One value of an own row laid anew. -/
theorem own_setGone {w : World} {base g n c : Nat} {W : Gones} (h : w.ownsRow base 45 2 (.slice (some ⟨g, 0, none⟩) n c) n (cellsGone W)) {p : Nat} (hp : p < n) (x0 : ByteArray) (x1 : Int) :
    ((w.setCell ⟨g, p * 2, none⟩ (.string x0)).setCell ⟨g, p * 2 + 1, none⟩ (.int .i64 x1)).ownsRow base 45 2 (.slice (some ⟨g, 0, none⟩) n c) n (cellsGone (W.set p (x0, x1))) := by
  have hl := h.1
  rw [cellsGone_len] at hl
  have hl2 : W.length = n := by omega
  obtain ⟨g', cur, hq, _, hb, hr, h1, h2, h3, h4⟩ := own_rowGone h (by omega)
  simp only [Option.some.injEq, Addr.mk.injEq, and_true] at hq
  subst hq
  refine ⟨by rw [cellsGone_len, List.length_set, hl2], .inr ⟨g, c, ((cur.setIfInBounds (p * 2) (.string x0)).setIfInBounds (p * 2 + 1) (.int .i64 x1)), rfl, hb, (hr.set _ _).set _ _, h1, h2, by simpa using h3, ?_⟩⟩
  rw [cellsGone_set W p x0 x1 (by omega), ← h4]
  simp only [Array.toList_setIfInBounds, List.take_set]

def HeldNumGone (q : Nat) (w : World) (e : Ending) (w' : World) : Prop := e = .returned (.int .i64 (q : Int)) ∧ Below w.heap.size w w'
end Go.Proofs.Ytblpebdjbenphaa
