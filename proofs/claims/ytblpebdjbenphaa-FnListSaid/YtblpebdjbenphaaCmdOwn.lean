
/- Slices of Cmd values in rows of the call's own: appends to them, and the laws' look whether they were kept. Only the own row and new blocks change. -/
import Derived.Test.YtblpebdjbenphaaMg6
import Derived.Test.YtblpebdjbenphaaCmdMark
import Derived.Test.YtblpebdjbenphaaMg2
import Derived.Laws.AppendOwnNone
namespace Go.Proofs.Ytblpebdjbenphaa
open Go.ChangeShapes Go.WideShapes Go.ChangeAt Go.RowKit
set_option linter.unusedVariables false
set_option maxRecDepth 100000

def cellsCmd (W : Cmds) : List Value := W.flatMap fun r => [Value.int .i64 r.1, Value.string r.2.1, Value.int .i64 r.2.2.1, Value.string r.2.2.2]
theorem cellsCmd_nil : cellsCmd [] = [] := rfl
theorem cellsCmd_snoc (W : Cmds) (x0 : Int) (x1 : ByteArray) (x2 : Int) (x3 : ByteArray) : cellsCmd (W ++ [(x0, x1, x2, x3)]) = cellsCmd W ++ [.int .i64 x0, .string x1, .int .i64 x2, .string x3] := by simp [cellsCmd]
theorem cellsCmd_append (W V : Cmds) : cellsCmd (W ++ V) = cellsCmd W ++ cellsCmd V := by simp [cellsCmd]
theorem cellsCmd_one_row (x0 : Int) (x1 : ByteArray) (x2 : Int) (x3 : ByteArray) : cellsCmd [(x0, x1, x2, x3)] = [.int .i64 x0, .string x1, .int .i64 x2, .string x3] := by simp [cellsCmd]
theorem cellsCmd_len : ∀ W : Cmds, (cellsCmd W).length = W.length * 4
  | [] => rfl
  | r :: t => by
    have := cellsCmd_len t
    simp only [cellsCmd] at this
    simp [cellsCmd, List.flatMap_cons, this]; omega
theorem cellsCmd_get : ∀ (W : Cmds) (j : Nat), j < W.length → (cellsCmd W)[j * 4]? = some (.int .i64 (cmd0 W j)) ∧ (cellsCmd W)[j * 4 + 1]? = some (.string (cmd1 W j)) ∧ (cellsCmd W)[j * 4 + 2]? = some (.int .i64 (cmd2 W j)) ∧ (cellsCmd W)[j * 4 + 3]? = some (.string (cmd3 W j))
  | [], j, h => by simp at h
  | r :: t, 0, h => by simp [cellsCmd, cmd0, cmd1, cmd2, cmd3]
  | r :: t, j + 1, h => by
    have := cellsCmd_get t j (by simpa using h)
    have e : (j + 1) * 4 = j * 4 + 4 := by omega
    simp only [cellsCmd] at this
    rw [e]
    have e0 : j * 4 + 4 = j * 4 + 1 + 1 + 1 + 1 := by omega
    have e1 : j * 4 + 4 + 1 = j * 4 + 1 + 1 + 1 + 1 + 1 := by omega
    have e2 : j * 4 + 4 + 2 = j * 4 + 2 + 1 + 1 + 1 + 1 := by omega
    have e3 : j * 4 + 4 + 3 = j * 4 + 3 + 1 + 1 + 1 + 1 := by omega
    rw [e1, e2, e3, e0]
    simp only [cellsCmd, List.flatMap_cons, List.cons_append, List.nil_append, List.getElem?_cons_succ]
    simpa [cmd0, cmd1, cmd2, cmd3] using this
theorem cmd_cells1 : ∀ W : Cmds, ∀ u ∈ cellsCmd W, u.oneCell' = true := by
  intro W u hu
  unfold cellsCmd at hu
  rw [List.mem_flatMap] at hu
  obtain ⟨r, _, hr⟩ := hu
  simp only [List.mem_cons, or_false, List.not_mem_nil] at hr
  rcases hr with rfl | rfl | rfl | rfl
  all_goals rfl
theorem cmd_new (w : World) (x0 : Int) (x1 : ByteArray) (x2 : Int) (x3 : ByteArray) (t : TypeId) : ∀ j u, [Value.int .i64 x0, Value.string x1, Value.int .i64 x2, Value.string x3][j]? = some u → (w.alloc (.cells #[.int .i64 x0, .string x1, .int .i64 x2, .string x3] t)).cell? ((⟨w.heap.size, 0, none⟩ : Addr).add j) = some u := by
  intro j u hj
  match j, hj with
  | 0, hj => simp at hj; subst hj; simp [Addr.add]
  | 1, hj => simp at hj; subst hj; simp [Addr.add]
  | 2, hj => simp at hj; subst hj; simp [Addr.add]
  | 3, hj => simp at hj; subst hj; simp [Addr.add]
theorem cmd_at_row {w : World} {B : Nat} (x0 : Int) (x1 : ByteArray) (x2 : Int) (x3 : ByteArray) {t : TypeId} (h : Row w B t #[.int .i64 x0, .string x1, .int .i64 x2, .string x3]) : ∀ j u, [Value.int .i64 x0, Value.string x1, Value.int .i64 x2, Value.string x3][j]? = some u → w.cell? ((⟨B, 0, none⟩ : Addr).add j) = some u := by
  intro j u hj
  unfold Row at h
  match j, hj with
  | 0, hj => simp at hj; subst hj; simp [Addr.add, World.cell?, h]
  | 1, hj => simp at hj; subst hj; simp [Addr.add, World.cell?, h]
  | 2, hj => simp at hj; subst hj; simp [Addr.add, World.cell?, h]
  | 3, hj => simp at hj; subst hj; simp [Addr.add, World.cell?, h]

/-- The slice (q, length of W) holds the values W in a row from block 'base' on. -/
def CmdK (base : Nat) (w : World) (q : Option Addr) (W : Cmds) : Prop :=
  W.length = 0 ∨ ∃ g cur, q = some ⟨g, 0, none⟩ ∧ base ≤ g ∧ Row w g 57 cur ∧ W.length * 4 ≤ cur.size ∧ CmdLaid cur W W.length
theorem cmdk_of_own {base : Nat} {w : World} {q : Option Addr} {m cp : Nat} {W : Cmds} (h : w.ownsRow base 57 4 (.slice q m cp) W.length (cellsCmd W)) : CmdK base w q W := by
  rcases h.2 with ⟨h1, h2⟩ | ⟨g, cap, cur, hv, hb, hh, h1, _, h3, h4⟩
  · exact .inl h2
  · simp only [Value.slice.injEq] at hv
    obtain ⟨rfl, _, rfl⟩ := hv
    refine .inr ⟨g, cur, rfl, hb, hh, by omega, fun j hj => ?_⟩
    obtain ⟨e0, e1, e2, e3⟩ := cellsCmd_get W j hj
    rw [← h4, List.getElem?_take_of_lt (by omega)] at e0 e1 e2 e3
    exact ⟨by simpa using e0, by simpa using e1, by simpa using e2, by simpa using e3⟩
theorem cmdk_keep {base : Nat} {w w1 : World} {q : Option Addr} {W : Cmds} (h : CmdK base w q W) (hB : Below w.heap.size w w1) : CmdK base w1 q W := by
  rcases h with h0 | ⟨g, cur, rfl, hb, hr, h1, h2⟩
  · exact .inl h0
  · exact .inr ⟨g, cur, rfl, hb, hr.keep hB, h1, h2⟩
theorem cmdk_low {base B : Nat} {w : World} {q : Option Addr} {W : Cmds} (h : CmdK B w q W) (hb : base ≤ B) : CmdK base w q W := by
  rcases h with h0 | ⟨g, cur, rfl, h1, hr, h2, h3⟩
  · exact .inl h0
  · exact .inr ⟨g, cur, rfl, Nat.le_trans hb h1, hr, h2, h3⟩
theorem cmdk_lt {base : Nat} {w : World} {q : Option Addr} {W : Cmds} (h : CmdK base w q W) (hn : 0 < W.length) : ∀ g, q = some ⟨g, 0, none⟩ → base ≤ g ∧ g < w.heap.size := by
  intro g hg
  rcases h with h0 | ⟨g', cur, rfl, hb, hr, h1, h2⟩
  · omega
  · simp only [Option.some.injEq, Addr.mk.injEq, and_true] at hg
    rw [← hg]; exact ⟨hb, hr.lt⟩
theorem cmdk_grown {base : Nat} {w w1 : World} {q : Option Addr} {W : Cmds} {row : Option Nat} (h : CmdK base w q W) (hg : w.grownBy w1 row) (hne : ∀ g, q = some ⟨g, 0, none⟩ → some g ≠ row) : CmdK base w1 q W := by
  rcases h with h0 | ⟨g', cur, rfl, hb, hr, h1, h2⟩
  · exact .inl h0
  · exact .inr ⟨g', cur, rfl, hb, (hg.block g' hr.lt (hne g' rfl)).trans hr, h1, h2⟩
theorem cmdk_put {base : Nat} {w : World} {q : Option Addr} {W : Cmds} (h : CmdK base w q W) {X : Nat} (hne : ∀ g, q = some ⟨g, 0, none⟩ → g ≠ X) (j : Nat) (v : Value) : CmdK base (w.setCell ⟨X, j, none⟩ v) q W := by
  rcases h with h0 | ⟨g', cur, rfl, hb, hr, h1, h2⟩
  · exact .inl h0
  · exact .inr ⟨g', cur, rfl, hb, hr.other (hne g' rfl) j v, h1, h2⟩
theorem cmds_of_k {base n : Nat} {w : World} {q : Option Addr} {W : Cmds} (h : CmdK base w q W) (hn : W.length = n) (hm : n ≤ maxLen) (hs : ∀ i, i < n → (cmd1 W i).size ≤ maxLen ∧ (cmd3 W i).size ≤ maxLen) : CmdsAt w q n W := by
  subst hn
  refine ⟨rfl, hm, hs, ?_⟩
  rcases h with h0 | ⟨g, cur, rfl, _, hr, _, hc⟩
  · exact .inl h0
  · refine .inr ⟨g, 0, rfl, hr.lt, fun i hi => ?_⟩
    obtain ⟨e0, e1, e2, e3⟩ := hc i hi
    unfold Row at hr
    simp [World.cell?, hr, e0, e1, e2, e3]

/-! ### pieces of a slice that may be read, and appends of them -/
theorem cmd_at_take (l : Cmds) (k i : Nat) (h : i < k) : cmd0 (l.take k) i = cmd0 l i ∧ cmd1 (l.take k) i = cmd1 l i ∧ cmd2 (l.take k) i = cmd2 l i ∧ cmd3 (l.take k) i = cmd3 l i := by
  refine ⟨?_, ?_, ?_, ?_⟩ <;> simp [cmd0, cmd1, cmd2, cmd3, List.getElem?_take_of_lt h]
theorem cmd_at_drop (l : Cmds) (k i : Nat) : cmd0 (l.drop k) i = cmd0 l (k + i) ∧ cmd1 (l.drop k) i = cmd1 l (k + i) ∧ cmd2 (l.drop k) i = cmd2 l (k + i) ∧ cmd3 (l.drop k) i = cmd3 l (k + i) := by
  refine ⟨?_, ?_, ?_, ?_⟩ <;> simp [cmd0, cmd1, cmd2, cmd3]
theorem cmds_take {w : World} {a : Option Addr} {len : Nat} {l : Cmds} (h : CmdsAt w a len l) {k : Nat} (hk : k ≤ len) : CmdsAt w a k (l.take k) := by
  have hl := h.length
  refine ⟨by rw [List.length_take]; omega, Nat.le_trans hk h.max, fun i hi => ?_, ?_⟩
  · obtain ⟨e0, e1, e2, e3⟩ := cmd_at_take l k i hi
    have := h.keys i (by omega)
    simpa only [e0, e1, e2, e3] using this
  · rcases h.src with h0 | ⟨b, off, ha, hb, hc⟩
    · exact .inl (by omega)
    · refine .inr ⟨b, off, ha, hb, fun i hi => ?_⟩
      obtain ⟨e0, e1, e2, e3⟩ := cmd_at_take l k i hi
      have := hc i (by omega)
      simpa only [e0, e1, e2, e3] using this
theorem cmds_drop {w : World} {b off : Nat} {len : Nat} {l : Cmds} (h : CmdsAt w (some ⟨b, off, none⟩) len l) {k : Nat} (hk : k ≤ len) : CmdsAt w (some ⟨b, off + k * 4, none⟩) (len - k) (l.drop k) := by
  have hl := h.length
  have hm := h.max
  refine ⟨by rw [List.length_drop]; omega, by omega, fun i hi => ?_, ?_⟩
  · obtain ⟨e0, e1, e2, e3⟩ := cmd_at_drop l k i
    have := h.keys (k + i) (by omega)
    simpa only [e0, e1, e2, e3] using this
  · rcases h.src with h0 | ⟨b', off', ha, hb, hc⟩
    · exact .inl (by omega)
    · simp only [Option.some.injEq, Addr.mk.injEq, and_true] at ha
      obtain ⟨rfl, rfl⟩ := ha
      refine .inr ⟨b, off + k * 4, rfl, hb, fun i hi => ?_⟩
      obtain ⟨e0, e1, e2, e3⟩ := cmd_at_drop l k i
      have := hc (k + i) (by omega)
      rw [show off + (k + i) * 4 = off + k * 4 + i * 4 by rw [Nat.add_mul]; omega] at this
      simpa only [e0, e1, e2, e3] using this
theorem cmds_none {w : World} {a a' : Option Addr} {len : Nat} {l : Cmds} (h : CmdsAt w a len l) (hn : len = 0) : CmdsAt w a' 0 [] := ⟨rfl, Nat.zero_le _, fun i hi => by omega, .inl rfl⟩
theorem cmd_cells_at {w : World} {q : Addr} {len : Nat} {l : Cmds} (h : CmdsAt w (some q) len l) : ∀ j u, (cellsCmd l)[j]? = some u → w.cell? (q.add j) = some u := by
  intro j u hj
  have hl := h.length
  have hjl : j < l.length * 4 := by
    obtain ⟨h1, _⟩ := List.getElem?_eq_some_iff.1 hj
    rw [cellsCmd_len] at h1; exact h1
  rcases h.src with h0 | ⟨b, off, ha, hb, hc⟩
  · omega
  · simp only [Option.some.injEq] at ha
    subst ha
    have hi : j / 4 < len := by omega
    obtain ⟨c0, c1, c2, c3⟩ := hc (j / 4) hi
    obtain ⟨e0, e1, e2, e3⟩ := cellsCmd_get l (j / 4) (by omega)
    have hadd : (⟨b, off, none⟩ : Addr).add j = ⟨b, off + j, none⟩ := by
      unfold Addr.add
      split
      · rename_i h0; subst h0; rfl
      · rfl
    rw [hadd]
    have hr : j % 4 < 4 := Nat.mod_lt _ (by decide)
    have hd : 4 * (j / 4) + j % 4 = j := Nat.div_add_mod j 4
    rcases (show j % 4 = 0 ∨ j % 4 = 1 ∨ j % 4 = 2 ∨ j % 4 = 3 by omega) with hr0 | hr1 | hr2 | hr3
    · have ej : j = j / 4 * 4 := by omega
      have e := e0
      rw [← ej] at e
      rw [e] at hj
      rw [← hj, show off + j = off + j / 4 * 4 by omega]
      exact c0
    · have ej : j = j / 4 * 4 + 1 := by omega
      have e := e1
      rw [← ej] at e
      rw [e] at hj
      rw [← hj, show off + j = off + j / 4 * 4 + 1 by omega]
      exact c1
    · have ej : j = j / 4 * 4 + 2 := by omega
      have e := e2
      rw [← ej] at e
      rw [e] at hj
      rw [← hj, show off + j = off + j / 4 * 4 + 2 by omega]
      exact c2
    · have ej : j = j / 4 * 4 + 3 := by omega
      have e := e3
      rw [← ej] at e
      rw [e] at hj
      rw [← hj, show off + j = off + j / 4 * 4 + 3 by omega]
      exact c3

theorem own_cellsCmd {w : World} {base : Nat} {v : Value} {W : Cmds} {xs : List Value} {m k : Nat} (h : w.ownsRow base 57 4 v m xs) (hm : m = k) (hx : xs = cellsCmd W) : w.ownsRow base 57 4 v k (cellsCmd W) := by rw [← hm, ← hx]; exact h
/-- append of values that may be read, nil or not, to a row of the call's own. -/
theorem wp_append_cmd {o : Oper} {a : Act} {K : Act → World → Prop} {Q : Exit → Act → World → Prop} {w : World} (s x : Operand)
    (ho : o.op = .call { callee := .builtin .append, args := #[s, x], argTypes := #[65, 65] })
    (base : Nat) (v : Value) (n : Nat) (W : Cmds) (hs : a.eval s = v) (hown : w.ownsRow base 57 4 v n (cellsCmd W))
    (q : Option Addr) (m c : Nat) (V : Cmds) (hx : a.eval x = .slice q m c) (hrec : CmdsAt w q m V) (hnone : q = none → c = 0) (h6 : n + m ≤ 2097152) (hbase : base ≤ w.heap.size)
    (h : ∀ q' c' w', w'.ownsRow base 57 4 (.slice q' (n + m) c') (n + m) (cellsCmd (W ++ V)) → w.grownBy w' v.ownBlock → K (a.put o.dst (.slice q' (n + m) c')) w') : o.wp Try.prog a w K Q := by
  obtain ⟨i0, hi, hz0, hz1, hz2⟩ := info_parts infoCmd
  cases q with
  | none =>
    have hc := hnone rfl
    have hm : m = 0 := by
      rcases hrec.src with h0 | ⟨b, off, ha, _⟩
      · exact h0
      · cases ha
    subst hm hc
    obtain rfl : V = [] := List.eq_nil_of_length_eq_zero hrec.length
    obtain ⟨q', c', rfl⟩ := own_form hown
    have h0 := h q' c' w (by simpa using hown) (World.grownBy.refl _ _)
    have hrun := run_append_owned_none (P := Try.prog) (w := w) base 65 o.type 57 i0 4 Try.underlying65 hi _ n _ hown
    unfold Oper.wp
    simp [execOp, ho, resolve, invoke, builtin, hs, hx, hrun, Result.andThen]
    exact h0
  | some p =>
    exact wp_append_own w s x 65 ho base 57 i0 _ 4 48 Try.underlying65 hi hz0 hz1 hz2 rfl (by decide) v n _ hs hown p m c (cellsCmd V) hx (by rw [cellsCmd_len, hrec.length]) (cmd_cells_at hrec) (cmd_cells1 _) (by unfold maxLen; omega) (by omega) hbase fun v' w' h2 h3 h4 => by
      obtain ⟨q', c', rfl⟩ := own_form h2
      exact h q' c' w' (by rw [cellsCmd_append]; exact h2) h3
theorem append_cmd {ops : Array Oper} {rest : List Oper} {o : Oper} {a : Act} {Q : Exit → Act → World → Prop} {w : World} (hg : o.guard = none) (s x : Operand)
    (ho : o.op = .call { callee := .builtin .append, args := #[s, x], argTypes := #[65, 65] })
    (base : Nat) (v : Value) (n : Nat) (W : Cmds) (hs : a.eval s = v) (hown : w.ownsRow base 57 4 v n (cellsCmd W))
    (q : Option Addr) (m c : Nat) (V : Cmds) (hx : a.eval x = .slice q m c) (hrec : CmdsAt w q m V) (hnone : q = none → c = 0) (h6 : n + m ≤ 2097152) (hbase : base ≤ w.heap.size)
    (h : ∀ q' c' w', w'.ownsRow base 57 4 (.slice q' (n + m) c') (n + m) (cellsCmd (W ++ V)) → w.grownBy w' v.ownBlock → wpList Try.prog ops Q rest (a.put o.dst (.slice q' (n + m) c')) w') : wpList Try.prog ops Q (o :: rest) a w :=
  wpList_plain hg fun _ hK => wp_append_cmd s x ho base v n W hs hown q m c V hx hrec hnone h6 hbase fun q' c' w' h2 h3 => hK _ _ (h q' c' w' h2 h3)
/-- At a step of a region that draws its order. -/
theorem step_append_cmd {ops : Array Oper} {o : Oper} {a : Act} {K : Act → World → Prop} {Q : Exit → Act → World → Prop} {Ee : Prop} {w : World} (hg : o.guard = none) (s x : Operand)
    (ho : o.op = .call { callee := .builtin .append, args := #[s, x], argTypes := #[65, 65] })
    (base : Nat) (v : Value) (n : Nat) (W : Cmds) (hs : a.eval s = v) (hown : w.ownsRow base 57 4 v n (cellsCmd W))
    (q : Option Addr) (m c : Nat) (V : Cmds) (hx : a.eval x = .slice q m c) (hrec : CmdsAt w q m V) (hnone : q = none → c = 0) (h6 : n + m ≤ 2097152) (hbase : base ≤ w.heap.size)
    (h : ∀ q' c' w', w'.ownsRow base 57 4 (.slice q' (n + m) c') (n + m) (cellsCmd (W ++ V)) → w.grownBy w' v.ownBlock → K (a.put o.dst (.slice q' (n + m) c')) w') :
    if Region.wanted o (yielded ops a.tmps) = true then Oper.wp Try.prog o a w K Q else Ee := by
  have hw : Region.wanted o (yielded ops a.tmps) = true := by simp [Region.wanted, hg]
  rw [if_pos hw]
  exact wp_append_cmd s x ho base v n W hs hown q m c V hx hrec hnone h6 hbase h
/-- append of one value that has just been laid in a block of its own. -/
theorem wp_append1_cmd {o : Oper} {a : Act} {K : Act → World → Prop} {Q : Exit → Act → World → Prop} {w : World} (s x : Operand)
    (ho : o.op = .call { callee := .builtin .append, args := #[s, x], argTypes := #[65, 65] })
    (base : Nat) (v : Value) (n : Nat) (W : Cmds) (hs : a.eval s = v) (hown : w.ownsRow base 57 4 v n (cellsCmd W))
    (B c : Nat) (x0 : Int) (x1 : ByteArray) (x2 : Int) (x3 : ByteArray) (hx : a.eval x = .slice (some ⟨B, 0, none⟩) 1 c) (hrow : ∀ j u, [Value.int .i64 x0, Value.string x1, Value.int .i64 x2, Value.string x3][j]? = some u → w.cell? ((⟨B, 0, none⟩ : Addr).add j) = some u) (h6 : n + 1 ≤ 2097152) (hbase : base ≤ w.heap.size)
    (h : ∀ q' c' w', w'.ownsRow base 57 4 (.slice q' (n + 1) c') (n + 1) (cellsCmd (W ++ [(x0, x1, x2, x3)])) → w.grownBy w' v.ownBlock → K (a.put o.dst (.slice q' (n + 1) c')) w') : o.wp Try.prog a w K Q := by
  obtain ⟨i0, hi, hz0, hz1, hz2⟩ := info_parts infoCmd
  exact wp_append_own w s x 65 ho base 57 i0 _ 4 48 Try.underlying65 hi hz0 hz1 hz2 rfl (by decide) v n _ hs hown ⟨B, 0, none⟩ 1 c [Value.int .i64 x0, Value.string x1, Value.int .i64 x2, Value.string x3] hx rfl hrow (fun u hu => cmd_cells1 [(x0, x1, x2, x3)] u (by rw [cellsCmd_one_row]; exact hu)) (by unfold maxLen; omega) (by omega) hbase fun v' w' h2 h3 h4 => by
    obtain ⟨q', c', rfl⟩ := own_form h2
    exact h q' c' w' (by rw [cellsCmd_snoc]; exact h2) h3
theorem append1_cmd {ops : Array Oper} {rest : List Oper} {o : Oper} {a : Act} {Q : Exit → Act → World → Prop} {w : World} (hg : o.guard = none) (s x : Operand)
    (ho : o.op = .call { callee := .builtin .append, args := #[s, x], argTypes := #[65, 65] })
    (base : Nat) (v : Value) (n : Nat) (W : Cmds) (hs : a.eval s = v) (hown : w.ownsRow base 57 4 v n (cellsCmd W))
    (B c : Nat) (x0 : Int) (x1 : ByteArray) (x2 : Int) (x3 : ByteArray) (hx : a.eval x = .slice (some ⟨B, 0, none⟩) 1 c) (hrow : ∀ j u, [Value.int .i64 x0, Value.string x1, Value.int .i64 x2, Value.string x3][j]? = some u → w.cell? ((⟨B, 0, none⟩ : Addr).add j) = some u) (h6 : n + 1 ≤ 2097152) (hbase : base ≤ w.heap.size)
    (h : ∀ q' c' w', w'.ownsRow base 57 4 (.slice q' (n + 1) c') (n + 1) (cellsCmd (W ++ [(x0, x1, x2, x3)])) → w.grownBy w' v.ownBlock → wpList Try.prog ops Q rest (a.put o.dst (.slice q' (n + 1) c')) w') : wpList Try.prog ops Q (o :: rest) a w :=
  wpList_plain hg fun _ hK => wp_append1_cmd s x ho base v n W hs hown B c x0 x1 x2 x3 hx hrow h6 hbase fun q' c' w' h2 h3 => hK _ _ (h q' c' w' h2 h3)
theorem own_nilCmd (w : World) (base : Nat) : w.ownsRow base 57 4 (.slice none 0 0) 0 (cellsCmd []) := ⟨rfl, .inl ⟨rfl, rfl⟩⟩
/-- An array of no length that has just been made. -/
theorem own_zeroCmd {w : World} {base B : Nat} (h : Row w B 57 #[]) (hb : base ≤ B) : w.ownsRow base 57 4 (.slice (some ⟨B, 0, none⟩) 0 0) 0 (cellsCmd []) := ⟨rfl, .inr ⟨B, 0, #[], rfl, hb, h, Nat.le_refl _, Nat.zero_le _, rfl, rfl⟩⟩

/-- The row of a slice that is not empty. -/
theorem own_rowCmd {w : World} {base : Nat} {q : Option Addr} {n m c : Nat} {xs : List Value} (h : w.ownsRow base 57 4 (.slice q m c) n xs) (hn : 0 < n) : ∃ g cur, q = some ⟨g, 0, none⟩ ∧ m = n ∧ base ≤ g ∧ Row w g 57 cur ∧ n ≤ c ∧ c ≤ maxLen ∧ cur.size = c * 4 ∧ cur.toList.take (n * 4) = xs := by
  rcases h.2 with ⟨_, h0⟩ | ⟨g, cap, cur, hv, hb, hh, h1, h2, h3, h4⟩
  · omega
  · simp only [Value.slice.injEq] at hv
    obtain ⟨rfl, rfl, rfl⟩ := hv
    exact ⟨g, cur, rfl, rfl, hb, hh, h1, h2, h3, h4⟩
theorem cellsCmd_set : ∀ (W : Cmds) (p : Nat) (x0 : Int) (x1 : ByteArray) (x2 : Int) (x3 : ByteArray), p < W.length → cellsCmd (W.set p (x0, x1, x2, x3)) = (((((cellsCmd W).set (p * 4) (.int .i64 x0)).set (p * 4 + 1) (.string x1)).set (p * 4 + 2) (.int .i64 x2)).set (p * 4 + 3) (.string x3))
  | [], p, x0, x1, x2, x3, h => by simp at h
  | r :: t, 0, x0, x1, x2, x3, h => by simp [cellsCmd]
  | r :: t, p + 1, x0, x1, x2, x3, h => by
    have ih := cellsCmd_set t p x0 x1 x2 x3 (by simpa using h)
    rw [List.set_cons_succ]
    have e : ∀ W : Cmds, ∀ r, cellsCmd (r :: W) = [Value.int .i64 r.1, Value.string r.2.1, Value.int .i64 r.2.2.1, Value.string r.2.2.2] ++ cellsCmd W := fun W r => rfl
    rw [e, e, ih]
    have f0 : (p + 1) * 4 = p * 4 + 1 + 1 + 1 + 1 := by omega
    have f1 : (p + 1) * 4 + 1 = p * 4 + 1 + 1 + 1 + 1 + 1 := by omega
    have f2 : (p + 1) * 4 + 2 = p * 4 + 2 + 1 + 1 + 1 + 1 := by omega
    have f3 : (p + 1) * 4 + 3 = p * 4 + 3 + 1 + 1 + 1 + 1 := by omega
    rw [f1, f2, f3, f0]
    simp only [List.cons_append, List.nil_append, List.set_cons_succ]
/-- One value of an own row laid anew. -/
theorem own_setCmd {w : World} {base g n c : Nat} {W : Cmds} (h : w.ownsRow base 57 4 (.slice (some ⟨g, 0, none⟩) n c) n (cellsCmd W)) {p : Nat} (hp : p < n) (x0 : Int) (x1 : ByteArray) (x2 : Int) (x3 : ByteArray) :
    ((((w.setCell ⟨g, p * 4, none⟩ (.int .i64 x0)).setCell ⟨g, p * 4 + 1, none⟩ (.string x1)).setCell ⟨g, p * 4 + 2, none⟩ (.int .i64 x2)).setCell ⟨g, p * 4 + 3, none⟩ (.string x3)).ownsRow base 57 4 (.slice (some ⟨g, 0, none⟩) n c) n (cellsCmd (W.set p (x0, x1, x2, x3))) := by
  have hl := h.1
  rw [cellsCmd_len] at hl
  have hl2 : W.length = n := by omega
  obtain ⟨g', cur, hq, _, hb, hr, h1, h2, h3, h4⟩ := own_rowCmd h (by omega)
  simp only [Option.some.injEq, Addr.mk.injEq, and_true] at hq
  subst hq
  refine ⟨by rw [cellsCmd_len, List.length_set, hl2], .inr ⟨g, c, ((((cur.setIfInBounds (p * 4) (.int .i64 x0)).setIfInBounds (p * 4 + 1) (.string x1)).setIfInBounds (p * 4 + 2) (.int .i64 x2)).setIfInBounds (p * 4 + 3) (.string x3)), rfl, hb, (((hr.set _ _).set _ _).set _ _).set _ _, h1, h2, by simpa using h3, ?_⟩⟩
  rw [cellsCmd_set W p x0 x1 x2 x3 (by omega), ← h4]
  simp only [Array.toList_setIfInBounds, List.take_set]

def HeldNumCmd (q : Nat) (w : World) (e : Ending) (w' : World) : Prop := e = .returned (.int .i64 (q : Int)) ∧ Below w.heap.size w w'
end Go.Proofs.Ytblpebdjbenphaa
