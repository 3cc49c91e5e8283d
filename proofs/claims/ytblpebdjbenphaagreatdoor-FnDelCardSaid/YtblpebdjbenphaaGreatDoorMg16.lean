/- Texts put together, as a claim holds at most sixty files. -/
import Derived.Test.YtblpebdjbenphaaGreatDoorMg6
import Derived.Test.YtblpebdjbenphaaGreatDoorMg15
import Derived.Test.YtblpebdjbenphaaGreatDoorMg2
import Derived.Laws.AppendOwnNone
import Derived.Test.YtblpebdjbenphaaGreatDoorDrawCo
namespace Go.Proofs.YtblpebdjbenphaaGreatDoor
open Go.ChangeShapes Go.WideShapes Go.ChangeAt Go.RowKit
set_option linter.unusedVariables false
set_option maxRecDepth 100000

def cellsCmd (W : Cmds) : List Value := W.flatMap fun r => [Value.int .i64 r.1, Value.string r.2.1, Value.int .i64 r.2.2.1, Value.string r.2.2.2]
theorem cellsCmd_nil : cellsCmd [] = [] := rfl
theorem cellsCmd_snoc (W : Cmds) (x0 : Int) (x1 : ByteArray) (x2 : Int) (x3 : ByteArray) : cellsCmd (W ++ [(x0, x1, x2, x3)]) = cellsCmd W ++ [.int .i64 x0, .string x1, .int .i64 x2, .string x3] := by simp [cellsCmd]
theorem cellsCmd_append (W V : Cmds) : cellsCmd (W ++ V) = cellsCmd W ++ cellsCmd V := by simp [cellsCmd]
theorem cellsCmd_one_row (x0 : Int) (x1 : ByteArray) (x2 : Int) (x3 : ByteArray) : cellsCmd [(x0, x1, x2, x3)] = [.int .i64 x0, .string x1, .int .i64 x2, .string x3] := by simp [cellsCmd]
theorem cellsCmd_len : ∀ W : Cmds, (cellsCmd W).length = W.length * 4
  | [] => rfl
  | r :: t => by
    have := cellsCmd_len t
    simp only [cellsCmd] at this
    simp [cellsCmd, List.flatMap_cons, this]; omega
theorem cellsCmd_get : ∀ (W : Cmds) (j : Nat), j < W.length → (cellsCmd W)[j * 4]? = some (.int .i64 (cmd0 W j)) ∧ (cellsCmd W)[j * 4 + 1]? = some (.string (cmd1 W j)) ∧ (cellsCmd W)[j * 4 + 2]? = some (.int .i64 (cmd2 W j)) ∧ (cellsCmd W)[j * 4 + 3]? = some (.string (cmd3 W j))
  | [], j, h => by simp at h
  | r :: t, 0, h => by simp [cellsCmd, cmd0, cmd1, cmd2, cmd3]
  | r :: t, j + 1, h => by
    have := cellsCmd_get t j (by simpa using h)
    have e : (j + 1) * 4 = j * 4 + 4 := by omega
    simp only [cellsCmd] at this
    rw [e]
    have e0 : j * 4 + 4 = j * 4 + 1 + 1 + 1 + 1 := by omega
    have e1 : j * 4 + 4 + 1 = j * 4 + 1 + 1 + 1 + 1 + 1 := by omega
    have e2 : j * 4 + 4 + 2 = j * 4 + 2 + 1 + 1 + 1 + 1 := by omega
    have e3 : j * 4 + 4 + 3 = j * 4 + 3 + 1 + 1 + 1 + 1 := by omega
    rw [e1, e2, e3, e0]
    simp only [cellsCmd, List.flatMap_cons, List.cons_append, List.nil_append, List.getElem?_cons_succ]
    simpa [cmd0, cmd1, cmd2, cmd3] using this
theorem cmd_cells1 : ∀ W : Cmds, ∀ u ∈ cellsCmd W, u.oneCell' = true := by
  intro W u hu
  unfold cellsCmd at hu
  rw [List.mem_flatMap] at hu
  obtain ⟨r, _, hr⟩ := hu
  simp only [List.mem_cons, or_false, List.not_mem_nil] at hr
  rcases hr with rfl | rfl | rfl | rfl
  all_goals rfl
theorem cmd_new (w : World) (x0 : Int) (x1 : ByteArray) (x2 : Int) (x3 : ByteArray) (t : TypeId) : ∀ j u, [Value.int .i64 x0, Value.string x1, Value.int .i64 x2, Value.string x3][j]? = some u → (w.alloc (.cells #[.int .i64 x0, .string x1, .int .i64 x2, .string x3] t)).cell? ((⟨w.heap.size, 0, none⟩ : Addr).add j) = some u := by
  intro j u hj
  match j, hj with
  | 0, hj => simp at hj; subst hj; simp [Addr.add]
  | 1, hj => simp at hj; subst hj; simp [Addr.add]
  | 2, hj => simp at hj; subst hj; simp [Addr.add]
  | 3, hj => simp at hj; subst hj; simp [Addr.add]
theorem cmd_at_row {w : World} {B : Nat} (x0 : Int) (x1 : ByteArray) (x2 : Int) (x3 : ByteArray) {t : TypeId} (h : Row w B t #[.int .i64 x0, .string x1, .int .i64 x2, .string x3]) : ∀ j u, [Value.int .i64 x0, Value.string x1, Value.int .i64 x2, Value.string x3][j]? = some u → w.cell? ((⟨B, 0, none⟩ : Addr).add j) = some u := by
  intro j u hj
  unfold Row at h
  match j, hj with
  | 0, hj => simp at hj; subst hj; simp [Addr.add, World.cell?, h]
  | 1, hj => simp at hj; subst hj; simp [Addr.add, World.cell?, h]
  | 2, hj => simp at hj; subst hj; simp [Addr.add, World.cell?, h]
  | 3, hj => simp at hj; subst hj; simp [Addr.add, World.cell?, h]

/-- The slice (q, length of W) holds the values W in a row from block 'base' on. -/
def CmdK (base : Nat) (w : World) (q : Option Addr) (W : Cmds) : Prop :=
  W.length = 0 ∨ ∃ g cur, q = some ⟨g, 0, none⟩ ∧ base ≤ g ∧ Row w g 52 cur ∧ W.length * 4 ≤ cur.size ∧ CmdLaid cur W W.length
theorem cmdk_of_own {base : Nat} {w : World} {q : Option Addr} {m cp : Nat} {W : Cmds} (h : w.ownsRow base 52 4 (.slice q m cp) W.length (cellsCmd W)) : CmdK base w q W := by
  rcases h.2 with ⟨h1, h2⟩ | ⟨g, cap, cur, hv, hb, hh, h1, _, h3, h4⟩
  · exact .inl h2
  · simp only [Value.slice.injEq] at hv
    obtain ⟨rfl, _, rfl⟩ := hv
    refine .inr ⟨g, cur, rfl, hb, hh, by omega, fun j hj => ?_⟩
    obtain ⟨e0, e1, e2, e3⟩ := cellsCmd_get W j hj
    rw [← h4, List.getElem?_take_of_lt (by omega)] at e0 e1 e2 e3
    exact ⟨by simpa using e0, by simpa using e1, by simpa using e2, by simpa using e3⟩
theorem cmdk_keep {base : Nat} {w w1 : World} {q : Option Addr} {W : Cmds} (h : CmdK base w q W) (hB : Below w.heap.size w w1) : CmdK base w1 q W := by
  rcases h with h0 | ⟨g, cur, rfl, hb, hr, h1, h2⟩
  · exact .inl h0
  · exact .inr ⟨g, cur, rfl, hb, hr.keep hB, h1, h2⟩
theorem cmdk_low {base B : Nat} {w : World} {q : Option Addr} {W : Cmds} (h : CmdK B w q W) (hb : base ≤ B) : CmdK base w q W := by
  rcases h with h0 | ⟨g, cur, rfl, h1, hr, h2, h3⟩
  · exact .inl h0
  · exact .inr ⟨g, cur, rfl, Nat.le_trans hb h1, hr, h2, h3⟩
theorem cmdk_lt {base : Nat} {w : World} {q : Option Addr} {W : Cmds} (h : CmdK base w q W) (hn : 0 < W.length) : ∀ g, q = some ⟨g, 0, none⟩ → base ≤ g ∧ g < w.heap.size := by
  intro g hg
  rcases h with h0 | ⟨g', cur, rfl, hb, hr, h1, h2⟩
  · omega
  · simp only [Option.some.injEq, Addr.mk.injEq, and_true] at hg
    rw [← hg]; exact ⟨hb, hr.lt⟩
theorem cmdk_grown {base : Nat} {w w1 : World} {q : Option Addr} {W : Cmds} {row : Option Nat} (h : CmdK base w q W) (hg : w.grownBy w1 row) (hne : ∀ g, q = some ⟨g, 0, none⟩ → some g ≠ row) : CmdK base w1 q W := by
  rcases h with h0 | ⟨g', cur, rfl, hb, hr, h1, h2⟩
  · exact .inl h0
  · exact .inr ⟨g', cur, rfl, hb, (hg.block g' hr.lt (hne g' rfl)).trans hr, h1, h2⟩
theorem cmdk_put {base : Nat} {w : World} {q : Option Addr} {W : Cmds} (h : CmdK base w q W) {X : Nat} (hne : ∀ g, q = some ⟨g, 0, none⟩ → g ≠ X) (j : Nat) (v : Value) : CmdK base (w.setCell ⟨X, j, none⟩ v) q W := by
  rcases h with h0 | ⟨g', cur, rfl, hb, hr, h1, h2⟩
  · exact .inl h0
  · exact .inr ⟨g', cur, rfl, hb, hr.other (hne g' rfl) j v, h1, h2⟩
theorem cmds_of_k {base n : Nat} {w : World} {q : Option Addr} {W : Cmds} (h : CmdK base w q W) (hn : W.length = n) (hm : n ≤ maxLen) (hs : ∀ i, i < n → (cmd1 W i).size ≤ maxLen ∧ (cmd3 W i).size ≤ maxLen) : CmdsAt w q n W := by
  subst hn
  refine ⟨rfl, hm, hs, ?_⟩
  rcases h with h0 | ⟨g, cur, rfl, _, hr, _, hc⟩
  · exact .inl h0
  · refine .inr ⟨g, 0, rfl, hr.lt, fun i hi => ?_⟩
    obtain ⟨e0, e1, e2, e3⟩ := hc i hi
    unfold Row at hr
    simp [World.cell?, hr, e0, e1, e2, e3]

/-! ### pieces of a slice that may be read, and appends of them -/
theorem cmd_at_take (l : Cmds) (k i : Nat) (h : i < k) : cmd0 (l.take k) i = cmd0 l i ∧ cmd1 (l.take k) i = cmd1 l i ∧ cmd2 (l.take k) i = cmd2 l i ∧ cmd3 (l.take k) i = cmd3 l i := by
  refine ⟨?_, ?_, ?_, ?_⟩ <;> simp [cmd0, cmd1, cmd2, cmd3, List.getElem?_take_of_lt h]
theorem cmd_at_drop (l : Cmds) (k i : Nat) : cmd0 (l.drop k) i = cmd0 l (k + i) ∧ cmd1 (l.drop k) i = cmd1 l (k + i) ∧ cmd2 (l.drop k) i = cmd2 l (k + i) ∧ cmd3 (l.drop k) i = cmd3 l (k + i) := by
  refine ⟨?_, ?_, ?_, ?_⟩ <;> simp [cmd0, cmd1, cmd2, cmd3]
theorem cmds_take {w : World} {a : Option Addr} {len : Nat} {l : Cmds} (h : CmdsAt w a len l) {k : Nat} (hk : k ≤ len) : CmdsAt w a k (l.take k) := by
  have hl := h.length
  refine ⟨by rw [List.length_take]; omega, Nat.le_trans hk h.max, fun i hi => ?_, ?_⟩
  · obtain ⟨e0, e1, e2, e3⟩ := cmd_at_take l k i hi
    have := h.keys i (by omega)
    simpa only [e0, e1, e2, e3] using this
  · rcases h.src with h0 | ⟨b, off, ha, hb, hc⟩
    · exact .inl (by omega)
    · refine .inr ⟨b, off, ha, hb, fun i hi => ?_⟩
      obtain ⟨e0, e1, e2, e3⟩ := cmd_at_take l k i hi
      have := hc i (by omega)
      simpa only [e0, e1, e2, e3] using this
theorem cmds_drop {w : World} {b off : Nat} {len : Nat} {l : Cmds} (h : CmdsAt w (some ⟨b, off, none⟩) len l) {k : Nat} (hk : k ≤ len) : CmdsAt w (some ⟨b, off + k * 4, none⟩) (len - k) (l.drop k) := by
  have hl := h.length
  have hm := h.max
  refine ⟨by rw [List.length_drop]; omega, by omega, fun i hi => ?_, ?_⟩
  · obtain ⟨e0, e1, e2, e3⟩ := cmd_at_drop l k i
    have := h.keys (k + i) (by omega)
    simpa only [e0, e1, e2, e3] using this
  · rcases h.src with h0 | ⟨b', off', ha, hb, hc⟩
    · exact .inl (by omega)
    · simp only [Option.some.injEq, Addr.mk.injEq, and_true] at ha
      obtain ⟨rfl, rfl⟩ := ha
      refine .inr ⟨b, off + k * 4, rfl, hb, fun i hi => ?_⟩
      obtain ⟨e0, e1, e2, e3⟩ := cmd_at_drop l k i
      have := hc (k + i) (by omega)
      rw [show off + (k + i) * 4 = off + k * 4 + i * 4 by rw [Nat.add_mul]; omega] at this
      simpa only [e0, e1, e2, e3] using this
theorem cmds_none {w : World} {a a' : Option Addr} {len : Nat} {l : Cmds} (h : CmdsAt w a len l) (hn : len = 0) : CmdsAt w a' 0 [] := ⟨rfl, Nat.zero_le _, fun i hi => by omega, .inl rfl⟩
theorem cmd_cells_at {w : World} {q : Addr} {len : Nat} {l : Cmds} (h : CmdsAt w (some q) len l) : ∀ j u, (cellsCmd l)[j]? = some u → w.cell? (q.add j) = some u := by
  intro j u hj
  have hl := h.length
  have hjl : j < l.length * 4 := by
    obtain ⟨h1, _⟩ := List.getElem?_eq_some_iff.1 hj
    rw [cellsCmd_len] at h1; exact h1
  rcases h.src with h0 | ⟨b, off, ha, hb, hc⟩
  · omega
  · simp only [Option.some.injEq] at ha
    subst ha
    have hi : j / 4 < len := by omega
    obtain ⟨c0, c1, c2, c3⟩ := hc (j / 4) hi
    obtain ⟨e0, e1, e2, e3⟩ := cellsCmd_get l (j / 4) (by omega)
    have hadd : (⟨b, off, none⟩ : Addr).add j = ⟨b, off + j, none⟩ := by
      unfold Addr.add
      split
      · rename_i h0; subst h0; rfl
      · rfl
    rw [hadd]
    have hr : j % 4 < 4 := Nat.mod_lt _ (by decide)
    have hd : 4 * (j / 4) + j % 4 = j := Nat.div_add_mod j 4
    rcases (show j % 4 = 0 ∨ j % 4 = 1 ∨ j % 4 = 2 ∨ j % 4 = 3 by omega) with hr0 | hr1 | hr2 | hr3
    · have ej : j = j / 4 * 4 := by omega
      have e := e0
      rw [← ej] at e
      rw [e] at hj
      rw [← hj, show off + j = off + j / 4 * 4 by omega]
      exact c0
    · have ej : j = j / 4 * 4 + 1 := by omega
      have e := e1
      rw [← ej] at e
      rw [e] at hj
      rw [← hj, show off + j = off + j / 4 * 4 + 1 by omega]
      exact c1
    · have ej : j = j / 4 * 4 + 2 := by omega
      have e := e2
      rw [← ej] at e
      rw [e] at hj
      rw [← hj, show off + j = off + j / 4 * 4 + 2 by omega]
      exact c2
    · have ej : j = j / 4 * 4 + 3 := by omega
      have e := e3
      rw [← ej] at e
      rw [e] at hj
      rw [← hj, show off + j = off + j / 4 * 4 + 3 by omega]
      exact c3

theorem own_cellsCmd {w : World} {base : Nat} {v : Value} {W : Cmds} {xs : List Value} {m k : Nat} (h : w.ownsRow base 52 4 v m xs) (hm : m = k) (hx : xs = cellsCmd W) : w.ownsRow base 52 4 v k (cellsCmd W) := by rw [← hm, ← hx]; exact h
/-- append of values that may be read, nil or not, to a row of the call's own. -/
theorem wp_append_cmd {o : Oper} {a : Act} {K : Act → World → Prop} {Q : Exit → Act → World → Prop} {w : World} (s x : Operand)
    (ho : o.op = .call { callee := .builtin .append, args := #[s, x], argTypes := #[89, 89] })
    (base : Nat) (v : Value) (n : Nat) (W : Cmds) (hs : a.eval s = v) (hown : w.ownsRow base 52 4 v n (cellsCmd W))
    (q : Option Addr) (m c : Nat) (V : Cmds) (hx : a.eval x = .slice q m c) (hrec : CmdsAt w q m V) (hnone : q = none → c = 0) (h6 : n + m ≤ 2097152) (hbase : base ≤ w.heap.size)
    (h : ∀ q' c' w', w'.ownsRow base 52 4 (.slice q' (n + m) c') (n + m) (cellsCmd (W ++ V)) → w.grownBy w' v.ownBlock → K (a.put o.dst (.slice q' (n + m) c')) w') : o.wp Tryz.prog a w K Q := by
  obtain ⟨i0, hi, hz0, hz1, hz2⟩ := info_parts infoCmd
  cases q with
  | none =>
    have hc := hnone rfl
    have hm : m = 0 := by
      rcases hrec.src with h0 | ⟨b, off, ha, _⟩
      · exact h0
      · cases ha
    subst hm hc
    obtain rfl : V = [] := List.eq_nil_of_length_eq_zero hrec.length
    obtain ⟨q', c', rfl⟩ := own_form hown
    have h0 := h q' c' w (by simpa using hown) (World.grownBy.refl _ _)
    have hrun := run_append_owned_none (P := Tryz.prog) (w := w) base 89 o.type 52 i0 4 Tryz.underlying89 hi _ n _ hown
    unfold Oper.wp
    simp [execOp, ho, resolve, invoke, builtin, hs, hx, hrun, Result.andThen]
    exact h0
  | some p =>
    exact wp_append_own w s x 89 ho base 52 i0 _ 4 48 Tryz.underlying89 hi hz0 hz1 hz2 rfl (by decide) v n _ hs hown p m c (cellsCmd V) hx (by rw [cellsCmd_len, hrec.length]) (cmd_cells_at hrec) (cmd_cells1 _) (by unfold maxLen; omega) (by omega) hbase fun v' w' h2 h3 h4 => by
      obtain ⟨q', c', rfl⟩ := own_form h2
      exact h q' c' w' (by rw [cellsCmd_append]; exact h2) h3
theorem append_cmd {ops : Array Oper} {rest : List Oper} {o : Oper} {a : Act} {Q : Exit → Act → World → Prop} {w : World} (hg : o.guard = none) (s x : Operand)
    (ho : o.op = .call { callee := .builtin .append, args := #[s, x], argTypes := #[89, 89] })
    (base : Nat) (v : Value) (n : Nat) (W : Cmds) (hs : a.eval s = v) (hown : w.ownsRow base 52 4 v n (cellsCmd W))
    (q : Option Addr) (m c : Nat) (V : Cmds) (hx : a.eval x = .slice q m c) (hrec : CmdsAt w q m V) (hnone : q = none → c = 0) (h6 : n + m ≤ 2097152) (hbase : base ≤ w.heap.size)
    (h : ∀ q' c' w', w'.ownsRow base 52 4 (.slice q' (n + m) c') (n + m) (cellsCmd (W ++ V)) → w.grownBy w' v.ownBlock → wpList Tryz.prog ops Q rest (a.put o.dst (.slice q' (n + m) c')) w') : wpList Tryz.prog ops Q (o :: rest) a w :=
  wpList_plain hg fun _ hK => wp_append_cmd s x ho base v n W hs hown q m c V hx hrec hnone h6 hbase fun q' c' w' h2 h3 => hK _ _ (h q' c' w' h2 h3)
/-- At a step of a region that draws its order. -/
theorem step_append_cmd {ops : Array Oper} {o : Oper} {a : Act} {K : Act → World → Prop} {Q : Exit → Act → World → Prop} {Ee : Prop} {w : World} (hg : o.guard = none) (s x : Operand)
    (ho : o.op = .call { callee := .builtin .append, args := #[s, x], argTypes := #[89, 89] })
    (base : Nat) (v : Value) (n : Nat) (W : Cmds) (hs : a.eval s = v) (hown : w.ownsRow base 52 4 v n (cellsCmd W))
    (q : Option Addr) (m c : Nat) (V : Cmds) (hx : a.eval x = .slice q m c) (hrec : CmdsAt w q m V) (hnone : q = none → c = 0) (h6 : n + m ≤ 2097152) (hbase : base ≤ w.heap.size)
    (h : ∀ q' c' w', w'.ownsRow base 52 4 (.slice q' (n + m) c') (n + m) (cellsCmd (W ++ V)) → w.grownBy w' v.ownBlock → K (a.put o.dst (.slice q' (n + m) c')) w') :
    if Region.wanted o (yielded ops a.tmps) = true then Oper.wp Tryz.prog o a w K Q else Ee := by
  have hw : Region.wanted o (yielded ops a.tmps) = true := by simp [Region.wanted, hg]
  rw [if_pos hw]
  exact wp_append_cmd s x ho base v n W hs hown q m c V hx hrec hnone h6 hbase h
/-- append of one value that has just been laid in a block of its own. -/
theorem wp_append1_cmd {o : Oper} {a : Act} {K : Act → World → Prop} {Q : Exit → Act → World → Prop} {w : World} (s x : Operand)
    (ho : o.op = .call { callee := .builtin .append, args := #[s, x], argTypes := #[89, 89] })
    (base : Nat) (v : Value) (n : Nat) (W : Cmds) (hs : a.eval s = v) (hown : w.ownsRow base 52 4 v n (cellsCmd W))
    (B c : Nat) (x0 : Int) (x1 : ByteArray) (x2 : Int) (x3 : ByteArray) (hx : a.eval x = .slice (some ⟨B, 0, none⟩) 1 c) (hrow : ∀ j u, [Value.int .i64 x0, Value.string x1, Value.int .i64 x2, Value.string x3][j]? = some u → w.cell? ((⟨B, 0, none⟩ : Addr).add j) = some u) (h6 : n + 1 ≤ 2097152) (hbase : base ≤ w.heap.size)
    (h : ∀ q' c' w', w'.ownsRow base 52 4 (.slice q' (n + 1) c') (n + 1) (cellsCmd (W ++ [(x0, x1, x2, x3)])) → w.grownBy w' v.ownBlock → K (a.put o.dst (.slice q' (n + 1) c')) w') : o.wp Tryz.prog a w K Q := by
  obtain ⟨i0, hi, hz0, hz1, hz2⟩ := info_parts infoCmd
  exact wp_append_own w s x 89 ho base 52 i0 _ 4 48 Tryz.underlying89 hi hz0 hz1 hz2 rfl (by decide) v n _ hs hown ⟨B, 0, none⟩ 1 c [Value.int .i64 x0, Value.string x1, Value.int .i64 x2, Value.string x3] hx rfl hrow (fun u hu => cmd_cells1 [(x0, x1, x2, x3)] u (by rw [cellsCmd_one_row]; exact hu)) (by unfold maxLen; omega) (by omega) hbase fun v' w' h2 h3 h4 => by
    obtain ⟨q', c', rfl⟩ := own_form h2
    exact h q' c' w' (by rw [cellsCmd_snoc]; exact h2) h3
theorem append1_cmd {ops : Array Oper} {rest : List Oper} {o : Oper} {a : Act} {Q : Exit → Act → World → Prop} {w : World} (hg : o.guard = none) (s x : Operand)
    (ho : o.op = .call { callee := .builtin .append, args := #[s, x], argTypes := #[89, 89] })
    (base : Nat) (v : Value) (n : Nat) (W : Cmds) (hs : a.eval s = v) (hown : w.ownsRow base 52 4 v n (cellsCmd W))
    (B c : Nat) (x0 : Int) (x1 : ByteArray) (x2 : Int) (x3 : ByteArray) (hx : a.eval x = .slice (some ⟨B, 0, none⟩) 1 c) (hrow : ∀ j u, [Value.int .i64 x0, Value.string x1, Value.int .i64 x2, Value.string x3][j]? = some u → w.cell? ((⟨B, 0, none⟩ : Addr).add j) = some u) (h6 : n + 1 ≤ 2097152) (hbase : base ≤ w.heap.size)
    (h : ∀ q' c' w', w'.ownsRow base 52 4 (.slice q' (n + 1) c') (n + 1) (cellsCmd (W ++ [(x0, x1, x2, x3)])) → w.grownBy w' v.ownBlock → wpList Tryz.prog ops Q rest (a.put o.dst (.slice q' (n + 1) c')) w') : wpList Tryz.prog ops Q (o :: rest) a w :=
  wpList_plain hg fun _ hK => wp_append1_cmd s x ho base v n W hs hown B c x0 x1 x2 x3 hx hrow h6 hbase fun q' c' w' h2 h3 => hK _ _ (h q' c' w' h2 h3)
theorem own_nilCmd (w : World) (base : Nat) : w.ownsRow base 52 4 (.slice none 0 0) 0 (cellsCmd []) := ⟨rfl, .inl ⟨rfl, rfl⟩⟩
/-- An array of no length that has just been made. -/
theorem own_zeroCmd {w : World} {base B : Nat} (h : Row w B 52 #[]) (hb : base ≤ B) : w.ownsRow base 52 4 (.slice (some ⟨B, 0, none⟩) 0 0) 0 (cellsCmd []) := ⟨rfl, .inr ⟨B, 0, #[], rfl, hb, h, Nat.le_refl _, Nat.zero_le _, rfl, rfl⟩⟩

/-- The row of a slice that is not empty. -/
theorem own_rowCmd {w : World} {base : Nat} {q : Option Addr} {n m c : Nat} {xs : List Value} (h : w.ownsRow base 52 4 (.slice q m c) n xs) (hn : 0 < n) : ∃ g cur, q = some ⟨g, 0, none⟩ ∧ m = n ∧ base ≤ g ∧ Row w g 52 cur ∧ n ≤ c ∧ c ≤ maxLen ∧ cur.size = c * 4 ∧ cur.toList.take (n * 4) = xs := by
  rcases h.2 with ⟨_, h0⟩ | ⟨g, cap, cur, hv, hb, hh, h1, h2, h3, h4⟩
  · omega
  · simp only [Value.slice.injEq] at hv
    obtain ⟨rfl, rfl, rfl⟩ := hv
    exact ⟨g, cur, rfl, rfl, hb, hh, h1, h2, h3, h4⟩
theorem cellsCmd_set : ∀ (W : Cmds) (p : Nat) (x0 : Int) (x1 : ByteArray) (x2 : Int) (x3 : ByteArray), p < W.length → cellsCmd (W.set p (x0, x1, x2, x3)) = (((((cellsCmd W).set (p * 4) (.int .i64 x0)).set (p * 4 + 1) (.string x1)).set (p * 4 + 2) (.int .i64 x2)).set (p * 4 + 3) (.string x3))
  | [], p, x0, x1, x2, x3, h => by simp at h
  | r :: t, 0, x0, x1, x2, x3, h => by simp [cellsCmd]
  | r :: t, p + 1, x0, x1, x2, x3, h => by
    have ih := cellsCmd_set t p x0 x1 x2 x3 (by simpa using h)
    rw [List.set_cons_succ]
    have e : ∀ W : Cmds, ∀ r, cellsCmd (r :: W) = [Value.int .i64 r.1, Value.string r.2.1, Value.int .i64 r.2.2.1, Value.string r.2.2.2] ++ cellsCmd W := fun W r => rfl
    rw [e, e, ih]
    have f0 : (p + 1) * 4 = p * 4 + 1 + 1 + 1 + 1 := by omega
    have f1 : (p + 1) * 4 + 1 = p * 4 + 1 + 1 + 1 + 1 + 1 := by omega
    have f2 : (p + 1) * 4 + 2 = p * 4 + 2 + 1 + 1 + 1 + 1 := by omega
    have f3 : (p + 1) * 4 + 3 = p * 4 + 3 + 1 + 1 + 1 + 1 := by omega
    rw [f1, f2, f3, f0]
    simp only [List.cons_append, List.nil_append, List.set_cons_succ]
/-- One value of an own row laid anew. -/
theorem own_setCmd {w : World} {base g n c : Nat} {W : Cmds} (h : w.ownsRow base 52 4 (.slice (some ⟨g, 0, none⟩) n c) n (cellsCmd W)) {p : Nat} (hp : p < n) (x0 : Int) (x1 : ByteArray) (x2 : Int) (x3 : ByteArray) :
    ((((w.setCell ⟨g, p * 4, none⟩ (.int .i64 x0)).setCell ⟨g, p * 4 + 1, none⟩ (.string x1)).setCell ⟨g, p * 4 + 2, none⟩ (.int .i64 x2)).setCell ⟨g, p * 4 + 3, none⟩ (.string x3)).ownsRow base 52 4 (.slice (some ⟨g, 0, none⟩) n c) n (cellsCmd (W.set p (x0, x1, x2, x3))) := by
  have hl := h.1
  rw [cellsCmd_len] at hl
  have hl2 : W.length = n := by omega
  obtain ⟨g', cur, hq, _, hb, hr, h1, h2, h3, h4⟩ := own_rowCmd h (by omega)
  simp only [Option.some.injEq, Addr.mk.injEq, and_true] at hq
  subst hq
  refine ⟨by rw [cellsCmd_len, List.length_set, hl2], .inr ⟨g, c, ((((cur.setIfInBounds (p * 4) (.int .i64 x0)).setIfInBounds (p * 4 + 1) (.string x1)).setIfInBounds (p * 4 + 2) (.int .i64 x2)).setIfInBounds (p * 4 + 3) (.string x3)), rfl, hb, (((hr.set _ _).set _ _).set _ _).set _ _, h1, h2, by simpa using h3, ?_⟩⟩
  rw [cellsCmd_set W p x0 x1 x2 x3 (by omega), ← h4]
  simp only [Array.toList_setIfInBounds, List.take_set]

def HeldNumCmd (q : Nat) (w : World) (e : Ending) (w' : World) : Prop := e = .returned (.int .i64 (q : Int)) ∧ Below w.heap.size w w'
end Go.Proofs.YtblpebdjbenphaaGreatDoor
namespace Go.Proofs.YtblpebdjbenphaaGreatDoor
open Go.ChangeShapes Go.WideShapes Go.ChangeAt Go.RowKit
set_option linter.unusedVariables false
set_option maxRecDepth 100000

theorem stok_went {base r : Nat} {w w1 : World} {a : Option Addr} {len cap : Nat} {q1 q2 : Option Addr} {n1 c1 n2 c2 : Nat} {l : Objs} {m : Gones} (h : StoK base w q1 n1 c1 q2 n2 c2 l m) (hw : Went w r a len cap w1) (hr : r < base) : StoK base w1 q1 n1 c1 q2 n2 c2 l m := by
  have hlt : ∀ {q : Option Addr} {c : Nat}, AtB base w q c → AtB base w1 q c := fun h => by
    rcases h with h | ⟨g, a, b, c⟩
    · exact .inl h
    · exact .inr ⟨g, a, b, Nat.lt_of_lt_of_le c hw.size⟩
  refine ⟨?_, ?_, h.len1, h.len2, h.cap1, h.cap2, hlt h.at1, hlt h.at2, h.apart⟩
  · rcases h.o with h0 | ⟨g, cur, hq, hb, hr', h3, h4⟩
    · exact .inl h0
    · exact .inr ⟨g, cur, hq, hb, hr'.grown hw.grown (by intro e; injection e with e; omega), h3, h4⟩
  · rcases h.g with h0 | ⟨g, cur, hq, hb, hr', h3, h4⟩
    · exact .inl h0
    · exact .inr ⟨g, cur, hq, hb, hr'.grown hw.grown (by intro e; injection e with e; omega), h3, h4⟩
theorem stok_rowC {base b2 : Nat} {w w1 : World} {q1 q2 : Option Addr} {n1 c1 n2 c2 n : Nat} {l : Objs} {m : Gones} {v : Value} {xs : List Value} (h : StoK base w q1 n1 c1 q2 n2 c2 l m) (ho : w.ownsRow b2 52 4 v n xs) (hg : w.grownBy w1 v.ownBlock) : StoK base w1 q1 n1 c1 q2 n2 c2 l m := by
  have hlt : ∀ {q : Option Addr} {c : Nat}, AtB base w q c → AtB base w1 q c := fun h => by
    rcases h with h | ⟨g, a, b, c⟩
    · exact .inl h
    · exact .inr ⟨g, a, b, Nat.lt_of_lt_of_le c hg.size⟩
  refine ⟨?_, ?_, h.len1, h.len2, h.cap1, h.cap2, hlt h.at1, hlt h.at2, h.apart⟩
  · rcases h.o with h0 | ⟨g, cur, hq, hb, hr, h3, h4⟩
    · exact .inl h0
    · exact .inr ⟨g, cur, hq, hb, row_grownT hr ho (by decide) hg, h3, h4⟩
  · rcases h.g with h0 | ⟨g, cur, hq, hb, hr, h3, h4⟩
    · exact .inl h0
    · exact .inr ⟨g, cur, hq, hb, row_grownT hr ho (by decide) hg, h3, h4⟩
theorem went_on {w w1 w2 : World} {r : Nat} {a : Option Addr} {len cap : Nat} (h : Went w r a len cap w1) (hr : r < w.heap.size) (hB : Below w1.heap.size w1 w2) : Went w r a len cap w2 :=
  h.more (belowGrow hB none) hr (fun k hk => by cases hk)

/-- What the walk holds: the reader, the store so far, the commands so far. -/
structure CS (w : World) (r : Nat) (a : Option Addr) (len cap : Nat) (E : Els) (a1 : Option Addr) (l1 c1 : Nat) (g1 : Option Addr) (m1 d1 : Nat) (L : Cmds) (qc : Option Addr) (nc cc : Nat) (wr : World) : Prop where
  went : Went w r a len cap wr
  now : Row wr w.heap.size 27 #[.slice a1 l1 c1, .slice g1 m1 d1]
  sto : StoK (w.heap.size + 1) wr a1 l1 c1 g1 m1 d1 (objsOf E) (gonsOf E)
  out : wr.ownsRow (w.heap.size + 1) 52 4 (.slice qc nc cc) nc (cellsCmd L)
section
variable {w : World} {r : Nat} {a : Option Addr} {len cap : Nat} {E : Els} {a1 : Option Addr} {l1 c1 : Nat} {g1 : Option Addr} {m1 d1 : Nat} {L : Cmds} {qc : Option Addr} {nc cc : Nat} {wr : World}
theorem CS.step {w2 : World} (h : CS w r a len cap E a1 l1 c1 g1 m1 d1 L qc nc cc wr) (hr : r < w.heap.size) (hw : Went wr r a len cap w2) : CS w r a len cap E a1 l1 c1 g1 m1 d1 L qc nc cc w2 :=
  ⟨h.went.trans hw, h.now.grown hw.grown (by intro e; injection e with e; omega), stok_went h.sto hw (by omega), own_went h.out hw (by omega)⟩
theorem CS.keep {w2 : World} (h : CS w r a len cap E a1 l1 c1 g1 m1 d1 L qc nc cc wr) (hr : r < w.heap.size) (hB : Below wr.heap.size wr w2) : CS w r a len cap E a1 l1 c1 g1 m1 d1 L qc nc cc w2 :=
  ⟨went_on h.went hr hB, h.now.keep hB, h.sto.keep hB, own_below h.out hB⟩
theorem CS.put {y : World} {E2 : Els} {a2 : Option Addr} {l2 c2 : Nat} {g2 : Option Addr} {m2 d2 : Nat} (h : CS w r a len cap E a1 l1 c1 g1 m1 d1 L qc nc cc y) (hr : r < w.heap.size) (hk : StoK (w.heap.size + 1) y a2 l2 c2 g2 m2 d2 (objsOf E2) (gonsOf E2)) :
    CS w r a len cap E2 a2 l2 c2 g2 m2 d2 L qc nc cc ((y.setCell ⟨w.heap.size, 0, none⟩ (.slice a2 l2 c2)).setCell ⟨w.heap.size, 1, none⟩ (.slice g2 m2 d2)) := by
  have hn : ∀ g, (Value.slice qc nc cc).ownBlock = some g → w.heap.size ≠ g := fun g hg => by have := (h.out.lt g hg).1; omega
  have k1 := hk.put (X := w.heap.size) (hk.at1.ne (by omega)) (hk.at2.ne (by omega)) 0 (.slice a2 l2 c2)
  exact ⟨went_set (went_set h.went hr (Nat.le_refl _) 0 _) hr (Nat.le_refl _) 1 _, (h.now.set 0 _).set 1 _, k1.put (X := w.heap.size) (k1.at1.ne (by omega)) (k1.at2.ne (by omega)) 1 (.slice g2 m2 d2), own_put (own_put h.out hn 0 _) hn 1 _⟩
theorem CS.add {w2 : World} {L2 : Cmds} {q2 : Option Addr} {n2 c2 : Nat} (h : CS w r a len cap E a1 l1 c1 g1 m1 d1 L qc nc cc wr) (hr : r < w.heap.size) (hg : wr.grownBy w2 (Value.slice qc nc cc).ownBlock) (ho : w2.ownsRow (w.heap.size + 1) 52 4 (.slice q2 n2 c2) n2 (cellsCmd L2)) : CS w r a len cap E a1 l1 c1 g1 m1 d1 L2 q2 n2 c2 w2 := by
  have hge := own_ge_of h.out (Nat.le_refl _)
  exact ⟨h.went.more hg hr (fun k hk => by have := hge k hk; omega), row_grownT h.now h.out (by decide) hg, stok_rowC h.sto h.out hg, ho⟩
theorem CS.objs (h : CS w r a len cap E a1 l1 c1 g1 m1 d1 L qc nc cc wr) (hE : EP E) : ObjsAt wr a1 l1 (objsOf E) ∧ (∀ i, i < l1 → (obj0 (objsOf E) i).size ≤ 41) ∧ l1 ≤ 1048576 := by
  have hp := stop_of_ep hE
  have hl := h.sto.len1
  refine ⟨(h.sto.sto hp).o, fun i hi => ?_, ?_⟩
  · have := key_len (hp.objs i (by omega)).1
    omega
  · have := hp.few
    omega
theorem CS.apart (h : CS w r a len cap E a1 l1 c1 g1 m1 d1 L qc nc cc wr) (hr : r < w.heap.size) : ∀ b off, a1 = some ⟨b, off, none⟩ → b ≠ r := by
  intro b off hq
  rcases h.sto.at1 with ⟨h0, _⟩ | ⟨g, hg, hb, _⟩
  · rw [h0] at hq; cases hq
  · rw [hg] at hq
    simp only [Option.some.injEq, Addr.mk.injEq, and_true] at hq
    omega
end
theorem CS.start (w : World) (r : Nat) (a : Option Addr) (len cap : Nat) (h : Rdr w r a len cap) : CS w r a len cap [] none 0 0 none 0 0 [] (some ⟨w.heap.size + 1, 0, none⟩) 0 0 ((w.alloc (.cells #[.slice none 0 0, .slice none 0 0] 27)).alloc (.cells #[] 52)) := by
  refine ⟨((Went.refl h).alloc _).alloc _, (Row.new _ _ _).alloc _, StoK.nil _ _, ?_⟩
  have h1 := Row.new (w.alloc (.cells #[.slice none 0 0, .slice none 0 0] 27)) 52 #[]
  have e : (w.alloc (.cells #[.slice none 0 0, .slice none 0 0] 27)).heap.size = w.heap.size + 1 := by simp
  rw [e] at h1
  exact own_zeroCmd h1 (Nat.le_refl _)

/-- A drawn list of at most n commands. -/
def ShortC (L : Cmds) : Prop := ∀ c ∈ L, c.2.1.size ≤ 41 ∧ c.2.2.2.size ≤ 30001
theorem ShortC.add {L : Cmds} (h : ShortC L) (k : Int) (b : ByteArray) (v : Int) (d : ByteArray) (hb : b.size ≤ 41) (hd : d.size ≤ 30001) : ShortC (L ++ [(k, b, v, d)]) := by
  intro c hc
  rcases List.mem_append.1 hc with hc | hc
  · exact h c hc
  · simp at hc; subst hc; exact ⟨hb, hd⟩
def RdCmds (n : Int) (w : World) (r : Nat) (a : Option Addr) (len cap : Nat) (e : Ending) (w' : World) : Prop :=
  ∃ (q : Option Addr) (k cc : Nat) (L : Cmds), (k : Int) ≤ n ∧ e = .returned (.slice q k cc) ∧ L.length = k ∧ ShortC L ∧ w'.ownsRow w.heap.size 52 4 (.slice q k cc) k (cellsCmd L) ∧ Went w r a len cap w'

set_option maxHeartbeats 8000000 in
theorem drawcmds_any (n : Int) (w : World) (r : Nat) (a : Option Addr) (len cap : Nat) (h : Rdr w r a len cap) (hn1 : 1 ≤ n) (hn2 : n ≤ 100) :
    Calls Tryz.prog 53 #[.pointer (some ⟨r, 0, none⟩), .int .i64 n] w (RdCmds n w r a len cap) := by
  have HR := Lib.hid h.lt
  have HS := Lib.hid (CS.start w r a len cap h)
  clear h
  go_enter Tryz.func53, Tryz.ntmps53
  go_wp2_with fail
  refine (below_any _ _ _ _ _ _ HS.out.went.rdr (by omega) (by omega)).mono ?_
  rintro e w1 ⟨⟨x, hx1, hx2, rfl⟩, hw⟩
  have HS := Lib.hid (HS.out.step HR.out hw)
  clear hw
  obtain ⟨x, rfl⟩ : ∃ k : Nat, x = k := ⟨x.toNat, by omega⟩
  go_wp2_with fail
  go_loopw [7, 6] (fun i o wr => ∃ (j k : Nat) (E : Els) (L : Cmds) (a1 : Option Addr) (l1 c1 : Nat) (g1 : Option Addr) (m1 d1 : Nat) (qc : Option Addr) (cc : Nat), (j : Int) + k ≤ n ∧ i = .int .i64 j ∧ o = .slice qc k cc ∧ Hid (L.length = k ∧ EP E ∧ ShortC L ∧ CS w r a len cap E a1 l1 c1 g1 m1 d1 L qc k cc wr)) (fun i _ _ => (intOf i).toNat)
  case atStart => exact ⟨x, 0, [], [], _, _, _, _, _, _, _, _, by omega, rfl, rfl, rfl, ep_nil, by intro c hc; simp at hc, HS.out⟩
  case round =>
    obtain ⟨j, k, E, L, a1, l1, c1, g1, m1, d1, qc, cc, hjk, rfl, rfl, HX⟩ := hrel
    clear HS
    have HL := Lib.hid HX.out.1
    have HEP := Lib.hid HX.out.2.1
    have HSH := Lib.hid HX.out.2.2.1
    have HS := Lib.hid HX.out.2.2.2
    clear HX
    by_cases hj : 0 < j
    · have hj1 : (0 : Int) < (j : Int) := by omega
      obtain ⟨n0, n1⟩ := row_two HS.out.now
      go_wp2_with fail
      refine (drawcmdG_any _ _ _ _ _ a1 g1 l1 c1 m1 d1 (objsOf E) HS.out.went.rdr (HS.out.objs HEP.out).1 (HS.out.objs HEP.out).2.1 (HS.out.objs HEP.out).2.2 (HS.out.apart HR.out)).mono ?_
      rintro e w2 ⟨kd, b, v, d, hb, hd, rfl, hw⟩
      have HS := Lib.hid (HS.out.step HR.out hw)
      clear hw n0 n1
      go_wp2_with fail
      refine (hurtcmd_any _ _ _ _ _ _ _ _ _ HS.out.went.rdr hb hd).mono ?_
      rintro e w3 ⟨kd, b, v, d, hb, hd, rfl, hw⟩
      have HS := Lib.hid (HS.out.step HR.out hw)
      clear hw
      have HB := Lib.hid hb
      have HD := Lib.hid hd
      clear hb hd
      have HC := Lib.hid (Row.new w3 52 #[.int .i64 kd, .string b, .int .i64 v, .string d])
      have HCB := Lib.hid (show w.heap.size + 1 ≤ w3.heap.size from HS.out.now.lt)
      have HS := Lib.hid (HS.out.keep HR.out (below_alloc (Below.refl _ _) (.cells #[.int .i64 kd, .string b, .int .i64 v, .string d] 52)))
      obtain ⟨C, hC⟩ : ∃ C, w3.heap.size = C := ⟨_, rfl⟩
      obtain ⟨w4, hw4⟩ : ∃ x, w3.alloc (.cells #[.int .i64 kd, .string b, .int .i64 v, .string d] 52) = x := ⟨_, rfl⟩
      rw [hC] at HC HCB
      rw [hw4] at HC HS
      obtain ⟨n0, n1⟩ := row_two HS.out.now
      have y0 := HC.out.cell (j := 0) (by simp)
      have y1 := HC.out.cell (j := 1) (by simp)
      have y2 := HC.out.cell (j := 2) (by simp)
      have y3 := HC.out.cell (j := 3) (by simp)
      simp at y0 y1 y2 y3
      go_wp2_with fail
      clear hw4 hC n0 n1 y0 y1 y2 y3
      have HSI := Lib.hid (HS.out.sto.in_ (stop_of_ep HEP.out))
      have HW4 := Lib.hid (show w.heap.size + 1 ≤ w4.heap.size from HS.out.now.lt)
      have HCN := Lib.hid (show C ≠ w.heap.size by have := HCB.out; omega)
      refine (l7done_any a1 g1 l1 c1 m1 d1 E kd b v d _ HEP.out HSI.out (by have := HB.out; unfold maxLen; omega) (by have := HD.out; unfold maxLen; omega)).mono ?_
      obtain ⟨R, hR⟩ : ∃ R, performE kd b v d E = R := ⟨_, rfl⟩
      have HER := Lib.hid (show EP R.1 by rw [← hR]; exact perf_ep HEP.out)
      rw [hR]
      clear hR
      rintro e w5 ⟨a2, l2, c2, g2, m2, d2, rfl, hB, hD⟩
      have HC := Lib.hid (HC.out.keep hB)
      have HS := Lib.hid (HS.out.keep HR.out hB)
      have HK := Lib.hid (keepD hD HS.out.sto HW4.out)
      have n0 := HS.out.now.cell (j := 0) (by simp)
      have n1 := HS.out.now.cell (j := 1) (by simp)
      have nf0 := HS.out.now.free 0
      have nf1 := HS.out.now.free 1
      simp at n0 n1
      have HS := Lib.hid (HS.out.put HR.out HK.out)
      obtain ⟨w6, hw6⟩ : ∃ x, (w5.setCell ⟨w.heap.size, 0, none⟩ (.slice a2 l2 c2)).setCell ⟨w.heap.size, 1, none⟩ (.slice g2 m2 d2) = x := ⟨_, rfl⟩
      rw [hw6] at HS
      have HC := Lib.hid ((HC.out.other (r := w.heap.size) HCN.out 0 (.slice a2 l2 c2)).other HCN.out 1 (.slice g2 m2 d2))
      rw [hw6] at HC
      clear hB hD HSI HK
      have y0 := HC.out.cell (j := 0) (by simp)
      have y1 := HC.out.cell (j := 1) (by simp)
      have y2 := HC.out.cell (j := 2) (by simp)
      have y3 := HC.out.cell (j := 3) (by simp)
      simp at y0 y1 y2 y3
      have HSA := Lib.hid (HS.out.keep HR.out (below_alloc (Below.refl _ _) (.cells #[.int .i64 kd, .string b, .int .i64 v, .string d] 52)))
      go_wp2_with (at_builtin; go_loud (refine append1_cmd rfl _ _ rfl (w.heap.size + 1) (.slice qc k cc) k L rfl HSA.out.out w6.heap.size _ kd b v d rfl (cmd_new w6 _ _ _ _ _) (by omega) HSA.out.now.lt ?_); intro q8 c8 w8 hown hgrow; have HP8 := Lib.hid (HSA.out.add HR.out hgrow hown); clear hown hgrow)
      go_roundw
      case rel => exact ⟨j - 1, k + 1, R.1, L ++ [(kd, b, v, d)], a2, l2, c2, g2, m2, d2, q8, c8, by omega, by rw [show ((j - 1 : Nat) : Int) = (j : Int) - 1 by omega], rfl, by rw [List.length_append, HL.out]; rfl, HER.out, HSH.out.add _ _ _ _ HB.out HD.out, HP8.out⟩
      case measure => simp [intOf]; omega
    · obtain rfl : j = 0 := by omega
      go_wp2
      go_ret
      exact ⟨qc, k, cc, L, by omega, rfl, HL.out, HSH.out, own_low HS.out.out (by omega), HS.out.went⟩
end Go.Proofs.YtblpebdjbenphaaGreatDoor

/- Words of a line as plain lists of bytes: cutting at a byte, splitting at blanks, the words that are not empty. No condition. -/
namespace Go.Proofs.YtblpebdjbenphaaGreatDoor

def noC (c : UInt8) (l : List UInt8) : Prop := ∀ x, x ∈ l → x ≠ c
/-- Split at byte c. -/
def splitL (c : UInt8) : List UInt8 → List (List UInt8)
  | [] => [[]]
  | x :: t => if x = c then [] :: splitL c t else match splitL c t with
    | w :: ws => (x :: w) :: ws
    | [] => [[x]]

theorem splitL_ne (c : UInt8) : ∀ l, splitL c l ≠ []
  | [] => by simp [splitL]
  | x :: t => by
    unfold splitL
    split
    · simp
    · split <;> simp

theorem splitL_no (c : UInt8) : ∀ l, noC c l → splitL c l = [l]
  | [], _ => rfl
  | x :: t, h => by
    have hx : x ≠ c := h x (by simp)
    have ht := splitL_no c t (fun y hy => h y (by simp [hy]))
    unfold splitL
    rw [if_neg hx, ht]

theorem splitL_at (c : UInt8) : ∀ a b, noC c a → splitL c (a ++ c :: b) = a :: splitL c b
  | [], b, _ => by show splitL c (c :: b) = _; rw [splitL, if_pos rfl]
  | x :: a, b, h => by
    have hx : x ≠ c := h x (by simp)
    have ih := splitL_at c a b (fun y hy => h y (by simp [hy]))
    show splitL c (x :: (a ++ c :: b)) = _
    rw [splitL, if_neg hx, ih]

def wordsL (l : List UInt8) : List (List UInt8) := (splitL 32 l).filter fun w => !w.isEmpty

theorem wordsL_nil : wordsL [] = [] := rfl
theorem wordsL_no (a : List UInt8) (h : noC 32 a) : wordsL a = if a.isEmpty then [] else [a] := by
  unfold wordsL; rw [splitL_no 32 a h]
  cases a <;> simp
theorem wordsL_at (a b : List UInt8) (h : noC 32 a) : wordsL (a ++ 32 :: b) = (if a.isEmpty then [] else [a]) ++ wordsL b := by
  unfold wordsL; rw [splitL_at 32 a b h]
  cases a <;> simp

/-- The piece of l from i to j. -/
def piece (l : List UInt8) (i j : Nat) : List UInt8 := (l.drop i).take (j - i)
theorem piece_empty (l : List UInt8) (i : Nat) : piece l i i = [] := by simp [piece]
theorem piece_snoc (l : List UInt8) (i j : Nat) (hij : i ≤ j) (hj : j < l.length) : piece l i (j + 1) = piece l i j ++ [l[j]] := by
  unfold piece
  rw [show j + 1 - i = (j - i) + 1 by omega, List.take_succ_eq_append_getElem (by simp; omega)]
  simp [show i + (j - i) = j by omega]
theorem drop_piece (l : List UInt8) (i j : Nat) (hij : i ≤ j) (hj : j < l.length) : l.drop i = piece l i j ++ l[j] :: l.drop (j + 1) := by
  unfold piece
  have h1 : l.drop i = (l.drop i).take (j - i) ++ (l.drop i).drop (j - i) := (List.take_append_drop _ _).symm
  rw [List.drop_drop, show i + (j - i) = j by omega] at h1
  rw [List.drop_eq_getElem_cons hj] at h1
  exact h1
theorem piece_end (l : List UInt8) (i : Nat) : piece l i l.length = l.drop i := by
  unfold piece; rw [List.take_of_length_le (by simp)]
theorem piece_isEmpty (l : List UInt8) (i j : Nat) (hij : i ≤ j) (hj : j ≤ l.length) : (piece l i j).isEmpty = decide (i = j) := by
  by_cases h : i = j
  · subst h; simp [piece]
  · rw [decide_eq_false h]
    unfold piece
    rw [List.isEmpty_eq_false_iff_exists_mem]
    exact ⟨l[i]'(by omega), by rw [List.mem_take_iff_getElem]; exact ⟨0, by simp; omega, by simp⟩⟩
theorem noC_snoc {c x : UInt8} {l : List UInt8} (h : noC c l) (hx : x ≠ c) : noC c (l ++ [x]) := by
  intro y hy
  rcases List.mem_append.1 hy with h1 | h1
  · exact h y h1
  · rw [List.mem_singleton.1 h1]; exact hx
theorem noC_nil {c : UInt8} : noC c [] := fun _ h => by simp at h

/-- One word found (or none) at position j: the words from 'start' on are it and the words behind. -/
theorem words_step (l : List UInt8) (s j : Nat) (hs : s ≤ j) (hj : j < l.length) (hno : noC 32 (piece l s j)) (hc : l[j] = 32) :
    wordsL (l.drop s) = (if s = j then [] else [piece l s j]) ++ wordsL (l.drop (j + 1)) := by
  rw [drop_piece l s j hs hj, hc, wordsL_at _ _ hno, piece_isEmpty l s j hs (by omega)]
  by_cases h : s = j <;> simp [h]
theorem words_end (l : List UInt8) (s : Nat) (hs : s ≤ l.length) (hno : noC 32 (piece l s l.length)) :
    wordsL (l.drop s) = if s = l.length then [] else [piece l s l.length] := by
  rw [← piece_end l s, wordsL_no _ hno, piece_isEmpty l s _ hs (Nat.le_refl _)]
  by_cases h : s = l.length <;> simp [h]
end Go.Proofs.YtblpebdjbenphaaGreatDoor
