
/- Slices of Obj values in rows of the call's own: appends to them, and the laws' look whether they were kept. Only the own row and new blocks change. -/
import Derived.Test.YtblpebdjbenphaaMg3
import Derived.Test.YtblpebdjbenphaaObjMark
import Derived.Test.YtblpebdjbenphaaMg2
import Derived.Laws.AppendOwnNone
namespace Go.Proofs.Ytblpebdjbenphaa
open Go.ChangeShapes Go.WideShapes Go.ChangeAt Go.RowKit
set_option linter.unusedVariables false
set_option maxRecDepth 100000

def cellsObj (W : Objs) : List Value := W.flatMap fun r => [Value.string r.1, Value.int .i64 r.2.1, Value.string r.2.2]
theorem cellsObj_nil : cellsObj [] = [] := rfl
theorem cellsObj_snoc (W : Objs) (x0 : ByteArray) (x1 : Int) (x2 : ByteArray) : cellsObj (W ++ [(x0, x1, x2)]) = cellsObj W ++ [.string x0, .int .i64 x1, .string x2] := by simp [cellsObj]
theorem cellsObj_append (W V : Objs) : cellsObj (W ++ V) = cellsObj W ++ cellsObj V := by simp [cellsObj]
theorem cellsObj_one_row (x0 : ByteArray) (x1 : Int) (x2 : ByteArray) : cellsObj [(x0, x1, x2)] = [.string x0, .int .i64 x1, .string x2] := by simp [cellsObj]
theorem cellsObj_len : ∀ W : Objs, (cellsObj W).length = W.length * 3
  | [] => rfl
  | r :: t => by
    have := cellsObj_len t
    simp only [cellsObj] at this
    simp [cellsObj, List.flatMap_cons, this]; omega
theorem cellsObj_get : ∀ (W : Objs) (j : Nat), j < W.length → (cellsObj W)[j * 3]? = some (.string (obj0 W j)) ∧ (cellsObj W)[j * 3 + 1]? = some (.int .i64 (obj1 W j)) ∧ (cellsObj W)[j * 3 + 2]? = some (.string (obj2 W j))
  | [], j, h => by simp at h
  | r :: t, 0, h => by simp [cellsObj, obj0, obj1, obj2]
  | r :: t, j + 1, h => by
    have := cellsObj_get t j (by simpa using h)
    have e : (j + 1) * 3 = j * 3 + 3 := by omega
    simp only [cellsObj] at this
    rw [e]
    have e0 : j * 3 + 3 = j * 3 + 1 + 1 + 1 := by omega
    have e1 : j * 3 + 3 + 1 = j * 3 + 1 + 1 + 1 + 1 := by omega
    have e2 : j * 3 + 3 + 2 = j * 3 + 2 + 1 + 1 + 1 := by omega
    rw [e1, e2, e0]
    simp only [cellsObj, List.flatMap_cons, List.cons_append, List.nil_append, List.getElem?_cons_succ]
    simpa [obj0, obj1, obj2] using this
theorem obj_cells1 : ∀ W : Objs, ∀ u ∈ cellsObj W, u.oneCell' = true := by
  intro W u hu
  unfold cellsObj at hu
  rw [List.mem_flatMap] at hu
  obtain ⟨r, _, hr⟩ := hu
  simp only [List.mem_cons, or_false, List.not_mem_nil] at hr
  rcases hr with rfl | rfl | rfl
  all_goals rfl
theorem obj_new (w : World) (x0 : ByteArray) (x1 : Int) (x2 : ByteArray) (t : TypeId) : ∀ j u, [Value.string x0, Value.int .i64 x1, Value.string x2][j]? = some u → (w.alloc (.cells #[.string x0, .int .i64 x1, .string x2] t)).cell? ((⟨w.heap.size, 0, none⟩ : Addr).add j) = some u := by
  intro j u hj
  match j, hj with
  | 0, hj => simp at hj; subst hj; simp [Addr.add]
  | 1, hj => simp at hj; subst hj; simp [Addr.add]
  | 2, hj => simp at hj; subst hj; simp [Addr.add]
theorem obj_at_row {w : World} {B : Nat} (x0 : ByteArray) (x1 : Int) (x2 : ByteArray) {t : TypeId} (h : Row w B t #[.string x0, .int .i64 x1, .string x2]) : ∀ j u, [Value.string x0, Value.int .i64 x1, Value.string x2][j]? = some u → w.cell? ((⟨B, 0, none⟩ : Addr).add j) = some u := by
  intro j u hj
  unfold Row at h
  match j, hj with
  | 0, hj => simp at hj; subst hj; simp [Addr.add, World.cell?, h]
  | 1, hj => simp at hj; subst hj; simp [Addr.add, World.cell?, h]
  | 2, hj => simp at hj; subst hj; simp [Addr.add, World.cell?, h]

/-- The slice (q, length of W) holds the values W in a row from block 'base' on. -/
def ObjK (base : Nat) (w : World) (q : Option Addr) (W : Objs) : Prop :=
  W.length = 0 ∨ ∃ g cur, q = some ⟨g, 0, none⟩ ∧ base ≤ g ∧ Row w g 31 cur ∧ W.length * 3 ≤ cur.size ∧ ObjLaid cur W W.length
theorem objk_of_own {base : Nat} {w : World} {q : Option Addr} {m cp : Nat} {W : Objs} (h : w.ownsRow base 31 3 (.slice q m cp) W.length (cellsObj W)) : ObjK base w q W := by
  rcases h.2 with ⟨h1, h2⟩ | ⟨g, cap, cur, hv, hb, hh, h1, _, h3, h4⟩
  · exact .inl h2
  · simp only [Value.slice.injEq] at hv
    obtain ⟨rfl, _, rfl⟩ := hv
    refine .inr ⟨g, cur, rfl, hb, hh, by omega, fun j hj => ?_⟩
    obtain ⟨e0, e1, e2⟩ := cellsObj_get W j hj
    rw [← h4, List.getElem?_take_of_lt (by omega)] at e0 e1 e2
    exact ⟨by simpa using e0, by simpa using e1, by simpa using e2⟩
theorem objk_keep {base : Nat} {w w1 : World} {q : Option Addr} {W : Objs} (h : ObjK base w q W) (hB : Below w.heap.size w w1) : ObjK base w1 q W := by
  rcases h with h0 | ⟨g, cur, rfl, hb, hr, h1, h2⟩
  · exact .inl h0
  · exact .inr ⟨g, cur, rfl, hb, hr.keep hB, h1, h2⟩
theorem objk_low {base B : Nat} {w : World} {q : Option Addr} {W : Objs} (h : ObjK B w q W) (hb : base ≤ B) : ObjK base w q W := by
  rcases h with h0 | ⟨g, cur, rfl, h1, hr, h2, h3⟩
  · exact .inl h0
  · exact .inr ⟨g, cur, rfl, Nat.le_trans hb h1, hr, h2, h3⟩
theorem objk_lt {base : Nat} {w : World} {q : Option Addr} {W : Objs} (h : ObjK base w q W) (hn : 0 < W.length) : ∀ g, q = some ⟨g, 0, none⟩ → base ≤ g ∧ g < w.heap.size := by
  intro g hg
  rcases h with h0 | ⟨g', cur, rfl, hb, hr, h1, h2⟩
  · omega
  · simp only [Option.some.injEq, Addr.mk.injEq, and_true] at hg
    rw [← hg]; exact ⟨hb, hr.lt⟩
theorem objk_grown {base : Nat} {w w1 : World} {q : Option Addr} {W : Objs} {row : Option Nat} (h : ObjK base w q W) (hg : w.grownBy w1 row) (hne : ∀ g, q = some ⟨g, 0, none⟩ → some g ≠ row) : ObjK base w1 q W := by
  rcases h with h0 | ⟨g', cur, rfl, hb, hr, h1, h2⟩
  · exact .inl h0
  · exact .inr ⟨g', cur, rfl, hb, (hg.block g' hr.lt (hne g' rfl)).trans hr, h1, h2⟩
theorem objk_put {base : Nat} {w : World} {q : Option Addr} {W : Objs} (h : ObjK base w q W) {X : Nat} (hne : ∀ g, q = some ⟨g, 0, none⟩ → g ≠ X) (j : Nat) (v : Value) : ObjK base (w.setCell ⟨X, j, none⟩ v) q W := by
  rcases h with h0 | ⟨g', cur, rfl, hb, hr, h1, h2⟩
  · exact .inl h0
  · exact .inr ⟨g', cur, rfl, hb, hr.other (hne g' rfl) j v, h1, h2⟩
theorem objs_of_k {base n : Nat} {w : World} {q : Option Addr} {W : Objs} (h : ObjK base w q W) (hn : W.length = n) (hm : n ≤ maxLen) (hs : ∀ i, i < n → (obj0 W i).size ≤ maxLen ∧ (obj2 W i).size ≤ maxLen) : ObjsAt w q n W := by
  subst hn
  refine ⟨rfl, hm, hs, ?_⟩
  rcases h with h0 | ⟨g, cur, rfl, _, hr, _, hc⟩
  · exact .inl h0
  · refine .inr ⟨g, 0, rfl, hr.lt, fun i hi => ?_⟩
    obtain ⟨e0, e1, e2⟩ := hc i hi
    unfold Row at hr
    simp [World.cell?, hr, e0, e1, e2]

/-! ### pieces of a slice that may be read, and appends of them -/
theorem obj_at_take (l : Objs) (k i : Nat) (h : i < k) : obj0 (l.take k) i = obj0 l i ∧ obj1 (l.take k) i = obj1 l i ∧ obj2 (l.take k) i = obj2 l i := by
  refine ⟨?_, ?_, ?_⟩ <;> simp [obj0, obj1, obj2, List.getElem?_take_of_lt h]
theorem obj_at_drop (l : Objs) (k i : Nat) : obj0 (l.drop k) i = obj0 l (k + i) ∧ obj1 (l.drop k) i = obj1 l (k + i) ∧ obj2 (l.drop k) i = obj2 l (k + i) := by
  refine ⟨?_, ?_, ?_⟩ <;> simp [obj0, obj1, obj2]
theorem objs_take {w : World} {a : Option Addr} {len : Nat} {l : Objs} (h : ObjsAt w a len l) {k : Nat} (hk : k ≤ len) : ObjsAt w a k (l.take k) := by
  have hl := h.length
  refine ⟨by rw [List.length_take]; omega, Nat.le_trans hk h.max, fun i hi => ?_, ?_⟩
  · obtain ⟨e0, e1, e2⟩ := obj_at_take l k i hi
    have := h.keys i (by omega)
    simpa only [e0, e1, e2] using this
  · rcases h.src with h0 | ⟨b, off, ha, hb, hc⟩
    · exact .inl (by omega)
    · refine .inr ⟨b, off, ha, hb, fun i hi => ?_⟩
      obtain ⟨e0, e1, e2⟩ := obj_at_take l k i hi
      have := hc i (by omega)
      simpa only [e0, e1, e2] using this
theorem objs_drop {w : World} {b off : Nat} {len : Nat} {l : Objs} (h : ObjsAt w (some ⟨b, off, none⟩) len l) {k : Nat} (hk : k ≤ len) : ObjsAt w (some ⟨b, off + k * 3, none⟩) (len - k) (l.drop k) := by
  have hl := h.length
  have hm := h.max
  refine ⟨by rw [List.length_drop]; omega, by omega, fun i hi => ?_, ?_⟩
  · obtain ⟨e0, e1, e2⟩ := obj_at_drop l k i
    have := h.keys (k + i) (by omega)
    simpa only [e0, e1, e2] using this
  · rcases h.src with h0 | ⟨b', off', ha, hb, hc⟩
    · exact .inl (by omega)
    · simp only [Option.some.injEq, Addr.mk.injEq, and_true] at ha
      obtain ⟨rfl, rfl⟩ := ha
      refine .inr ⟨b, off + k * 3, rfl, hb, fun i hi => ?_⟩
      obtain ⟨e0, e1, e2⟩ := obj_at_drop l k i
      have := hc (k + i) (by omega)
      rw [show off + (k + i) * 3 = off + k * 3 + i * 3 by rw [Nat.add_mul]; omega] at this
      simpa only [e0, e1, e2] using this
theorem objs_none {w : World} {a a' : Option Addr} {len : Nat} {l : Objs} (h : ObjsAt w a len l) (hn : len = 0) : ObjsAt w a' 0 [] := ⟨rfl, Nat.zero_le _, fun i hi => by omega, .inl rfl⟩
theorem obj_cells_at {w : World} {q : Addr} {len : Nat} {l : Objs} (h : ObjsAt w (some q) len l) : ∀ j u, (cellsObj l)[j]? = some u → w.cell? (q.add j) = some u := by
  intro j u hj
  have hl := h.length
  have hjl : j < l.length * 3 := by
    obtain ⟨h1, _⟩ := List.getElem?_eq_some_iff.1 hj
    rw [cellsObj_len] at h1; exact h1
  rcases h.src with h0 | ⟨b, off, ha, hb, hc⟩
  · omega
  · simp only [Option.some.injEq] at ha
    subst ha
    have hi : j / 3 < len := by omega
    obtain ⟨c0, c1, c2⟩ := hc (j / 3) hi
    obtain ⟨e0, e1, e2⟩ := cellsObj_get l (j / 3) (by omega)
    have hadd : (⟨b, off, none⟩ : Addr).add j = ⟨b, off + j, none⟩ := by
      unfold Addr.add
      split
      · rename_i h0; subst h0; rfl
      · rfl
    rw [hadd]
    have hr : j % 3 < 3 := Nat.mod_lt _ (by decide)
    have hd : 3 * (j / 3) + j % 3 = j := Nat.div_add_mod j 3
    rcases (show j % 3 = 0 ∨ j % 3 = 1 ∨ j % 3 = 2 by omega) with hr0 | hr1 | hr2
    · have ej : j = j / 3 * 3 := by omega
      have e := e0
      rw [← ej] at e
      rw [e] at hj
      rw [← hj, show off + j = off + j / 3 * 3 by omega]
      exact c0
    · have ej : j = j / 3 * 3 + 1 := by omega
      have e := e1
      rw [← ej] at e
      rw [e] at hj
      rw [← hj, show off + j = off + j / 3 * 3 + 1 by omega]
      exact c1
    · have ej : j = j / 3 * 3 + 2 := by omega
      have e := e2
      rw [← ej] at e
      rw [e] at hj
      rw [← hj, show off + j = off + j / 3 * 3 + 2 by omega]
      exact c2

theorem own_cellsObj {w : World} {base : Nat} {v : Value} {W : Objs} {xs : List Value} {m k : Nat} (h : w.ownsRow base 31 3 v m xs) (hm : m = k) (hx : xs = cellsObj W) : w.ownsRow base 31 3 v k (cellsObj W) := by rw [← hm, ← hx]; exact h
/-- append of values that may be read, nil or not, to a row of the call's own. -/
theorem wp_append_obj {o : Oper} {a : Act} {K : Act → World → Prop} {Q : Exit → Act → World → Prop} {w : World} (s x : Operand)
    (ho : o.op = .call { callee := .builtin .append, args := #[s, x], argTypes := #[24, 24] })
    (base : Nat) (v : Value) (n : Nat) (W : Objs) (hs : a.eval s = v) (hown : w.ownsRow base 31 3 v n (cellsObj W))
    (q : Option Addr) (m c : Nat) (V : Objs) (hx : a.eval x = .slice q m c) (hrec : ObjsAt w q m V) (hnone : q = none → c = 0) (h6 : n + m ≤ 2097152) (hbase : base ≤ w.heap.size)
    (h : ∀ q' c' w', w'.ownsRow base 31 3 (.slice q' (n + m) c') (n + m) (cellsObj (W ++ V)) → w.grownBy w' v.ownBlock → K (a.put o.dst (.slice q' (n + m) c')) w') : o.wp Try.prog a w K Q := by
  obtain ⟨i0, hi, hz0, hz1, hz2⟩ := info_parts infoObj
  cases q with
  | none =>
    have hc := hnone rfl
    have hm : m = 0 := by
      rcases hrec.src with h0 | ⟨b, off, ha, _⟩
      · exact h0
      · cases ha
    subst hm hc
    obtain rfl : V = [] := List.eq_nil_of_length_eq_zero hrec.length
    obtain ⟨q', c', rfl⟩ := own_form hown
    have h0 := h q' c' w (by simpa using hown) (World.grownBy.refl _ _)
    have hrun := run_append_owned_none (P := Try.prog) (w := w) base 24 o.type 31 i0 3 Try.underlying24 hi _ n _ hown
    unfold Oper.wp
    simp [execOp, ho, resolve, invoke, builtin, hs, hx, hrun, Result.andThen]
    exact h0
  | some p =>
    exact wp_append_own w s x 24 ho base 31 i0 _ 3 40 Try.underlying24 hi hz0 hz1 hz2 rfl (by decide) v n _ hs hown p m c (cellsObj V) hx (by rw [cellsObj_len, hrec.length]) (obj_cells_at hrec) (obj_cells1 _) (by unfold maxLen; omega) (by omega) hbase fun v' w' h2 h3 h4 => by
      obtain ⟨q', c', rfl⟩ := own_form h2
      exact h q' c' w' (by rw [cellsObj_append]; exact h2) h3
theorem append_obj {ops : Array Oper} {rest : List Oper} {o : Oper} {a : Act} {Q : Exit → Act → World → Prop} {w : World} (hg : o.guard = none) (s x : Operand)
    (ho : o.op = .call { callee := .builtin .append, args := #[s, x], argTypes := #[24, 24] })
    (base : Nat) (v : Value) (n : Nat) (W : Objs) (hs : a.eval s = v) (hown : w.ownsRow base 31 3 v n (cellsObj W))
    (q : Option Addr) (m c : Nat) (V : Objs) (hx : a.eval x = .slice q m c) (hrec : ObjsAt w q m V) (hnone : q = none → c = 0) (h6 : n + m ≤ 2097152) (hbase : base ≤ w.heap.size)
    (h : ∀ q' c' w', w'.ownsRow base 31 3 (.slice q' (n + m) c') (n + m) (cellsObj (W ++ V)) → w.grownBy w' v.ownBlock → wpList Try.prog ops Q rest (a.put o.dst (.slice q' (n + m) c')) w') : wpList Try.prog ops Q (o :: rest) a w :=
  wpList_plain hg fun _ hK => wp_append_obj s x ho base v n W hs hown q m c V hx hrec hnone h6 hbase fun q' c' w' h2 h3 => hK _ _ (h q' c' w' h2 h3)
/-- At a step of a region that draws its order. -/
theorem step_append_obj {ops : Array Oper} {o : Oper} {a : Act} {K : Act → World → Prop} {Q : Exit → Act → World → Prop} {Ee : Prop} {w : World} (hg : o.guard = none) (s x : Operand)
    (ho : o.op = .call { callee := .builtin .append, args := #[s, x], argTypes := #[24, 24] })
    (base : Nat) (v : Value) (n : Nat) (W : Objs) (hs : a.eval s = v) (hown : w.ownsRow base 31 3 v n (cellsObj W))
    (q : Option Addr) (m c : Nat) (V : Objs) (hx : a.eval x = .slice q m c) (hrec : ObjsAt w q m V) (hnone : q = none → c = 0) (h6 : n + m ≤ 2097152) (hbase : base ≤ w.heap.size)
    (h : ∀ q' c' w', w'.ownsRow base 31 3 (.slice q' (n + m) c') (n + m) (cellsObj (W ++ V)) → w.grownBy w' v.ownBlock → K (a.put o.dst (.slice q' (n + m) c')) w') :
    if Region.wanted o (yielded ops a.tmps) = true then Oper.wp Try.prog o a w K Q else Ee := by
  have hw : Region.wanted o (yielded ops a.tmps) = true := by simp [Region.wanted, hg]
  rw [if_pos hw]
  exact wp_append_obj s x ho base v n W hs hown q m c V hx hrec hnone h6 hbase h
/-- append of one value that has just been laid in a block of its own. -/
theorem wp_append1_obj {o : Oper} {a : Act} {K : Act → World → Prop} {Q : Exit → Act → World → Prop} {w : World} (s x : Operand)
    (ho : o.op = .call { callee := .builtin .append, args := #[s, x], argTypes := #[24, 24] })
    (base : Nat) (v : Value) (n : Nat) (W : Objs) (hs : a.eval s = v) (hown : w.ownsRow base 31 3 v n (cellsObj W))
    (B c : Nat) (x0 : ByteArray) (x1 : Int) (x2 : ByteArray) (hx : a.eval x = .slice (some ⟨B, 0, none⟩) 1 c) (hrow : ∀ j u, [Value.string x0, Value.int .i64 x1, Value.string x2][j]? = some u → w.cell? ((⟨B, 0, none⟩ : Addr).add j) = some u) (h6 : n + 1 ≤ 2097152) (hbase : base ≤ w.heap.size)
    (h : ∀ q' c' w', w'.ownsRow base 31 3 (.slice q' (n + 1) c') (n + 1) (cellsObj (W ++ [(x0, x1, x2)])) → w.grownBy w' v.ownBlock → K (a.put o.dst (.slice q' (n + 1) c')) w') : o.wp Try.prog a w K Q := by
  obtain ⟨i0, hi, hz0, hz1, hz2⟩ := info_parts infoObj
  exact wp_append_own w s x 24 ho base 31 i0 _ 3 40 Try.underlying24 hi hz0 hz1 hz2 rfl (by decide) v n _ hs hown ⟨B, 0, none⟩ 1 c [Value.string x0, Value.int .i64 x1, Value.string x2] hx rfl hrow (fun u hu => obj_cells1 [(x0, x1, x2)] u (by rw [cellsObj_one_row]; exact hu)) (by unfold maxLen; omega) (by omega) hbase fun v' w' h2 h3 h4 => by
    obtain ⟨q', c', rfl⟩ := own_form h2
    exact h q' c' w' (by rw [cellsObj_snoc]; exact h2) h3
theorem append1_obj {ops : Array Oper} {rest : List Oper} {o : Oper} {a : Act} {Q : Exit → Act → World → Prop} {w : World} (hg : o.guard = none) (s x : Operand)
    (ho : o.op = .call { callee := .builtin .append, args := #[s, x], argTypes := #[24, 24] })
    (base : Nat) (v : Value) (n : Nat) (W : Objs) (hs : a.eval s = v) (hown : w.ownsRow base 31 3 v n (cellsObj W))
    (B c : Nat) (x0 : ByteArray) (x1 : Int) (x2 : ByteArray) (hx : a.eval x = .slice (some ⟨B, 0, none⟩) 1 c) (hrow : ∀ j u, [Value.string x0, Value.int .i64 x1, Value.string x2][j]? = some u → w.cell? ((⟨B, 0, none⟩ : Addr).add j) = some u) (h6 : n + 1 ≤ 2097152) (hbase : base ≤ w.heap.size)
    (h : ∀ q' c' w', w'.ownsRow base 31 3 (.slice q' (n + 1) c') (n + 1) (cellsObj (W ++ [(x0, x1, x2)])) → w.grownBy w' v.ownBlock → wpList Try.prog ops Q rest (a.put o.dst (.slice q' (n + 1) c')) w') : wpList Try.prog ops Q (o :: rest) a w :=
  wpList_plain hg fun _ hK => wp_append1_obj s x ho base v n W hs hown B c x0 x1 x2 hx hrow h6 hbase fun q' c' w' h2 h3 => hK _ _ (h q' c' w' h2 h3)
theorem own_nilObj (w : World) (base : Nat) : w.ownsRow base 31 3 (.slice none 0 0) 0 (cellsObj []) := ⟨rfl, .inl ⟨rfl, rfl⟩⟩
/-- An array of no length that has just been made. -/
theorem own_zeroObj {w : World} {base B : Nat} (h : Row w B 31 #[]) (hb : base ≤ B) : w.ownsRow base 31 3 (.slice (some ⟨B, 0, none⟩) 0 0) 0 (cellsObj []) := ⟨rfl, .inr ⟨B, 0, #[], rfl, hb, h, Nat.le_refl _, Nat.zero_le _, rfl, rfl⟩⟩

/-- The row of a slice that is not empty. -/
theorem own_rowObj {w : World} {base : Nat} {q : Option Addr} {n m c : Nat} {xs : List Value} (h : w.ownsRow base 31 3 (.slice q m c) n xs) (hn : 0 < n) : ∃ g cur, q = some ⟨g, 0, none⟩ ∧ m = n ∧ base ≤ g ∧ Row w g 31 cur ∧ n ≤ c ∧ c ≤ maxLen ∧ cur.size = c * 3 ∧ cur.toList.take (n * 3) = xs := by
  rcases h.2 with ⟨_, h0⟩ | ⟨g, cap, cur, hv, hb, hh, h1, h2, h3, h4⟩
  · omega
  · simp only [Value.slice.injEq] at hv
    obtain ⟨rfl, rfl, rfl⟩ := hv
    exact ⟨g, cur, rfl, rfl, hb, hh, h1, h2, h3, h4⟩
theorem cellsObj_set : ∀ (W : Objs) (p : Nat) (x0 : ByteArray) (x1 : Int) (x2 : ByteArray), p < W.length → cellsObj (W.set p (x0, x1, x2)) = ((((cellsObj W).set (p * 3) (.string x0)).set (p * 3 + 1) (.int .i64 x1)).set (p * 3 + 2) (.string x2))
  | [], p, x0, x1, x2, h => by simp at h
  | r :: t, 0, x0, x1, x2, h => by simp [cellsObj]
  | r :: t, p + 1, x0, x1, x2, h => by
    have ih := cellsObj_set t p x0 x1 x2 (by simpa using h)
    rw [List.set_cons_succ]
    have e : ∀ W : Objs, ∀ r, cellsObj (r :: W) = [Value.string r.1, Value.int .i64 r.2.1, Value.string r.2.2] ++ cellsObj W := fun W r => rfl
    rw [e, e, ih]
    have f0 : (p + 1) * 3 = p * 3 + 1 + 1 + 1 := by omega
    have f1 : (p + 1) * 3 + 1 = p * 3 + 1 + 1 + 1 + 1 := by omega
    have f2 : (p + 1) * 3 + 2 = p * 3 + 2 + 1 + 1 + 1 := by omega
    rw [f1, f2, f0]
    simp only [List.cons_append, List.nil_append, List.set_cons_succ]
/-- One value of an own row laid anew. -/
theorem own_setObj {w : World} {base g n c : Nat} {W : Objs} (h : w.ownsRow base 31 3 (.slice (some ⟨g, 0, none⟩) n c) n (cellsObj W)) {p : Nat} (hp : p < n) (x0 : ByteArray) (x1 : Int) (x2 : ByteArray) :
    (((w.setCell ⟨g, p * 3, none⟩ (.string x0)).setCell ⟨g, p * 3 + 1, none⟩ (.int .i64 x1)).setCell ⟨g, p * 3 + 2, none⟩ (.string x2)).ownsRow base 31 3 (.slice (some ⟨g, 0, none⟩) n c) n (cellsObj (W.set p (x0, x1, x2))) := by
  have hl := h.1
  rw [cellsObj_len] at hl
  have hl2 : W.length = n := by omega
  obtain ⟨g', cur, hq, _, hb, hr, h1, h2, h3, h4⟩ := own_rowObj h (by omega)
  simp only [Option.some.injEq, Addr.mk.injEq, and_true] at hq
  subst hq
  refine ⟨by rw [cellsObj_len, List.length_set, hl2], .inr ⟨g, c, (((cur.setIfInBounds (p * 3) (.string x0)).setIfInBounds (p * 3 + 1) (.int .i64 x1)).setIfInBounds (p * 3 + 2) (.string x2)), rfl, hb, ((hr.set _ _).set _ _).set _ _, h1, h2, by simpa using h3, ?_⟩⟩
  rw [cellsObj_set W p x0 x1 x2 (by omega), ← h4]
  simp only [Array.toList_setIfInBounds, List.take_set]

def HeldNumObj (q : Nat) (w : World) (e : Ending) (w' : World) : Prop := e = .returned (.int .i64 (q : Int)) ∧ Below w.heap.size w w'
end Go.Proofs.Ytblpebdjbenphaa
