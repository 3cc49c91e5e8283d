
/- Slices of numbers: two compared, the laws' marks in them, rows of the call's own and appends to them. -/
import Derived.Test.YtblpebdjbenphaaObjOwn
import Derived.Test.YtblpebdjbenphaaMg6
namespace Go.Proofs.Ytblpebdjbenphaa
open Go.ChangeShapes Go.WideShapes Go.ChangeAt Go.RowKit
set_option linter.unusedVariables false
set_option maxRecDepth 100000

def numAt (l : List Int) (i : Nat) : Int := l.getD i 0
def cellsNum (W : List Int) : List Value := W.map (Value.int .i64)
theorem cellsNum_snoc (W : List Int) (x : Int) : cellsNum (W ++ [x]) = cellsNum W ++ [.int .i64 x] := by simp [cellsNum]
theorem cellsNum_len (W : List Int) : (cellsNum W).length = W.length := by simp [cellsNum]
theorem infoNum : (Try.prog.info? 2).map (fun i => (i.zero, i.size, i.bytes)) = some (some (.int .i64 0), 1, 8) := by kernel_rfl
/-- The slice (a, len) holds the numbers l. -/
structure NumsAt (w : World) (a : Option Addr) (len : Nat) (l : List Int) : Prop where
  max : len ≤ maxLen
  src : len = 0 ∨ ∃ b off, a = some ⟨b, off, none⟩ ∧ b < w.heap.size ∧ ∀ i, i < len → w.cell? ⟨b, off + i, none⟩ = some (.int .i64 (numAt l i))

def MarkedN (cur : Array Value) (k0 n : Nat) : Prop := ∀ j, j < n → cur[j]? = some (.int .i64 ((k0 + j : Nat) : Int))
theorem MarkedN.step {cur : Array Value} {k0 k : Nat} (h : MarkedN cur k0 k) (hk : k < cur.size) : MarkedN (cur.setIfInBounds k (.int .i64 ((k0 + k : Nat) : Int))) k0 (k + 1) := by
  intro j hj
  rcases Nat.lt_or_ge j k with hlt | hge
  · rw [Array.getElem?_setIfInBounds_ne (by omega)]; exact h j hlt
  · obtain rfl : j = k := by omega
    simp [hk]
def MadeMarksN (B : Nat) (E : TypeId) (k0 len n : Nat) (w : World) (e : Ending) (w' : World) : Prop :=
  e = .returned (.int .i64 ((k0 + len : Nat) : Int)) ∧ w.grownBy w' (some B) ∧ ∃ cur, Row w' B E cur ∧ cur.size = n ∧ MarkedN cur k0 len

def HeldN (q : Nat) (w : World) (e : Ending) (w' : World) : Prop := e = .returned (.int .i64 (q : Int)) ∧ Below w.heap.size w w'

/-- append of one number that has just been laid in a block of its own. -/
theorem append1_num {ops : Array Oper} {rest : List Oper} {o : Oper} {a : Act} {Q : Exit → Act → World → Prop} {w : World} (hg : o.guard = none) (s x : Operand)
    (ho : o.op = .call { callee := .builtin .append, args := #[s, x], argTypes := #[62, 62] })
    (base : Nat) (v : Value) (n : Nat) (W : List Int) (hs : a.eval s = v) (hown : w.ownsRow base 2 1 v n (cellsNum W))
    (B c : Nat) (x0 : Int) (hx : a.eval x = .slice (some ⟨B, 0, none⟩) 1 c) (hrow : ∀ j u, [Value.int .i64 x0][j]? = some u → w.cell? ((⟨B, 0, none⟩ : Addr).add j) = some u) (h6 : n + 1 ≤ 2097152) (hbase : base ≤ w.heap.size)
    (h : ∀ q' c' w', w'.ownsRow base 2 1 (.slice q' (n + 1) c') (n + 1) (cellsNum (W ++ [x0])) → w.grownBy w' v.ownBlock → wpList Try.prog ops Q rest (a.put o.dst (.slice q' (n + 1) c')) w') : wpList Try.prog ops Q (o :: rest) a w := by
  obtain ⟨i0, hi, hz0, hz1, hz2⟩ := info_parts infoNum
  exact wpList_append_own w hg s x 62 ho base 2 i0 _ 1 8 Try.underlying62 hi hz0 hz1 hz2 rfl (by decide) v n _ hs hown ⟨B, 0, none⟩ 1 c [Value.int .i64 x0] hx rfl hrow (fun u hu => by simp at hu; subst hu; rfl) (by unfold maxLen; omega) (by omega) hbase fun v' w' h2 h3 h4 => by
    obtain ⟨q', c', rfl⟩ := own_form h2
    exact h q' c' w' (by rw [cellsNum_snoc]; exact h2) h3
theorem num_new (w : World) (x0 : Int) (t : TypeId) : ∀ j u, [Value.int .i64 x0][j]? = some u → (w.alloc (.cells #[.int .i64 x0] t)).cell? ((⟨w.heap.size, 0, none⟩ : Addr).add j) = some u := by
  intro j u hj
  match j, hj with
  | 0, hj => simp at hj; subst hj; simp [Addr.add]

/-- The slice (q, length of W) holds the numbers W in a row of type int64 from block 'base' on. -/
def NumK (base : Nat) (w : World) (q : Option Addr) (W : List Int) : Prop :=
  W.length = 0 ∨ ∃ g cur, q = some ⟨g, 0, none⟩ ∧ base ≤ g ∧ Row w g 2 cur ∧ W.length ≤ cur.size ∧ ∀ j, j < W.length → cur[j]? = some (.int .i64 (numAt W j))
theorem numk_of_own {base : Nat} {w : World} {q : Option Addr} {cp n : Nat} {W : List Int} (h : w.ownsRow base 2 1 (.slice q n cp) n (cellsNum W)) : NumK base w q W := by
  have hl := h.1
  rw [cellsNum_len, Nat.mul_one] at hl
  rcases h.2 with ⟨_, h2⟩ | ⟨g, cap, cur, hv, hb, hh, h1, _, h3, h4⟩
  · exact .inl (by omega)
  · simp only [Value.slice.injEq, true_and] at hv
    obtain ⟨rfl, rfl⟩ := hv
    refine .inr ⟨g, cur, rfl, hb, hh, by omega, fun j hj => ?_⟩
    have e : (cur.toList.take (n * 1))[j]? = (cellsNum W)[j]? := by rw [h4]
    rw [List.getElem?_take_of_lt (by omega)] at e
    have e2 : cur[j]? = cur.toList[j]? := by simp
    rw [e2, e]
    unfold cellsNum numAt
    rw [List.getElem?_map, List.getD_eq_getElem?_getD, List.getElem?_eq_getElem hj]; rfl
theorem NumK.keep {base : Nat} {w w1 : World} {q : Option Addr} {W : List Int} (h : NumK base w q W) (hB : Below w.heap.size w w1) : NumK base w1 q W := by
  rcases h with h0 | ⟨g, cur, rfl, hb, hr, h1, h2⟩
  · exact .inl h0
  · exact .inr ⟨g, cur, rfl, hb, hr.keep hB, h1, h2⟩
theorem NumK.nums {base : Nat} {w : World} {q : Option Addr} {W : List Int} {n : Nat} (h : NumK base w q W) (hn : W.length = n) (hm : n ≤ maxLen) : NumsAt w q n W := by
  subst hn
  refine ⟨hm, ?_⟩
  rcases h with h0 | ⟨g, cur, rfl, hb, hr, h1, h2⟩
  · exact .inl h0
  · refine .inr ⟨g, 0, rfl, hr.lt, fun i hi => ?_⟩
    have := h2 i hi
    unfold Row at hr
    simp [World.cell?, hr, this]
end Go.Proofs.Ytblpebdjbenphaa
