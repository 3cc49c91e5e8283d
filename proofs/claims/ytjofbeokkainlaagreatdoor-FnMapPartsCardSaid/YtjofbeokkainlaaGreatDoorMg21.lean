/- Texts put together, as a claim holds at most sixty files. -/
import Derived.Test.YtjofbeokkainlaaGreatDoorMg18
import Derived.Test.YtjofbeokkainlaaGreatDoorMg20
import Derived.Laws.AppendOwnNone
import Derived.Test.YtjofbeokkainlaaGreatDoorMg1
namespace Go.Proofs.YtjofbeokkainlaaGreatDoor
open Go.ChangeShapes Go.WideShapes Go.ChangeAt Go.RowKit
set_option linter.unusedVariables false
set_option maxRecDepth 100000

/-- The end of a function that returns records in a row of its own, and a truth value. -/
def MadeRsM (W : Recs) (b : Bool) (w : World) (e : Ending) (w' : World) : Prop :=
  ∃ q cp, e = .returned (.tuple #[.slice q W.length cp, .bool b]) ∧ Rs w.heap.size w' q W ∧ Below w.heap.size w w'

/-- The slice (a, len) holds slices of records. -/
structure RunSs (w : World) (a : Option Addr) (len : Nat) (LS : List Recs) : Prop where
  length : LS.length = len
  src : len = 0 ∨ ∃ b off, a = some ⟨b, off, none⟩ ∧ b < w.heap.size ∧ ∀ i, i < len → ∃ q n c, w.cell? ⟨b, off + i, none⟩ = some (.slice q n c) ∧ RecsAt w q n (LS.getD i []) ∧ (q = none → n = 0 ∧ c = 0)

def mallK (LS : List Recs) : Bool := LS.all runOkB && decide (LS.flatten.length ≤ 600)
def mallW (LS : List Recs) : Recs := if mallK LS then sortL LS.flatten else []
def allTo (LS : List Recs) (k : Nat) : Recs := (LS.take k).flatten
theorem allTo_step (LS : List Recs) (k : Nat) (h : k < LS.length) : allTo LS (k + 1) = allTo LS k ++ LS.getD k [] := by
  have e : LS.getD k [] = LS[k] := by rw [List.getD_eq_getElem?_getD, List.getElem?_eq_getElem h]; rfl
  unfold allTo
  rw [e, List.take_add_one, List.getElem?_eq_getElem h, List.flatten_append, Option.toList_some, List.flatten_singleton]
theorem allTo_le (LS : List Recs) (k : Nat) : (allTo LS k).length ≤ LS.flatten.length := by
  unfold allTo
  conv => rhs; rw [← List.take_append_drop k LS, List.flatten_append, List.length_append]
  omega
theorem mall_no {LS : List Recs} {k : Nat} (hk : k < LS.length) (h : runOkB (LS.getD k []) = false) : mallK LS = false ∧ mallW LS = [] := by
  have : mallK LS = false := by
    unfold mallK
    rw [Bool.and_eq_false_iff]
    left
    rw [List.all_eq_false]
    refine ⟨LS[k], List.getElem_mem hk, ?_⟩
    rw [List.getD_eq_getElem?_getD, List.getElem?_eq_getElem hk] at h
    simpa using h
  exact ⟨this, by unfold mallW; rw [this]; rfl⟩
theorem mall_many {LS : List Recs} {k : Nat} (h : 600 < (allTo LS k).length) : mallK LS = false ∧ mallW LS = [] := by
  have h1 := allTo_le LS k
  have : mallK LS = false := by
    unfold mallK
    rw [decide_eq_false (by omega), Bool.and_false]
  exact ⟨this, by unfold mallW; rw [this]; rfl⟩
theorem mall_yes {LS : List Recs} (h : ∀ j, j < LS.length → runOkB (LS.getD j []) = true) (h6 : LS.flatten.length ≤ 600) : mallK LS = true ∧ mallW LS = sortL LS.flatten := by
  have : mallK LS = true := by
    unfold mallK
    rw [decide_eq_true h6, Bool.and_true, List.all_eq_true]
    intro x hx
    obtain ⟨j, hj, rfl⟩ := List.getElem_of_mem hx
    have := h j hj
    rwa [List.getD_eq_getElem?_getD, List.getElem?_eq_getElem hj] at this
  exact ⟨this, by unfold mallW; rw [this]; rfl⟩
theorem runOk_mem {l : Recs} (h : runOkB l = true) : ∀ r ∈ l, r.1.size ≤ 40 := by
  intro r hr
  obtain ⟨j, hj, rfl⟩ := List.getElem_of_mem hr
  have := (runOk_keys h).2 j hj
  rw [at_get l j hj]
  exact this
theorem recsOk_mem {l : Recs} (h : ∀ r ∈ l, r.1.size ≤ 40) (h6 : l.length ≤ 600) : recsOkB l = true := by
  unfold recsOkB
  rw [decide_eq_true h6, Bool.true_and, List.all_eq_true]
  intro i hi
  have hil := List.mem_range.1 hi
  have := h l[i] (List.getElem_mem hil)
  rw [at_get l i hil] at this
  exact okB_yes this
theorem sortedB_yes {l : Recs} (h : ∀ r ∈ l, r.1.size ≤ 40) (h6 : l.length ≤ 600) : sortedB l = sortL l := by
  unfold sortedB
  rw [recsOk_mem h h6]; rfl
theorem allTo_mem {LS : List Recs} {k : Nat} (h : ∀ j, j < k → runOkB (LS.getD j []) = true) : ∀ r ∈ allTo LS k, r.1.size ≤ 40 := by
  intro r hr
  unfold allTo at hr
  obtain ⟨l, hl, hr⟩ := List.mem_flatten.1 hr
  obtain ⟨j, hj, rfl⟩ := List.getElem_of_mem hl
  rw [List.length_take] at hj
  have := h j (by omega)
  rw [List.getD_eq_getElem?_getD, List.getElem?_eq_getElem (by omega)] at this
  rw [List.getElem_take] at hr
  exact runOk_mem this r hr

theorem mall_two (l k : Recs) : mallK [l, k] = (runOkB l && runOkB k && decide (l.length + k.length ≤ 600)) := by
  unfold mallK
  simp [List.all_cons, List.flatten_cons]
def mergeK (l k : Recs) : Bool := runOkB l && runOkB k && decide (l.length + k.length ≤ 600)
def mergeW (l k : Recs) : Recs := if mergeK l k then mergeL l k else []
theorem mall_two_w (l k : Recs) : mallW [l, k] = mergeW l k := by
  unfold mallW mergeW
  rw [mall_two]
  show (if mergeK l k = true then _ else _) = _
  cases h : mergeK l k with
  | false => rfl
  | true =>
    rw [if_pos rfl, if_pos rfl]
    unfold mergeK at h
    rw [Bool.and_eq_true, Bool.and_eq_true] at h
    show sortL (l ++ (k ++ [])) = _
    rw [List.append_nil]
    exact mergeL_sort ((runOk_iff l).1 h.1.1).2 ((runOk_iff k).1 h.1.2).2

end Go.Proofs.YtjofbeokkainlaaGreatDoor
namespace Go.Proofs.YtjofbeokkainlaaGreatDoor
open Go.ChangeShapes Go.WideShapes Go.ChangeAt Go.RowKit
set_option linter.unusedVariables false
set_option maxRecDepth 100000

end Go.Proofs.YtjofbeokkainlaaGreatDoor
namespace Go.Proofs.YtjofbeokkainlaaGreatDoor
open Go.ChangeShapes Go.WideShapes Go.ChangeAt Go.RowKit
set_option linter.unusedVariables false
set_option maxRecDepth 100000

/-- The end of a function that returns records in a row of its own, whose room is known, and a truth value. -/
def MadeRsC (W : Recs) (b : Bool) (w : World) (e : Ending) (w' : World) : Prop :=
  ∃ q cp, e = .returned (.tuple #[.slice q W.length cp, .bool b]) ∧ Rs w.heap.size w' q W ∧ Below w.heap.size w w' ∧ W.length ≤ cp ∧ cp ≤ maxLen ∧ (q = none → cp = 0)

/-- Slices of records whose room is known. -/
def RunSc (w : World) (a : Option Addr) (len : Nat) (LS : List Recs) : Prop :=
  LS.length = len ∧ (len = 0 ∨ ∃ b off, a = some ⟨b, off, none⟩ ∧ b < w.heap.size ∧ ∀ i, i < len → ∃ q n c, w.cell? ⟨b, off + i, none⟩ = some (.slice q n c) ∧ RecsAt w q n (LS.getD i []) ∧ (q = none → n = 0 ∧ c = 0) ∧ n ≤ c ∧ c ≤ maxLen ∧ n ≤ 1048576)
theorem RunSc.keep {w w1 : World} {a : Option Addr} {len : Nat} {LS : List Recs} (h : RunSc w a len LS) (hB : Below w.heap.size w w1) : RunSc w1 a len LS := by
  refine ⟨h.1, ?_⟩
  rcases h.2 with h0 | ⟨b, off, ha, hb, hc⟩
  · exact .inl h0
  · refine .inr ⟨b, off, ha, Nat.lt_of_lt_of_le hb hB.size, fun i hi => ?_⟩
    obtain ⟨q, n, c, h1, h2, h3⟩ := hc i hi
    exact ⟨q, n, c, (hB.cell (p := ⟨b, off + i, none⟩) hb).trans h1, h2.keep hB, h3⟩
theorem RunSc.runs {w : World} {a : Option Addr} {len : Nat} {LS : List Recs} (h : RunSc w a len LS) : RunSs w a len LS := by
  refine ⟨h.1, ?_⟩
  rcases h.2 with h0 | ⟨b, off, ha, hb, hc⟩
  · exact .inl h0
  · refine .inr ⟨b, off, ha, hb, fun i hi => ?_⟩
    obtain ⟨q, n, c, h1, h2, h3, _⟩ := hc i hi
    exact ⟨q, n, c, h1, h2, h3⟩

/-- So far: the records of the first k runs, in order. -/
structure AllSt (LS : List Recs) (k : Nat) (w wr : World) (q : Option Addr) (n cp : Nat) : Prop where
  rs : Rs w.heap.size wr q (sortL (allTo LS k))
  below : Below w.heap.size w wr
  size : (sortL (allTo LS k)).length = n
  cap : n ≤ cp ∧ cp ≤ maxLen ∧ (q = none → cp = 0)
  ok : ∀ j, j < k → runOkB (LS.getD j []) = true
  few : (allTo LS k).length ≤ 600
theorem sortL_len (l : Recs) : (sortL l).length = l.length := (sortL_perm l).length_eq
theorem runOk_sort {l : Recs} (h : ∀ r ∈ l, r.1.size ≤ 40) (h6 : l.length ≤ 600) : runOkB (sortL l) = true :=
  (runOk_iff _).2 ⟨recsOk_mem (fun r hr => h r ((sortL_perm l).mem_iff.1 hr)) (by rw [sortL_len]; exact h6), sortL_order l⟩
theorem AllSt.recs {LS : List Recs} {k : Nat} {w wr : World} {q : Option Addr} {n cp : Nat} (h : AllSt LS k w wr q n cp) : RecsAt wr q n (sortL (allTo LS k)) := by
  have hf := h.few
  have hs := h.size
  rw [sortL_len] at hs
  refine recs_of_rs h.rs h.size (by unfold maxLen; omega) fun i hi => ?_
  have hm := allTo_mem h.ok _ ((sortL_perm _).mem_iff.1 (List.getElem_mem (by rw [h.size]; exact hi)))
  rw [at_get _ i (by rw [h.size]; exact hi)] at hm
  have h41 : (keyAt (sortL (allTo LS k)) i).size ≤ 40 := hm
  unfold maxLen; omega
theorem rs_none {base n : Nat} {w : World} {q : Option Addr} {W : Recs} (h : Rs base w q W) (hn : W.length = n) (hq : q = none) : n = 0 := by
  rcases h with h0 | ⟨g, cur, e, _⟩
  · omega
  · rw [hq] at e; cases e
theorem mergeL_sort_step {LS : List Recs} {k : Nat} (hk : k < LS.length) (h : runOkB (LS.getD k []) = true) : mergeL (sortL (allTo LS k)) (LS.getD k []) = sortL (allTo LS (k + 1)) := by
  rw [← mergeL_sort (sortL_order _) ((runOk_iff _).1 h).2, allTo_step LS k hk]
  exact sortL_of (sortL_order _) ((sortL_perm _).trans (List.Perm.append_right _ (sortL_perm _).symm))

end Go.Proofs.YtjofbeokkainlaaGreatDoor
namespace Go.Proofs.YtjofbeokkainlaaGreatDoor
open Go.ChangeShapes Go.WideShapes Go.ChangeAt Go.RowKit
set_option linter.unusedVariables false
set_option maxRecDepth 100000

theorem infoRc : (Tryz.prog.info? 37).map (fun i => (i.zero, i.size, i.bytes)) = some (some (.agg #[.string ByteArray.empty, .int .i64 0]), 2, 24) := by kernel_rfl
def RcLaid (cur : Array Value) (l : Recs) (k : Nat) : Prop := ∀ j, j < k → cur[j * 2]? = some (.string (keyAt l j)) ∧ cur[j * 2 + 1]? = some (.int .i64 (numAt l j))
def cellsRc (W : Recs) : List Value := W.flatMap fun r => [Value.string r.1, Value.int .i64 r.2]
theorem cellsRc_nil : cellsRc [] = [] := rfl
theorem cellsRc_snoc (W : Recs) (x0 : ByteArray) (x1 : Int) : cellsRc (W ++ [(x0, x1)]) = cellsRc W ++ [.string x0, .int .i64 x1] := by simp [cellsRc]
theorem cellsRc_append (W V : Recs) : cellsRc (W ++ V) = cellsRc W ++ cellsRc V := by simp [cellsRc]
theorem cellsRc_one_row (x0 : ByteArray) (x1 : Int) : cellsRc [(x0, x1)] = [.string x0, .int .i64 x1] := by simp [cellsRc]
theorem cellsRc_len : ∀ W : Recs, (cellsRc W).length = W.length * 2
  | [] => rfl
  | r :: t => by
    have := cellsRc_len t
    simp only [cellsRc] at this
    simp [cellsRc, List.flatMap_cons, this]; omega
theorem cellsRc_get : ∀ (W : Recs) (j : Nat), j < W.length → (cellsRc W)[j * 2]? = some (.string (keyAt W j)) ∧ (cellsRc W)[j * 2 + 1]? = some (.int .i64 (numAt W j))
  | [], j, h => by simp at h
  | r :: t, 0, h => by simp [cellsRc, keyAt, numAt]
  | r :: t, j + 1, h => by
    have := cellsRc_get t j (by simpa using h)
    have e : (j + 1) * 2 = j * 2 + 2 := by omega
    simp only [cellsRc] at this
    rw [e]
    have e0 : j * 2 + 2 = j * 2 + 1 + 1 := by omega
    have e1 : j * 2 + 2 + 1 = j * 2 + 1 + 1 + 1 := by omega
    rw [e1, e0]
    simp only [cellsRc, List.flatMap_cons, List.cons_append, List.nil_append, List.getElem?_cons_succ]
    simpa [keyAt, numAt] using this
theorem rc_cells1 : ∀ W : Recs, ∀ u ∈ cellsRc W, u.oneCell' = true := by
  intro W u hu
  unfold cellsRc at hu
  rw [List.mem_flatMap] at hu
  obtain ⟨r, _, hr⟩ := hu
  simp only [List.mem_cons, or_false, List.not_mem_nil] at hr
  rcases hr with rfl | rfl
  all_goals rfl
theorem rc_new (w : World) (x0 : ByteArray) (x1 : Int) (t : TypeId) : ∀ j u, [Value.string x0, Value.int .i64 x1][j]? = some u → (w.alloc (.cells #[.string x0, .int .i64 x1] t)).cell? ((⟨w.heap.size, 0, none⟩ : Addr).add j) = some u := by
  intro j u hj
  match j, hj with
  | 0, hj => simp at hj; subst hj; simp [Addr.add]
  | 1, hj => simp at hj; subst hj; simp [Addr.add]
theorem rc_at_row {w : World} {B : Nat} (x0 : ByteArray) (x1 : Int) {t : TypeId} (h : Row w B t #[.string x0, .int .i64 x1]) : ∀ j u, [Value.string x0, Value.int .i64 x1][j]? = some u → w.cell? ((⟨B, 0, none⟩ : Addr).add j) = some u := by
  intro j u hj
  unfold Row at h
  match j, hj with
  | 0, hj => simp at hj; subst hj; simp [Addr.add, World.cell?, h]
  | 1, hj => simp at hj; subst hj; simp [Addr.add, World.cell?, h]

/-- The slice (q, length of W) holds the values W in a row from block 'base' on. -/
def RcK (base : Nat) (w : World) (q : Option Addr) (W : Recs) : Prop :=
  W.length = 0 ∨ ∃ g cur, q = some ⟨g, 0, none⟩ ∧ base ≤ g ∧ Row w g 37 cur ∧ W.length * 2 ≤ cur.size ∧ RcLaid cur W W.length
theorem rck_of_own {base : Nat} {w : World} {q : Option Addr} {m cp : Nat} {W : Recs} (h : w.ownsRow base 37 2 (.slice q m cp) W.length (cellsRc W)) : RcK base w q W := by
  rcases h.2 with ⟨h1, h2⟩ | ⟨g, cap, cur, hv, hb, hh, h1, _, h3, h4⟩
  · exact .inl h2
  · simp only [Value.slice.injEq] at hv
    obtain ⟨rfl, _, rfl⟩ := hv
    refine .inr ⟨g, cur, rfl, hb, hh, by omega, fun j hj => ?_⟩
    obtain ⟨e0, e1⟩ := cellsRc_get W j hj
    rw [← h4, List.getElem?_take_of_lt (by omega)] at e0 e1
    exact ⟨by simpa using e0, by simpa using e1⟩
theorem rck_keep {base : Nat} {w w1 : World} {q : Option Addr} {W : Recs} (h : RcK base w q W) (hB : Below w.heap.size w w1) : RcK base w1 q W := by
  rcases h with h0 | ⟨g, cur, rfl, hb, hr, h1, h2⟩
  · exact .inl h0
  · exact .inr ⟨g, cur, rfl, hb, hr.keep hB, h1, h2⟩
theorem rck_low {base B : Nat} {w : World} {q : Option Addr} {W : Recs} (h : RcK B w q W) (hb : base ≤ B) : RcK base w q W := by
  rcases h with h0 | ⟨g, cur, rfl, h1, hr, h2, h3⟩
  · exact .inl h0
  · exact .inr ⟨g, cur, rfl, Nat.le_trans hb h1, hr, h2, h3⟩
theorem rck_lt {base : Nat} {w : World} {q : Option Addr} {W : Recs} (h : RcK base w q W) (hn : 0 < W.length) : ∀ g, q = some ⟨g, 0, none⟩ → base ≤ g ∧ g < w.heap.size := by
  intro g hg
  rcases h with h0 | ⟨g', cur, rfl, hb, hr, h1, h2⟩
  · omega
  · simp only [Option.some.injEq, Addr.mk.injEq, and_true] at hg
    rw [← hg]; exact ⟨hb, hr.lt⟩
theorem rck_grown {base : Nat} {w w1 : World} {q : Option Addr} {W : Recs} {row : Option Nat} (h : RcK base w q W) (hg : w.grownBy w1 row) (hne : ∀ g, q = some ⟨g, 0, none⟩ → some g ≠ row) : RcK base w1 q W := by
  rcases h with h0 | ⟨g', cur, rfl, hb, hr, h1, h2⟩
  · exact .inl h0
  · exact .inr ⟨g', cur, rfl, hb, (hg.block g' hr.lt (hne g' rfl)).trans hr, h1, h2⟩
theorem rck_put {base : Nat} {w : World} {q : Option Addr} {W : Recs} (h : RcK base w q W) {X : Nat} (hne : ∀ g, q = some ⟨g, 0, none⟩ → g ≠ X) (j : Nat) (v : Value) : RcK base (w.setCell ⟨X, j, none⟩ v) q W := by
  rcases h with h0 | ⟨g', cur, rfl, hb, hr, h1, h2⟩
  · exact .inl h0
  · exact .inr ⟨g', cur, rfl, hb, hr.other (hne g' rfl) j v, h1, h2⟩
theorem rcs_of_k {base n : Nat} {w : World} {q : Option Addr} {W : Recs} (h : RcK base w q W) (hn : W.length = n) (hm : n ≤ maxLen) (hs : ∀ i, i < n → (keyAt W i).size ≤ maxLen) : RecsAt w q n W := by
  subst hn
  refine ⟨rfl, hm, hs, ?_⟩
  rcases h with h0 | ⟨g, cur, rfl, _, hr, _, hc⟩
  · exact .inl h0
  · refine .inr ⟨g, 0, rfl, hr.lt, fun i hi => ?_⟩
    obtain ⟨e0, e1⟩ := hc i hi
    unfold Row at hr
    simp [World.cell?, hr, e0, e1]

/-! ### pieces of a slice that may be read, and appends of them -/
theorem rc_at_take (l : Recs) (k i : Nat) (h : i < k) : keyAt (l.take k) i = keyAt l i ∧ numAt (l.take k) i = numAt l i := by
  refine ⟨?_, ?_⟩ <;> simp [keyAt, numAt, List.getElem?_take_of_lt h]
theorem rc_at_drop (l : Recs) (k i : Nat) : keyAt (l.drop k) i = keyAt l (k + i) ∧ numAt (l.drop k) i = numAt l (k + i) := by
  refine ⟨?_, ?_⟩ <;> simp [keyAt, numAt]
theorem rcs_take {w : World} {a : Option Addr} {len : Nat} {l : Recs} (h : RecsAt w a len l) {k : Nat} (hk : k ≤ len) : RecsAt w a k (l.take k) := by
  have hl := h.length
  refine ⟨by rw [List.length_take]; omega, Nat.le_trans hk h.max, fun i hi => ?_, ?_⟩
  · obtain ⟨e0, e1⟩ := rc_at_take l k i hi
    have := h.keys i (by omega)
    simpa only [e0, e1] using this
  · rcases h.src with h0 | ⟨b, off, ha, hb, hc⟩
    · exact .inl (by omega)
    · refine .inr ⟨b, off, ha, hb, fun i hi => ?_⟩
      obtain ⟨e0, e1⟩ := rc_at_take l k i hi
      have := hc i (by omega)
      simpa only [e0, e1] using this
theorem rcs_drop {w : World} {b off : Nat} {len : Nat} {l : Recs} (h : RecsAt w (some ⟨b, off, none⟩) len l) {k : Nat} (hk : k ≤ len) : RecsAt w (some ⟨b, off + k * 2, none⟩) (len - k) (l.drop k) := by
  have hl := h.length
  have hm := h.max
  refine ⟨by rw [List.length_drop]; omega, by omega, fun i hi => ?_, ?_⟩
  · obtain ⟨e0, e1⟩ := rc_at_drop l k i
    have := h.keys (k + i) (by omega)
    simpa only [e0, e1] using this
  · rcases h.src with h0 | ⟨b', off', ha, hb, hc⟩
    · exact .inl (by omega)
    · simp only [Option.some.injEq, Addr.mk.injEq, and_true] at ha
      obtain ⟨rfl, rfl⟩ := ha
      refine .inr ⟨b, off + k * 2, rfl, hb, fun i hi => ?_⟩
      obtain ⟨e0, e1⟩ := rc_at_drop l k i
      have := hc (k + i) (by omega)
      rw [show off + (k + i) * 2 = off + k * 2 + i * 2 by rw [Nat.add_mul]; omega] at this
      simpa only [e0, e1] using this
theorem rcs_none {w : World} {a a' : Option Addr} {len : Nat} {l : Recs} (h : RecsAt w a len l) (hn : len = 0) : RecsAt w a' 0 [] := ⟨rfl, Nat.zero_le _, fun i hi => by omega, .inl rfl⟩
theorem rc_cells_at {w : World} {q : Addr} {len : Nat} {l : Recs} (h : RecsAt w (some q) len l) : ∀ j u, (cellsRc l)[j]? = some u → w.cell? (q.add j) = some u := by
  intro j u hj
  have hl := h.length
  have hjl : j < l.length * 2 := by
    obtain ⟨h1, _⟩ := List.getElem?_eq_some_iff.1 hj
    rw [cellsRc_len] at h1; exact h1
  rcases h.src with h0 | ⟨b, off, ha, hb, hc⟩
  · omega
  · simp only [Option.some.injEq] at ha
    subst ha
    have hi : j / 2 < len := by omega
    obtain ⟨c0, c1⟩ := hc (j / 2) hi
    obtain ⟨e0, e1⟩ := cellsRc_get l (j / 2) (by omega)
    have hadd : (⟨b, off, none⟩ : Addr).add j = ⟨b, off + j, none⟩ := by
      unfold Addr.add
      split
      · rename_i h0; subst h0; rfl
      · rfl
    rw [hadd]
    have hr : j % 2 < 2 := Nat.mod_lt _ (by decide)
    have hd : 2 * (j / 2) + j % 2 = j := Nat.div_add_mod j 2
    rcases (show j % 2 = 0 ∨ j % 2 = 1 by omega) with hr0 | hr1
    · have ej : j = j / 2 * 2 := by omega
      have e := e0
      rw [← ej] at e
      rw [e] at hj
      rw [← hj, show off + j = off + j / 2 * 2 by omega]
      exact c0
    · have ej : j = j / 2 * 2 + 1 := by omega
      have e := e1
      rw [← ej] at e
      rw [e] at hj
      rw [← hj, show off + j = off + j / 2 * 2 + 1 by omega]
      exact c1

theorem own_cellsRc {w : World} {base : Nat} {v : Value} {W : Recs} {xs : List Value} {m k : Nat} (h : w.ownsRow base 37 2 v m xs) (hm : m = k) (hx : xs = cellsRc W) : w.ownsRow base 37 2 v k (cellsRc W) := by rw [← hm, ← hx]; exact h
/-- append of values that may be read, nil or not, to a row of the call's own. -/
theorem wp_append_rc {o : Oper} {a : Act} {K : Act → World → Prop} {Q : Exit → Act → World → Prop} {w : World} (s x : Operand)
    (ho : o.op = .call { callee := .builtin .append, args := #[s, x], argTypes := #[34, 34] })
    (base : Nat) (v : Value) (n : Nat) (W : Recs) (hs : a.eval s = v) (hown : w.ownsRow base 37 2 v n (cellsRc W))
    (q : Option Addr) (m c : Nat) (V : Recs) (hx : a.eval x = .slice q m c) (hrec : RecsAt w q m V) (hnone : q = none → c = 0) (h6 : n + m ≤ 2097152) (hbase : base ≤ w.heap.size)
    (h : ∀ q' c' w', w'.ownsRow base 37 2 (.slice q' (n + m) c') (n + m) (cellsRc (W ++ V)) → w.grownBy w' v.ownBlock → K (a.put o.dst (.slice q' (n + m) c')) w') : o.wp Tryz.prog a w K Q := by
  obtain ⟨i0, hi, hz0, hz1, hz2⟩ := info_parts infoRc
  cases q with
  | none =>
    have hc := hnone rfl
    have hm : m = 0 := by
      rcases hrec.src with h0 | ⟨b, off, ha, _⟩
      · exact h0
      · cases ha
    subst hm hc
    obtain rfl : V = [] := List.eq_nil_of_length_eq_zero hrec.length
    obtain ⟨q', c', rfl⟩ := own_form hown
    have h0 := h q' c' w (by simpa using hown) (World.grownBy.refl _ _)
    have hrun := run_append_owned_none (P := Tryz.prog) (w := w) base 34 o.type 37 i0 2 Tryz.underlying34 hi _ n _ hown
    unfold Oper.wp
    simp [execOp, ho, resolve, invoke, builtin, hs, hx, hrun, Result.andThen]
    exact h0
  | some p =>
    exact wp_append_own w s x 34 ho base 37 i0 _ 2 24 Tryz.underlying34 hi hz0 hz1 hz2 rfl (by decide) v n _ hs hown p m c (cellsRc V) hx (by rw [cellsRc_len, hrec.length]) (rc_cells_at hrec) (rc_cells1 _) (by unfold maxLen; omega) (by omega) hbase fun v' w' h2 h3 h4 => by
      obtain ⟨q', c', rfl⟩ := own_form h2
      exact h q' c' w' (by rw [cellsRc_append]; exact h2) h3
theorem append_rc {ops : Array Oper} {rest : List Oper} {o : Oper} {a : Act} {Q : Exit → Act → World → Prop} {w : World} (hg : o.guard = none) (s x : Operand)
    (ho : o.op = .call { callee := .builtin .append, args := #[s, x], argTypes := #[34, 34] })
    (base : Nat) (v : Value) (n : Nat) (W : Recs) (hs : a.eval s = v) (hown : w.ownsRow base 37 2 v n (cellsRc W))
    (q : Option Addr) (m c : Nat) (V : Recs) (hx : a.eval x = .slice q m c) (hrec : RecsAt w q m V) (hnone : q = none → c = 0) (h6 : n + m ≤ 2097152) (hbase : base ≤ w.heap.size)
    (h : ∀ q' c' w', w'.ownsRow base 37 2 (.slice q' (n + m) c') (n + m) (cellsRc (W ++ V)) → w.grownBy w' v.ownBlock → wpList Tryz.prog ops Q rest (a.put o.dst (.slice q' (n + m) c')) w') : wpList Tryz.prog ops Q (o :: rest) a w :=
  wpList_plain hg fun _ hK => wp_append_rc s x ho base v n W hs hown q m c V hx hrec hnone h6 hbase fun q' c' w' h2 h3 => hK _ _ (h q' c' w' h2 h3)
/-- At a step of a region that draws its order. -/
theorem step_append_rc {ops : Array Oper} {o : Oper} {a : Act} {K : Act → World → Prop} {Q : Exit → Act → World → Prop} {Ee : Prop} {w : World} (hg : o.guard = none) (s x : Operand)
    (ho : o.op = .call { callee := .builtin .append, args := #[s, x], argTypes := #[34, 34] })
    (base : Nat) (v : Value) (n : Nat) (W : Recs) (hs : a.eval s = v) (hown : w.ownsRow base 37 2 v n (cellsRc W))
    (q : Option Addr) (m c : Nat) (V : Recs) (hx : a.eval x = .slice q m c) (hrec : RecsAt w q m V) (hnone : q = none → c = 0) (h6 : n + m ≤ 2097152) (hbase : base ≤ w.heap.size)
    (h : ∀ q' c' w', w'.ownsRow base 37 2 (.slice q' (n + m) c') (n + m) (cellsRc (W ++ V)) → w.grownBy w' v.ownBlock → K (a.put o.dst (.slice q' (n + m) c')) w') :
    if Region.wanted o (yielded ops a.tmps) = true then Oper.wp Tryz.prog o a w K Q else Ee := by
  have hw : Region.wanted o (yielded ops a.tmps) = true := by simp [Region.wanted, hg]
  rw [if_pos hw]
  exact wp_append_rc s x ho base v n W hs hown q m c V hx hrec hnone h6 hbase h
/-- append of one value that has just been laid in a block of its own. -/
theorem wp_append1_rc {o : Oper} {a : Act} {K : Act → World → Prop} {Q : Exit → Act → World → Prop} {w : World} (s x : Operand)
    (ho : o.op = .call { callee := .builtin .append, args := #[s, x], argTypes := #[34, 34] })
    (base : Nat) (v : Value) (n : Nat) (W : Recs) (hs : a.eval s = v) (hown : w.ownsRow base 37 2 v n (cellsRc W))
    (B c : Nat) (x0 : ByteArray) (x1 : Int) (hx : a.eval x = .slice (some ⟨B, 0, none⟩) 1 c) (hrow : ∀ j u, [Value.string x0, Value.int .i64 x1][j]? = some u → w.cell? ((⟨B, 0, none⟩ : Addr).add j) = some u) (h6 : n + 1 ≤ 2097152) (hbase : base ≤ w.heap.size)
    (h : ∀ q' c' w', w'.ownsRow base 37 2 (.slice q' (n + 1) c') (n + 1) (cellsRc (W ++ [(x0, x1)])) → w.grownBy w' v.ownBlock → K (a.put o.dst (.slice q' (n + 1) c')) w') : o.wp Tryz.prog a w K Q := by
  obtain ⟨i0, hi, hz0, hz1, hz2⟩ := info_parts infoRc
  exact wp_append_own w s x 34 ho base 37 i0 _ 2 24 Tryz.underlying34 hi hz0 hz1 hz2 rfl (by decide) v n _ hs hown ⟨B, 0, none⟩ 1 c [Value.string x0, Value.int .i64 x1] hx rfl hrow (fun u hu => rc_cells1 [(x0, x1)] u (by rw [cellsRc_one_row]; exact hu)) (by unfold maxLen; omega) (by omega) hbase fun v' w' h2 h3 h4 => by
    obtain ⟨q', c', rfl⟩ := own_form h2
    exact h q' c' w' (by rw [cellsRc_snoc]; exact h2) h3
theorem step_append1_rc {ops : Array Oper} {Ee : Prop} {o : Oper} {a : Act} {K : Act → World → Prop} {Q : Exit → Act → World → Prop} {w : World} (hg : o.guard = none) (s x : Operand)
    (ho : o.op = .call { callee := .builtin .append, args := #[s, x], argTypes := #[34, 34] })
    (base : Nat) (v : Value) (n : Nat) (W : Recs) (hs : a.eval s = v) (hown : w.ownsRow base 37 2 v n (cellsRc W))
    (B c : Nat) (x0 : ByteArray) (x1 : Int) (hx : a.eval x = .slice (some ⟨B, 0, none⟩) 1 c) (hrow : ∀ j u, [Value.string x0, Value.int .i64 x1][j]? = some u → w.cell? ((⟨B, 0, none⟩ : Addr).add j) = some u) (h6 : n + 1 ≤ 2097152) (hbase : base ≤ w.heap.size)
    (h : ∀ q' c' w', w'.ownsRow base 37 2 (.slice q' (n + 1) c') (n + 1) (cellsRc (W ++ [(x0, x1)])) → w.grownBy w' v.ownBlock → K (a.put o.dst (.slice q' (n + 1) c')) w') :
    if Region.wanted o (yielded ops a.tmps) = true then Oper.wp Tryz.prog o a w K Q else Ee := by
  have hw : Region.wanted o (yielded ops a.tmps) = true := by simp [Region.wanted, hg]
  rw [if_pos hw]
  exact wp_append1_rc s x ho base v n W hs hown B c x0 x1 hx hrow h6 hbase h
theorem append1_rc {ops : Array Oper} {rest : List Oper} {o : Oper} {a : Act} {Q : Exit → Act → World → Prop} {w : World} (hg : o.guard = none) (s x : Operand)
    (ho : o.op = .call { callee := .builtin .append, args := #[s, x], argTypes := #[34, 34] })
    (base : Nat) (v : Value) (n : Nat) (W : Recs) (hs : a.eval s = v) (hown : w.ownsRow base 37 2 v n (cellsRc W))
    (B c : Nat) (x0 : ByteArray) (x1 : Int) (hx : a.eval x = .slice (some ⟨B, 0, none⟩) 1 c) (hrow : ∀ j u, [Value.string x0, Value.int .i64 x1][j]? = some u → w.cell? ((⟨B, 0, none⟩ : Addr).add j) = some u) (h6 : n + 1 ≤ 2097152) (hbase : base ≤ w.heap.size)
    (h : ∀ q' c' w', w'.ownsRow base 37 2 (.slice q' (n + 1) c') (n + 1) (cellsRc (W ++ [(x0, x1)])) → w.grownBy w' v.ownBlock → wpList Tryz.prog ops Q rest (a.put o.dst (.slice q' (n + 1) c')) w') : wpList Tryz.prog ops Q (o :: rest) a w :=
  wpList_plain hg fun _ hK => wp_append1_rc s x ho base v n W hs hown B c x0 x1 hx hrow h6 hbase fun q' c' w' h2 h3 => hK _ _ (h q' c' w' h2 h3)
theorem own_nilRc (w : World) (base : Nat) : w.ownsRow base 37 2 (.slice none 0 0) 0 (cellsRc []) := ⟨rfl, .inl ⟨rfl, rfl⟩⟩
/-- An array of no length that has just been made. -/
theorem own_zeroRc {w : World} {base B : Nat} (h : Row w B 37 #[]) (hb : base ≤ B) : w.ownsRow base 37 2 (.slice (some ⟨B, 0, none⟩) 0 0) 0 (cellsRc []) := ⟨rfl, .inr ⟨B, 0, #[], rfl, hb, h, Nat.le_refl _, Nat.zero_le _, rfl, rfl⟩⟩

/-- The row of a slice that is not empty. -/
theorem own_rowRc {w : World} {base : Nat} {q : Option Addr} {n m c : Nat} {xs : List Value} (h : w.ownsRow base 37 2 (.slice q m c) n xs) (hn : 0 < n) : ∃ g cur, q = some ⟨g, 0, none⟩ ∧ m = n ∧ base ≤ g ∧ Row w g 37 cur ∧ n ≤ c ∧ c ≤ maxLen ∧ cur.size = c * 2 ∧ cur.toList.take (n * 2) = xs := by
  rcases h.2 with ⟨_, h0⟩ | ⟨g, cap, cur, hv, hb, hh, h1, h2, h3, h4⟩
  · omega
  · simp only [Value.slice.injEq] at hv
    obtain ⟨rfl, rfl, rfl⟩ := hv
    exact ⟨g, cur, rfl, rfl, hb, hh, h1, h2, h3, h4⟩
theorem cellsRc_set : ∀ (W : Recs) (p : Nat) (x0 : ByteArray) (x1 : Int), p < W.length → cellsRc (W.set p (x0, x1)) = (((cellsRc W).set (p * 2) (.string x0)).set (p * 2 + 1) (.int .i64 x1))
  | [], p, x0, x1, h => by simp at h
  | r :: t, 0, x0, x1, h => by simp [cellsRc]
  | r :: t, p + 1, x0, x1, h => by
    have ih := cellsRc_set t p x0 x1 (by simpa using h)
    rw [List.set_cons_succ]
    have e : ∀ W : Recs, ∀ r, cellsRc (r :: W) = [Value.string r.1, Value.int .i64 r.2] ++ cellsRc W := fun W r => rfl
    rw [e, e, ih]
    have f0 : (p + 1) * 2 = p * 2 + 1 + 1 := by omega
    have f1 : (p + 1) * 2 + 1 = p * 2 + 1 + 1 + 1 := by omega
    rw [f1, f0]
    simp only [List.cons_append, List.nil_append, List.set_cons_succ]
/-- One value of an own row laid anew. -/
theorem own_setRc {w : World} {base g n c : Nat} {W : Recs} (h : w.ownsRow base 37 2 (.slice (some ⟨g, 0, none⟩) n c) n (cellsRc W)) {p : Nat} (hp : p < n) (x0 : ByteArray) (x1 : Int) :
    ((w.setCell ⟨g, p * 2, none⟩ (.string x0)).setCell ⟨g, p * 2 + 1, none⟩ (.int .i64 x1)).ownsRow base 37 2 (.slice (some ⟨g, 0, none⟩) n c) n (cellsRc (W.set p (x0, x1))) := by
  have hl := h.1
  rw [cellsRc_len] at hl
  have hl2 : W.length = n := by omega
  obtain ⟨g', cur, hq, _, hb, hr, h1, h2, h3, h4⟩ := own_rowRc h (by omega)
  simp only [Option.some.injEq, Addr.mk.injEq, and_true] at hq
  subst hq
  refine ⟨by rw [cellsRc_len, List.length_set, hl2], .inr ⟨g, c, ((cur.setIfInBounds (p * 2) (.string x0)).setIfInBounds (p * 2 + 1) (.int .i64 x1)), rfl, hb, (hr.set _ _).set _ _, h1, h2, by simpa using h3, ?_⟩⟩
  rw [cellsRc_set W p x0 x1 (by omega), ← h4]
  simp only [Array.toList_setIfInBounds, List.take_set]
end Go.Proofs.YtjofbeokkainlaaGreatDoor
namespace Go.Proofs.YtjofbeokkainlaaGreatDoor
open Go.ChangeShapes Go.WideShapes Go.ChangeAt Go.RowKit
set_option linter.unusedVariables false
set_option maxRecDepth 100000

theorem infoV3 : (Tryz.prog.info? 129).map (fun i => (i.zero, i.size, i.bytes)) = some (some (.agg #[.string ByteArray.empty, .int .i64 0]), 2, 24) := by kernel_rfl
def V3Laid (cur : Array Value) (l : Recs) (k : Nat) : Prop := ∀ j, j < k → cur[j * 2]? = some (.string (keyAt l j)) ∧ cur[j * 2 + 1]? = some (.int .i64 (numAt l j))
def cellsV3 (W : Recs) : List Value := W.flatMap fun r => [Value.string r.1, Value.int .i64 r.2]
theorem cellsV3_nil : cellsV3 [] = [] := rfl
theorem cellsV3_snoc (W : Recs) (x0 : ByteArray) (x1 : Int) : cellsV3 (W ++ [(x0, x1)]) = cellsV3 W ++ [.string x0, .int .i64 x1] := by simp [cellsV3]
theorem cellsV3_append (W V : Recs) : cellsV3 (W ++ V) = cellsV3 W ++ cellsV3 V := by simp [cellsV3]
theorem cellsV3_one_row (x0 : ByteArray) (x1 : Int) : cellsV3 [(x0, x1)] = [.string x0, .int .i64 x1] := by simp [cellsV3]
theorem cellsV3_len : ∀ W : Recs, (cellsV3 W).length = W.length * 2
  | [] => rfl
  | r :: t => by
    have := cellsV3_len t
    simp only [cellsV3] at this
    simp [cellsV3, List.flatMap_cons, this]; omega
theorem cellsV3_get : ∀ (W : Recs) (j : Nat), j < W.length → (cellsV3 W)[j * 2]? = some (.string (keyAt W j)) ∧ (cellsV3 W)[j * 2 + 1]? = some (.int .i64 (numAt W j))
  | [], j, h => by simp at h
  | r :: t, 0, h => by simp [cellsV3, keyAt, numAt]
  | r :: t, j + 1, h => by
    have := cellsV3_get t j (by simpa using h)
    have e : (j + 1) * 2 = j * 2 + 2 := by omega
    simp only [cellsV3] at this
    rw [e]
    have e0 : j * 2 + 2 = j * 2 + 1 + 1 := by omega
    have e1 : j * 2 + 2 + 1 = j * 2 + 1 + 1 + 1 := by omega
    rw [e1, e0]
    simp only [cellsV3, List.flatMap_cons, List.cons_append, List.nil_append, List.getElem?_cons_succ]
    simpa [keyAt, numAt] using this
theorem vt_cells1 : ∀ W : Recs, ∀ u ∈ cellsV3 W, u.oneCell' = true := by
  intro W u hu
  unfold cellsV3 at hu
  rw [List.mem_flatMap] at hu
  obtain ⟨r, _, hr⟩ := hu
  simp only [List.mem_cons, or_false, List.not_mem_nil] at hr
  rcases hr with rfl | rfl
  all_goals rfl
theorem vt_new (w : World) (x0 : ByteArray) (x1 : Int) (t : TypeId) : ∀ j u, [Value.string x0, Value.int .i64 x1][j]? = some u → (w.alloc (.cells #[.string x0, .int .i64 x1] t)).cell? ((⟨w.heap.size, 0, none⟩ : Addr).add j) = some u := by
  intro j u hj
  match j, hj with
  | 0, hj => simp at hj; subst hj; simp [Addr.add]
  | 1, hj => simp at hj; subst hj; simp [Addr.add]
theorem vt_at_row {w : World} {B : Nat} (x0 : ByteArray) (x1 : Int) {t : TypeId} (h : Row w B t #[.string x0, .int .i64 x1]) : ∀ j u, [Value.string x0, Value.int .i64 x1][j]? = some u → w.cell? ((⟨B, 0, none⟩ : Addr).add j) = some u := by
  intro j u hj
  unfold Row at h
  match j, hj with
  | 0, hj => simp at hj; subst hj; simp [Addr.add, World.cell?, h]
  | 1, hj => simp at hj; subst hj; simp [Addr.add, World.cell?, h]

/-- The slice (q, length of W) holds the values W in a row from block 'base' on. -/
def V3K (base : Nat) (w : World) (q : Option Addr) (W : Recs) : Prop :=
  W.length = 0 ∨ ∃ g cur, q = some ⟨g, 0, none⟩ ∧ base ≤ g ∧ Row w g 129 cur ∧ W.length * 2 ≤ cur.size ∧ V3Laid cur W W.length
theorem vtk_of_own {base : Nat} {w : World} {q : Option Addr} {m cp : Nat} {W : Recs} (h : w.ownsRow base 129 2 (.slice q m cp) W.length (cellsV3 W)) : V3K base w q W := by
  rcases h.2 with ⟨h1, h2⟩ | ⟨g, cap, cur, hv, hb, hh, h1, _, h3, h4⟩
  · exact .inl h2
  · simp only [Value.slice.injEq] at hv
    obtain ⟨rfl, _, rfl⟩ := hv
    refine .inr ⟨g, cur, rfl, hb, hh, by omega, fun j hj => ?_⟩
    obtain ⟨e0, e1⟩ := cellsV3_get W j hj
    rw [← h4, List.getElem?_take_of_lt (by omega)] at e0 e1
    exact ⟨by simpa using e0, by simpa using e1⟩
theorem vtk_keep {base : Nat} {w w1 : World} {q : Option Addr} {W : Recs} (h : V3K base w q W) (hB : Below w.heap.size w w1) : V3K base w1 q W := by
  rcases h with h0 | ⟨g, cur, rfl, hb, hr, h1, h2⟩
  · exact .inl h0
  · exact .inr ⟨g, cur, rfl, hb, hr.keep hB, h1, h2⟩
theorem vtk_low {base B : Nat} {w : World} {q : Option Addr} {W : Recs} (h : V3K B w q W) (hb : base ≤ B) : V3K base w q W := by
  rcases h with h0 | ⟨g, cur, rfl, h1, hr, h2, h3⟩
  · exact .inl h0
  · exact .inr ⟨g, cur, rfl, Nat.le_trans hb h1, hr, h2, h3⟩
theorem vtk_lt {base : Nat} {w : World} {q : Option Addr} {W : Recs} (h : V3K base w q W) (hn : 0 < W.length) : ∀ g, q = some ⟨g, 0, none⟩ → base ≤ g ∧ g < w.heap.size := by
  intro g hg
  rcases h with h0 | ⟨g', cur, rfl, hb, hr, h1, h2⟩
  · omega
  · simp only [Option.some.injEq, Addr.mk.injEq, and_true] at hg
    rw [← hg]; exact ⟨hb, hr.lt⟩
theorem vtk_grown {base : Nat} {w w1 : World} {q : Option Addr} {W : Recs} {row : Option Nat} (h : V3K base w q W) (hg : w.grownBy w1 row) (hne : ∀ g, q = some ⟨g, 0, none⟩ → some g ≠ row) : V3K base w1 q W := by
  rcases h with h0 | ⟨g', cur, rfl, hb, hr, h1, h2⟩
  · exact .inl h0
  · exact .inr ⟨g', cur, rfl, hb, (hg.block g' hr.lt (hne g' rfl)).trans hr, h1, h2⟩
theorem vtk_put {base : Nat} {w : World} {q : Option Addr} {W : Recs} (h : V3K base w q W) {X : Nat} (hne : ∀ g, q = some ⟨g, 0, none⟩ → g ≠ X) (j : Nat) (v : Value) : V3K base (w.setCell ⟨X, j, none⟩ v) q W := by
  rcases h with h0 | ⟨g', cur, rfl, hb, hr, h1, h2⟩
  · exact .inl h0
  · exact .inr ⟨g', cur, rfl, hb, hr.other (hne g' rfl) j v, h1, h2⟩
theorem vts_of_k {base n : Nat} {w : World} {q : Option Addr} {W : Recs} (h : V3K base w q W) (hn : W.length = n) (hm : n ≤ maxLen) (hs : ∀ i, i < n → (keyAt W i).size ≤ maxLen) : RecsAt w q n W := by
  subst hn
  refine ⟨rfl, hm, hs, ?_⟩
  rcases h with h0 | ⟨g, cur, rfl, _, hr, _, hc⟩
  · exact .inl h0
  · refine .inr ⟨g, 0, rfl, hr.lt, fun i hi => ?_⟩
    obtain ⟨e0, e1⟩ := hc i hi
    unfold Row at hr
    simp [World.cell?, hr, e0, e1]

/-! ### pieces of a slice that may be read, and appends of them -/
theorem vt_at_take (l : Recs) (k i : Nat) (h : i < k) : keyAt (l.take k) i = keyAt l i ∧ numAt (l.take k) i = numAt l i := by
  refine ⟨?_, ?_⟩ <;> simp [keyAt, numAt, List.getElem?_take_of_lt h]
theorem vt_at_drop (l : Recs) (k i : Nat) : keyAt (l.drop k) i = keyAt l (k + i) ∧ numAt (l.drop k) i = numAt l (k + i) := by
  refine ⟨?_, ?_⟩ <;> simp [keyAt, numAt]
theorem vts_take {w : World} {a : Option Addr} {len : Nat} {l : Recs} (h : RecsAt w a len l) {k : Nat} (hk : k ≤ len) : RecsAt w a k (l.take k) := by
  have hl := h.length
  refine ⟨by rw [List.length_take]; omega, Nat.le_trans hk h.max, fun i hi => ?_, ?_⟩
  · obtain ⟨e0, e1⟩ := vt_at_take l k i hi
    have := h.keys i (by omega)
    simpa only [e0, e1] using this
  · rcases h.src with h0 | ⟨b, off, ha, hb, hc⟩
    · exact .inl (by omega)
    · refine .inr ⟨b, off, ha, hb, fun i hi => ?_⟩
      obtain ⟨e0, e1⟩ := vt_at_take l k i hi
      have := hc i (by omega)
      simpa only [e0, e1] using this
theorem vts_drop {w : World} {b off : Nat} {len : Nat} {l : Recs} (h : RecsAt w (some ⟨b, off, none⟩) len l) {k : Nat} (hk : k ≤ len) : RecsAt w (some ⟨b, off + k * 2, none⟩) (len - k) (l.drop k) := by
  have hl := h.length
  have hm := h.max
  refine ⟨by rw [List.length_drop]; omega, by omega, fun i hi => ?_, ?_⟩
  · obtain ⟨e0, e1⟩ := vt_at_drop l k i
    have := h.keys (k + i) (by omega)
    simpa only [e0, e1] using this
  · rcases h.src with h0 | ⟨b', off', ha, hb, hc⟩
    · exact .inl (by omega)
    · simp only [Option.some.injEq, Addr.mk.injEq, and_true] at ha
      obtain ⟨rfl, rfl⟩ := ha
      refine .inr ⟨b, off + k * 2, rfl, hb, fun i hi => ?_⟩
      obtain ⟨e0, e1⟩ := vt_at_drop l k i
      have := hc (k + i) (by omega)
      rw [show off + (k + i) * 2 = off + k * 2 + i * 2 by rw [Nat.add_mul]; omega] at this
      simpa only [e0, e1] using this
theorem vts_none {w : World} {a a' : Option Addr} {len : Nat} {l : Recs} (h : RecsAt w a len l) (hn : len = 0) : RecsAt w a' 0 [] := ⟨rfl, Nat.zero_le _, fun i hi => by omega, .inl rfl⟩
theorem vt_cells_at {w : World} {q : Addr} {len : Nat} {l : Recs} (h : RecsAt w (some q) len l) : ∀ j u, (cellsV3 l)[j]? = some u → w.cell? (q.add j) = some u := by
  intro j u hj
  have hl := h.length
  have hjl : j < l.length * 2 := by
    obtain ⟨h1, _⟩ := List.getElem?_eq_some_iff.1 hj
    rw [cellsV3_len] at h1; exact h1
  rcases h.src with h0 | ⟨b, off, ha, hb, hc⟩
  · omega
  · simp only [Option.some.injEq] at ha
    subst ha
    have hi : j / 2 < len := by omega
    obtain ⟨c0, c1⟩ := hc (j / 2) hi
    obtain ⟨e0, e1⟩ := cellsV3_get l (j / 2) (by omega)
    have hadd : (⟨b, off, none⟩ : Addr).add j = ⟨b, off + j, none⟩ := by
      unfold Addr.add
      split
      · rename_i h0; subst h0; rfl
      · rfl
    rw [hadd]
    have hr : j % 2 < 2 := Nat.mod_lt _ (by decide)
    have hd : 2 * (j / 2) + j % 2 = j := Nat.div_add_mod j 2
    rcases (show j % 2 = 0 ∨ j % 2 = 1 by omega) with hr0 | hr1
    · have ej : j = j / 2 * 2 := by omega
      have e := e0
      rw [← ej] at e
      rw [e] at hj
      rw [← hj, show off + j = off + j / 2 * 2 by omega]
      exact c0
    · have ej : j = j / 2 * 2 + 1 := by omega
      have e := e1
      rw [← ej] at e
      rw [e] at hj
      rw [← hj, show off + j = off + j / 2 * 2 + 1 by omega]
      exact c1

theorem own_cellsV3 {w : World} {base : Nat} {v : Value} {W : Recs} {xs : List Value} {m k : Nat} (h : w.ownsRow base 129 2 v m xs) (hm : m = k) (hx : xs = cellsV3 W) : w.ownsRow base 129 2 v k (cellsV3 W) := by rw [← hm, ← hx]; exact h
/-- append of values that may be read, nil or not, to a row of the call's own. -/
theorem wp_append_vt {o : Oper} {a : Act} {K : Act → World → Prop} {Q : Exit → Act → World → Prop} {w : World} (s x : Operand)
    (ho : o.op = .call { callee := .builtin .append, args := #[s, x], argTypes := #[127, 127] })
    (base : Nat) (v : Value) (n : Nat) (W : Recs) (hs : a.eval s = v) (hown : w.ownsRow base 129 2 v n (cellsV3 W))
    (q : Option Addr) (m c : Nat) (V : Recs) (hx : a.eval x = .slice q m c) (hrec : RecsAt w q m V) (hnone : q = none → c = 0) (h6 : n + m ≤ 2097152) (hbase : base ≤ w.heap.size)
    (h : ∀ q' c' w', w'.ownsRow base 129 2 (.slice q' (n + m) c') (n + m) (cellsV3 (W ++ V)) → w.grownBy w' v.ownBlock → K (a.put o.dst (.slice q' (n + m) c')) w') : o.wp Tryz.prog a w K Q := by
  obtain ⟨i0, hi, hz0, hz1, hz2⟩ := info_parts infoV3
  cases q with
  | none =>
    have hc := hnone rfl
    have hm : m = 0 := by
      rcases hrec.src with h0 | ⟨b, off, ha, _⟩
      · exact h0
      · cases ha
    subst hm hc
    obtain rfl : V = [] := List.eq_nil_of_length_eq_zero hrec.length
    obtain ⟨q', c', rfl⟩ := own_form hown
    have h0 := h q' c' w (by simpa using hown) (World.grownBy.refl _ _)
    have hrun := run_append_owned_none (P := Tryz.prog) (w := w) base 127 o.type 129 i0 2 Tryz.underlying127 hi _ n _ hown
    unfold Oper.wp
    simp [execOp, ho, resolve, invoke, builtin, hs, hx, hrun, Result.andThen]
    exact h0
  | some p =>
    exact wp_append_own w s x 127 ho base 129 i0 _ 2 24 Tryz.underlying127 hi hz0 hz1 hz2 rfl (by decide) v n _ hs hown p m c (cellsV3 V) hx (by rw [cellsV3_len, hrec.length]) (vt_cells_at hrec) (vt_cells1 _) (by unfold maxLen; omega) (by omega) hbase fun v' w' h2 h3 h4 => by
      obtain ⟨q', c', rfl⟩ := own_form h2
      exact h q' c' w' (by rw [cellsV3_append]; exact h2) h3
theorem append_vt {ops : Array Oper} {rest : List Oper} {o : Oper} {a : Act} {Q : Exit → Act → World → Prop} {w : World} (hg : o.guard = none) (s x : Operand)
    (ho : o.op = .call { callee := .builtin .append, args := #[s, x], argTypes := #[127, 127] })
    (base : Nat) (v : Value) (n : Nat) (W : Recs) (hs : a.eval s = v) (hown : w.ownsRow base 129 2 v n (cellsV3 W))
    (q : Option Addr) (m c : Nat) (V : Recs) (hx : a.eval x = .slice q m c) (hrec : RecsAt w q m V) (hnone : q = none → c = 0) (h6 : n + m ≤ 2097152) (hbase : base ≤ w.heap.size)
    (h : ∀ q' c' w', w'.ownsRow base 129 2 (.slice q' (n + m) c') (n + m) (cellsV3 (W ++ V)) → w.grownBy w' v.ownBlock → wpList Tryz.prog ops Q rest (a.put o.dst (.slice q' (n + m) c')) w') : wpList Tryz.prog ops Q (o :: rest) a w :=
  wpList_plain hg fun _ hK => wp_append_vt s x ho base v n W hs hown q m c V hx hrec hnone h6 hbase fun q' c' w' h2 h3 => hK _ _ (h q' c' w' h2 h3)
/-- At a step of a region that draws its order. -/
theorem step_append_vt {ops : Array Oper} {o : Oper} {a : Act} {K : Act → World → Prop} {Q : Exit → Act → World → Prop} {Ee : Prop} {w : World} (hg : o.guard = none) (s x : Operand)
    (ho : o.op = .call { callee := .builtin .append, args := #[s, x], argTypes := #[127, 127] })
    (base : Nat) (v : Value) (n : Nat) (W : Recs) (hs : a.eval s = v) (hown : w.ownsRow base 129 2 v n (cellsV3 W))
    (q : Option Addr) (m c : Nat) (V : Recs) (hx : a.eval x = .slice q m c) (hrec : RecsAt w q m V) (hnone : q = none → c = 0) (h6 : n + m ≤ 2097152) (hbase : base ≤ w.heap.size)
    (h : ∀ q' c' w', w'.ownsRow base 129 2 (.slice q' (n + m) c') (n + m) (cellsV3 (W ++ V)) → w.grownBy w' v.ownBlock → K (a.put o.dst (.slice q' (n + m) c')) w') :
    if Region.wanted o (yielded ops a.tmps) = true then Oper.wp Tryz.prog o a w K Q else Ee := by
  have hw : Region.wanted o (yielded ops a.tmps) = true := by simp [Region.wanted, hg]
  rw [if_pos hw]
  exact wp_append_vt s x ho base v n W hs hown q m c V hx hrec hnone h6 hbase h
/-- append of one value that has just been laid in a block of its own. -/
theorem wp_append1_vt {o : Oper} {a : Act} {K : Act → World → Prop} {Q : Exit → Act → World → Prop} {w : World} (s x : Operand)
    (ho : o.op = .call { callee := .builtin .append, args := #[s, x], argTypes := #[127, 127] })
    (base : Nat) (v : Value) (n : Nat) (W : Recs) (hs : a.eval s = v) (hown : w.ownsRow base 129 2 v n (cellsV3 W))
    (B c : Nat) (x0 : ByteArray) (x1 : Int) (hx : a.eval x = .slice (some ⟨B, 0, none⟩) 1 c) (hrow : ∀ j u, [Value.string x0, Value.int .i64 x1][j]? = some u → w.cell? ((⟨B, 0, none⟩ : Addr).add j) = some u) (h6 : n + 1 ≤ 2097152) (hbase : base ≤ w.heap.size)
    (h : ∀ q' c' w', w'.ownsRow base 129 2 (.slice q' (n + 1) c') (n + 1) (cellsV3 (W ++ [(x0, x1)])) → w.grownBy w' v.ownBlock → K (a.put o.dst (.slice q' (n + 1) c')) w') : o.wp Tryz.prog a w K Q := by
  obtain ⟨i0, hi, hz0, hz1, hz2⟩ := info_parts infoV3
  exact wp_append_own w s x 127 ho base 129 i0 _ 2 24 Tryz.underlying127 hi hz0 hz1 hz2 rfl (by decide) v n _ hs hown ⟨B, 0, none⟩ 1 c [Value.string x0, Value.int .i64 x1] hx rfl hrow (fun u hu => vt_cells1 [(x0, x1)] u (by rw [cellsV3_one_row]; exact hu)) (by unfold maxLen; omega) (by omega) hbase fun v' w' h2 h3 h4 => by
    obtain ⟨q', c', rfl⟩ := own_form h2
    exact h q' c' w' (by rw [cellsV3_snoc]; exact h2) h3
theorem step_append1_vt {ops : Array Oper} {Ee : Prop} {o : Oper} {a : Act} {K : Act → World → Prop} {Q : Exit → Act → World → Prop} {w : World} (hg : o.guard = none) (s x : Operand)
    (ho : o.op = .call { callee := .builtin .append, args := #[s, x], argTypes := #[127, 127] })
    (base : Nat) (v : Value) (n : Nat) (W : Recs) (hs : a.eval s = v) (hown : w.ownsRow base 129 2 v n (cellsV3 W))
    (B c : Nat) (x0 : ByteArray) (x1 : Int) (hx : a.eval x = .slice (some ⟨B, 0, none⟩) 1 c) (hrow : ∀ j u, [Value.string x0, Value.int .i64 x1][j]? = some u → w.cell? ((⟨B, 0, none⟩ : Addr).add j) = some u) (h6 : n + 1 ≤ 2097152) (hbase : base ≤ w.heap.size)
    (h : ∀ q' c' w', w'.ownsRow base 129 2 (.slice q' (n + 1) c') (n + 1) (cellsV3 (W ++ [(x0, x1)])) → w.grownBy w' v.ownBlock → K (a.put o.dst (.slice q' (n + 1) c')) w') :
    if Region.wanted o (yielded ops a.tmps) = true then Oper.wp Tryz.prog o a w K Q else Ee := by
  have hw : Region.wanted o (yielded ops a.tmps) = true := by simp [Region.wanted, hg]
  rw [if_pos hw]
  exact wp_append1_vt s x ho base v n W hs hown B c x0 x1 hx hrow h6 hbase h
theorem append1_vt {ops : Array Oper} {rest : List Oper} {o : Oper} {a : Act} {Q : Exit → Act → World → Prop} {w : World} (hg : o.guard = none) (s x : Operand)
    (ho : o.op = .call { callee := .builtin .append, args := #[s, x], argTypes := #[127, 127] })
    (base : Nat) (v : Value) (n : Nat) (W : Recs) (hs : a.eval s = v) (hown : w.ownsRow base 129 2 v n (cellsV3 W))
    (B c : Nat) (x0 : ByteArray) (x1 : Int) (hx : a.eval x = .slice (some ⟨B, 0, none⟩) 1 c) (hrow : ∀ j u, [Value.string x0, Value.int .i64 x1][j]? = some u → w.cell? ((⟨B, 0, none⟩ : Addr).add j) = some u) (h6 : n + 1 ≤ 2097152) (hbase : base ≤ w.heap.size)
    (h : ∀ q' c' w', w'.ownsRow base 129 2 (.slice q' (n + 1) c') (n + 1) (cellsV3 (W ++ [(x0, x1)])) → w.grownBy w' v.ownBlock → wpList Tryz.prog ops Q rest (a.put o.dst (.slice q' (n + 1) c')) w') : wpList Tryz.prog ops Q (o :: rest) a w :=
  wpList_plain hg fun _ hK => wp_append1_vt s x ho base v n W hs hown B c x0 x1 hx hrow h6 hbase fun q' c' w' h2 h3 => hK _ _ (h q' c' w' h2 h3)
theorem own_nilV3 (w : World) (base : Nat) : w.ownsRow base 129 2 (.slice none 0 0) 0 (cellsV3 []) := ⟨rfl, .inl ⟨rfl, rfl⟩⟩
/-- An array of no length that has just been made. -/
theorem own_zeroV3 {w : World} {base B : Nat} (h : Row w B 129 #[]) (hb : base ≤ B) : w.ownsRow base 129 2 (.slice (some ⟨B, 0, none⟩) 0 0) 0 (cellsV3 []) := ⟨rfl, .inr ⟨B, 0, #[], rfl, hb, h, Nat.le_refl _, Nat.zero_le _, rfl, rfl⟩⟩

/-- The row of a slice that is not empty. -/
theorem own_rowV3 {w : World} {base : Nat} {q : Option Addr} {n m c : Nat} {xs : List Value} (h : w.ownsRow base 129 2 (.slice q m c) n xs) (hn : 0 < n) : ∃ g cur, q = some ⟨g, 0, none⟩ ∧ m = n ∧ base ≤ g ∧ Row w g 129 cur ∧ n ≤ c ∧ c ≤ maxLen ∧ cur.size = c * 2 ∧ cur.toList.take (n * 2) = xs := by
  rcases h.2 with ⟨_, h0⟩ | ⟨g, cap, cur, hv, hb, hh, h1, h2, h3, h4⟩
  · omega
  · simp only [Value.slice.injEq] at hv
    obtain ⟨rfl, rfl, rfl⟩ := hv
    exact ⟨g, cur, rfl, rfl, hb, hh, h1, h2, h3, h4⟩
theorem cellsV3_set : ∀ (W : Recs) (p : Nat) (x0 : ByteArray) (x1 : Int), p < W.length → cellsV3 (W.set p (x0, x1)) = (((cellsV3 W).set (p * 2) (.string x0)).set (p * 2 + 1) (.int .i64 x1))
  | [], p, x0, x1, h => by simp at h
  | r :: t, 0, x0, x1, h => by simp [cellsV3]
  | r :: t, p + 1, x0, x1, h => by
    have ih := cellsV3_set t p x0 x1 (by simpa using h)
    rw [List.set_cons_succ]
    have e : ∀ W : Recs, ∀ r, cellsV3 (r :: W) = [Value.string r.1, Value.int .i64 r.2] ++ cellsV3 W := fun W r => rfl
    rw [e, e, ih]
    have f0 : (p + 1) * 2 = p * 2 + 1 + 1 := by omega
    have f1 : (p + 1) * 2 + 1 = p * 2 + 1 + 1 + 1 := by omega
    rw [f1, f0]
    simp only [List.cons_append, List.nil_append, List.set_cons_succ]
/-- One value of an own row laid anew. -/
theorem own_setV3 {w : World} {base g n c : Nat} {W : Recs} (h : w.ownsRow base 129 2 (.slice (some ⟨g, 0, none⟩) n c) n (cellsV3 W)) {p : Nat} (hp : p < n) (x0 : ByteArray) (x1 : Int) :
    ((w.setCell ⟨g, p * 2, none⟩ (.string x0)).setCell ⟨g, p * 2 + 1, none⟩ (.int .i64 x1)).ownsRow base 129 2 (.slice (some ⟨g, 0, none⟩) n c) n (cellsV3 (W.set p (x0, x1))) := by
  have hl := h.1
  rw [cellsV3_len] at hl
  have hl2 : W.length = n := by omega
  obtain ⟨g', cur, hq, _, hb, hr, h1, h2, h3, h4⟩ := own_rowV3 h (by omega)
  simp only [Option.some.injEq, Addr.mk.injEq, and_true] at hq
  subst hq
  refine ⟨by rw [cellsV3_len, List.length_set, hl2], .inr ⟨g, c, ((cur.setIfInBounds (p * 2) (.string x0)).setIfInBounds (p * 2 + 1) (.int .i64 x1)), rfl, hb, (hr.set _ _).set _ _, h1, h2, by simpa using h3, ?_⟩⟩
  rw [cellsV3_set W p x0 x1 (by omega), ← h4]
  simp only [Array.toList_setIfInBounds, List.take_set]
end Go.Proofs.YtjofbeokkainlaaGreatDoor
