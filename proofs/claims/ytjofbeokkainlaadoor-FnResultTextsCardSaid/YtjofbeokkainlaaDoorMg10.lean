/- Texts put together, as a claim holds at most sixty files. -/
import Derived.Test.YtjofbeokkainlaaDoorMg8
import Derived.Test.YtjofbeokkainlaaDoorMg9
import Derived.Test.YtjofbeokkainlaaDoorMg1
import Derived.Test.YtjofbeokkainlaaDoorMg13
import Derived.Test.YtjofbeokkainlaaDoorMg3
import Derived.Maps.AppendAt
namespace Go.Proofs.YtjofbeokkainlaaDoor
open Go.ChangeShapes Go.WideShapes Go.ChangeAt Go.RowKit
set_option linter.unusedVariables false
set_option maxRecDepth 100000

/-- Records and code of the first k words, each alone. -/
def eachTo (l : Instrs) (ws : Strs) : Nat → Recs × Int
  | 0 => ([], 0)
  | k + 1 => if (eachTo l ws k).2 ≠ 0 then eachTo l ws k else if (evalR l [strAt ws k]).2 ≠ 0 then ([], (evalR l [strAt ws k]).2) else ((eachTo l ws k).1 ++ (evalR l [strAt ws k]).1, 0)
def wordsB (s : ByteArray) : Strs := strsOf ((wordsL s.data.toList).take 20)
def lineR (l : Instrs) (each : Bool) (s : ByteArray) : Recs × Int :=
  if progB l = true ∧ s.size ≤ 200 then (if each = true then eachTo l (wordsB s) (wordsB s).length else evalR l (wordsB s)) else ([], 1)
theorem eachTo_bad {l : Instrs} {ws : Strs} {k n : Nat} (h : (eachTo l ws k).2 ≠ 0) (hk : k ≤ n) : eachTo l ws n = eachTo l ws k := by
  induction n with
  | zero => obtain rfl : k = 0 := by omega
            rfl
  | succ n ih =>
    rcases Nat.lt_or_ge n k with h1 | h1
    · obtain rfl : k = n + 1 := by omega
      rfl
    · have := ih h1
      rw [eachTo, this, if_pos h]
theorem eachTo_stop {l : Instrs} {ws : Strs} {k : Nat} {O : Recs} (h : eachTo l ws k = (O, 0)) {V : Recs} {c : Int} (hr : evalR l [strAt ws k] = (V, c)) (hc : c ≠ 0) : eachTo l ws (k + 1) = ([], c) := by
  rw [eachTo, if_neg (by rw [h]; exact fun h => h rfl), hr, if_pos hc]
theorem eachTo_go {l : Instrs} {ws : Strs} {k : Nat} {O : Recs} (h : eachTo l ws k = (O, 0)) {V : Recs} {c : Int} (hr : evalR l [strAt ws k] = (V, c)) (hc : c = 0) : eachTo l ws (k + 1) = (O ++ V, 0) := by
  rw [eachTo, if_neg (by rw [h]; exact fun h => h rfl), hr, if_neg (by simpa using hc), h]
theorem eachTo_facts {l : Instrs} (ws : Strs) (hn : ∀ i, i < l.length → In64 (ins1 l i)) : ∀ k, (eachTo l ws k).1.length ≤ 30 * k ∧ (∀ r ∈ (eachTo l ws k).1, r.1.size ≤ 40 ∧ In64 r.2) ∧ (0 ≤ (eachTo l ws k).2 ∧ (eachTo l ws k).2 ≤ 2) ∧ ((eachTo l ws k).2 ≠ 0 → (eachTo l ws k).1 = [])
  | 0 => ⟨by simp [eachTo], fun r hr => absurd hr (by simp [eachTo]), ⟨by simp [eachTo], by simp [eachTo]⟩, fun _ => rfl⟩
  | k + 1 => by
    have ih := eachTo_facts ws hn k
    have he := evalR_facts (ws := [strAt ws k]) hn
    rw [eachTo]
    split
    · exact ⟨by have := ih.1; omega, ih.2⟩
    · split
      · exact ⟨by simp, fun r hr => absurd hr (by simp), he.2.2.1, fun _ => rfl⟩
      · refine ⟨by rw [List.length_append]; have := ih.1; have := he.1; omega, fun r hr => ?_, ⟨by simp, by simp⟩, fun h => absurd rfl h⟩
        rcases List.mem_append.1 hr with hr | hr
        · exact ih.2.1 r hr
        · exact he.2.1 r hr
theorem wordsB_few (s : ByteArray) : (wordsB s).length ≤ 20 := by
  unfold wordsB strsOf
  rw [List.length_map]; exact List.length_take_le _ _
theorem lineR_facts {l : Instrs} {each : Bool} {s : ByteArray} (hn : ∀ i, i < l.length → In64 (ins1 l i)) : (lineR l each s).1.length ≤ 600 ∧ (∀ r ∈ (lineR l each s).1, r.1.size ≤ 40 ∧ In64 r.2) ∧ (0 ≤ (lineR l each s).2 ∧ (lineR l each s).2 ≤ 2) ∧ ((lineR l each s).2 ≠ 0 → (lineR l each s).1 = []) := by
  unfold lineR
  split
  · split
    · have h := eachTo_facts (l := l) (wordsB s) hn (wordsB s).length
      have := wordsB_few s
      exact ⟨by have := h.1; omega, h.2⟩
    · have h := evalR_facts (l := l) (ws := wordsB s) hn
      exact ⟨by have := h.1; omega, h.2⟩
  · exact ⟨by simp, fun r hr => absurd hr (by simp), ⟨by simp, by simp⟩, fun _ => rfl⟩
end Go.Proofs.YtjofbeokkainlaaDoor
namespace Go.Proofs.YtjofbeokkainlaaDoor
open Go.ChangeShapes Go.WideShapes Go.ChangeAt Go.RowKit
set_option linter.unusedVariables false
set_option maxRecDepth 100000

/-- Records and code of the first k lines. -/
def emitTo (l : Instrs) (each : Bool) (L : Strs) : Nat → Recs × Int
  | 0 => ([], 0)
  | k + 1 => if (emitTo l each L k).2 ≠ 0 then emitTo l each L k else if (lineR l each (strAt L k)).2 ≠ 0 then ([], (lineR l each (strAt L k)).2) else ((emitTo l each L k).1 ++ (lineR l each (strAt L k)).1, 0)
theorem emitTo_bad {l : Instrs} {each : Bool} {L : Strs} {k n : Nat} (h : (emitTo l each L k).2 ≠ 0) (hk : k ≤ n) : emitTo l each L n = emitTo l each L k := by
  induction n with
  | zero => obtain rfl : k = 0 := by omega
            rfl
  | succ n ih =>
    rcases Nat.lt_or_ge n k with h1 | h1
    · obtain rfl : k = n + 1 := by omega
      rfl
    · have := ih h1
      rw [emitTo, this, if_pos h]
theorem emitTo_stop {l : Instrs} {each : Bool} {L : Strs} {k : Nat} {O : Recs} (h : emitTo l each L k = (O, 0)) {V : Recs} {c : Int} (hr : lineR l each (strAt L k) = (V, c)) (hc : c ≠ 0) : emitTo l each L (k + 1) = ([], c) := by
  rw [emitTo, if_neg (by rw [h]; exact fun h => h rfl), hr, if_pos hc]
theorem emitTo_go {l : Instrs} {each : Bool} {L : Strs} {k : Nat} {O : Recs} (h : emitTo l each L k = (O, 0)) {V : Recs} {c : Int} (hr : lineR l each (strAt L k) = (V, c)) (hc : c = 0) : emitTo l each L (k + 1) = (O ++ V, 0) := by
  rw [emitTo, if_neg (by rw [h]; exact fun h => h rfl), hr, if_neg (by simpa using hc), h]
theorem emitTo_facts {l : Instrs} {each : Bool} (L : Strs) (hn : ∀ i, i < l.length → In64 (ins1 l i)) : ∀ k, (emitTo l each L k).1.length ≤ 600 * k ∧ (∀ r ∈ (emitTo l each L k).1, r.1.size ≤ 40 ∧ In64 r.2) ∧ (0 ≤ (emitTo l each L k).2 ∧ (emitTo l each L k).2 ≤ 2) ∧ ((emitTo l each L k).2 ≠ 0 → (emitTo l each L k).1 = [])
  | 0 => ⟨by simp [emitTo], fun r hr => absurd hr (by simp [emitTo]), ⟨by simp [emitTo], by simp [emitTo]⟩, fun _ => rfl⟩
  | k + 1 => by
    have ih := emitTo_facts (each := each) L hn k
    have he := lineR_facts (each := each) (s := strAt L k) hn
    rw [emitTo]
    split
    · exact ⟨by have := ih.1; omega, ih.2⟩
    · split
      · exact ⟨by simp, fun r hr => absurd hr (by simp), he.2.2.1, fun _ => rfl⟩
      · refine ⟨by rw [List.length_append]; have := ih.1; have := he.1; omega, fun r hr => ?_, ⟨by simp, by simp⟩, fun h => absurd rfl h⟩
        rcases List.mem_append.1 hr with hr | hr
        · exact ih.2.1 r hr
        · exact he.2.1 r hr
/-- Records and code of a split with these lines. -/
def emitR (l : Instrs) (each : Bool) (L : Strs) : Recs × Int :=
  if (emitTo l each L L.length).2 = 0 ∧ 600 < (emitTo l each L L.length).1.length then ([], 3) else emitTo l each L L.length
theorem emitR_bad {l : Instrs} {each : Bool} {L : Strs} {c : Int} {n : Nat} (hn : L.length = n) (h : emitTo l each L n = ([], c)) (hc : c ≠ 0) : emitR l each L = ([], c) := by
  unfold emitR
  rw [hn, h, if_neg (fun h2 => hc h2.1)]
theorem emitR_many {l : Instrs} {each : Bool} {L : Strs} {O : Recs} {n : Nat} (hn : L.length = n) (h : emitTo l each L n = (O, 0)) (ho : 600 < O.length) : emitR l each L = ([], 3) := by
  unfold emitR
  rw [hn, h, if_pos ⟨rfl, ho⟩]
theorem emitR_all {l : Instrs} {each : Bool} {L : Strs} {O : Recs} {n : Nat} (hn : L.length = n) (h : emitTo l each L n = (O, 0)) (ho : ¬ 600 < O.length) : emitR l each L = (O, 0) := by
  unfold emitR
  rw [hn, h, if_neg (fun h2 => ho h2.2)]
theorem emitR_facts {l : Instrs} {each : Bool} (L : Strs) (hn : ∀ i, i < l.length → In64 (ins1 l i)) : (emitR l each L).1.length ≤ 600 ∧ (∀ r ∈ (emitR l each L).1, r.1.size ≤ 40 ∧ In64 r.2) ∧ (0 ≤ (emitR l each L).2 ∧ (emitR l each L).2 ≤ 3) ∧ ((emitR l each L).2 ≠ 0 → (emitR l each L).1 = []) := by
  have h := emitTo_facts (each := each) L hn L.length
  unfold emitR
  split
  · exact ⟨by simp, fun r hr => absurd hr (by simp), ⟨by simp, by simp⟩, fun _ => rfl⟩
  · rename_i hno
    refine ⟨?_, h.2.1, ⟨h.2.2.1.1, by have := h.2.2.1.2; omega⟩, h.2.2.2⟩
    by_cases hc : (emitTo l each L L.length).2 = 0
    · have : ¬ 600 < (emitTo l each L L.length).1.length := fun h => hno ⟨hc, h⟩
      omega
    · rw [h.2.2.2 hc]; simp
/-- The records of part p of n. -/
def partL (V : Recs) (n p : Int) : Recs := V.filter fun r => decide (partN r.1 n = p)
theorem partL_in {V : Recs} {n p : Int} {k : Nat} (hk : k < V.length) (h : partN (keyAt V k) n = p) : partL (V.take (k + 1)) n p = partL (V.take k) n p ++ [(keyAt V k, numAt V k)] := by
  have e : V[k] = (keyAt V k, numAt V k) := by unfold keyAt numAt; simp [List.getD_eq_getElem?_getD, hk]
  unfold partL
  rw [List.take_succ_eq_append_getElem hk, List.filter_append, e]
  simp [h]
theorem partL_out {V : Recs} {n p : Int} {k : Nat} (hk : k < V.length) (h : ¬ partN (keyAt V k) n = p) : partL (V.take (k + 1)) n p = partL (V.take k) n p := by
  have e : V[k] = (keyAt V k, numAt V k) := by unfold keyAt numAt; simp [List.getD_eq_getElem?_getD, hk]
  unfold partL
  rw [List.take_succ_eq_append_getElem hk, List.filter_append, e]
  simp [h]
theorem partL_few (V : Recs) (n p : Int) : (partL V n p).length ≤ V.length := List.length_filter_le _ _
theorem partL_mem {V : Recs} {n p : Int} {r : ByteArray × Int} (h : r ∈ partL V n p) : r ∈ V := (List.mem_filter.1 h).1
end Go.Proofs.YtjofbeokkainlaaDoor
namespace Go.Proofs.YtjofbeokkainlaaDoor
open Go.ChangeShapes Go.WideShapes Go.ChangeAt Go.RowKit
set_option linter.unusedVariables false
set_option maxRecDepth 100000

theorem cellsI_setN : ∀ (W : Instrs) (k : Nat) (x : Int), k < W.length → cellsI (W.set k (ins0 W k, x, ins2 W k)) = (cellsI W).set (k * 3 + 1) (.int .i64 x)
  | [], k, x, h => by simp at h
  | a :: t, 0, x, _ => rfl
  | a :: t, k + 1, x, h => by
    obtain ⟨e0, e1, e2⟩ := ins_cons a t k
    rw [e0, e2, List.set_cons_succ]
    have ih := cellsI_setN t k x (by simpa using h)
    have e : (k + 1) * 3 + 1 = k * 3 + 1 + 1 + 1 + 1 := by omega
    rw [e]
    show _ :: _ :: _ :: cellsI (t.set k (ins0 t k, x, ins2 t k)) = _
    rw [ih]; rfl
theorem cellsI_setS : ∀ (W : Instrs) (k : Nat) (s : ByteArray), k < W.length → cellsI (W.set k (ins0 W k, ins1 W k, s)) = (cellsI W).set (k * 3 + 2) (.string s)
  | [], k, x, h => by simp at h
  | a :: t, 0, x, _ => rfl
  | a :: t, k + 1, x, h => by
    obtain ⟨e0, e1, e2⟩ := ins_cons a t k
    rw [e0, e1, List.set_cons_succ]
    have ih := cellsI_setS t k x (by simpa using h)
    have e : (k + 1) * 3 + 2 = k * 3 + 2 + 1 + 1 + 1 := by omega
    rw [e]
    show _ :: _ :: _ :: cellsI (t.set k (ins0 t k, ins1 t k, x)) = _
    rw [ih]; rfl
theorem fine_at {W : Instrs} (h : FineI W) {k : Nat} (hk : k < W.length) : In64 (ins1 W k) ∧ (ins2 W k).size ≤ 25 := by
  have e : W.getD k (0, 0, ByteArray.empty) = W[k] := by rw [List.getD_eq_getElem?_getD, List.getElem?_eq_getElem hk]; rfl
  unfold ins1 ins2
  rw [e]
  exact h _ (List.getElem_mem hk)
theorem own_setI {w : World} {base n cp g j : Nat} {xs : List Value} (h : w.ownsRow base 80 3 (.slice (some ⟨g, 0, none⟩) n cp) n xs) (v : Value) :
    (w.setCell ⟨g, j, none⟩ v).ownsRow base 80 3 (.slice (some ⟨g, 0, none⟩) n cp) n (xs.set j v) := by
  refine ⟨by rw [List.length_set]; exact h.1, ?_⟩
  rcases h.2 with ⟨h1, _⟩ | ⟨g', cap, cur, hv, hb, hh, h1, h2, h3, h4⟩
  · simp at h1
  · simp only [Value.slice.injEq, Option.some.injEq, Addr.mk.injEq, and_true, true_and] at hv
    obtain ⟨rfl, rfl⟩ := hv
    refine .inr ⟨g, cp, cur.setIfInBounds j v, rfl, hb, block_set hh j v, h1, h2, by simpa using h3, ?_⟩
    rw [← h4, Array.toList_setIfInBounds, List.take_set]
theorem DrawnI.setN {w wr : World} {r : Nat} {a : Option Addr} {len cap n cp g k : Nat} {W : Instrs} {x : Int} (h : DrawnI w wr r a len cap (.slice (some ⟨g, 0, none⟩) n cp) n W) (hr : r < w.heap.size) (hg : w.heap.size ≤ g) (hk : k < n) (hx : In64 x) :
    DrawnI w (wr.setCell ⟨g, k * 3 + 1, none⟩ (.int .i64 x)) r a len cap (.slice (some ⟨g, 0, none⟩) n cp) n (W.set k (ins0 W k, x, ins2 W k)) := by
  have hkW : k < W.length := by rw [h.size]; exact hk
  refine ⟨by rw [cellsI_setN W k x hkW]; exact own_setI h.own _, by rw [List.length_set]; exact h.size, h.went.put hg (by omega) _ _, fun y hy => ?_⟩
  rcases List.mem_or_eq_of_mem_set hy with e | e
  · exact h.fine y e
  · subst e; exact ⟨hx, (fine_at h.fine hkW).2⟩
theorem DrawnI.setS {w wr : World} {r : Nat} {a : Option Addr} {len cap n cp g k : Nat} {W : Instrs} {x : ByteArray} (h : DrawnI w wr r a len cap (.slice (some ⟨g, 0, none⟩) n cp) n W) (hr : r < w.heap.size) (hg : w.heap.size ≤ g) (hk : k < n) (hx : x.size ≤ 25) :
    DrawnI w (wr.setCell ⟨g, k * 3 + 2, none⟩ (.string x)) r a len cap (.slice (some ⟨g, 0, none⟩) n cp) n (W.set k (ins0 W k, ins1 W k, x)) := by
  have hkW : k < W.length := by rw [h.size]; exact hk
  refine ⟨by rw [cellsI_setS W k x hkW]; exact own_setI h.own _, by rw [List.length_set]; exact h.size, h.went.put hg (by omega) _ _, fun y hy => ?_⟩
  rcases List.mem_or_eq_of_mem_set hy with e | e
  · exact h.fine y e
  · subst e; exact ⟨(fine_at h.fine hkW).1, hx⟩
theorem DrawnI.place {w wr : World} {r : Nat} {a : Option Addr} {len cap n cp k : Nat} {q : Option Addr} {W : Instrs} (h : DrawnI w wr r a len cap (.slice q n cp) n W) (hk : k < n) :
    ∃ g, q = some ⟨g, 0, none⟩ ∧ w.heap.size ≤ g ∧ (∃ v, wr.cell? ⟨g, k * 3 + 1, none⟩ = some v) ∧ (∃ v, wr.cell? ⟨g, k * 3 + 2, none⟩ = some v) ∧ ∀ o, wr.frozen? ⟨g, o, none⟩ = false := by
  obtain ⟨g, cur, rfl, hb, hrow, hs⟩ := own_insrow h.own (by omega)
  exact ⟨g, rfl, hb, ⟨_, hrow.cell (by omega)⟩, ⟨_, hrow.cell (by omega)⟩, hrow.free⟩

/-- Which blocks stay: all but the reader's and row G. -/
def KeptBut (w0 w' : World) (r : Nat) (G : Option Nat) : Prop := ∀ i, i < w0.heap.size → i ≠ r → some i ≠ G → w'.heap[i]? = w0.heap[i]?
structure DrawnK (w w0 wr : World) (G : Option Nat) (r : Nat) (a : Option Addr) (len cap : Nat) (v : Value) (n : Nat) (W : Instrs) : Prop where
  d : DrawnI w wr r a len cap v n W
  kept : KeptBut w0 wr r G
  size : w0.heap.size ≤ wr.heap.size
  row : v.ownBlock = G ∨ ∀ k, v.ownBlock = some k → w0.heap.size ≤ k
theorem DrawnK.own {w w0 wr : World} {G : Option Nat} {r : Nat} {a : Option Addr} {len cap : Nat} {v : Value} {n : Nat} {W : Instrs} (h : DrawnK w w0 wr G r a len cap v n W) : wr.ownsRow w.heap.size 80 3 v n (cellsI W) := h.d.own
theorem DrawnK.went {w w0 wr : World} {G : Option Nat} {r : Nat} {a : Option Addr} {len cap : Nat} {v : Value} {n : Nat} {W : Instrs} (h : DrawnK w w0 wr G r a len cap v n W) : Went w r a len cap wr := h.d.went
theorem DrawnK.trans {w w0 wr w1 : World} {G : Option Nat} {r : Nat} {a : Option Addr} {len cap : Nat} {v : Value} {n : Nat} {W : Instrs} (h : DrawnK w w0 wr G r a len cap v n W) (hr : r < w.heap.size) (hw : Went wr r a len cap w1) : DrawnK w w0 w1 G r a len cap v n W :=
  ⟨h.d.trans hr hw, fun i hi hn hg => (hw.grown.block i (Nat.lt_of_lt_of_le hi h.size) (fun e => hn (Option.some.inj e))).trans (h.kept i hi hn hg), Nat.le_trans h.size hw.size, h.row⟩
theorem DrawnK.alloc {w w0 wr : World} {G : Option Nat} {r : Nat} {a : Option Addr} {len cap : Nat} {v : Value} {n : Nat} {W : Instrs} (h : DrawnK w w0 wr G r a len cap v n W) (o : Obj) : DrawnK w w0 (wr.alloc o) G r a len cap v n W :=
  ⟨h.d.alloc o, fun i hi hn hg => ((World.grownBy_alloc wr o none).block i (Nat.lt_of_lt_of_le hi h.size) (by simp)).trans (h.kept i hi hn hg), Nat.le_trans h.size (by simp), h.row⟩
theorem DrawnK.add {w w0 wr w1 : World} {G : Option Nat} {r : Nat} {a : Option Addr} {len cap : Nat} {v v' : Value} {n m : Nat} {W L : Instrs} (h : DrawnK w w0 wr G r a len cap v n W) (hr : r < w.heap.size) (hL : FineI L) (hm : L.length = m)
    (hown : w1.ownsRow w.heap.size 80 3 v' (n + m) (cellsI W ++ cellsI L)) (hg : wr.grownBy w1 v.ownBlock) (hat : v'.ownBlock = v.ownBlock ∨ v'.ownBlock = some wr.heap.size) : DrawnK w w0 w1 G r a len cap v' (n + m) (W ++ L) := by
  refine ⟨h.d.add hr hL hm hown hg, fun i hi hn hG => ?_, Nat.le_trans h.size hg.size, ?_⟩
  · refine (hg.block i (Nat.lt_of_lt_of_le hi h.size) (fun e => ?_)).trans (h.kept i hi hn hG)
    rcases h.row with h1 | h1
    · exact hG (e.trans h1)
    · have := h1 i e.symm
      omega
  · rcases hat with e | e
    · rw [e]; exact h.row
    · right
      intro k hk
      rw [e] at hk
      injection hk with hk
      have := h.size
      omega
theorem DrawnK.ofPut {w w0 wr : World} {r : Nat} {a : Option Addr} {len cap n cp g : Nat} {W W' : Instrs} (h : DrawnK w w0 wr (some g) r a len cap (.slice (some ⟨g, 0, none⟩) n cp) n W) (j : Nat) (x : Value) (hd : DrawnI w (wr.setCell ⟨g, j, none⟩ x) r a len cap (.slice (some ⟨g, 0, none⟩) n cp) n W') :
    DrawnK w w0 (wr.setCell ⟨g, j, none⟩ x) (some g) r a len cap (.slice (some ⟨g, 0, none⟩) n cp) n W' :=
  ⟨hd, fun i hi hn hG => (Below.heap_setCell wr ⟨g, j, none⟩ x i (fun e => hG (by rw [e]))).trans (h.kept i hi hn hG), by simpa [World.setCell] using h.size, .inl rfl⟩
theorem DrawnK.start {w wr : World} {r : Nat} {a : Option Addr} {len cap : Nat} {v : Value} {n : Nat} {W : Instrs} (h : DrawnI w wr r a len cap v n W) : DrawnK w wr wr v.ownBlock r a len cap v n W := ⟨h, fun _ _ _ _ => rfl, Nat.le_refl _, .inl rfl⟩

/-- The end of hurting a drawn program: a drawn program. -/
def RdHurt (w0 w : World) (G : Option Nat) (r : Nat) (a : Option Addr) (len cap : Nat) (e : Ending) (w' : World) : Prop :=
  ∃ (q : Option Addr) (n cp : Nat) (W : Instrs), e = .returned (.slice q n cp) ∧ n ≤ 80 ∧ DrawnK w0 w w' G r a len cap (.slice q n cp) n W
end Go.Proofs.YtjofbeokkainlaaDoor
namespace Go.Proofs.YtjofbeokkainlaaDoor
open Go.ChangeShapes Go.WideShapes Go.ChangeAt Go.RowKit
set_option linter.unusedVariables false
set_option maxRecDepth 100000

theorem DrawnI.ins {w wr : World} {r : Nat} {a : Option Addr} {len cap n cp : Nat} {q : Option Addr} {W : Instrs} (h : DrawnI w wr r a len cap (.slice q n cp) n W) (hn : n ≤ 80) : InstrsAt wr q n W ∧ ∀ i, i < n → In64 (ins1 W i) :=
  ⟨own_inss h.own h.size (by unfold maxLen; omega) (fun i hi => by have := (fine_at h.fine (k := i) (by rw [h.size]; exact hi)).2; unfold maxLen; omega), fun i hi => (fine_at h.fine (by rw [h.size]; exact hi)).1⟩
/-- A drawn program. -/
def DrewProg (w : World) (e : Ending) (w' : World) : Prop := ∃ (q : Option Addr) (n cp : Nat) (W : Instrs), e = .returned (.slice q n cp) ∧ n ≤ 80 ∧ InstrsAt w' q n W ∧ (∀ i, i < n → In64 (ins1 W i)) ∧ Below w.heap.size w w'
theorem progTx_size {l : Instrs} (hn : ∀ i, i < l.length → In64 (ins1 l i)) : (progTx l).size ≤ 690 := by
  unfold progTx
  split
  · rename_i h
    have := progTo_size h hn _ (Nat.le_refl _)
    have := prog_few h
    omega
  · exact Nat.zero_le _
/-- A drawn text. -/
def DrewTx (m : Nat) (w : World) (e : Ending) (w' : World) : Prop := ∃ t : ByteArray, t.size ≤ m ∧ e = .returned (.string t) ∧ Below w.heap.size w w'
end Go.Proofs.YtjofbeokkainlaaDoor
