
/- A drawn program, hurt. Only new blocks are made, the drawn row is written, and the reader's place. -/
import Derived.Test.YtjofbeokkainlaaMg38
import Derived.Maps.AppendAt
namespace Go.Proofs.Ytjofbeokkainlaa
open Go.ChangeShapes Go.WideShapes Go.ChangeAt Go.RowKit
set_option linter.unusedVariables false
set_option maxRecDepth 100000

theorem cellsI_setN : ∀ (W : Instrs) (k : Nat) (x : Int), k < W.length → cellsI (W.set k (ins0 W k, x, ins2 W k)) = (cellsI W).set (k * 3 + 1) (.int .i64 x)
  | [], k, x, h => by simp at h
  | a :: t, 0, x, _ => rfl
  | a :: t, k + 1, x, h => by
    obtain ⟨e0, e1, e2⟩ := ins_cons a t k
    rw [e0, e2, List.set_cons_succ]
    have ih := cellsI_setN t k x (by simpa using h)
    have e : (k + 1) * 3 + 1 = k * 3 + 1 + 1 + 1 + 1 := by omega
    rw [e]
    show _ :: _ :: _ :: cellsI (t.set k (ins0 t k, x, ins2 t k)) = _
    rw [ih]; rfl
theorem cellsI_setS : ∀ (W : Instrs) (k : Nat) (s : ByteArray), k < W.length → cellsI (W.set k (ins0 W k, ins1 W k, s)) = (cellsI W).set (k * 3 + 2) (.string s)
  | [], k, x, h => by simp at h
  | a :: t, 0, x, _ => rfl
  | a :: t, k + 1, x, h => by
    obtain ⟨e0, e1, e2⟩ := ins_cons a t k
    rw [e0, e1, List.set_cons_succ]
    have ih := cellsI_setS t k x (by simpa using h)
    have e : (k + 1) * 3 + 2 = k * 3 + 2 + 1 + 1 + 1 := by omega
    rw [e]
    show _ :: _ :: _ :: cellsI (t.set k (ins0 t k, ins1 t k, x)) = _
    rw [ih]; rfl
theorem fine_at {W : Instrs} (h : FineI W) {k : Nat} (hk : k < W.length) : In64 (ins1 W k) ∧ (ins2 W k).size ≤ 25 := by
  have e : W.getD k (0, 0, ByteArray.empty) = W[k] := by rw [List.getD_eq_getElem?_getD, List.getElem?_eq_getElem hk]; rfl
  unfold ins1 ins2
  rw [e]
  exact h _ (List.getElem_mem hk)
theorem own_setI {w : World} {base n cp g j : Nat} {xs : List Value} (h : w.ownsRow base 73 3 (.slice (some ⟨g, 0, none⟩) n cp) n xs) (v : Value) :
    (w.setCell ⟨g, j, none⟩ v).ownsRow base 73 3 (.slice (some ⟨g, 0, none⟩) n cp) n (xs.set j v) := by
  refine ⟨by rw [List.length_set]; exact h.1, ?_⟩
  rcases h.2 with ⟨h1, _⟩ | ⟨g', cap, cur, hv, hb, hh, h1, h2, h3, h4⟩
  · simp at h1
  · simp only [Value.slice.injEq, Option.some.injEq, Addr.mk.injEq, and_true, true_and] at hv
    obtain ⟨rfl, rfl⟩ := hv
    refine .inr ⟨g, cp, cur.setIfInBounds j v, rfl, hb, block_set hh j v, h1, h2, by simpa using h3, ?_⟩
    rw [← h4, Array.toList_setIfInBounds, List.take_set]
theorem DrawnI.setN {w wr : World} {r : Nat} {a : Option Addr} {len cap n cp g k : Nat} {W : Instrs} {x : Int} (h : DrawnI w wr r a len cap (.slice (some ⟨g, 0, none⟩) n cp) n W) (hr : r < w.heap.size) (hg : w.heap.size ≤ g) (hk : k < n) (hx : In64 x) :
    DrawnI w (wr.setCell ⟨g, k * 3 + 1, none⟩ (.int .i64 x)) r a len cap (.slice (some ⟨g, 0, none⟩) n cp) n (W.set k (ins0 W k, x, ins2 W k)) := by
  have hkW : k < W.length := by rw [h.size]; exact hk
  refine ⟨by rw [cellsI_setN W k x hkW]; exact own_setI h.own _, by rw [List.length_set]; exact h.size, h.went.put hg (by omega) _ _, fun y hy => ?_⟩
  rcases List.mem_or_eq_of_mem_set hy with e | e
  · exact h.fine y e
  · subst e; exact ⟨hx, (fine_at h.fine hkW).2⟩
theorem DrawnI.setS {w wr : World} {r : Nat} {a : Option Addr} {len cap n cp g k : Nat} {W : Instrs} {x : ByteArray} (h : DrawnI w wr r a len cap (.slice (some ⟨g, 0, none⟩) n cp) n W) (hr : r < w.heap.size) (hg : w.heap.size ≤ g) (hk : k < n) (hx : x.size ≤ 25) :
    DrawnI w (wr.setCell ⟨g, k * 3 + 2, none⟩ (.string x)) r a len cap (.slice (some ⟨g, 0, none⟩) n cp) n (W.set k (ins0 W k, ins1 W k, x)) := by
  have hkW : k < W.length := by rw [h.size]; exact hk
  refine ⟨by rw [cellsI_setS W k x hkW]; exact own_setI h.own _, by rw [List.length_set]; exact h.size, h.went.put hg (by omega) _ _, fun y hy => ?_⟩
  rcases List.mem_or_eq_of_mem_set hy with e | e
  · exact h.fine y e
  · subst e; exact ⟨(fine_at h.fine hkW).1, hx⟩
theorem DrawnI.place {w wr : World} {r : Nat} {a : Option Addr} {len cap n cp k : Nat} {q : Option Addr} {W : Instrs} (h : DrawnI w wr r a len cap (.slice q n cp) n W) (hk : k < n) :
    ∃ g, q = some ⟨g, 0, none⟩ ∧ w.heap.size ≤ g ∧ (∃ v, wr.cell? ⟨g, k * 3 + 1, none⟩ = some v) ∧ (∃ v, wr.cell? ⟨g, k * 3 + 2, none⟩ = some v) ∧ ∀ o, wr.frozen? ⟨g, o, none⟩ = false := by
  obtain ⟨g, cur, rfl, hb, hrow, hs⟩ := own_insrow h.own (by omega)
  exact ⟨g, rfl, hb, ⟨_, hrow.cell (by omega)⟩, ⟨_, hrow.cell (by omega)⟩, hrow.free⟩

/-- Which blocks stay: all but the reader's and row G. -/
def KeptBut (w0 w' : World) (r : Nat) (G : Option Nat) : Prop := ∀ i, i < w0.heap.size → i ≠ r → some i ≠ G → w'.heap[i]? = w0.heap[i]?
structure DrawnK (w w0 wr : World) (G : Option Nat) (r : Nat) (a : Option Addr) (len cap : Nat) (v : Value) (n : Nat) (W : Instrs) : Prop where
  d : DrawnI w wr r a len cap v n W
  kept : KeptBut w0 wr r G
  size : w0.heap.size ≤ wr.heap.size
  row : v.ownBlock = G ∨ ∀ k, v.ownBlock = some k → w0.heap.size ≤ k
theorem DrawnK.own {w w0 wr : World} {G : Option Nat} {r : Nat} {a : Option Addr} {len cap : Nat} {v : Value} {n : Nat} {W : Instrs} (h : DrawnK w w0 wr G r a len cap v n W) : wr.ownsRow w.heap.size 73 3 v n (cellsI W) := h.d.own
theorem DrawnK.went {w w0 wr : World} {G : Option Nat} {r : Nat} {a : Option Addr} {len cap : Nat} {v : Value} {n : Nat} {W : Instrs} (h : DrawnK w w0 wr G r a len cap v n W) : Went w r a len cap wr := h.d.went
theorem DrawnK.trans {w w0 wr w1 : World} {G : Option Nat} {r : Nat} {a : Option Addr} {len cap : Nat} {v : Value} {n : Nat} {W : Instrs} (h : DrawnK w w0 wr G r a len cap v n W) (hr : r < w.heap.size) (hw : Went wr r a len cap w1) : DrawnK w w0 w1 G r a len cap v n W :=
  ⟨h.d.trans hr hw, fun i hi hn hg => (hw.grown.block i (Nat.lt_of_lt_of_le hi h.size) (fun e => hn (Option.some.inj e))).trans (h.kept i hi hn hg), Nat.le_trans h.size hw.size, h.row⟩
theorem DrawnK.alloc {w w0 wr : World} {G : Option Nat} {r : Nat} {a : Option Addr} {len cap : Nat} {v : Value} {n : Nat} {W : Instrs} (h : DrawnK w w0 wr G r a len cap v n W) (o : Obj) : DrawnK w w0 (wr.alloc o) G r a len cap v n W :=
  ⟨h.d.alloc o, fun i hi hn hg => ((World.grownBy_alloc wr o none).block i (Nat.lt_of_lt_of_le hi h.size) (by simp)).trans (h.kept i hi hn hg), Nat.le_trans h.size (by simp), h.row⟩
theorem DrawnK.add {w w0 wr w1 : World} {G : Option Nat} {r : Nat} {a : Option Addr} {len cap : Nat} {v v' : Value} {n m : Nat} {W L : Instrs} (h : DrawnK w w0 wr G r a len cap v n W) (hr : r < w.heap.size) (hL : FineI L) (hm : L.length = m)
    (hown : w1.ownsRow w.heap.size 73 3 v' (n + m) (cellsI W ++ cellsI L)) (hg : wr.grownBy w1 v.ownBlock) (hat : v'.ownBlock = v.ownBlock ∨ v'.ownBlock = some wr.heap.size) : DrawnK w w0 w1 G r a len cap v' (n + m) (W ++ L) := by
  refine ⟨h.d.add hr hL hm hown hg, fun i hi hn hG => ?_, Nat.le_trans h.size hg.size, ?_⟩
  · refine (hg.block i (Nat.lt_of_lt_of_le hi h.size) (fun e => ?_)).trans (h.kept i hi hn hG)
    rcases h.row with h1 | h1
    · exact hG (e.trans h1)
    · have := h1 i e.symm
      omega
  · rcases hat with e | e
    · rw [e]; exact h.row
    · right
      intro k hk
      rw [e] at hk
      injection hk with hk
      have := h.size
      omega
theorem DrawnK.ofPut {w w0 wr : World} {r : Nat} {a : Option Addr} {len cap n cp g : Nat} {W W' : Instrs} (h : DrawnK w w0 wr (some g) r a len cap (.slice (some ⟨g, 0, none⟩) n cp) n W) (j : Nat) (x : Value) (hd : DrawnI w (wr.setCell ⟨g, j, none⟩ x) r a len cap (.slice (some ⟨g, 0, none⟩) n cp) n W') :
    DrawnK w w0 (wr.setCell ⟨g, j, none⟩ x) (some g) r a len cap (.slice (some ⟨g, 0, none⟩) n cp) n W' :=
  ⟨hd, fun i hi hn hG => (Below.heap_setCell wr ⟨g, j, none⟩ x i (fun e => hG (by rw [e]))).trans (h.kept i hi hn hG), by simpa [World.setCell] using h.size, .inl rfl⟩
theorem DrawnK.start {w wr : World} {r : Nat} {a : Option Addr} {len cap : Nat} {v : Value} {n : Nat} {W : Instrs} (h : DrawnI w wr r a len cap v n W) : DrawnK w wr wr v.ownBlock r a len cap v n W := ⟨h, fun _ _ _ _ => rfl, Nat.le_refl _, .inl rfl⟩

/-- The end of hurting a drawn program: a drawn program. -/
def RdHurt (w0 w : World) (G : Option Nat) (r : Nat) (a : Option Addr) (len cap : Nat) (e : Ending) (w' : World) : Prop :=
  ∃ (q : Option Addr) (n cp : Nat) (W : Instrs), e = .returned (.slice q n cp) ∧ n ≤ 80 ∧ DrawnK w0 w w' G r a len cap (.slice q n cp) n W
end Go.Proofs.Ytjofbeokkainlaa
