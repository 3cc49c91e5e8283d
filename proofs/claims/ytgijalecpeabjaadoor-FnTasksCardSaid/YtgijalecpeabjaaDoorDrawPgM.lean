
/- Drawn instructions: rows of the call's own that a reader has drawn. -/
import Derived.Test.YtgijalecpeabjaaDoorMg3
import Derived.Test.YtgijalecpeabjaaDoorProgTM
import Derived.Test.YtgijalecpeabjaaDoorRd3
namespace Go.Proofs.YtgijalecpeabjaaDoor
open Go.ChangeShapes Go.WideShapes Go.ChangeAt Go.RowKit
set_option linter.unusedVariables false
set_option maxRecDepth 100000

def FineI (l : Instrs) : Prop := ∀ x ∈ l, In64 x.2.1 ∧ x.2.2.size ≤ 25
theorem fine_app {l m : Instrs} (h : FineI l) (k : FineI m) : FineI (l ++ m) := fun x hx => by
  rcases List.mem_append.1 hx with e | e
  · exact h x e
  · exact k x e
theorem fine_nil : FineI [] := fun x hx => by cases hx
theorem fine_cons {x : Int × Int × ByteArray} {l : Instrs} (h1 : In64 x.2.1) (h2 : x.2.2.size ≤ 25) (h : FineI l) : FineI (x :: l) := fun y hy => by
  rcases List.mem_cons.1 hy with e | e
  · subst e; exact ⟨h1, h2⟩
  · exact h y e
theorem wf_in64 {n : Int} (h : (Lit.int .i64 n).wf = true) : In64 n := by
  exact bounds_i64 h
theorem fine_num {op n : Int} {l : Instrs} (h1 : In64 n) (h : FineI l) : FineI ((op, n, ByteArray.empty) :: l) := fine_cons h1 (Nat.zero_le _) h
theorem fine_txt {op : Int} {s : ByteArray} {l : Instrs} (h1 : s.size ≤ 25) (h : FineI l) : FineI ((op, 0, s) :: l) := fine_cons (show In64 0 from ⟨by decide, by decide⟩) h1 h
structure DrawnI (w wr : World) (r : Nat) (a : Option Addr) (len cap : Nat) (v : Value) (n : Nat) (W : Instrs) : Prop where
  own : wr.ownsRow w.heap.size 55 3 v n (cellsI W)
  size : W.length = n
  went : Went w r a len cap wr
  fine : FineI W
theorem went_row {w w1 w2 : World} {r : Nat} {a : Option Addr} {len cap : Nat} {row : Option Nat} (h : Went w r a len cap w1) (hg : w1.grownBy w2 row) (hr : r < w.heap.size) (hrow : ∀ k, row = some k → w.heap.size ≤ k) : Went w r a len cap w2 := by
  have hne : ∀ i, i < w.heap.size → some i ≠ row := fun i hi e => by have := hrow i e.symm; omega
  refine ⟨⟨hg.os.trans h.grown.os, hg.tape.trans h.grown.tape, hg.output.trans h.grown.output, Nat.le_trans h.grown.size hg.size, fun i hi hn => ?_⟩, ?_⟩
  · exact (hg.block i (Nat.lt_of_lt_of_le hi h.grown.size) (hne i hi)).trans (h.grown.block i hi hn)
  · refine h.rdr.below ⟨hg.os, hg.tape, hg.output, hg.size, fun k hk => ?_⟩
    exact hg.block k (Nat.lt_of_lt_of_le (by omega) h.grown.size) (hne k (by omega))
theorem own_wentI {w w1 : World} {base r : Nat} {a : Option Addr} {len cap : Nat} {e : TypeId} {size : Nat} {v : Value} {n : Nat} {xs : List Value} (h : w.ownsRow base e size v n xs) (hw : Went w r a len cap w1) (hr : r < base) : w1.ownsRow base e size v n xs :=
  h.kept hw.grown (by
    by_cases hv : v.ownBlock = none
    · exact .inl hv
    · refine .inr fun he => ?_
      have := (h.lt r he).1
      omega)
theorem DrawnI.trans {w wr w1 : World} {r : Nat} {a : Option Addr} {len cap : Nat} {v : Value} {n : Nat} {W : Instrs} (h : DrawnI w wr r a len cap v n W) (hr : r < w.heap.size) (hw : Went wr r a len cap w1) : DrawnI w w1 r a len cap v n W :=
  ⟨own_wentI h.own hw hr, h.size, h.went.trans hw, h.fine⟩
theorem DrawnI.alloc {w wr : World} {r : Nat} {a : Option Addr} {len cap : Nat} {v : Value} {n : Nat} {W : Instrs} (h : DrawnI w wr r a len cap v n W) (o : Obj) : DrawnI w (wr.alloc o) r a len cap v n W :=
  ⟨h.own.alloc o, h.size, h.went.alloc o, h.fine⟩
theorem DrawnI.add {w wr w1 : World} {r : Nat} {a : Option Addr} {len cap : Nat} {v v' : Value} {n m : Nat} {W L : Instrs} (h : DrawnI w wr r a len cap v n W) (hr : r < w.heap.size) (hL : FineI L) (hm : L.length = m)
    (hown : w1.ownsRow w.heap.size 55 3 v' (n + m) (cellsI W ++ cellsI L)) (hg : wr.grownBy w1 v.ownBlock) : DrawnI w w1 r a len cap v' (n + m) (W ++ L) :=
  ⟨by rw [cellsI_app]; exact hown, by rw [List.length_append, h.size, hm], went_row h.went hg hr (fun k hk => (h.own.lt k hk).1), fine_app h.fine hL⟩
theorem own_src {w : World} {base n cp : Nat} {q : Option Addr} {l : Instrs} (h : w.ownsRow base 55 3 (.slice q n cp) n (cellsI l)) (h0 : 0 < n) (hn : l.length = n) :
    ∃ g, q = some ⟨g, 0, none⟩ ∧ base ≤ g ∧ ∀ j u, (cellsI l)[j]? = some u → w.cell? ((⟨g, 0, none⟩ : Addr).add j) = some u := by
  obtain ⟨g, cur, rfl, hb, hr, hs⟩ := own_insrow h h0
  refine ⟨g, rfl, hb, fun j u hj => ?_⟩
  have hlt : j < n * 3 := by
    have := (List.getElem?_eq_some_iff.1 hj).1
    rw [cellsI_len, hn] at this
    exact this
  have := h.cellAt j hlt
  rw [hj] at this
  have e : ((⟨g, 0, none⟩ : Addr).add j) = ⟨g, j, none⟩ := by simp [Addr.add]; omega
  rw [e]; exact this
theorem cellsI_one : ∀ l : Instrs, ∀ u ∈ cellsI l, u.oneCell' = true
  | [], u, hu => by cases hu
  | x :: t, u, hu => by
    rcases List.mem_cons.1 hu with e | hu
    · subst e; rfl
    rcases List.mem_cons.1 hu with e | hu
    · subst e; rfl
    rcases List.mem_cons.1 hu with e | hu
    · subst e; rfl
    exact cellsI_one t u hu
theorem lit_new (w : World) (cs : Array Value) (t : TypeId) : ∀ j u, cs.toList[j]? = some u → (w.alloc (.cells cs t)).cell? ((⟨w.heap.size, 0, none⟩ : Addr).add j) = some u := by
  intro j u hj
  have e : ((⟨w.heap.size, 0, none⟩ : Addr).add j) = ⟨w.heap.size, j, none⟩ := by simp [Addr.add]; omega
  rw [e]
  have h := Row.new w t cs
  unfold Row at h
  unfold World.cell?
  rw [h]
  simpa using hj
/-- The end of a method that draws instructions into a row of its own. -/
def RdIns (lo hi : Nat) (w : World) (r : Nat) (a : Option Addr) (len cap : Nat) (e : Ending) (w' : World) : Prop :=
  ∃ (q : Option Addr) (n cp : Nat) (W : Instrs), e = .returned (.slice q n cp) ∧ lo ≤ n ∧ n ≤ hi ∧ DrawnI w w' r a len cap (.slice q n cp) n W
theorem RdIns.lit {lo hi : Nat} {w w1 : World} {r : Nat} {a : Option Addr} {len cap : Nat} (hw : Went w r a len cap w1) (cs : Array Value) (n : Nat) (W : Instrs) (hl : lo ≤ n) (hh : n ≤ hi) (h4 : n ≤ 4) (hc : cs.toList = cellsI W) (hn : W.length = n) (hf : FineI W) :
    RdIns lo hi w r a len cap (.returned (.slice (some ⟨w1.heap.size, 0, none⟩) n n)) (w1.alloc (.cells cs 55)) := by
  refine ⟨_, _, _, W, rfl, hl, hh, ?_, hn, hw.alloc _, hf⟩
  have := World.ownsRow_lit (base := w.heap.size) (e := 55) (size := 3) w1 cs n hw.size (by unfold maxLen; omega) (by
    have := congrArg List.length hc
    rw [cellsI_len, hn] at this
    simpa using this)
  rw [hc] at this
  exact this
end Go.Proofs.YtgijalecpeabjaaDoor
