
/- Two runs merged by the program: the records of both, in order, in a row of its own. Only new blocks are made. -/
import Derived.Test.YtdphganbnlmgcaaGreatDoorMg26
import Derived.Test.YtdphganbnlmgcaaGreatDoorSorted
namespace Go.Proofs.YtdphganbnlmgcaaGreatDoor
open Go.ChangeShapes Go.WideShapes Go.ChangeAt Go.RowKit
set_option linter.unusedVariables false
set_option maxRecDepth 100000

theorem recs_cells {w : World} {b off n : Nat} {l : Recs} (h : RecsAt w (some ⟨b, off, none⟩) n l) : ∀ j u, (cellsL l)[j]? = some u → w.cell? ((⟨b, off, none⟩ : Addr).add j) = some u := by
  intro j u hj
  have hl := h.length
  have hjl : j < l.length * 2 := by
    obtain ⟨h1, _⟩ := List.getElem?_eq_some_iff.1 hj
    rw [cellsL_len] at h1; exact h1
  rcases h.src with h0 | ⟨b', off', hq, hb, hc⟩
  · omega
  · simp only [Option.some.injEq, Addr.mk.injEq, and_true] at hq
    obtain ⟨rfl, rfl⟩ := hq
    obtain ⟨e1, e2⟩ := cellsL_get l (j / 2) (by omega)
    obtain ⟨c1, c2⟩ := hc (j / 2) (by omega)
    have ead : ((⟨b, off, none⟩ : Addr).add j) = ⟨b, off + j, none⟩ := by simp [Addr.add]
    rw [ead]
    rcases Nat.mod_two_eq_zero_or_one j with hm | hm
    · have e : j / 2 * 2 = j := by omega
      rw [e] at e1 c1
      rw [c1, ← hj, e1]
    · have e : j / 2 * 2 + 1 = j := by omega
      have e' : off + j / 2 * 2 + 1 = off + j := by omega
      rw [e] at e2
      rw [e'] at c2
      rw [c2, ← hj, e2]
theorem recs_cellsO {w : World} {ad : Addr} {n : Nat} {l : Recs} (h : RecsAt w (some ad) n l) : ∀ j u, (cellsL l)[j]? = some u → w.cell? (ad.add j) = some u := by
  rcases h.src with h0 | ⟨b, off, hq, _, _⟩
  · have : l = [] := List.length_eq_zero_iff.1 (h.length.trans h0)
    subst this
    intro j u hj
    simp [cellsL] at hj
  · simp only [Option.some.injEq] at hq
    subst hq
    exact recs_cells h
theorem cellsL_one (l : Recs) : ∀ u ∈ cellsL l, u.oneCell' = true := by
  intro u hu
  unfold cellsL at hu
  obtain ⟨r, _, hr⟩ := List.mem_flatMap.1 hu
  simp at hr
  rcases hr with rfl | rfl <;> rfl
theorem recs_tail {w : World} {b off n : Nat} {p : ByteArray × Int} {l : Recs} (h : RecsAt w (some ⟨b, off, none⟩) n (p :: l)) : RecsAt w (some ⟨b, off + 2, none⟩) (n - 1) l := by
  have hl := h.length
  have hm := h.max
  rw [List.length_cons] at hl
  have hat : ∀ i, keyAt l i = keyAt (p :: l) (i + 1) ∧ numAt l i = numAt (p :: l) (i + 1) := by
    intro i
    unfold keyAt numAt
    rw [List.getD_cons_succ]
    exact ⟨rfl, rfl⟩
  refine ⟨by omega, by omega, fun i hi => ?_, ?_⟩
  · rw [(hat i).1]; exact h.keys (i + 1) (by omega)
  · rcases h.src with h0 | ⟨b', off', hq, hb, hc⟩
    · omega
    · simp only [Option.some.injEq, Addr.mk.injEq, and_true] at hq
      obtain ⟨rfl, rfl⟩ := hq
      refine .inr ⟨b, off + 2, rfl, hb, fun i hi => ?_⟩
      rw [(hat i).1, (hat i).2]
      have := hc (i + 1) (by omega)
      rw [show off + (i + 1) * 2 = off + 2 + i * 2 by omega] at this
      exact this
theorem recs_one_left {w : World} {q q' : Option Addr} {n : Nat} {p : ByteArray × Int} {l : Recs} (h : RecsAt w q n (p :: l)) (hn : n ≤ 1) : RecsAt w q' (n - 1) l := by
  have hl := h.length
  rw [List.length_cons] at hl
  have h0 : n - 1 = 0 := by omega
  rw [h0]
  exact ⟨by omega, Nat.zero_le _, fun i hi => by omega, .inl rfl⟩

theorem recless_val {s u : ByteArray} {n m : Int} {x : Bool} (w : World) (h : (okB s && okB u && lessB s n u m) = x) : Calls Tryz.prog 219 #[.agg #[.string s, .int .i64 n], .agg #[.string u, .int .i64 m]] w (MadeBool x w) := h ▸ recless_any s n u m w

/-- Both lists as they are left, and what has been put out. -/
structure MgSt (w wr : World) (qa : Option Addr) (x : Nat) (A : Recs) (qb : Option Addr) (y : Nat) (B : Recs) (v : Value) (n : Nat) (W T : Recs) : Prop where
  ra : RecsAt w qa x A
  rb : RecsAt w qb y B
  own : wr.ownsRow w.heap.size 50 2 v n (cellsL W)
  length : W.length = n
  below : Below w.heap.size w wr
  sum : W ++ mergeL A B = T
  ka : ∀ r ∈ A, r.1.size ≤ 40
  kb : ∀ r ∈ B, r.1.size ≤ 40

theorem MgSt.stepB {w wr w3 : World} {qa qb qb' : Option Addr} {x y n : Nat} {A B W T : Recs} {v v' : Value} {s u : ByteArray} {m z : Int} (h : MgSt w wr qa x ((s, m) :: A) qb y ((u, z) :: B) v n W T) (hle : leR (s, m) (u, z) = false)
    (hb : RecsAt w qb' (y - 1) B) (hown : w3.ownsRow w.heap.size 50 2 v' (n + 1) (cellsL W ++ [.string u, .int .i64 z])) (hB : Below w.heap.size w w3) : MgSt w w3 qa x ((s, m) :: A) qb' (y - 1) B v' (n + 1) (W ++ [(u, z)]) T :=
  ⟨h.ra, hb, by rw [cellsL_snoc]; exact hown, by simp [h.length], hB, by rw [← h.sum, mergeL_b hle], h.ka, fun r hr => h.kb r (List.mem_cons_of_mem _ hr)⟩
theorem MgSt.stepA {w wr w3 : World} {qa qa' qb : Option Addr} {x y n : Nat} {A B W T : Recs} {v v' : Value} {s u : ByteArray} {m z : Int} (h : MgSt w wr qa x ((s, m) :: A) qb y ((u, z) :: B) v n W T) (hle : leR (s, m) (u, z) = true)
    (ha : RecsAt w qa' (x - 1) A) (hown : w3.ownsRow w.heap.size 50 2 v' (n + 1) (cellsL W ++ [.string s, .int .i64 m])) (hB : Below w.heap.size w w3) : MgSt w w3 qa' (x - 1) A qb y ((u, z) :: B) v' (n + 1) (W ++ [(s, m)]) T :=
  ⟨ha, h.rb, by rw [cellsL_snoc]; exact hown, by simp [h.length], hB, by rw [← h.sum, mergeL_a hle], fun r hr => h.ka r (List.mem_cons_of_mem _ hr), h.kb⟩

def lenOfS : Value → Nat | .slice _ n _ => n | _ => 0

end Go.Proofs.YtdphganbnlmgcaaGreatDoor
