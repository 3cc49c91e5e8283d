
/- Rows of the call's own that hold instructions. -/
import Derived.Test.YtgijalecpeabjaaDoorInstrMark
import Derived.Test.YtgijalecpeabjaaDoorOwn
namespace Go.Proofs.YtgijalecpeabjaaDoor
open Go.ChangeShapes Go.WideShapes Go.ChangeAt Go.RowKit
set_option linter.unusedVariables false
set_option maxRecDepth 100000

def cellsI : Instrs → List Value
  | [] => []
  | x :: t => .int .i64 x.1 :: .int .i64 x.2.1 :: .string x.2.2 :: cellsI t
theorem cellsI_len : ∀ l : Instrs, (cellsI l).length = l.length * 3
  | [] => rfl
  | x :: t => by simp [cellsI, cellsI_len t]; omega
theorem cellsI_snoc : ∀ (l : Instrs) (x : Int × Int × ByteArray), cellsI (l ++ [x]) = cellsI l ++ [.int .i64 x.1, .int .i64 x.2.1, .string x.2.2]
  | [], x => rfl
  | a :: t, x => by simp [cellsI, cellsI_snoc t x]
theorem cellsI_app : ∀ (l m : Instrs), cellsI (l ++ m) = cellsI l ++ cellsI m
  | [], m => rfl
  | a :: t, m => by simp [cellsI, cellsI_app t m]
theorem ins_cons (a : Int × Int × ByteArray) (t : Instrs) (k : Nat) : ins0 (a :: t) (k + 1) = ins0 t k ∧ ins1 (a :: t) (k + 1) = ins1 t k ∧ ins2 (a :: t) (k + 1) = ins2 t k := by
  simp [ins0, ins1, ins2]
theorem cellsI_get : ∀ (l : Instrs) (k : Nat), k < l.length → (cellsI l)[k * 3]? = some (.int .i64 (ins0 l k)) ∧ (cellsI l)[k * 3 + 1]? = some (.int .i64 (ins1 l k)) ∧ (cellsI l)[k * 3 + 2]? = some (.string (ins2 l k))
  | [], k, h => by simp at h
  | a :: t, 0, _ => ⟨rfl, rfl, rfl⟩
  | a :: t, k + 1, h => by
    obtain ⟨h0, h1, h2⟩ := cellsI_get t k (by simpa using h)
    obtain ⟨e0, e1, e2⟩ := ins_cons a t k
    rw [e0, e1, e2]
    have a0 : (k + 1) * 3 = k * 3 + 3 := by omega
    rw [a0]
    exact ⟨h0, h1, h2⟩
theorem three_new (w : World) (x y z : Value) (t : TypeId) : ∀ j u, [x, y, z][j]? = some u → (w.alloc (.cells #[x, y, z] t)).cell? ((⟨w.heap.size, 0, none⟩ : Addr).add j) = some u := by
  intro j u hj
  match j, hj with
  | 0, hj => simp at hj; subst hj; simp [Addr.add]
  | 1, hj => simp at hj; subst hj; simp [Addr.add]
  | 2, hj => simp at hj; subst hj; simp [Addr.add]
theorem three_new1 (w : World) (o : Obj) (x y z : Value) (t : TypeId) : ∀ j u, [x, y, z][j]? = some u → ((w.alloc o).alloc (.cells #[x, y, z] t)).cell? ((⟨w.heap.size + 1, 0, none⟩ : Addr).add j) = some u := by
  have h := three_new (w.alloc o) x y z t
  have e : (w.alloc o).heap.size = w.heap.size + 1 := by simp
  rw [e] at h
  exact h
theorem three_cells (a b : Int) (s : ByteArray) : ∀ u ∈ [Value.int .i64 a, Value.int .i64 b, Value.string s], u.oneCell' = true := by
  intro u hu
  simp at hu
  rcases hu with rfl | rfl | rfl <;> rfl
theorem own_inss {w : World} {base n cp : Nat} {q : Option Addr} {l : Instrs} (h : w.ownsRow base 55 3 (.slice q n cp) n (cellsI l)) (hn : l.length = n) (hm : n ≤ maxLen) (hk : ∀ i, i < n → (ins2 l i).size ≤ maxLen) : InstrsAt w q n l := by
  refine ⟨hn, hm, hk, ?_⟩
  rcases h.2 with ⟨h1, h2⟩ | ⟨g, cap, cur, hv, hb, hh, h1, _, h3, h4⟩
  · simp only [Value.slice.injEq] at h1; exact .inl h1.2.1
  · simp only [Value.slice.injEq, true_and] at hv
    obtain ⟨rfl, rfl⟩ := hv
    refine .inr ⟨g, 0, rfl, lt_of_block hh, fun i hi => ?_⟩
    obtain ⟨e0, e1, e2⟩ := cellsI_get l i (by omega)
    rw [← h4, List.getElem?_take_of_lt (by omega)] at e0 e1 e2
    simp [World.cell?, hh]
    exact ⟨by simpa using e0, by simpa using e1, by simpa using e2⟩
/-- The row itself, if there is an element. -/
theorem own_insrow {w : World} {base n cp : Nat} {q : Option Addr} {l : Instrs} (h : w.ownsRow base 55 3 (.slice q n cp) n (cellsI l)) (h0 : 0 < n) :
    ∃ g cur, q = some ⟨g, 0, none⟩ ∧ base ≤ g ∧ Row w g 55 cur ∧ n * 3 ≤ cur.size := by
  rcases h.2 with ⟨h1, h2⟩ | ⟨g, cap, cur, hv, hb, hh, h1, _, h3, h4⟩
  · omega
  · simp only [Value.slice.injEq] at hv
    obtain ⟨rfl, _, rfl⟩ := hv
    exact ⟨g, cur, rfl, hb, hh, by omega⟩
end Go.Proofs.YtgijalecpeabjaaDoor
