
/- Numbers in decimal, joined by a text: what the program writes. Only new blocks are made. -/
import Derived.Test.YtjofbeokkainlaaMg4
import Derived.Test.YtjofbeokkainlaaTabs
import Derived.Test.YtjofbeokkainlaaShelf
import Derived.Test.YtjofbeokkainlaaMg1
import Derived.Test.YtjofbeokkainlaaMg7
import Derived.Lib.Join
namespace Go.Proofs.Ytjofbeokkainlaa
open Go.ChangeShapes Go.WideShapes Go.ChangeAt Go.RowKit
set_option linter.unusedVariables false
set_option maxRecDepth 100000

/-- The numbers ns in a row of cells. -/
structure Nums (w : World) (g : Nat) (ns : List Int) : Prop where
  lt : g < w.heap.size
  cell : ∀ j (h : j < ns.length), w.cell? ⟨g, j, none⟩ = some (.int .i64 ns[j])
  ok : ∀ n ∈ ns, In64 n
theorem Nums.keep {w w1 : World} {g : Nat} {ns : List Int} (h : Nums w g ns) (hB : Below w.heap.size w w1) : Nums w1 g ns :=
  ⟨Nat.lt_of_lt_of_le h.lt hB.size, fun j hj => (hB.cell (p := ⟨g, j, none⟩) h.lt).trans (h.cell j hj), h.ok⟩

theorem join_few {ns : List Int} {sep : ByteArray} {N : Nat} (hl : N ≤ 4) (hn : ns.length ≤ 4) (hsep : sep.size ≤ 1) (h : ∀ n ∈ ns, In64 n) : (Lib.join (ns.map Lib.itoa) sep.data.toList).length ≤ 140737488355328 := by
  cases ns with
  | nil => simp [Lib.join_nil]
  | cons n r =>
    have hb : ∀ (l : List Int), (∀ n ∈ l, In64 n) → Lib.lens (l.map Lib.itoa) ≤ 20 * l.length := by
      intro l
      induction l with
      | nil => intro _; simp [Lib.lens]
      | cons a t ih =>
        intro ht
        have h1 := itoa_len (ht a (by simp)).1 (by have := (ht a (by simp)).2; omega)
        have h2 := ih (fun x hx => ht x (by simp [hx]))
        simp only [Lib.lens, List.map_cons, List.sum_cons, List.length_cons] at h2 ⊢
        omega
    have h1 := hb (n :: r) h
    rw [List.map_cons, Lib.join_length]
    rw [List.map_cons] at h1
    have h2 : sep.data.toList.length * (r.map Lib.itoa).length ≤ 1 * 4 := by
      apply Nat.mul_le_mul
      · simpa using hsep
      · simp at hn ⊢; omega
    simp only [List.length_cons] at h1 hn
    omega
def joinB (sep : ByteArray) (ns : List Int) : ByteArray := ⟨(Lib.join (ns.map Lib.itoa) sep.data.toList).toArray⟩

end Go.Proofs.Ytjofbeokkainlaa
