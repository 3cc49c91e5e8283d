
/- Jobs that may be read: the laws' measures, copies and comparisons of them. Only new blocks are made. -/
import Derived.Test.YtjofbeokkainlaaDoorMg3
import Derived.Test.YtjofbeokkainlaaDoorMg2
import Derived.Test.YtjofbeokkainlaaDoorMg8
import Derived.Test.YtjofbeokkainlaaDoorMg1
namespace Go.Proofs.YtjofbeokkainlaaDoor
open Go.ChangeShapes Go.WideShapes Go.ChangeAt Go.RowKit
set_option linter.unusedVariables false
set_option maxRecDepth 100000

theorem StrsAt.put {w : World} {a : Option Addr} {len : Nat} {l : Strs} (h : StrsAt w a len l) {X : Nat} (hne : ∀ b off, a = some ⟨b, off, none⟩ → b ≠ X) (j : Nat) (v : Value) : StrsAt (w.setCell ⟨X, j, none⟩ v) a len l := by
  refine ⟨h.length, h.max, h.sizes, ?_⟩
  rcases h.src with h0 | ⟨b, off, ha, hb, hc⟩
  · exact .inl h0
  · have e : ∀ o, (w.setCell ⟨X, j, none⟩ v).cell? ⟨b, o, none⟩ = w.cell? ⟨b, o, none⟩ := fun o => by
      simp only [World.cell?, Below.heap_setCell w ⟨X, j, none⟩ v b (hne b off ha)]
    exact .inr ⟨b, off, ha, by simpa [World.setCell] using hb, fun i hi => by simpa only [e] using hc i hi⟩
theorem sum_part (l : Strs) : ∀ {n i : Nat}, i < n → (strAt l i).size ≤ sumTo l n
  | n + 1, i, h => by
    show _ ≤ sumTo l n + (strAt l n).size
    by_cases h' : i = n
    · subst h'; omega
    · have := sum_part l (show i < n by omega); omega

/-- A job that may be read: its instructions and its splits. -/
structure JobAt (w : World) (p : Option Addr) (pl : Nat) (l : Instrs) (s : Option Addr) (sl : Nat) (m : Strs) : Prop where
  i : InstrsAt w p pl l
  t : StrsAt w s sl m
theorem JobAt.keep {w w1 : World} {p s : Option Addr} {pl sl : Nat} {l : Instrs} {m : Strs} (h : JobAt w p pl l s sl m) (hB : Below w.heap.size w w1) : JobAt w1 p pl l s sl m := ⟨h.i.keep hB, h.t.keep hB⟩
theorem JobAt.put {w : World} {p s : Option Addr} {pl sl : Nat} {l : Instrs} {m : Strs} (h : JobAt w p pl l s sl m) {X : Nat} (h1 : ∀ b off, p = some ⟨b, off, none⟩ → b ≠ X) (h2 : ∀ b off, s = some ⟨b, off, none⟩ → b ≠ X) (j : Nat) (v : Value) : JobAt (w.setCell ⟨X, j, none⟩ v) p pl l s sl m := ⟨h.i.put h1 j v, h.t.put h2 j v⟩

def JobSized (pl : Nat) (l : Instrs) (sl : Nat) (m : Strs) (w : World) (e : Ending) (w' : World) : Prop :=
  ∃ x : Int, -1 ≤ x ∧ x ≤ 1048576 ∧ e = .returned (.int .i64 x) ∧ Below w.heap.size w w' ∧ (0 ≤ x → pl ≤ 1048576 ∧ sl ≤ 1048576 ∧ ∀ i, i < sl → (strAt m i).size ≤ 1048576)

/-- The end of the laws' copy of a job. -/
def MadeJob (pl : Nat) (e1 : Bool) (o1 n1 : Int) (l : Instrs) (sl : Nat) (m : Strs) (w : World) (e : Ending) (w' : World) : Prop :=
  ∃ B C : Nat, e = .returned (.agg #[.slice (some ⟨B, 0, none⟩) pl pl, .bool e1, .int .i64 o1, .int .i64 n1, .slice (some ⟨C, 0, none⟩) sl sl]) ∧ JobAt w' (some ⟨B, 0, none⟩) pl l (some ⟨C, 0, none⟩) sl m ∧ Below w.heap.size w w' ∧ w.heap.size ≤ B ∧ B < C

end Go.Proofs.YtjofbeokkainlaaDoor
