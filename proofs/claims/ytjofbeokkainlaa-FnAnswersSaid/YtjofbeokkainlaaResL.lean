
/- Results that the laws measure, copy and compare. -/
import Derived.Test.YtjofbeokkainlaaMg47
import Derived.Test.YtjofbeokkainlaaMg28
import Derived.Test.YtjofbeokkainlaaMg33
import Derived.Test.YtjofbeokkainlaaMg1
namespace Go.Proofs.Ytjofbeokkainlaa
open Go.ChangeShapes Go.WideShapes Go.ChangeAt Go.RowKit
set_option linter.unusedVariables false
set_option maxRecDepth 100000

theorem RunLs.outs {w : World} {a : Option Addr} {n : Nat} {LS : List Recs} (h : RunLs w a n LS) : OutsAt w a n LS := ⟨h.1, h.2.1, h.2.2⟩

/-- A result that was copied. -/
def MadeRes (d f : Bool) (task : Int) (n : Nat) (LS : List Recs) (w : World) (e : Ending) (w' : World) : Prop :=
  ∃ q, e = .returned (.agg #[.bool d, .bool f, .int .i64 task, .slice q n n]) ∧ Below w.heap.size w w' ∧ RunLs w' q n LS
theorem runls_set {w : World} {G n C j : Nat} {LS : List Recs} {v : Value} (h : RunLs w (some ⟨G, 0, none⟩) n LS) (hG : G ≠ C) (hin : ∀ i p m c b off, i < n → w.cell? ⟨G, 0 + i, none⟩ = some (.slice p m c) → p = some ⟨b, off, none⟩ → b ≠ C) : RunLs (w.setCell ⟨C, j, none⟩ v) (some ⟨G, 0, none⟩) n LS := by
  refine ⟨h.1, h.2.1, ?_⟩
  rcases h.2.2 with h0 | ⟨b, off, ha, hb, hc⟩
  · exact .inl h0
  · simp only [Option.some.injEq, Addr.mk.injEq, and_true] at ha
    obtain ⟨rfl, rfl⟩ := ha
    refine .inr ⟨G, 0, rfl, by simpa [World.setCell] using hb, fun i hi => ?_⟩
    obtain ⟨p, m, c, h1, h2⟩ := hc i hi
    refine ⟨p, m, c, (World.cell?_setCell_other _ _ _ _ (by simp)).trans h1, ?_⟩
    refine recs_grown h2 (growS (World.grownBy.refl _ _) j v) (fun h0 b off e => ?_)
    have := hin i p m c b off hi h1 e
    simp
    omega
structure RG (w : World) (G lo n : Nat) (LS : List Recs) : Prop where
  runs : RunLs w (some ⟨G, 0, none⟩) n LS
  far : ∀ i p m c b off, i < n → w.cell? ⟨G, 0 + i, none⟩ = some (.slice p m c) → p = some ⟨b, off, none⟩ → lo ≤ b
theorem RG.set {w : World} {G lo n C : Nat} {LS : List Recs} (h : RG w G lo n LS) (hC : C < lo) (hG : G ≠ C) (j : Nat) (v : Value) : RG (w.setCell ⟨C, j, none⟩ v) G lo n LS :=
  ⟨runls_set h.runs hG (fun i p m c b off hi hc e => by have := h.far i p m c b off hi hc e; omega), fun i p m c b off hi hc e =>
    h.far i p m c b off hi (((World.cell?_setCell_other _ _ _ _ (by simp)).symm).trans hc) e⟩

end Go.Proofs.Ytjofbeokkainlaa
