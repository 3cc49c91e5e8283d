
/- A job that came in may be read; the numbers of its instructions are of 64 bits. -/
import Derived.Test.YtbjlojmadellgaaGreatDoorJobIn
import Derived.Test.YtbjlojmadellgaaGreatDoorInstrInN
namespace Go.Proofs.YtbjlojmadellgaaGreatDoor
open Go.ChangeShapes Go.WideShapes Go.ChangeAt Go.RowKit Go.Deep Go.Joins
set_option linter.unusedVariables false
set_option maxRecDepth 100000

theorem inss_sliceN {H : Type} {enc : TypeId × Value → H} {w : World} {base : Nat} {spare : Nat → Bool} {held : Bool} {fuel : Nat} {c : Value} {x : DataW H × List MemPlace}
    (h : DataW.trod enc Tryz.prog w base spare held fuel 22 [c] = some x) : ∃ a la ca l, c = .slice a la ca ∧ InstrsAt w a la l ∧ ∀ i, i < la → In64 (ins1 l i) := by
  have h' := h
  rcases open_slice Tryz.underlying22 h with ⟨hcs, _⟩ | ⟨ad, len', cap', m, n, D, Pl, hcs, _⟩
  · simp at hcs
    subst hcs
    obtain ⟨l, hl⟩ := inss_of_trodN h'
    exact ⟨_, _, _, l, rfl, hl⟩
  · simp at hcs
    subst hcs
    obtain ⟨l, hl⟩ := inss_of_trodN h'
    exact ⟨_, _, _, l, rfl, hl⟩
theorem job_of_trodN {H : Type} {enc : TypeId × Value → H} {w : World} {base : Nat} {spare : Nat → Bool} {held : Bool} {r : Reach} {b0 : Nat} {v : Value} {d : DataW H} {ps : List MemPlace}
    (hv : Value.okWide Tryz.prog w r b0 25 v) (h : DataW.Trod enc Tryz.prog w base spare held 25 v d ps) :
    ∃ p pl pc e1 o1 n1 s sl sc l m, (JobAt w p pl l s sl m ∧ ∀ i, i < pl → In64 (ins1 l i)) ∧ v = .agg #[.slice p pl pc, .bool e1, .int .i64 o1, .int .i64 n1, .slice s sl sc] := by
  obtain ⟨c0, c1, c2, c3, c4, y0, y1, y2, y3, y4, n, rfl, h0, h1, h2, h3, h4⟩ := open_agg5 Tryz.underlying25 (by kernel_rfl) cellsJob hv h
  obtain ⟨p, pl, pc, l, rfl, hl, hN⟩ := inss_sliceN h0
  obtain ⟨e1, q1, _⟩ := DataW.trod_bool Tryz.underlying4 h1
  obtain ⟨o1, q2, _⟩ := DataW.trod_int Tryz.underlying2 h2
  obtain ⟨n1, q3, _⟩ := DataW.trod_int Tryz.underlying2 h3
  obtain ⟨s, sl, sc, m, rfl, hm⟩ := strs_slice h4
  simp at q1 q2 q3
  subst q1 q2 q3
  exact ⟨p, pl, pc, e1, o1, n1, s, sl, sc, l, m, ⟨⟨hl, hm⟩, hN⟩, rfl⟩
end Go.Proofs.YtbjlojmadellgaaGreatDoor
