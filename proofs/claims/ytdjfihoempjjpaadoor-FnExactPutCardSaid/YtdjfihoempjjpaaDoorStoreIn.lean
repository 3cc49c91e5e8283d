
/- A store that came in may be read. -/
import Derived.Test.YtdjfihoempjjpaaDoorMg2
import Derived.Test.YtdjfihoempjjpaaDoorObjIn
import Derived.Test.YtdjfihoempjjpaaDoorGoneIn
namespace Go.Proofs.YtdjfihoempjjpaaDoor
open Go.ChangeShapes Go.WideShapes Go.ChangeAt Go.RowKit Go.Deep
set_option linter.unusedVariables false
set_option maxRecDepth 100000

theorem objs_slice {H : Type} {enc : TypeId × Value → H} {w : World} {base : Nat} {spare : Nat → Bool} {held : Bool} {fuel : Nat} {c : Value} {x : DataW H × List MemPlace}
    (h : DataW.trod enc Tryd.prog w base spare held fuel 22 [c] = some x) : ∃ a la ca l, c = .slice a la ca ∧ ObjsAt w a la l := by
  have h' := h
  rcases open_slice Tryd.underlying22 h with ⟨hcs, _⟩ | ⟨ad, len', cap', m, n, D, Pl, hcs, _⟩
  · simp at hcs
    subst hcs
    obtain ⟨l, hl⟩ := objs_of_trod h'
    exact ⟨_, _, _, l, rfl, hl⟩
  · simp at hcs
    subst hcs
    obtain ⟨l, hl⟩ := objs_of_trod h'
    exact ⟨_, _, _, l, rfl, hl⟩
theorem gones_slice {H : Type} {enc : TypeId × Value → H} {w : World} {base : Nat} {spare : Nat → Bool} {held : Bool} {fuel : Nat} {c : Value} {x : DataW H × List MemPlace}
    (h : DataW.trod enc Tryd.prog w base spare held fuel 23 [c] = some x) : ∃ a la ca l, c = .slice a la ca ∧ GonesAt w a la l := by
  have h' := h
  rcases open_slice Tryd.underlying23 h with ⟨hcs, _⟩ | ⟨ad, len', cap', m, n, D, Pl, hcs, _⟩
  · simp at hcs
    subst hcs
    obtain ⟨l, hl⟩ := gones_of_trod h'
    exact ⟨_, _, _, l, rfl, hl⟩
  · simp at hcs
    subst hcs
    obtain ⟨l, hl⟩ := gones_of_trod h'
    exact ⟨_, _, _, l, rfl, hl⟩
end Go.Proofs.YtdjfihoempjjpaaDoor
