
/- Two steps for a region that draws its order and is shown not to panic, whatever the program: an operation that yields in whatever world may come first, and so may one whose guard says no. -/
import Derived.Test.YthnlllbanfemaaaGreatDoorRows
import Derived.WalkKit
import Derived.RegionTactic
import Derived.Deep.RegionHeld3
namespace Go.Proofs.YthnlllbanfemaaaGreatDoor

section
variable {P : Program} {ops : Array Oper} {Q : Exit → Act → World → Prop} {md : Region.Mode}

theorem hand_take {i d : Nat} {oi : Oper} {v : Value} {fuel : Nat} {listed : Array Bool} {a : Act} {w : World} (hi : ops[i]? = some oi) (hd : oi.dst = some d)
    (hs : Region.noSelect ops = true) (hf : Region.free md ops listed i = true) (hr : (Region.ready md ops listed).contains i = true)
    (hw : Region.wanted oi (yielded ops a.tmps) = true) (hy : ∀ w, (execOp a.eval oi).run P w = .ok (.value v) w)
    (h : wpAny P md ops (NoPanic Q) fuel (listed.setIfInBounds i true) { a with tmps := a.tmps.setIfInBounds d v } w) : wpAny P md ops (NoPanic Q) (fuel + 1) listed a w :=
  wpAny_take hi hs hf hr (fun _ _ _ h => h) (Or.inl ⟨hw, hy⟩) (by rw [hd]; exact h)

theorem hand_skip {i d : Nat} {oi : Oper} {fuel : Nat} {listed : Array Bool} {a : Act} {w : World} (hi : ops[i]? = some oi) (hd : oi.dst = some d)
    (hs : Region.noSelect ops = true) (hf : Region.free md ops listed i = true) (hr : (Region.ready md ops listed).contains i = true)
    (hw : Region.wanted oi (yielded ops a.tmps) = false)
    (h : wpAny P md ops (NoPanic Q) fuel (listed.setIfInBounds i true) { a with tmps := a.tmps.setIfInBounds d undef } w) : wpAny P md ops (NoPanic Q) (fuel + 1) listed a w :=
  wpAny_take hi hs hf hr (fun _ _ _ h => h) (Or.inr ⟨hw, rfl⟩) (by rw [hd]; exact h)
end
end Go.Proofs.YthnlllbanfemaaaGreatDoor
