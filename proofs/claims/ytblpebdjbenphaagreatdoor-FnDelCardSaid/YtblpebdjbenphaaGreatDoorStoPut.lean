
/- A store into a block that holds a store's two slices leaves a drawn store as it was. -/
import Derived.Test.YtblpebdjbenphaaGreatDoorDrawPu
namespace Go.Proofs.YtblpebdjbenphaaGreatDoor
open Go.ChangeShapes Go.WideShapes Go.ChangeAt Go.RowKit
set_option linter.unusedVariables false
set_option maxRecDepth 100000

theorem objs_ne_row {w : World} {q : Option Addr} {n : Nat} {l : Objs} {X : Nat} {a1 : Option Addr} {l1 c1 : Nat} {g1 : Option Addr} {m1 d1 : Nat} (h : ObjsAt w q n l) (r : Row w X 27 #[.slice a1 l1 c1, .slice g1 m1 d1]) : n = 0 ∨ ∀ b off, q = some ⟨b, off, none⟩ → b ≠ X := by
  rcases h.src with h0 | ⟨b, off, hq, hb, hc⟩
  · exact .inl h0
  · by_cases h0 : n = 0
    · exact .inl h0
    refine .inr fun b' off' hq' he => ?_
    rw [hq] at hq'
    simp only [Option.some.injEq, Addr.mk.injEq, and_true] at hq'
    obtain ⟨rfl, rfl⟩ := hq'
    subst he
    have h1 := (hc 0 (by omega)).1
    unfold Row at r
    simp only [World.cell?, r, Nat.zero_mul, Nat.add_zero] at h1
    rcases off with _ | _ | off
    · simp at h1
    · simp at h1
    · simp at h1
theorem gones_ne_row {w : World} {q : Option Addr} {n : Nat} {l : Gones} {X : Nat} {a1 : Option Addr} {l1 c1 : Nat} {g1 : Option Addr} {m1 d1 : Nat} (h : GonesAt w q n l) (r : Row w X 27 #[.slice a1 l1 c1, .slice g1 m1 d1]) : n = 0 ∨ ∀ b off, q = some ⟨b, off, none⟩ → b ≠ X := by
  rcases h.src with h0 | ⟨b, off, hq, hb, hc⟩
  · exact .inl h0
  · by_cases h0 : n = 0
    · exact .inl h0
    refine .inr fun b' off' hq' he => ?_
    rw [hq] at hq'
    simp only [Option.some.injEq, Addr.mk.injEq, and_true] at hq'
    obtain ⟨rfl, rfl⟩ := hq'
    subst he
    have h1 := (hc 0 (by omega)).1
    unfold Row at r
    simp only [World.cell?, r, Nat.zero_mul, Nat.add_zero] at h1
    rcases off with _ | _ | off
    · simp at h1
    · simp at h1
    · simp at h1
theorem objs_put0 {w : World} {q : Option Addr} {n : Nat} {l : Objs} (h : ObjsAt w q n l) (h0 : n = 0) (w' : World) : ObjsAt w' q n l := ⟨h.length, h.max, h.keys, .inl h0⟩
theorem gones_put0 {w : World} {q : Option Addr} {n : Nat} {l : Gones} (h : GonesAt w q n l) (h0 : n = 0) (w' : World) : GonesAt w' q n l := ⟨h.length, h.max, h.keys, .inl h0⟩
/-- A store into a block that holds a store's two slices leaves a drawn store as it was. -/
theorem StoD.put {w : World} {q1 : Option Addr} {n1 c1 : Nat} {q2 : Option Addr} {n2 c2 : Nat} {l : Objs} {m : Gones} {X : Nat} {a1 : Option Addr} {l1 d1 : Nat} {g1 : Option Addr} {m1 e1 : Nat} (h : StoD w q1 n1 c1 q2 n2 c2 l m) (r : Row w X 27 #[.slice a1 l1 d1, .slice g1 m1 e1]) (j : Nat) (v : Value) : StoD (w.setCell ⟨X, j, none⟩ v) q1 n1 c1 q2 n2 c2 l m := by
  refine ⟨⟨⟨?_, ?_⟩, h.at_.capo, h.at_.capg, h.at_.nilo, h.at_.nilg⟩, h.few1, h.few2, h.short⟩
  · rcases objs_ne_row h.at_.at_.o r with h0 | hne
    · exact objs_put0 h.at_.at_.o h0 _
    · exact h.at_.at_.o.put hne j v
  · rcases gones_ne_row h.at_.at_.d r with h0 | hne
    · exact gones_put0 h.at_.at_.d h0 _
    · exact h.at_.at_.d.put hne j v

end Go.Proofs.YtblpebdjbenphaaGreatDoor
