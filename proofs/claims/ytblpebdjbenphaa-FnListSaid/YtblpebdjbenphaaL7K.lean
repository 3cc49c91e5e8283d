
/- The model's commands on stores that may be read: what they carry. Only new blocks are made. -/
import Derived.Test.YtblpebdjbenphaaStoK
import Derived.Test.YtblpebdjbenphaaMg5
import Derived.Deep.RegionLaw
import Derived.Deep.RegionHeld3
namespace Go.Proofs.Ytblpebdjbenphaa
open Go.ChangeShapes Go.WideShapes Go.ChangeAt Go.RowKit
set_option linter.unusedVariables false
set_option maxRecDepth 100000

/-- A store that may be read, its capacities too. -/
structure StoI (w : World) (a : Option Addr) (la ca : Nat) (l : Objs) (g : Option Addr) (lg cg : Nat) (m : Gones) : Prop where
  at_ : StoAt w a la l g lg m
  capo : la ≤ ca ∧ ca ≤ maxLen
  capg : lg ≤ cg ∧ cg ≤ maxLen
  nilo : a = none → ca = 0
  nilg : g = none → cg = 0
theorem StoI.keep {w w1 : World} {a g : Option Addr} {la ca lg cg : Nat} {l : Objs} {m : Gones} (h : StoI w a la ca l g lg cg m) (hB : Below w.heap.size w w1) : StoI w1 a la ca l g lg cg m := ⟨h.at_.keep hB, h.capo, h.capg, h.nilo, h.nilg⟩
theorem StoK.in_ {base : Nat} {w : World} {q1 q2 : Option Addr} {n1 c1 n2 c2 : Nat} {l : Objs} {m : Gones} (h : StoK base w q1 n1 c1 q2 n2 c2 l m) (hp : StoP l m) : StoI w q1 n1 c1 l q2 n2 c2 m :=
  ⟨h.sto hp, h.cap1, h.cap2, fun e => by
    rcases h.at1 with ⟨_, h0⟩ | ⟨g, h1, _⟩
    · exact h0
    · rw [e] at h1; simp at h1, fun e => by
    rcases h.at2 with ⟨_, h0⟩ | ⟨g, h1, _⟩
    · exact h0
    · rw [e] at h1; simp at h1⟩
theorem addr_add (b off k : Nat) : (⟨b, off, none⟩ : Addr).add k = ⟨b, off + k, none⟩ := by
  unfold Addr.add
  split
  · rename_i h; subst h; rfl
  · rfl
theorem objs_dropA {w : World} {a : Option Addr} {la ca k : Nat} {l : Objs} (h : ObjsAt w a la l) (hk : k ≤ la) (hc : la ≤ ca) : ObjsAt w (if ca = k then a else a.map fun x => x.add (k * 3)) (la - k) (l.drop k) := by
  have hl := h.length
  by_cases he : ca = k
  · have h0 : la - k = 0 := by omega
    rw [if_pos he, h0]
    exact ⟨by rw [List.length_drop]; omega, Nat.zero_le _, fun i hi => by omega, .inl rfl⟩
  · rw [if_neg he]
    rcases h.src with h0 | ⟨b, off, rfl, hb, hc2⟩
    · have hk0 : k = 0 := by omega
      subst hk0
      have h1 : la - 0 = 0 := by omega
      rw [h1]
      exact ⟨by rw [List.length_drop]; omega, Nat.zero_le _, fun i hi => by omega, .inl rfl⟩
    · rw [Option.map_some, addr_add]
      exact objs_drop h hk
theorem gones_dropA {w : World} {a : Option Addr} {la ca k : Nat} {l : Gones} (h : GonesAt w a la l) (hk : k ≤ la) (hc : la ≤ ca) : GonesAt w (if ca = k then a else a.map fun x => x.add (k * 2)) (la - k) (l.drop k) := by
  have hl := h.length
  by_cases he : ca = k
  · have h0 : la - k = 0 := by omega
    rw [if_pos he, h0]
    exact ⟨by rw [List.length_drop]; omega, Nat.zero_le _, fun i hi => by omega, .inl rfl⟩
  · rw [if_neg he]
    rcases h.src with h0 | ⟨b, off, rfl, hb, hc2⟩
    · have hk0 : k = 0 := by omega
      subst hk0
      have h1 : la - 0 = 0 := by omega
      rw [h1]
      exact ⟨by rw [List.length_drop]; omega, Nat.zero_le _, fun i hi => by omega, .inl rfl⟩
    · rw [Option.map_some, addr_add]
      exact gones_drop h hk
theorem gones_end {w : World} {a q : Option Addr} {la k : Nat} {l : Gones} (h : GonesAt w a la l) (hk : la ≤ k) : GonesAt w q (la - k) (l.drop k) := by
  have hl := h.length
  have h0 : la - k = 0 := by omega
  rw [h0]
  exact ⟨by rw [List.length_drop]; omega, Nat.zero_le _, fun i hi => by omega, .inl rfl⟩
theorem objs_end {w : World} {a q : Option Addr} {la k : Nat} {l : Objs} (h : ObjsAt w a la l) (hk : la ≤ k) : ObjsAt w q (la - k) (l.drop k) := by
  have hl := h.length
  have h0 : la - k = 0 := by omega
  rw [h0]
  exact ⟨by rw [List.length_drop]; omega, Nat.zero_le _, fun i hi => by omega, .inl rfl⟩
theorem nil_dropA {a : Option Addr} {ca k n : Nat} (h : a = none → ca = 0) : (if ca = k then a else a.map fun x => x.add (k * n)) = none → ca - k = 0 := by
  intro e
  by_cases he : ca = k
  · omega
  · rw [if_neg he] at e
    cases a with
    | none => have := h rfl; omega
    | some p => simp at e

theorem objs_takeA {w : World} {a : Option Addr} {ca k n : Nat} {l : Objs} (h : ObjsAt w a k l) : ObjsAt w (if ca = 0 then a else a.map fun x => x.add (0 * n)) k l := by
  by_cases h0 : ca = 0
  · rw [if_pos h0]; exact h
  · rw [if_neg h0]
    cases a with
    | none => exact h
    | some x =>
      have : x.add (0 * n) = x := by unfold Addr.add; rw [Nat.zero_mul, if_pos rfl]
      rw [Option.map_some, this]; exact h
theorem gones_takeA {w : World} {a : Option Addr} {ca k n : Nat} {l : Gones} (h : GonesAt w a k l) : GonesAt w (if ca = 0 then a else a.map fun x => x.add (0 * n)) k l := by
  by_cases h0 : ca = 0
  · rw [if_pos h0]; exact h
  · rw [if_neg h0]
    cases a with
    | none => exact h
    | some x =>
      have : x.add (0 * n) = x := by unfold Addr.add; rw [Nat.zero_mul, if_pos rfl]
      rw [Option.map_some, this]; exact h
theorem own_grown {w w1 : World} {base : Nat} {e : TypeId} {size n : Nat} {v : Value} {xs : List Value} {row : Option Nat} (h : w.ownsRow base e size v n xs) (hg : w.grownBy w1 row) (hne : ∀ g, v.ownBlock = some g → row ≠ some g) : w1.ownsRow base e size v n xs :=
  h.kept hg (by
    cases hv : v.ownBlock with
    | none => exact .inl rfl
    | some g => exact .inr (fun he => hne g hv he.symm))
theorem own_put {w : World} {base X : Nat} {e : TypeId} {size n : Nat} {v : Value} {xs : List Value} (h : w.ownsRow base e size v n xs) (hne : ∀ g, v.ownBlock = some g → X ≠ g) (j : Nat) (x : Value) : (w.setCell ⟨X, j, none⟩ x).ownsRow base e size v n xs := by
  refine ⟨h.1, ?_⟩
  rcases h.2 with h2 | ⟨g, cap, cur, hv, hb, hh, r⟩
  · exact .inl h2
  · refine .inr ⟨g, cap, cur, hv, hb, ?_, r⟩
    have hX := hne g (by rw [hv]; rfl)
    exact (Below.heap_setCell w ⟨X, j, none⟩ x g (fun he => hX he.symm)).trans hh
theorem own_ne_row {w : World} {base X : Nat} {e T : TypeId} {size n : Nat} {v : Value} {xs : List Value} {cur : Array Value} (h : w.ownsRow base e size v n xs) (r : Row w X T cur) (hT : T ≠ e) : ∀ g, v.ownBlock = some g → X ≠ g := by
  intro g hg he
  subst he
  rcases h.2 with ⟨h2, _⟩ | ⟨g', cap, cur', hv, _, hh, _⟩
  · rw [h2] at hg; cases hg
  · rw [hv] at hg
    simp only [Value.ownBlock, Option.some.injEq] at hg
    subst hg
    unfold Row at r
    rw [hh] at r
    simp only [Option.some.injEq, Obj.cells.injEq] at r
    exact hT r.2.1.symm
theorem own_lt {w : World} {base : Nat} {e : TypeId} {size n : Nat} {v : Value} {xs : List Value} (h : w.ownsRow base e size v n xs) : ∀ g, v.ownBlock = some g → g < w.heap.size := fun g hg => (h.lt g hg).2
theorem own_low {w : World} {base b2 : Nat} {e : TypeId} {size n : Nat} {v : Value} {xs : List Value} (h : w.ownsRow base e size v n xs) (hb : b2 ≤ base) : w.ownsRow b2 e size v n xs := by
  refine ⟨h.1, ?_⟩
  rcases h.2 with h2 | ⟨g, cap, cur, hv, h1, r⟩
  · exact .inl h2
  · exact .inr ⟨g, cap, cur, hv, Nat.le_trans hb h1, r⟩

theorem own_apart {w w2 : World} {b1 Y : Nat} {e1 e2 : TypeId} {s1 s2 n1 n2 : Nat} {v1 v2 : Value} {x1 x2 : List Value} (h : w.ownsRow b1 e1 s1 v1 n1 x1) (hY : ∀ g, v1.ownBlock = some g → g < Y) (ho : w2.ownsRow Y e2 s2 v2 n2 x2) : ∀ g, v1.ownBlock = some g → v2.ownBlock ≠ some g := fun g hg he => by
  have h1 := hY g hg
  have h2 := (ho.lt g he).1
  omega
theorem nil_takeA {a : Option Addr} {ca n : Nat} (h : a = none → ca = 0) : (if ca = 0 then a else a.map fun x => x.add (0 * n)) = none → ca = 0 := by
  intro e
  by_cases he : ca = 0
  · exact he
  · rw [if_neg he] at e
    cases a with
    | none => exact h rfl
    | some p => simp at e
/-- Two own rows of different elements are two blocks. -/
theorem own_apartT {w : World} {b1 b2 : Nat} {e1 e2 : TypeId} {s1 s2 n1 n2 : Nat} {v1 v2 : Value} {x1 x2 : List Value} (h : w.ownsRow b1 e1 s1 v1 n1 x1) (k : w.ownsRow b2 e2 s2 v2 n2 x2) (hne : e1 ≠ e2) : ∀ g, v1.ownBlock = some g → v2.ownBlock ≠ some g := by
  intro g hg he
  rcases h.2 with ⟨h2, _⟩ | ⟨g', cap, cur, hv, _, hh, _⟩
  · rw [h2] at hg; cases hg
  · rw [hv] at hg
    simp only [Value.ownBlock, Option.some.injEq] at hg
    subst hg
    exact own_ne_row k (show Row w g' e1 cur from hh) hne g' he rfl
theorem row_grownT {w w1 : World} {base X : Nat} {e T : TypeId} {size n : Nat} {v : Value} {xs : List Value} {cur : Array Value} (r : Row w X T cur) (h : w.ownsRow base e size v n xs) (hT : T ≠ e) (hg : w.grownBy w1 v.ownBlock) : Row w1 X T cur :=
  r.grown hg (fun he => own_ne_row h r hT X he rfl)
/-- What a command of the model carries ahead of the store that it makes: its argument's box and its result's. -/
structure BRow (w : World) (bx : Array Value) (w' : World) : Prop where
  below : Below w.heap.size w w'
  box : Row w' w.heap.size 27 bx
  res : Row w' (w.heap.size + 1) 27 #[.slice none 0 0, .slice none 0 0]
theorem BRow.drew {w w' : World} {bx : Array Value} (h : BRow w bx w') : BRow w bx w'.drew := ⟨h.below.drew, h.box, h.res⟩
theorem BRow.al {w w' : World} {bx : Array Value} (h : BRow w bx w') (o : Obj) : BRow w bx (w'.alloc o) := ⟨below_alloc h.below o, h.box.al o, h.res.al o⟩
theorem BRow.keep {w w' w'' : World} {bx : Array Value} (h : BRow w bx w') (hB : Below w'.heap.size w' w'') : BRow w bx w'' := ⟨below_via h.below hB, h.box.keep hB, h.res.keep hB⟩
theorem BRow.grown {w w' w'' : World} {base : Nat} {bx : Array Value} (h : BRow w bx w') {e : TypeId} {size n : Nat} {v : Value} {xs : List Value} (ho : w'.ownsRow base e size v n xs) (hb : w.heap.size + 2 ≤ base) (hg : w'.grownBy w'' v.ownBlock) : BRow w bx w'' :=
  ⟨h.below.grown hg h.below.size (own_ge_of ho (by omega)), h.box.grown hg (own_ne_of ho (by omega)), h.res.grown hg (own_ne_of ho (by omega))⟩
theorem BRow.set {w w' : World} {bx : Array Value} (h : BRow w bx w') {U : Nat} (hU : w.heap.size + 2 ≤ U) (j : Nat) (v : Value) : BRow w bx (w'.setCell ⟨U, j, none⟩ v) :=
  ⟨h.below.setCell (by show w.heap.size ≤ U; omega) v, h.box.put (by omega) j v, h.res.put (by omega) j v⟩
theorem BRow.ge {w w' : World} {bx : Array Value} (h : BRow w bx w') : w.heap.size + 2 ≤ w'.heap.size := h.res.lt
theorem BRow.cells {w w' : World} {x y : Value} (h : BRow w #[x, y] w') : w'.cell? ⟨w.heap.size, 0, none⟩ = some x ∧ w'.cell? ⟨w.heap.size, 1, none⟩ = some y := by
  have h0 := h.box.cell (j := 0) (by simp)
  have h1 := h.box.cell (j := 1) (by simp)
  simp at h0 h1
  exact ⟨h0, h1⟩
/-- What a command of the model carries: its argument's box, its result's, that of the store it makes. -/
structure CStep (w : World) (U : Nat) (bx ob : Array Value) (w' : World) : Prop where
  below : Below w.heap.size w w'
  box : Row w' w.heap.size 27 bx
  res : Row w' (w.heap.size + 1) 27 #[.slice none 0 0, .slice none 0 0]
  out : Row w' U 27 ob
  big : w.heap.size + 2 ≤ U
theorem CStep.drew {w w' : World} {U : Nat} {bx ob : Array Value} (h : CStep w U bx ob w') : CStep w U bx ob w'.drew := ⟨h.below.drew, h.box, h.res, h.out, h.big⟩
theorem CStep.drewN {w w' : World} {U : Nat} {bx ob : Array Value} (h : CStep w U bx ob w') (n : Nat) : CStep w U bx ob (w'.drewN n) := ⟨below_drewN h.below n, h.box.drewN n, h.res.drewN n, h.out.drewN n, h.big⟩
theorem CStep.al {w w' : World} {U : Nat} {bx ob : Array Value} (h : CStep w U bx ob w') (o : Obj) : CStep w U bx ob (w'.alloc o) := ⟨below_alloc h.below o, h.box.al o, h.res.al o, h.out.al o, h.big⟩
theorem CStep.lt {w w' : World} {U : Nat} {bx ob : Array Value} (h : CStep w U bx ob w') : U < w'.heap.size := h.out.lt
theorem CStep.keep {w w' w'' : World} {U : Nat} {bx ob : Array Value} (h : CStep w U bx ob w') (hB : Below w'.heap.size w' w'') : CStep w U bx ob w'' := ⟨below_via h.below hB, h.box.keep hB, h.res.keep hB, h.out.keep hB, h.big⟩
theorem CStep.grown {w w' w'' : World} {U base : Nat} {bx ob : Array Value} (h : CStep w U bx ob w') {e : TypeId} {size n : Nat} {v : Value} {xs : List Value} (ho : w'.ownsRow base e size v n xs) (hb : U < base) (hg : w'.grownBy w'' v.ownBlock) : CStep w U bx ob w'' := by
  have := h.big
  exact ⟨h.below.grown hg h.below.size (own_ge_of ho (by omega)), h.box.grown hg (own_ne_of ho (by omega)), h.res.grown hg (own_ne_of ho (by omega)), h.out.grown hg (own_ne_of ho hb), h.big⟩
theorem CStep.set {w w' : World} {U : Nat} {bx ob : Array Value} (h : CStep w U bx ob w') (j : Nat) (v : Value) : CStep w U bx (ob.setIfInBounds j v) (w'.setCell ⟨U, j, none⟩ v) := by
  have := h.big
  exact ⟨h.below.setCell (by show w.heap.size ≤ U; omega) v, h.box.put (by omega) j v, h.res.put (by omega) j v, h.out.set j v, h.big⟩
theorem CStep.cell {w w' : World} {U : Nat} {x y : Value} {ob : Array Value} (h : CStep w U #[x, y] ob w') : w'.cell? ⟨w.heap.size, 0, none⟩ = some x ∧ w'.cell? ⟨w.heap.size, 1, none⟩ = some y := by
  have h0 := h.box.cell (j := 0) (by simp)
  have h1 := h.box.cell (j := 1) (by simp)
  simp at h0 h1
  exact ⟨h0, h1⟩
theorem CStep.ocell {w w' : World} {U : Nat} {x y : Value} {bx : Array Value} (h : CStep w U bx #[x, y] w') : w'.cell? ⟨U, 0, none⟩ = some x ∧ w'.cell? ⟨U, 1, none⟩ = some y := by
  have h0 := h.out.cell (j := 0) (by simp)
  have h1 := h.out.cell (j := 1) (by simp)
  simp at h0 h1
  exact ⟨h0, h1⟩
theorem CStep.ocellx {w w' : World} {U : Nat} {bx ob : Array Value} (h : CStep w U bx ob w') (hs : ob.size = 2) {j : Nat} (hj : j < 2) : ∃ v, w'.cell? ⟨U, j, none⟩ = some v := ⟨_, h.out.cell (by omega)⟩
/-- The two rows of what a command of the model makes, as a store. -/
theorem made_k {w ws : World} {b1 b2 : Nat} {q1 q2 : Option Addr} {n1 n2 c1 c2 : Nat} {L : Objs} {M : Gones} (ho : ws.ownsRow b1 31 3 (.slice q1 n1 c1) n1 (cellsObj L)) (hg : ws.ownsRow b2 45 2 (.slice q2 n2 c2) n2 (cellsGone M))
    (h1 : w.heap.size + 2 ≤ b1) (h2 : w.heap.size + 2 ≤ b2) (hl : L.length = n1) (hm : M.length = n2) : StoK (w.heap.size + 2) ws q1 n1 c1 q2 n2 c2 L M := by
  have k1 := atB_own (own_low ho h1)
  have k2 := atB_own (own_low hg h2)
  refine ⟨objk_low (objk_of_own (by rw [hl]; exact ho)) h1, gonek_low (gonek_of_own (by rw [hm]; exact hg)) h2, hl, hm, k1.2, k2.2, k1.1, k2.1, fun g g' e1 e2 he => ?_⟩
  subst he
  rw [e1] at ho
  rw [e2] at hg
  rcases ho.2 with ⟨hv, _⟩ | ⟨x, cap, cur, hv, _, hh, _⟩
  · simp at hv
  · simp only [Value.slice.injEq, Option.some.injEq, Addr.mk.injEq, true_and, and_true] at hv
    obtain ⟨rfl, rfl⟩ := hv
    exact own_ne_row hg (show Row ws g 31 cur from hh) (by decide) g rfl rfl
theorem made_res {w ws : World} {q1 q2 : Option Addr} {n1 n2 c1 c2 : Nat} {L : Objs} {M : Gones} (h : StoK (w.heap.size + 2) ws q1 n1 c1 q2 n2 c2 L M) (x y : Value) : StoK w.heap.size ((ws.setCell ⟨w.heap.size + 1, 0, none⟩ x).setCell ⟨w.heap.size + 1, 1, none⟩ y) q1 n1 c1 q2 n2 c2 L M :=
  ((h.put (h.at1.ne (by omega)) (h.at2.ne (by omega)) 0 x).put (h.at1.ne (by omega)) (h.at2.ne (by omega)) 1 y).low (by omega)
end Go.Proofs.Ytblpebdjbenphaa
