/- Texts put together, as a claim holds at most sixty files. -/
import Derived.Test.YtblpebdjbenphaaDoorMg8
import Derived.Test.YtblpebdjbenphaaDoorMg11
import Derived.Test.YtblpebdjbenphaaDoorMg12
import Derived.Test.YtblpebdjbenphaaDoorHeld
import Derived.Deep.RegionLaw
import Derived.Deep.RegionHeld3
import Derived.Test.YtblpebdjbenphaaDoorMg10
import Derived.Carry
namespace Go.Proofs.YtblpebdjbenphaaDoor
open Go.ChangeShapes Go.WideShapes Go.ChangeAt Go.RowKit
set_option linter.unusedVariables false
set_option maxRecDepth 100000

/-- The slice is nil, or begins a block from 'base' on. -/
def AtB (base : Nat) (w : World) (q : Option Addr) (c : Nat) : Prop := (q = none ∧ c = 0) ∨ ∃ g, q = some ⟨g, 0, none⟩ ∧ base ≤ g ∧ g < w.heap.size
structure StoK (base : Nat) (w : World) (q1 : Option Addr) (n1 c1 : Nat) (q2 : Option Addr) (n2 c2 : Nat) (l : Objs) (m : Gones) : Prop where
  o : ObjK base w q1 l
  g : GoneK base w q2 m
  len1 : l.length = n1
  len2 : m.length = n2
  cap1 : n1 ≤ c1 ∧ c1 ≤ maxLen
  cap2 : n2 ≤ c2 ∧ c2 ≤ maxLen
  at1 : AtB base w q1 c1
  at2 : AtB base w q2 c2
  apart : ∀ g g', q1 = some ⟨g, 0, none⟩ → q2 = some ⟨g', 0, none⟩ → g ≠ g'
theorem AtB.keep {base : Nat} {w w1 : World} {q : Option Addr} {c : Nat} (h : AtB base w q c) (hB : Below w.heap.size w w1) : AtB base w1 q c := by
  rcases h with h | ⟨g, h1, h2, h3⟩
  · exact .inl h
  · exact .inr ⟨g, h1, h2, Nat.lt_of_lt_of_le h3 hB.size⟩
theorem AtB.low {base b2 : Nat} {w : World} {q : Option Addr} {c : Nat} (h : AtB base w q c) (hb : b2 ≤ base) : AtB b2 w q c := by
  rcases h with h | ⟨g, h1, h2, h3⟩
  · exact .inl h
  · exact .inr ⟨g, h1, Nat.le_trans hb h2, h3⟩
theorem AtB.ne {base : Nat} {w : World} {q : Option Addr} {c X : Nat} (h : AtB base w q c) (hX : X < base) : ∀ g, q = some ⟨g, 0, none⟩ → g ≠ X := by
  intro g hg
  rcases h with ⟨h, _⟩ | ⟨g', h1, h2, h3⟩
  · rw [h] at hg; cases hg
  · rw [h1] at hg
    simp only [Option.some.injEq, Addr.mk.injEq, and_true] at hg
    omega
theorem StoK.keep {base : Nat} {w w1 : World} {q1 q2 : Option Addr} {n1 c1 n2 c2 : Nat} {l : Objs} {m : Gones} (h : StoK base w q1 n1 c1 q2 n2 c2 l m) (hB : Below w.heap.size w w1) : StoK base w1 q1 n1 c1 q2 n2 c2 l m :=
  ⟨objk_keep h.o hB, gonek_keep h.g hB, h.len1, h.len2, h.cap1, h.cap2, h.at1.keep hB, h.at2.keep hB, h.apart⟩
theorem StoK.low {base b2 : Nat} {w : World} {q1 q2 : Option Addr} {n1 c1 n2 c2 : Nat} {l : Objs} {m : Gones} (h : StoK base w q1 n1 c1 q2 n2 c2 l m) (hb : b2 ≤ base) : StoK b2 w q1 n1 c1 q2 n2 c2 l m :=
  ⟨objk_low h.o hb, gonek_low h.g hb, h.len1, h.len2, h.cap1, h.cap2, h.at1.low hb, h.at2.low hb, h.apart⟩
theorem StoK.put {base : Nat} {w : World} {q1 q2 : Option Addr} {n1 c1 n2 c2 : Nat} {l : Objs} {m : Gones} (h : StoK base w q1 n1 c1 q2 n2 c2 l m) {X : Nat} (h1 : ∀ g, q1 = some ⟨g, 0, none⟩ → g ≠ X) (h2 : ∀ g, q2 = some ⟨g, 0, none⟩ → g ≠ X) (j : Nat) (v : Value) : StoK base (w.setCell ⟨X, j, none⟩ v) q1 n1 c1 q2 n2 c2 l m := by
  have hs : (w.setCell ⟨X, j, none⟩ v).heap.size = w.heap.size := by simp [World.setCell]
  refine ⟨objk_put h.o h1 j v, gonek_put h.g h2 j v, h.len1, h.len2, h.cap1, h.cap2, ?_, ?_, h.apart⟩
  · have := h.at1; unfold AtB at this ⊢; rw [hs]; exact this
  · have := h.at2; unfold AtB at this ⊢; rw [hs]; exact this
theorem StoK.nil (base : Nat) (w : World) : StoK base w none 0 0 none 0 0 [] [] :=
  ⟨.inl rfl, .inl rfl, rfl, rfl, ⟨Nat.le_refl _, Nat.zero_le _⟩, ⟨Nat.le_refl _, Nat.zero_le _⟩, .inl ⟨rfl, rfl⟩, .inl ⟨rfl, rfl⟩, fun g g' h => by cases h⟩
theorem objs_keys_of {l : Objs} {m : Gones} (h : StoP l m) {i : Nat} (hi : i < l.length) : (obj0 l i).size ≤ maxLen ∧ (obj2 l i).size ≤ maxLen := by
  obtain ⟨h1, _, h3⟩ := h.objs i hi
  have := key_len h1
  unfold maxLen; omega
theorem gons_keys_of {l : Objs} {m : Gones} (h : StoP l m) {i : Nat} (hi : i < m.length) : (gone0 m i).size ≤ maxLen := by
  obtain ⟨h1, _⟩ := h.gons i hi
  have := key_len h1
  unfold maxLen; omega
theorem StoK.sto {base : Nat} {w : World} {q1 q2 : Option Addr} {n1 c1 n2 c2 : Nat} {l : Objs} {m : Gones} (h : StoK base w q1 n1 c1 q2 n2 c2 l m) (hp : StoP l m) : StoAt w q1 n1 l q2 n2 m :=
  ⟨objs_of_k h.o h.len1 (Nat.le_trans h.cap1.1 h.cap1.2) (fun i hi => objs_keys_of hp (by rw [h.len1]; exact hi)), gones_of_k h.g h.len2 (Nat.le_trans h.cap2.1 h.cap2.2) (fun i hi => gons_keys_of hp (by rw [h.len2]; exact hi))⟩
/-- What a row of the call's own is good for. -/
theorem atB_own {w : World} {base : Nat} {e : TypeId} {size : Nat} {q : Option Addr} {n c : Nat} {xs : List Value} (h : w.ownsRow base e size (.slice q n c) n xs) : AtB base w q c ∧ n ≤ c ∧ c ≤ maxLen := by
  rcases h.2 with ⟨h1, h2⟩ | ⟨g, cap, cur, hv, hb, hh, h1, h2, _⟩
  · simp only [Value.slice.injEq] at h1
    obtain ⟨rfl, rfl, rfl⟩ := h1
    exact ⟨.inl ⟨rfl, rfl⟩, Nat.le_refl _, Nat.zero_le _⟩
  · simp only [Value.slice.injEq, true_and] at hv
    obtain ⟨rfl, rfl⟩ := hv
    exact ⟨.inr ⟨g, rfl, hb, lt_of_block hh⟩, h1, h2⟩
theorem own_ne {B X c n : Nat} (h : X ≠ B) : (Value.slice (some ⟨B, 0, none⟩) n c).ownBlock ≠ some X := by
  intro e
  simp only [Value.ownBlock, Option.some.injEq] at e
  exact h e.symm
theorem own_ge {B X c n : Nat} (h : X ≤ B) : ∀ i, (Value.slice (some ⟨B, 0, none⟩) n c).ownBlock = some i → X ≤ i := by
  intro i e
  simp only [Value.ownBlock, Option.some.injEq] at e
  omega
/-- .. of a row that lies from block 'base' on. -/
theorem own_ne_of {w : World} {base X : Nat} {e : TypeId} {size n : Nat} {v : Value} {xs : List Value} (h : w.ownsRow base e size v n xs) (hX : X < base) : v.ownBlock ≠ some X := fun he => by
  have := (h.lt X he).1
  omega
theorem own_ge_of {w : World} {base X : Nat} {e : TypeId} {size n : Nat} {v : Value} {xs : List Value} (h : w.ownsRow base e size v n xs) (hX : X ≤ base) : ∀ i, v.ownBlock = some i → X ≤ i := fun i he => Nat.le_trans hX (h.lt i he).1
/-- The end of a function that hands back a store, a version and a code. -/
def MadeSR (R : Els × Int × Int) (w : World) (e : Ending) (w' : World) : Prop :=
  ∃ q1 n1 c1 q2 n2 c2, e = .returned (.tuple #[.agg #[.slice q1 n1 c1, .slice q2 n2 c2], .int .i64 R.2.1, .int .i64 R.2.2]) ∧ Below w.heap.size w w' ∧ StoK w.heap.size w' q1 n1 c1 q2 n2 c2 (resO R) (resG R)
/-- .. a store and a code. -/
def MadeSD (R : Els × Int × Int) (w : World) (e : Ending) (w' : World) : Prop :=
  ∃ q1 n1 c1 q2 n2 c2, e = .returned (.tuple #[.agg #[.slice q1 n1 c1, .slice q2 n2 c2], .int .i64 R.2.2]) ∧ Below w.heap.size w w' ∧ StoK w.heap.size w' q1 n1 c1 q2 n2 c2 (resO R) (resG R)
theorem res_no {R : Els × Int × Int} (h : R.2.2 ≠ 0) : resO R = [] ∧ resG R = [] := by unfold resO resG; rw [if_neg h, if_neg h]; exact ⟨rfl, rfl⟩
theorem res_yes {R : Els × Int × Int} (h : R.2.2 = 0) : resO R = objsOf R.1 ∧ resG R = gonsOf R.1 := by unfold resO resG; rw [if_pos h, if_pos h]; exact ⟨rfl, rfl⟩
end Go.Proofs.YtblpebdjbenphaaDoor
namespace Go.Proofs.YtblpebdjbenphaaDoor
open Go.ChangeShapes Go.WideShapes Go.ChangeAt Go.RowKit
set_option linter.unusedVariables false
set_option maxRecDepth 100000

/-- A store that may be read, its capacities too. -/
structure StoI (w : World) (a : Option Addr) (la ca : Nat) (l : Objs) (g : Option Addr) (lg cg : Nat) (m : Gones) : Prop where
  at_ : StoAt w a la l g lg m
  capo : la ≤ ca ∧ ca ≤ maxLen
  capg : lg ≤ cg ∧ cg ≤ maxLen
  nilo : a = none → ca = 0
  nilg : g = none → cg = 0
theorem StoI.keep {w w1 : World} {a g : Option Addr} {la ca lg cg : Nat} {l : Objs} {m : Gones} (h : StoI w a la ca l g lg cg m) (hB : Below w.heap.size w w1) : StoI w1 a la ca l g lg cg m := ⟨h.at_.keep hB, h.capo, h.capg, h.nilo, h.nilg⟩
theorem StoK.in_ {base : Nat} {w : World} {q1 q2 : Option Addr} {n1 c1 n2 c2 : Nat} {l : Objs} {m : Gones} (h : StoK base w q1 n1 c1 q2 n2 c2 l m) (hp : StoP l m) : StoI w q1 n1 c1 l q2 n2 c2 m :=
  ⟨h.sto hp, h.cap1, h.cap2, fun e => by
    rcases h.at1 with ⟨_, h0⟩ | ⟨g, h1, _⟩
    · exact h0
    · rw [e] at h1; simp at h1, fun e => by
    rcases h.at2 with ⟨_, h0⟩ | ⟨g, h1, _⟩
    · exact h0
    · rw [e] at h1; simp at h1⟩
theorem addr_add (b off k : Nat) : (⟨b, off, none⟩ : Addr).add k = ⟨b, off + k, none⟩ := by
  unfold Addr.add
  split
  · rename_i h; subst h; rfl
  · rfl
theorem objs_dropA {w : World} {a : Option Addr} {la ca k : Nat} {l : Objs} (h : ObjsAt w a la l) (hk : k ≤ la) (hc : la ≤ ca) : ObjsAt w (if ca = k then a else a.map fun x => x.add (k * 3)) (la - k) (l.drop k) := by
  have hl := h.length
  by_cases he : ca = k
  · have h0 : la - k = 0 := by omega
    rw [if_pos he, h0]
    exact ⟨by rw [List.length_drop]; omega, Nat.zero_le _, fun i hi => by omega, .inl rfl⟩
  · rw [if_neg he]
    rcases h.src with h0 | ⟨b, off, rfl, hb, hc2⟩
    · have hk0 : k = 0 := by omega
      subst hk0
      have h1 : la - 0 = 0 := by omega
      rw [h1]
      exact ⟨by rw [List.length_drop]; omega, Nat.zero_le _, fun i hi => by omega, .inl rfl⟩
    · rw [Option.map_some, addr_add]
      exact objs_drop h hk
theorem gones_dropA {w : World} {a : Option Addr} {la ca k : Nat} {l : Gones} (h : GonesAt w a la l) (hk : k ≤ la) (hc : la ≤ ca) : GonesAt w (if ca = k then a else a.map fun x => x.add (k * 2)) (la - k) (l.drop k) := by
  have hl := h.length
  by_cases he : ca = k
  · have h0 : la - k = 0 := by omega
    rw [if_pos he, h0]
    exact ⟨by rw [List.length_drop]; omega, Nat.zero_le _, fun i hi => by omega, .inl rfl⟩
  · rw [if_neg he]
    rcases h.src with h0 | ⟨b, off, rfl, hb, hc2⟩
    · have hk0 : k = 0 := by omega
      subst hk0
      have h1 : la - 0 = 0 := by omega
      rw [h1]
      exact ⟨by rw [List.length_drop]; omega, Nat.zero_le _, fun i hi => by omega, .inl rfl⟩
    · rw [Option.map_some, addr_add]
      exact gones_drop h hk
theorem gones_end {w : World} {a q : Option Addr} {la k : Nat} {l : Gones} (h : GonesAt w a la l) (hk : la ≤ k) : GonesAt w q (la - k) (l.drop k) := by
  have hl := h.length
  have h0 : la - k = 0 := by omega
  rw [h0]
  exact ⟨by rw [List.length_drop]; omega, Nat.zero_le _, fun i hi => by omega, .inl rfl⟩
theorem objs_end {w : World} {a q : Option Addr} {la k : Nat} {l : Objs} (h : ObjsAt w a la l) (hk : la ≤ k) : ObjsAt w q (la - k) (l.drop k) := by
  have hl := h.length
  have h0 : la - k = 0 := by omega
  rw [h0]
  exact ⟨by rw [List.length_drop]; omega, Nat.zero_le _, fun i hi => by omega, .inl rfl⟩
theorem nil_dropA {a : Option Addr} {ca k n : Nat} (h : a = none → ca = 0) : (if ca = k then a else a.map fun x => x.add (k * n)) = none → ca - k = 0 := by
  intro e
  by_cases he : ca = k
  · omega
  · rw [if_neg he] at e
    cases a with
    | none => have := h rfl; omega
    | some p => simp at e

theorem objs_takeA {w : World} {a : Option Addr} {ca k n : Nat} {l : Objs} (h : ObjsAt w a k l) : ObjsAt w (if ca = 0 then a else a.map fun x => x.add (0 * n)) k l := by
  by_cases h0 : ca = 0
  · rw [if_pos h0]; exact h
  · rw [if_neg h0]
    cases a with
    | none => exact h
    | some x =>
      have : x.add (0 * n) = x := by unfold Addr.add; rw [Nat.zero_mul, if_pos rfl]
      rw [Option.map_some, this]; exact h
theorem gones_takeA {w : World} {a : Option Addr} {ca k n : Nat} {l : Gones} (h : GonesAt w a k l) : GonesAt w (if ca = 0 then a else a.map fun x => x.add (0 * n)) k l := by
  by_cases h0 : ca = 0
  · rw [if_pos h0]; exact h
  · rw [if_neg h0]
    cases a with
    | none => exact h
    | some x =>
      have : x.add (0 * n) = x := by unfold Addr.add; rw [Nat.zero_mul, if_pos rfl]
      rw [Option.map_some, this]; exact h
theorem own_grown {w w1 : World} {base : Nat} {e : TypeId} {size n : Nat} {v : Value} {xs : List Value} {row : Option Nat} (h : w.ownsRow base e size v n xs) (hg : w.grownBy w1 row) (hne : ∀ g, v.ownBlock = some g → row ≠ some g) : w1.ownsRow base e size v n xs :=
  h.kept hg (by
    cases hv : v.ownBlock with
    | none => exact .inl rfl
    | some g => exact .inr (fun he => hne g hv he.symm))
theorem own_put {w : World} {base X : Nat} {e : TypeId} {size n : Nat} {v : Value} {xs : List Value} (h : w.ownsRow base e size v n xs) (hne : ∀ g, v.ownBlock = some g → X ≠ g) (j : Nat) (x : Value) : (w.setCell ⟨X, j, none⟩ x).ownsRow base e size v n xs := by
  refine ⟨h.1, ?_⟩
  rcases h.2 with h2 | ⟨g, cap, cur, hv, hb, hh, r⟩
  · exact .inl h2
  · refine .inr ⟨g, cap, cur, hv, hb, ?_, r⟩
    have hX := hne g (by rw [hv]; rfl)
    exact (Below.heap_setCell w ⟨X, j, none⟩ x g (fun he => hX he.symm)).trans hh
theorem own_ne_row {w : World} {base X : Nat} {e T : TypeId} {size n : Nat} {v : Value} {xs : List Value} {cur : Array Value} (h : w.ownsRow base e size v n xs) (r : Row w X T cur) (hT : T ≠ e) : ∀ g, v.ownBlock = some g → X ≠ g := by
  intro g hg he
  subst he
  rcases h.2 with ⟨h2, _⟩ | ⟨g', cap, cur', hv, _, hh, _⟩
  · rw [h2] at hg; cases hg
  · rw [hv] at hg
    simp only [Value.ownBlock, Option.some.injEq] at hg
    subst hg
    unfold Row at r
    rw [hh] at r
    simp only [Option.some.injEq, Obj.cells.injEq] at r
    exact hT r.2.1.symm
theorem own_lt {w : World} {base : Nat} {e : TypeId} {size n : Nat} {v : Value} {xs : List Value} (h : w.ownsRow base e size v n xs) : ∀ g, v.ownBlock = some g → g < w.heap.size := fun g hg => (h.lt g hg).2
theorem own_low {w : World} {base b2 : Nat} {e : TypeId} {size n : Nat} {v : Value} {xs : List Value} (h : w.ownsRow base e size v n xs) (hb : b2 ≤ base) : w.ownsRow b2 e size v n xs := by
  refine ⟨h.1, ?_⟩
  rcases h.2 with h2 | ⟨g, cap, cur, hv, h1, r⟩
  · exact .inl h2
  · exact .inr ⟨g, cap, cur, hv, Nat.le_trans hb h1, r⟩

theorem own_apart {w w2 : World} {b1 Y : Nat} {e1 e2 : TypeId} {s1 s2 n1 n2 : Nat} {v1 v2 : Value} {x1 x2 : List Value} (h : w.ownsRow b1 e1 s1 v1 n1 x1) (hY : ∀ g, v1.ownBlock = some g → g < Y) (ho : w2.ownsRow Y e2 s2 v2 n2 x2) : ∀ g, v1.ownBlock = some g → v2.ownBlock ≠ some g := fun g hg he => by
  have h1 := hY g hg
  have h2 := (ho.lt g he).1
  omega
theorem nil_takeA {a : Option Addr} {ca n : Nat} (h : a = none → ca = 0) : (if ca = 0 then a else a.map fun x => x.add (0 * n)) = none → ca = 0 := by
  intro e
  by_cases he : ca = 0
  · exact he
  · rw [if_neg he] at e
    cases a with
    | none => exact h rfl
    | some p => simp at e
/-- Two own rows of different elements are two blocks. -/
theorem own_apartT {w : World} {b1 b2 : Nat} {e1 e2 : TypeId} {s1 s2 n1 n2 : Nat} {v1 v2 : Value} {x1 x2 : List Value} (h : w.ownsRow b1 e1 s1 v1 n1 x1) (k : w.ownsRow b2 e2 s2 v2 n2 x2) (hne : e1 ≠ e2) : ∀ g, v1.ownBlock = some g → v2.ownBlock ≠ some g := by
  intro g hg he
  rcases h.2 with ⟨h2, _⟩ | ⟨g', cap, cur, hv, _, hh, _⟩
  · rw [h2] at hg; cases hg
  · rw [hv] at hg
    simp only [Value.ownBlock, Option.some.injEq] at hg
    subst hg
    exact own_ne_row k (show Row w g' e1 cur from hh) hne g' he rfl
theorem row_grownT {w w1 : World} {base X : Nat} {e T : TypeId} {size n : Nat} {v : Value} {xs : List Value} {cur : Array Value} (r : Row w X T cur) (h : w.ownsRow base e size v n xs) (hT : T ≠ e) (hg : w.grownBy w1 v.ownBlock) : Row w1 X T cur :=
  r.grown hg (fun he => own_ne_row h r hT X he rfl)
/-- What a command of the model carries ahead of the store that it makes: its argument's box and its result's. -/
structure BRow (w : World) (bx : Array Value) (w' : World) : Prop where
  below : Below w.heap.size w w'
  box : Row w' w.heap.size 27 bx
  res : Row w' (w.heap.size + 1) 27 #[.slice none 0 0, .slice none 0 0]
theorem BRow.drew {w w' : World} {bx : Array Value} (h : BRow w bx w') : BRow w bx w'.drew := ⟨h.below.drew, h.box, h.res⟩
theorem BRow.al {w w' : World} {bx : Array Value} (h : BRow w bx w') (o : Obj) : BRow w bx (w'.alloc o) := ⟨below_alloc h.below o, h.box.al o, h.res.al o⟩
theorem BRow.keep {w w' w'' : World} {bx : Array Value} (h : BRow w bx w') (hB : Below w'.heap.size w' w'') : BRow w bx w'' := ⟨below_via h.below hB, h.box.keep hB, h.res.keep hB⟩
theorem BRow.grown {w w' w'' : World} {base : Nat} {bx : Array Value} (h : BRow w bx w') {e : TypeId} {size n : Nat} {v : Value} {xs : List Value} (ho : w'.ownsRow base e size v n xs) (hb : w.heap.size + 2 ≤ base) (hg : w'.grownBy w'' v.ownBlock) : BRow w bx w'' :=
  ⟨h.below.grown hg h.below.size (own_ge_of ho (by omega)), h.box.grown hg (own_ne_of ho (by omega)), h.res.grown hg (own_ne_of ho (by omega))⟩
theorem BRow.set {w w' : World} {bx : Array Value} (h : BRow w bx w') {U : Nat} (hU : w.heap.size + 2 ≤ U) (j : Nat) (v : Value) : BRow w bx (w'.setCell ⟨U, j, none⟩ v) :=
  ⟨h.below.setCell (by show w.heap.size ≤ U; omega) v, h.box.put (by omega) j v, h.res.put (by omega) j v⟩
theorem BRow.ge {w w' : World} {bx : Array Value} (h : BRow w bx w') : w.heap.size + 2 ≤ w'.heap.size := h.res.lt
theorem BRow.cells {w w' : World} {x y : Value} (h : BRow w #[x, y] w') : w'.cell? ⟨w.heap.size, 0, none⟩ = some x ∧ w'.cell? ⟨w.heap.size, 1, none⟩ = some y := by
  have h0 := h.box.cell (j := 0) (by simp)
  have h1 := h.box.cell (j := 1) (by simp)
  simp at h0 h1
  exact ⟨h0, h1⟩
/-- What a command of the model carries: its argument's box, its result's, that of the store it makes. -/
structure CStep (w : World) (U : Nat) (bx ob : Array Value) (w' : World) : Prop where
  below : Below w.heap.size w w'
  box : Row w' w.heap.size 27 bx
  res : Row w' (w.heap.size + 1) 27 #[.slice none 0 0, .slice none 0 0]
  out : Row w' U 27 ob
  big : w.heap.size + 2 ≤ U
theorem CStep.drew {w w' : World} {U : Nat} {bx ob : Array Value} (h : CStep w U bx ob w') : CStep w U bx ob w'.drew := ⟨h.below.drew, h.box, h.res, h.out, h.big⟩
theorem CStep.drewN {w w' : World} {U : Nat} {bx ob : Array Value} (h : CStep w U bx ob w') (n : Nat) : CStep w U bx ob (w'.drewN n) := ⟨below_drewN h.below n, h.box.drewN n, h.res.drewN n, h.out.drewN n, h.big⟩
theorem CStep.al {w w' : World} {U : Nat} {bx ob : Array Value} (h : CStep w U bx ob w') (o : Obj) : CStep w U bx ob (w'.alloc o) := ⟨below_alloc h.below o, h.box.al o, h.res.al o, h.out.al o, h.big⟩
theorem CStep.lt {w w' : World} {U : Nat} {bx ob : Array Value} (h : CStep w U bx ob w') : U < w'.heap.size := h.out.lt
theorem CStep.keep {w w' w'' : World} {U : Nat} {bx ob : Array Value} (h : CStep w U bx ob w') (hB : Below w'.heap.size w' w'') : CStep w U bx ob w'' := ⟨below_via h.below hB, h.box.keep hB, h.res.keep hB, h.out.keep hB, h.big⟩
theorem CStep.grown {w w' w'' : World} {U base : Nat} {bx ob : Array Value} (h : CStep w U bx ob w') {e : TypeId} {size n : Nat} {v : Value} {xs : List Value} (ho : w'.ownsRow base e size v n xs) (hb : U < base) (hg : w'.grownBy w'' v.ownBlock) : CStep w U bx ob w'' := by
  have := h.big
  exact ⟨h.below.grown hg h.below.size (own_ge_of ho (by omega)), h.box.grown hg (own_ne_of ho (by omega)), h.res.grown hg (own_ne_of ho (by omega)), h.out.grown hg (own_ne_of ho hb), h.big⟩
theorem CStep.set {w w' : World} {U : Nat} {bx ob : Array Value} (h : CStep w U bx ob w') (j : Nat) (v : Value) : CStep w U bx (ob.setIfInBounds j v) (w'.setCell ⟨U, j, none⟩ v) := by
  have := h.big
  exact ⟨h.below.setCell (by show w.heap.size ≤ U; omega) v, h.box.put (by omega) j v, h.res.put (by omega) j v, h.out.set j v, h.big⟩
theorem CStep.cell {w w' : World} {U : Nat} {x y : Value} {ob : Array Value} (h : CStep w U #[x, y] ob w') : w'.cell? ⟨w.heap.size, 0, none⟩ = some x ∧ w'.cell? ⟨w.heap.size, 1, none⟩ = some y := by
  have h0 := h.box.cell (j := 0) (by simp)
  have h1 := h.box.cell (j := 1) (by simp)
  simp at h0 h1
  exact ⟨h0, h1⟩
theorem CStep.ocell {w w' : World} {U : Nat} {x y : Value} {bx : Array Value} (h : CStep w U bx #[x, y] w') : w'.cell? ⟨U, 0, none⟩ = some x ∧ w'.cell? ⟨U, 1, none⟩ = some y := by
  have h0 := h.out.cell (j := 0) (by simp)
  have h1 := h.out.cell (j := 1) (by simp)
  simp at h0 h1
  exact ⟨h0, h1⟩
theorem CStep.ocellx {w w' : World} {U : Nat} {bx ob : Array Value} (h : CStep w U bx ob w') (hs : ob.size = 2) {j : Nat} (hj : j < 2) : ∃ v, w'.cell? ⟨U, j, none⟩ = some v := ⟨_, h.out.cell (by omega)⟩
/-- The two rows of what a command of the model makes, as a store. -/
theorem made_k {w ws : World} {b1 b2 : Nat} {q1 q2 : Option Addr} {n1 n2 c1 c2 : Nat} {L : Objs} {M : Gones} (ho : ws.ownsRow b1 35 3 (.slice q1 n1 c1) n1 (cellsObj L)) (hg : ws.ownsRow b2 57 2 (.slice q2 n2 c2) n2 (cellsGone M))
    (h1 : w.heap.size + 2 ≤ b1) (h2 : w.heap.size + 2 ≤ b2) (hl : L.length = n1) (hm : M.length = n2) : StoK (w.heap.size + 2) ws q1 n1 c1 q2 n2 c2 L M := by
  have k1 := atB_own (own_low ho h1)
  have k2 := atB_own (own_low hg h2)
  refine ⟨objk_low (objk_of_own (by rw [hl]; exact ho)) h1, gonek_low (gonek_of_own (by rw [hm]; exact hg)) h2, hl, hm, k1.2, k2.2, k1.1, k2.1, fun g g' e1 e2 he => ?_⟩
  subst he
  rw [e1] at ho
  rw [e2] at hg
  rcases ho.2 with ⟨hv, _⟩ | ⟨x, cap, cur, hv, _, hh, _⟩
  · simp at hv
  · simp only [Value.slice.injEq, Option.some.injEq, Addr.mk.injEq, true_and, and_true] at hv
    obtain ⟨rfl, rfl⟩ := hv
    exact own_ne_row hg (show Row ws g 35 cur from hh) (by decide) g rfl rfl
theorem made_res {w ws : World} {q1 q2 : Option Addr} {n1 n2 c1 c2 : Nat} {L : Objs} {M : Gones} (h : StoK (w.heap.size + 2) ws q1 n1 c1 q2 n2 c2 L M) (x y : Value) : StoK w.heap.size ((ws.setCell ⟨w.heap.size + 1, 0, none⟩ x).setCell ⟨w.heap.size + 1, 1, none⟩ y) q1 n1 c1 q2 n2 c2 L M :=
  ((h.put (h.at1.ne (by omega)) (h.at2.ne (by omega)) 0 x).put (h.at1.ne (by omega)) (h.at2.ne (by omega)) 1 y).low (by omega)
end Go.Proofs.YtblpebdjbenphaaDoor
namespace Go.Proofs.YtblpebdjbenphaaDoor
open Go.ChangeShapes Go.WideShapes Go.ChangeAt Go.RowKit
set_option linter.unusedVariables false
set_option maxRecDepth 100000

/-- Block B holds the program's store in use: the elements E; the lock's word is lk. -/
structure ObAt (base : Nat) (w : World) (B b n : Nat) (q : Option Addr) (cp : Nat) (lk : Int) (E : Els) : Prop where
  row : Row w B 99 #[.int .i32 lk, .int .u32 0, .map (some b), .slice q E.length cp]
  map : MapIs w b n (fun s => lookE s E)
  keys : w.ownsRow base 9 1 (.slice q E.length cp) E.length ((ekeys E).map Value.string)
  geB : base ≤ B
  geb : base ≤ b
theorem map_ne_row {w : World} {b n X : Nat} {g : ByteArray → Option ElV} {T : TypeId} {cur : Array Value} (h : MapIs w b n g) (r : Row w X T cur) : b ≠ X := by
  intro he
  subst he
  obtain ⟨es, clock, hb, _⟩ := h
  unfold Row at r
  rw [hb] at r
  cases r
theorem map_ne_own {w : World} {b n base : Nat} {g : ByteArray → Option ElV} {e : TypeId} {size k : Nat} {v : Value} {xs : List Value} (h : MapIs w b n g) (o : w.ownsRow base e size v k xs) : ∀ x, v.ownBlock = some x → b ≠ x := by
  intro x hx he
  rcases o.2 with ⟨h2, _⟩ | ⟨g', cap, cur, hv, _, hh, _⟩
  · rw [h2] at hx; cases hx
  · rw [hv] at hx
    simp only [Value.ownBlock, Option.some.injEq] at hx
    subst hx
    exact map_ne_row h (show Row w g' e cur from hh) he
theorem ObAt.keep {base : Nat} {w w1 : World} {B b n : Nat} {q : Option Addr} {cp : Nat} {lk : Int} {E : Els} (h : ObAt base w B b n q cp lk E) (hB : Below w.heap.size w w1) : ObAt base w1 B b n q cp lk E :=
  ⟨h.row.keep hB, h.map.keep hB, own_below h.keys hB, h.geB, h.geb⟩
theorem ObAt.al {base : Nat} {w : World} {B b n : Nat} {q : Option Addr} {cp : Nat} {lk : Int} {E : Els} (h : ObAt base w B b n q cp lk E) (o : Obj) : ObAt base (w.alloc o) B b n q cp lk E := h.keep (below_alloc (Below.refl _ _) o)
theorem ObAt.lock {base : Nat} {w : World} {B b n : Nat} {q : Option Addr} {cp : Nat} {lk : Int} {E : Els} (h : ObAt base w B b n q cp lk E) (lk2 : Int) : ObAt base (w.setCell ⟨B, 0, none⟩ (.int .i32 lk2)) B b n q cp lk2 E :=
  ⟨h.row.set 0 _, h.map.put (map_ne_row h.map h.row) 0 _, own_put h.keys (own_ne_row h.keys h.row (by decide)) 0 _, h.geB, h.geb⟩
theorem ObAt.cells {base : Nat} {w : World} {B b n : Nat} {q : Option Addr} {cp : Nat} {lk : Int} {E : Els} (h : ObAt base w B b n q cp lk E) :
    w.cell? ⟨B, 0, none⟩ = some (.int .i32 lk) ∧ w.cell? ⟨B, 2, none⟩ = some (.map (some b)) ∧ w.cell? ⟨B, 3, none⟩ = some (.slice q E.length cp) := by
  have h0 := h.row.cell (j := 0) (by simp)
  have h2 := h.row.cell (j := 2) (by simp)
  have h3 := h.row.cell (j := 3) (by simp)
  simp at h0 h2 h3
  exact ⟨h0, h2, h3⟩
def MadeObs (E : Els) (w : World) (e : Ending) (w' : World) : Prop := ∃ B b n q cp, e = .returned (.pointer (some ⟨B, 0, none⟩)) ∧ ObAt w.heap.size w' B b n q cp 0 E ∧ n ≤ 1100 ∧ Below w.heap.size w w'

def allE (l : Objs) (m : Gones) : Els := l.map tagO ++ m.map tagG
theorem allE_len (l : Objs) (m : Gones) : (allE l m).length = l.length + m.length := by unfold allE; simp
theorem allE_o (l : Objs) (m : Gones) (k : Nat) (h : k < l.length) : (allE l m)[k]? = some (obj0 l k, obj1 l k, obj2 l k, false) := by
  unfold allE
  rw [List.getElem?_append_left (by simpa using h), List.getElem?_map, List.getElem?_eq_getElem h]
  unfold obj0 obj1 obj2
  rw [List.getD_eq_getElem?_getD, List.getElem?_eq_getElem h]
  rfl
theorem allE_g (l : Objs) (m : Gones) (k : Nat) (h : k < m.length) : (allE l m)[l.length + k]? = some (gone0 m k, gone1 m k, ⟨#[]⟩, true) := by
  unfold allE
  rw [List.getElem?_append_right (by simp), List.getElem?_map, List.length_map, Nat.add_sub_cancel_left, List.getElem?_eq_getElem h]
  unfold gone0 gone1
  rw [List.getD_eq_getElem?_getD, List.getElem?_eq_getElem h]
  rfl
theorem look_step {F : Els} (hF : F.Pairwise (fun a b => a.1 ≠ b.1)) {k : Nat} {x : ByteArray × ElV} (h : F[k]? = some x) (s : ByteArray) : lookE s (F.take (k + 1)) = if sameT x.1 s = true then some x.2 else lookE s (F.take k) := by
  obtain ⟨hk, hx⟩ := List.getElem?_eq_some_iff.1 h
  rw [take_snoc F k hk, hx]
  refine lookE_snoc (fun y hy => ?_)
  obtain ⟨i, hi, rfl⟩ := List.getElem_of_mem hy
  rw [List.length_take] at hi
  rw [List.getElem_take, ← hx]
  exact (List.pairwise_iff_getElem.1 hF) i k (by omega) hk (by omega)

theorem run_makeMapN (n : Int) (w : World) : (Instr.makeMap 88 (some (.int .i64 n))).run Tryd.prog w = .ok (.map (some w.heap.size)) (w.alloc (.map #[] 0)) := by kernel_rfl

set_option maxHeartbeats 4000000 in
theorem objectsof_any (a g : Option Addr) (la ca lg cg : Nat) (l : Objs) (m : Gones) (w : World) (h : StoAt w a la l g lg m) (hp : StoP l m) :
    Calls Tryd.prog 42 #[.agg #[.slice a la ca, .slice g lg cg]] w (MadeObs (elsOf l m) w) := by
  have hmm := run_makeMapN
  have hl0 := h.o.length
  have hl1 := h.d.length
  have hfew := hp.few
  rw [hl0, hl1] at hfew
  have HS := Lib.hid h
  have HP := Lib.hid hp
  have HL := Lib.hid (And.intro hl0 hl1)
  have HF := Lib.hid (show (allE l m).Pairwise (fun a b => a.1 ≠ b.1) from ((els_perm l m).pairwise_iff (fun hab he => hab he.symm)).1 (apart_inc (ep_of hp).inc))
  have HB0 := Lib.hid (below_alloc (Below.refl w.heap.size w) (.cells #[.slice a la ca, .slice g lg cg] 27))
  have HX0 := Lib.hid (row_new w #[.slice a la ca, .slice g lg cg] 27)
  have hEl : (elsOf l m).length = la + lg := by
    have := objs_gons_len (elsOf l m)
    rw [els_back.1, els_back.2, hl0, hl1] at this
    exact this.symm
  have HEL := Lib.hid hEl
  clear h hp hl0 hl1 hEl
  go_enter Tryd.func42, Tryd.ntmps42
  go_wp2_with fail
  refine (allkeysO_any _ _ _ _ _ _ l m _ (HS.out.keep HB0.out) (by omega)).mono ?_
  rintro e w1 ⟨q, cp, rfl, hks, hB⟩
  rw [mergeT_len, okeys_len, gkeys_len, HL.out.1, HL.out.2] at hks ⊢
  have HB1 := Lib.hid (below_via HB0.out hB)
  have HX1 := Lib.hid (HX0.out.keep hB)
  have HK1 := Lib.hid (strs_own_low hks (show w.heap.size ≤ _ from HB0.out.size))
  clear hks hB HB0 HX0
  have HB2 := Lib.hid (below_alloc HB1.out (.map #[] 0))
  have HX2 := Lib.hid (HX1.out.al (.map #[] 0))
  have HK2 := Lib.hid (own_below HK1.out (below_alloc (Below.refl _ _) (.map #[] 0)))
  have HM2 := Lib.hid (MapIs.made w1)
  have hBm := HB1.out.size
  have b0 := HX2.out.cell (j := 0) (by simp)
  simp at b0
  go_wp2_with fail
  obtain ⟨Bm, hBe⟩ : ∃ Bm, w1.heap.size = Bm := ⟨_, rfl⟩
  rw [hBe] at HM2 hBm ⊢
  clear HB1 HX1 HK1
  go_loopw [17] (fun i wr => ∃ k : Nat, k ≤ la ∧ i = .int .i64 k ∧ Hid (Below w.heap.size w wr ∧ Row wr w.heap.size 27 #[.slice a la ca, .slice g lg cg] ∧ wr.ownsRow w.heap.size 9 1 (.slice q (la + lg) cp) (la + lg) ((mergeT (okeys l) (gkeys m)).map Value.string) ∧ MapIs wr Bm k (fun s => lookE s ((allE l m).take k)))) (fun i _ => la - (intOf i).toNat)
  case atStart => exact ⟨0, Nat.zero_le _, rfl, HB2.out, HX2.out, HK2.out, HM2.out.as (fun s => rfl) (Nat.le_refl _)⟩
  case round =>
    obtain ⟨k, hk, rfl, HW⟩ := hrel
    clear HB2 HX2 HK2 HM2 b0
    have b0 := HW.out.2.1.cell (j := 0) (by simp)
    have b1 := HW.out.2.1.cell (j := 1) (by simp)
    simp at b0 b1
    by_cases hlt : k < la
    · rcases HS.out.o.src with hz | ⟨bb, off, rfl, hb, hc⟩
      · omega
      · have c0 := (HW.out.1.cell (p := ⟨bb, off + k * 3, none⟩) hb).trans (hc k hlt).1
        have c1 := (HW.out.1.cell (p := ⟨bb, off + k * 3 + 1, none⟩) hb).trans (hc k hlt).2.1
        have c2 := (HW.out.1.cell (p := ⟨bb, off + k * 3 + 2, none⟩) hb).trans (hc k hlt).2.2
        clear hc hb
        have HST := Lib.hid (look_step HF.out (allE_o l m k (by rw [HL.out.1]; exact hlt)))
        obtain ⟨kk, hkk⟩ : ∃ s, obj0 l k = s := ⟨_, rfl⟩
        obtain ⟨vv, hvv⟩ : ∃ s, obj1 l k = s := ⟨_, rfl⟩
        obtain ⟨dd, hdd⟩ : ∃ s, obj2 l k = s := ⟨_, rfl⟩
        have hks : kk.size ≤ maxLen := by rw [← hkk]; exact (HS.out.o.keys k hlt).1
        have HKS := Lib.hid hks
        rw [hkk] at c0 HST
        rw [hvv] at c1 HST
        rw [hdd] at c2 HST
        have HBA := Lib.hid (below_alloc HW.out.1 (.cells #[.string kk, .int .i64 vv, .string dd] 35))
        have HXA := Lib.hid (HW.out.2.1.al (.cells #[.string kk, .int .i64 vv, .string dd] 35))
        have HKA := Lib.hid (own_below HW.out.2.2.1 (below_alloc (Below.refl _ _) (.cells #[.string kk, .int .i64 vv, .string dd] 35)))
        have HMA := Lib.hid (HW.out.2.2.2.keep (below_alloc (Below.refl _ _) (.cells #[.string kk, .int .i64 vv, .string dd] 35)))
        clear hkk hvv hdd hks HW b1
        go_wp2_with (at_mapUpdate; go_loud (refine wpList_store_el _ rfl _ _ _ rfl Bm k _ rfl HMA.out (by unfold maxLen; omega) kk rfl HKS.out (vv, dd, false) rfl ?_; intro w5 hm5 hg5; have HM5 := Lib.hid hm5; have HB5 := Lib.hid (HBA.out.grown hg5 HBA.out.size (fun x hx => by simp only [Option.some.injEq] at hx; omega)); have HX5 := Lib.hid (HXA.out.grown hg5 (fun he => map_ne_row HMA.out HXA.out (Option.some.inj he))); have HK5 := Lib.hid (own_grown HKA.out hg5 (fun x hx he => map_ne_own HMA.out HKA.out x hx (Option.some.inj he))); clear hm5 hg5))
        go_roundw
        case rel => exact ⟨k + 1, by omega, by go_num, HB5.out, HX5.out, HK5.out, HM5.out.as (fun s => (HST.out s).symm) (Nat.le_refl _)⟩
        case measure => simp [intOf]; omega
    · obtain rfl : la = k := by omega
      have HWO := Lib.hid (And.intro HW.out.1 HW.out.2.2)
      clear HW
      go_wp2_with fail
      go_loopw [33] (fun i wr => ∃ k : Nat, k ≤ lg ∧ i = .int .i64 k ∧ Hid (Below w.heap.size w wr ∧ wr.ownsRow w.heap.size 9 1 (.slice q (la + lg) cp) (la + lg) ((mergeT (okeys l) (gkeys m)).map Value.string) ∧ MapIs wr Bm (la + k) (fun s => lookE s ((allE l m).take (la + k))))) (fun i _ => lg - (intOf i).toNat)
      case atStart => exact ⟨0, Nat.zero_le _, rfl, HWO.out⟩
      case round =>
        obtain ⟨k, hk, rfl, HW⟩ := hrel
        clear b0 b1 HWO
        by_cases hlt : k < lg
        · rcases HS.out.d.src with hz | ⟨bb, off, rfl, hb, hc⟩
          · omega
          · have c0 := (HW.out.1.cell (p := ⟨bb, off + k * 2, none⟩) hb).trans (hc k hlt).1
            have c1 := (HW.out.1.cell (p := ⟨bb, off + k * 2 + 1, none⟩) hb).trans (hc k hlt).2
            clear hc hb
            have hst := look_step HF.out (allE_g l m k (by rw [HL.out.2]; exact hlt))
            rw [HL.out.1] at hst
            have HST := Lib.hid hst
            clear hst
            obtain ⟨kk, hkk⟩ : ∃ s, gone0 m k = s := ⟨_, rfl⟩
            obtain ⟨vv, hvv⟩ : ∃ s, gone1 m k = s := ⟨_, rfl⟩
            have hks : kk.size ≤ maxLen := by rw [← hkk]; exact HS.out.d.keys k hlt
            have HKS := Lib.hid hks
            rw [hkk] at c0 HST
            rw [hvv] at c1 HST
            have HBA := Lib.hid (below_alloc HW.out.1 (.cells #[.string kk, .int .i64 vv] 57))
            have HKA := Lib.hid (own_below HW.out.2.1 (below_alloc (Below.refl _ _) (.cells #[.string kk, .int .i64 vv] 57)))
            have HMA := Lib.hid (HW.out.2.2.keep (below_alloc (Below.refl _ _) (.cells #[.string kk, .int .i64 vv] 57)))
            clear hkk hvv hks HW
            go_wp2_with (at_mapUpdate; refine wpList_store_el _ rfl _ _ _ rfl Bm (la + k) _ rfl HMA.out (by unfold maxLen; omega) kk rfl HKS.out (vv, ⟨#[]⟩, true) rfl ?_; intro w5 hm5 hg5; have HM5 := Lib.hid hm5; have HB5 := Lib.hid (HBA.out.grown hg5 HBA.out.size (fun x hx => by simp only [Option.some.injEq] at hx; omega)); have HK5 := Lib.hid (own_grown HKA.out hg5 (fun x hx he => map_ne_own HMA.out HKA.out x hx (Option.some.inj he))); clear hm5 hg5)
            go_roundw
            case rel => exact ⟨k + 1, by omega, by go_num, HB5.out, HK5.out, HM5.out.as (fun s => (HST.out s).symm) (Nat.le_refl _)⟩
            case measure => simp [intOf]; omega
        · obtain rfl : lg = k := by omega
          have hmap := HW.out.2.2.as (g' := fun s => lookE s (elsOf l m)) (fun s => by
            have e : (allE l m).take (la + lg) = allE l m := List.take_of_length_le (by rw [allE_len, HL.out.1, HL.out.2]; omega)
            show lookE s ((allE l m).take (la + lg)) = _
            rw [e]
            exact look_tags (ep_of HP.out).inc s) (Nat.le_refl _)
          have hkeys := HW.out.2.1
          rw [← (els_parts _ l m (Nat.le_refl _)).2.2] at hkeys
          have HOB := Lib.hid (show ObAt w.heap.size (wr.alloc (.cells #[.int .i32 0, .int .u32 0, .map (some Bm), .slice q (la + lg) cp] 99)) wr.heap.size Bm (la + lg) q cp 0 (elsOf l m) from
            ⟨by rw [HEL.out]; exact row_new _ _ _, hmap.keep (below_alloc (Below.refl _ _) _), by rw [HEL.out]; exact own_below hkeys (below_alloc (Below.refl _ _) _), HW.out.1.size, hBm⟩)
          have HBF := Lib.hid (below_alloc HW.out.1 (.cells #[.int .i32 0, .int .u32 0, .map (some Bm), .slice q (la + lg) cp] 99))
          clear hmap hkeys HW
          go_wp2
          go_ret
          exact ⟨_, _, _, _, _, rfl, HOB.out, hfew, HBF.out⟩
end Go.Proofs.YtblpebdjbenphaaDoor
