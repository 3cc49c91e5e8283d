
/- Stores that a call has made: two slices in rows of its own, each nil or not. -/
import Derived.Test.YtblpebdjbenphaaElOps
import Derived.Test.YtblpebdjbenphaaObjOwn
import Derived.Test.YtblpebdjbenphaaGoneOwn
import Derived.Test.YtblpebdjbenphaaMarkSto
namespace Go.Proofs.Ytblpebdjbenphaa
open Go.ChangeShapes Go.WideShapes Go.ChangeAt Go.RowKit
set_option linter.unusedVariables false
set_option maxRecDepth 100000

/-- The slice is nil, or begins a block from 'base' on. -/
def AtB (base : Nat) (w : World) (q : Option Addr) (c : Nat) : Prop := (q = none ∧ c = 0) ∨ ∃ g, q = some ⟨g, 0, none⟩ ∧ base ≤ g ∧ g < w.heap.size
structure StoK (base : Nat) (w : World) (q1 : Option Addr) (n1 c1 : Nat) (q2 : Option Addr) (n2 c2 : Nat) (l : Objs) (m : Gones) : Prop where
  o : ObjK base w q1 l
  g : GoneK base w q2 m
  len1 : l.length = n1
  len2 : m.length = n2
  cap1 : n1 ≤ c1 ∧ c1 ≤ maxLen
  cap2 : n2 ≤ c2 ∧ c2 ≤ maxLen
  at1 : AtB base w q1 c1
  at2 : AtB base w q2 c2
  apart : ∀ g g', q1 = some ⟨g, 0, none⟩ → q2 = some ⟨g', 0, none⟩ → g ≠ g'
theorem AtB.keep {base : Nat} {w w1 : World} {q : Option Addr} {c : Nat} (h : AtB base w q c) (hB : Below w.heap.size w w1) : AtB base w1 q c := by
  rcases h with h | ⟨g, h1, h2, h3⟩
  · exact .inl h
  · exact .inr ⟨g, h1, h2, Nat.lt_of_lt_of_le h3 hB.size⟩
theorem AtB.low {base b2 : Nat} {w : World} {q : Option Addr} {c : Nat} (h : AtB base w q c) (hb : b2 ≤ base) : AtB b2 w q c := by
  rcases h with h | ⟨g, h1, h2, h3⟩
  · exact .inl h
  · exact .inr ⟨g, h1, Nat.le_trans hb h2, h3⟩
theorem AtB.ne {base : Nat} {w : World} {q : Option Addr} {c X : Nat} (h : AtB base w q c) (hX : X < base) : ∀ g, q = some ⟨g, 0, none⟩ → g ≠ X := by
  intro g hg
  rcases h with ⟨h, _⟩ | ⟨g', h1, h2, h3⟩
  · rw [h] at hg; cases hg
  · rw [h1] at hg
    simp only [Option.some.injEq, Addr.mk.injEq, and_true] at hg
    omega
theorem StoK.keep {base : Nat} {w w1 : World} {q1 q2 : Option Addr} {n1 c1 n2 c2 : Nat} {l : Objs} {m : Gones} (h : StoK base w q1 n1 c1 q2 n2 c2 l m) (hB : Below w.heap.size w w1) : StoK base w1 q1 n1 c1 q2 n2 c2 l m :=
  ⟨objk_keep h.o hB, gonek_keep h.g hB, h.len1, h.len2, h.cap1, h.cap2, h.at1.keep hB, h.at2.keep hB, h.apart⟩
theorem StoK.low {base b2 : Nat} {w : World} {q1 q2 : Option Addr} {n1 c1 n2 c2 : Nat} {l : Objs} {m : Gones} (h : StoK base w q1 n1 c1 q2 n2 c2 l m) (hb : b2 ≤ base) : StoK b2 w q1 n1 c1 q2 n2 c2 l m :=
  ⟨objk_low h.o hb, gonek_low h.g hb, h.len1, h.len2, h.cap1, h.cap2, h.at1.low hb, h.at2.low hb, h.apart⟩
theorem StoK.put {base : Nat} {w : World} {q1 q2 : Option Addr} {n1 c1 n2 c2 : Nat} {l : Objs} {m : Gones} (h : StoK base w q1 n1 c1 q2 n2 c2 l m) {X : Nat} (h1 : ∀ g, q1 = some ⟨g, 0, none⟩ → g ≠ X) (h2 : ∀ g, q2 = some ⟨g, 0, none⟩ → g ≠ X) (j : Nat) (v : Value) : StoK base (w.setCell ⟨X, j, none⟩ v) q1 n1 c1 q2 n2 c2 l m := by
  have hs : (w.setCell ⟨X, j, none⟩ v).heap.size = w.heap.size := by simp [World.setCell]
  refine ⟨objk_put h.o h1 j v, gonek_put h.g h2 j v, h.len1, h.len2, h.cap1, h.cap2, ?_, ?_, h.apart⟩
  · have := h.at1; unfold AtB at this ⊢; rw [hs]; exact this
  · have := h.at2; unfold AtB at this ⊢; rw [hs]; exact this
theorem StoK.nil (base : Nat) (w : World) : StoK base w none 0 0 none 0 0 [] [] :=
  ⟨.inl rfl, .inl rfl, rfl, rfl, ⟨Nat.le_refl _, Nat.zero_le _⟩, ⟨Nat.le_refl _, Nat.zero_le _⟩, .inl ⟨rfl, rfl⟩, .inl ⟨rfl, rfl⟩, fun g g' h => by cases h⟩
theorem objs_keys_of {l : Objs} {m : Gones} (h : StoP l m) {i : Nat} (hi : i < l.length) : (obj0 l i).size ≤ maxLen ∧ (obj2 l i).size ≤ maxLen := by
  obtain ⟨h1, _, h3⟩ := h.objs i hi
  have := key_len h1
  unfold maxLen; omega
theorem gons_keys_of {l : Objs} {m : Gones} (h : StoP l m) {i : Nat} (hi : i < m.length) : (gone0 m i).size ≤ maxLen := by
  obtain ⟨h1, _⟩ := h.gons i hi
  have := key_len h1
  unfold maxLen; omega
theorem StoK.sto {base : Nat} {w : World} {q1 q2 : Option Addr} {n1 c1 n2 c2 : Nat} {l : Objs} {m : Gones} (h : StoK base w q1 n1 c1 q2 n2 c2 l m) (hp : StoP l m) : StoAt w q1 n1 l q2 n2 m :=
  ⟨objs_of_k h.o h.len1 (Nat.le_trans h.cap1.1 h.cap1.2) (fun i hi => objs_keys_of hp (by rw [h.len1]; exact hi)), gones_of_k h.g h.len2 (Nat.le_trans h.cap2.1 h.cap2.2) (fun i hi => gons_keys_of hp (by rw [h.len2]; exact hi))⟩
/-- What a row of the call's own is good for. -/
theorem atB_own {w : World} {base : Nat} {e : TypeId} {size : Nat} {q : Option Addr} {n c : Nat} {xs : List Value} (h : w.ownsRow base e size (.slice q n c) n xs) : AtB base w q c ∧ n ≤ c ∧ c ≤ maxLen := by
  rcases h.2 with ⟨h1, h2⟩ | ⟨g, cap, cur, hv, hb, hh, h1, h2, _⟩
  · simp only [Value.slice.injEq] at h1
    obtain ⟨rfl, rfl, rfl⟩ := h1
    exact ⟨.inl ⟨rfl, rfl⟩, Nat.le_refl _, Nat.zero_le _⟩
  · simp only [Value.slice.injEq, true_and] at hv
    obtain ⟨rfl, rfl⟩ := hv
    exact ⟨.inr ⟨g, rfl, hb, lt_of_block hh⟩, h1, h2⟩
theorem own_ne {B X c n : Nat} (h : X ≠ B) : (Value.slice (some ⟨B, 0, none⟩) n c).ownBlock ≠ some X := by
  intro e
  simp only [Value.ownBlock, Option.some.injEq] at e
  exact h e.symm
theorem own_ge {B X c n : Nat} (h : X ≤ B) : ∀ i, (Value.slice (some ⟨B, 0, none⟩) n c).ownBlock = some i → X ≤ i := by
  intro i e
  simp only [Value.ownBlock, Option.some.injEq] at e
  omega
/-- .. of a row that lies from block 'base' on. -/
theorem own_ne_of {w : World} {base X : Nat} {e : TypeId} {size n : Nat} {v : Value} {xs : List Value} (h : w.ownsRow base e size v n xs) (hX : X < base) : v.ownBlock ≠ some X := fun he => by
  have := (h.lt X he).1
  omega
theorem own_ge_of {w : World} {base X : Nat} {e : TypeId} {size n : Nat} {v : Value} {xs : List Value} (h : w.ownsRow base e size v n xs) (hX : X ≤ base) : ∀ i, v.ownBlock = some i → X ≤ i := fun i he => Nat.le_trans hX (h.lt i he).1
/-- The end of a function that hands back a store, a version and a code. -/
def MadeSR (R : Els × Int × Int) (w : World) (e : Ending) (w' : World) : Prop :=
  ∃ q1 n1 c1 q2 n2 c2, e = .returned (.tuple #[.agg #[.slice q1 n1 c1, .slice q2 n2 c2], .int .i64 R.2.1, .int .i64 R.2.2]) ∧ Below w.heap.size w w' ∧ StoK w.heap.size w' q1 n1 c1 q2 n2 c2 (resO R) (resG R)
/-- .. a store and a code. -/
def MadeSD (R : Els × Int × Int) (w : World) (e : Ending) (w' : World) : Prop :=
  ∃ q1 n1 c1 q2 n2 c2, e = .returned (.tuple #[.agg #[.slice q1 n1 c1, .slice q2 n2 c2], .int .i64 R.2.2]) ∧ Below w.heap.size w w' ∧ StoK w.heap.size w' q1 n1 c1 q2 n2 c2 (resO R) (resG R)
theorem res_no {R : Els × Int × Int} (h : R.2.2 ≠ 0) : resO R = [] ∧ resG R = [] := by unfold resO resG; rw [if_neg h, if_neg h]; exact ⟨rfl, rfl⟩
theorem res_yes {R : Els × Int × Int} (h : R.2.2 = 0) : resO R = objsOf R.1 ∧ resG R = gonsOf R.1 := by unfold resO resG; rw [if_pos h, if_pos h]; exact ⟨rfl, rfl⟩
end Go.Proofs.Ytblpebdjbenphaa
