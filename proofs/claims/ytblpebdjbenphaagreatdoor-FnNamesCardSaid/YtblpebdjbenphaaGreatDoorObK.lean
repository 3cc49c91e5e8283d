
/- What the commands of the program's store in use may turn: its own three blocks. -/
import Derived.Test.YtblpebdjbenphaaGreatDoorObs
import Derived.Test.YtblpebdjbenphaaGreatDoorSchT
import Derived.Test.YtblpebdjbenphaaGreatDoorMg6
namespace Go.Proofs.YtblpebdjbenphaaGreatDoor
open Go.ChangeShapes Go.WideShapes Go.ChangeAt Go.RowKit
set_option linter.unusedVariables false
set_option maxRecDepth 100000

/-- Only blocks B, b, that of the keys, and new ones. -/
structure Turn (B b : Nat) (q : Option Addr) (w w' : World) : Prop where
  os : w'.os = w.os
  tape : w'.tape = w.tape
  output : w'.output = w.output
  size : w.heap.size ≤ w'.heap.size
  block : ∀ i, i < w.heap.size → i ≠ B → i ≠ b → (∀ a, q = some a → a.block ≠ i) → w'.heap[i]? = w.heap[i]?
theorem Turn.refl (B b : Nat) (q : Option Addr) (w : World) : Turn B b q w w := ⟨rfl, rfl, rfl, Nat.le_refl _, fun _ _ _ _ _ => rfl⟩
theorem Turn.below {B b : Nat} {q : Option Addr} {w w1 w2 : World} (h : Turn B b q w w1) (k : Below w1.heap.size w1 w2) : Turn B b q w w2 :=
  ⟨k.os.trans h.os, k.tape.trans h.tape, k.output.trans h.output, Nat.le_trans h.size k.size, fun i hi h1 h2 h3 => (k.block i (Nat.lt_of_lt_of_le hi h.size)).trans (h.block i hi h1 h2 h3)⟩
theorem Turn.drew {B b : Nat} {q : Option Addr} {w w1 : World} (h : Turn B b q w w1) : Turn B b q w w1.drew := ⟨h.os, h.tape, h.output, h.size, h.block⟩
theorem Turn.al {B b : Nat} {q : Option Addr} {w w1 : World} (h : Turn B b q w w1) (o : Obj) : Turn B b q w (w1.alloc o) := h.below (below_alloc (Below.refl _ _) o)
theorem Turn.grownMap {B b : Nat} {q : Option Addr} {w w1 w2 : World} (h : Turn B b q w w1) (k : w1.grownBy w2 (some b)) : Turn B b q w w2 :=
  ⟨k.os.trans h.os, k.tape.trans h.tape, k.output.trans h.output, Nat.le_trans h.size k.size, fun i hi h1 h2 h3 => (k.block i (Nat.lt_of_lt_of_le hi h.size) (fun he => h2 (Option.some.inj he))).trans (h.block i hi h1 h2 h3)⟩
theorem Turn.grownKeys {B b n c : Nat} {q : Option Addr} {w w1 w2 : World} (h : Turn B b q w w1) (k : w1.grownBy w2 (Value.slice q n c).ownBlock) : Turn B b q w w2 :=
  ⟨k.os.trans h.os, k.tape.trans h.tape, k.output.trans h.output, Nat.le_trans h.size k.size, fun i hi h1 h2 h3 => (k.block i (Nat.lt_of_lt_of_le hi h.size) (fun he => by
    cases q with
    | none => cases he
    | some a => simp only [Value.ownBlock, Option.some.injEq] at he; exact h3 a rfl he.symm)).trans (h.block i hi h1 h2 h3)⟩
theorem Turn.set {B b : Nat} {q : Option Addr} {w w1 : World} (h : Turn B b q w w1) (j : Nat) (v : Value) : Turn B b q w (w1.setCell ⟨B, j, none⟩ v) :=
  ⟨h.os, h.tape, h.output, by have := h.size; simpa [World.setCell] using this, fun i hi h1 h2 h3 => (Below.heap_setCell _ _ _ _ h1).trans (h.block i hi h1 h2 h3)⟩
/-- Two commands, one after another: the keys may have moved to a block that was not there. -/
theorem Turn.trans {B b : Nat} {q q2 : Option Addr} {w w1 w2 : World} (h : Turn B b q w w1) (k : Turn B b q2 w1 w2) (hq : ∀ a, q2 = some a → q = some a ∨ w.heap.size ≤ a.block) : Turn B b q w w2 :=
  ⟨k.os.trans h.os, k.tape.trans h.tape, k.output.trans h.output, Nat.le_trans h.size k.size, fun i hi h1 h2 h3 => (k.block i (Nat.lt_of_lt_of_le hi h.size) h1 h2 (fun a ha => by
    rcases hq a ha with h | h
    · exact h3 a h
    · omega)).trans (h.block i hi h1 h2 h3)⟩
theorem Turn.low {B b base : Nat} {q : Option Addr} {w0 w w1 : World} (h : Turn B b q w w1) (k : Below base w0 w) (hw : base ≤ w.heap.size) (hB : base ≤ B) (hb : base ≤ b) (hq : ∀ a, q = some a → base ≤ a.block) : Below base w0 w1 :=
  k.trans ⟨h.os, h.tape, h.output, h.size, fun i hi => h.block i (by omega) (by omega) (by omega) (fun a ha => by have := hq a ha; omega)⟩
theorem Turn.row {B b X : Nat} {q : Option Addr} {w w1 : World} {T : TypeId} {cur : Array Value} (h : Turn B b q w w1) (r : Row w X T cur) (h1 : X ≠ B) (h2 : X ≠ b) (h3 : ∀ a, q = some a → a.block ≠ X) : Row w1 X T cur := by
  unfold Row at r ⊢
  rw [← r]; exact h.block X (Array.getElem?_eq_some_iff.1 r).1 h1 h2 h3
theorem keys_ge {base : Nat} {w : World} {q : Option Addr} {n c : Nat} {e : TypeId} {sz : Nat} {xs : List Value} (h : w.ownsRow base e sz (.slice q n c) n xs) : ∀ a, q = some a → base ≤ a.block ∧ a.block < w.heap.size := by
  intro a ha
  subst ha
  exact h.lt a.block rfl
/-- The addresses of the errors lie below the law's start. -/
structure Low (base : Nat) (A : ErrA) (w : World) : Prop where
  tab : TabsEA A w
  g0 : 0 < base
  g1 : 1 < base
  g2 : 2 < base
  g3 : 3 < base
  g4 : 4 < base
  a0 : A.form.block < base
  a1 : A.there.block < base
  a2 : A.full.block < base
  a3 : A.missing.block < base
  a4 : A.ver.block < base
theorem ErrAt.keepB {base : Nat} {w w1 : World} {a : Addr} (h : ErrAt w a) (ha : a.block < base) (hB : Below base w w1) : ErrAt w1 a := by
  obtain ⟨c, t, h⟩ := h
  exact ⟨c, t, (hB.block _ ha).trans h⟩
theorem Low.keep {base : Nat} {A : ErrA} {w w1 : World} (h : Low base A w) (hB : Below base w w1) : Low base A w1 := by
  refine ⟨⟨(hB.cell h.g0).trans h.tab.c0, (hB.cell h.g1).trans h.tab.c1, (hB.cell h.g2).trans h.tab.c2, (hB.cell h.g3).trans h.tab.c3, (hB.cell h.g4).trans h.tab.c4,
    h.tab.e0.keepB h.a0 hB, h.tab.e1.keepB h.a1 hB, h.tab.e2.keepB h.a2 hB, h.tab.e3.keepB h.a3 hB, h.tab.e4.keepB h.a4 hB, h.tab.n01, h.tab.n02, h.tab.n03, h.tab.n04, h.tab.n12, h.tab.n13, h.tab.n14, h.tab.n23, h.tab.n24, h.tab.n34⟩, h.g0, h.g1, h.g2, h.g3, h.g4, h.a0, h.a1, h.a2, h.a3, h.a4⟩
theorem Low.turn {base B b : Nat} {q : Option Addr} {A : ErrA} {w w1 : World} (h : Low base A w) (t : Turn B b q w w1) (hw : base ≤ w.heap.size) (hB : base ≤ B) (hb : base ≤ b) (hq : ∀ a, q = some a → base ≤ a.block) : Low base A w1 :=
  h.keep (t.low (Below.refl _ _) hw hB hb hq)
theorem Low.of {A : ErrA} {w : World} (h : TabsEA A w) : Low w.heap.size A w :=
  ⟨h, World.block_lt_of_cell? _ _ h.c0, World.block_lt_of_cell? _ _ h.c1, World.block_lt_of_cell? _ _ h.c2, World.block_lt_of_cell? _ _ h.c3, World.block_lt_of_cell? _ _ h.c4, h.e0.lt, h.e1.lt, h.e2.lt, h.e3.lt, h.e4.lt⟩
end Go.Proofs.YtblpebdjbenphaaGreatDoor
