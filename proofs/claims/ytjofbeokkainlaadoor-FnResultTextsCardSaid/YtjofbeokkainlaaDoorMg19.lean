/- Texts put together, as a claim holds at most sixty files. -/
import Derived.Test.YtjofbeokkainlaaDoorMg17
import Derived.Sort.Statements
import Derived.Deep.LoopGhost
namespace Go.Proofs.YtjofbeokkainlaaDoor
open Go.ChangeShapes Go.WideShapes Go.ChangeAt Go.RowKit Go.Lib
set_option linter.unusedVariables false
set_option maxRecDepth 100000

abbrev RA := Array (ByteArray × Int)
def ltR (a b : ByteArray × Int) : Bool := lessB a.1 a.2 b.1 b.2

/-- Blocks from B on that were there are as they were. -/
def KeepB (B : Nat) (w w' : World) : Prop :=
  w.heap.size ≤ w'.heap.size ∧ ∀ b o, B ≤ b → b < w.heap.size → w'.cell? ⟨b, o, none⟩ = w.cell? ⟨b, o, none⟩ ∧ w'.frozen? ⟨b, o, none⟩ = w.frozen? ⟨b, o, none⟩
theorem KeepB.refl (B : Nat) (w : World) : KeepB B w w := ⟨Nat.le_refl _, fun _ _ _ _ => ⟨rfl, rfl⟩⟩
theorem KeepB.trans {B : Nat} {w w1 w2 : World} (h : KeepB B w w1) (k : KeepB B w1 w2) : KeepB B w w2 :=
  ⟨Nat.le_trans h.1 k.1, fun b o hb hl => ⟨((k.2 b o hb (Nat.lt_of_lt_of_le hl h.1)).1).trans (h.2 b o hb hl).1, ((k.2 b o hb (Nat.lt_of_lt_of_le hl h.1)).2).trans (h.2 b o hb hl).2⟩⟩

/-- The end of a step of the sort: what it returns, and what stands in the row. -/
def EndR (R : RA → World → Prop) (v : Value) (V : RA) (e : Ending) (w' : World) : Prop := e = .returned v ∧ R V w'

end Go.Proofs.YtjofbeokkainlaaDoor
namespace Go.Proofs.YtjofbeokkainlaaDoor
open Go.ChangeShapes Go.WideShapes Go.ChangeAt Go.RowKit Go.Lib
open Go.Sort hiding Below
set_option linter.unusedVariables false
set_option maxRecDepth 100000
variable {R : RA → World → Prop} {ra : Option Addr} {rl rc n B : Nat}

theorem ins_go {lt : (ByteArray × Int) → (ByteArray × Int) → Bool} {a j : Nat} {d : RA} (hj : a < j) (hl : lt d[j]! d[j - 1]! = true) : insInner lt a j d = insInner lt a (j - 1) (swp d j (j - 1)) := by
  cases j with
  | zero => omega
  | succ k =>
    rw [Nat.add_sub_cancel] at hl ⊢
    rw [insInner, hl, decide_eq_true hj]; rfl
theorem ins_stop {lt : (ByteArray × Int) → (ByteArray × Int) → Bool} {a j : Nat} {d : RA} (h : j ≤ a ∨ lt d[j]! d[j - 1]! = false) : insInner lt a j d = d := by
  cases j with
  | zero => rw [insInner]
  | succ k =>
    rw [Nat.add_sub_cancel] at h
    rw [insInner]
    rcases h with h | h
    · rw [decide_eq_false (by omega)]; rfl
    · rw [h, Bool.and_false]; rfl
theorem outer_go {lt : (ByteArray × Int) → (ByteArray × Int) → Bool} {a b i : Nat} {d : RA} (h : i < b) : insOuter lt a b i d = insOuter lt a b (i + 1) (insInner lt a i d) := by
  rw [insOuter, if_pos h]
theorem outer_stop {lt : (ByteArray × Int) → (ByteArray × Int) → Bool} {a b i : Nat} {d : RA} (h : ¬ i < b) : insOuter lt a b i d = d := by
  rw [insOuter, if_neg h]

theorem rev_go {i j : Nat} {d : RA} (h : i < j) : reverseLoop i j d = reverseLoop (i + 1) (j - 1) (swp d i j) := by
  rw [reverseLoop, if_pos h]
theorem rev_stop {i j : Nat} {d : RA} (h : ¬ i < j) : reverseLoop i j d = d := by
  rw [reverseLoop, if_neg h]

theorem sift_end {lt : (ByteArray × Int) → (ByteArray × Int) → Bool} {hi F root : Nat} {d : RA} (h : hi ≤ 2 * root + 1) : siftDown lt hi F root d = d := by
  rw [siftDown, dif_pos h]
theorem sift_right {lt : (ByteArray × Int) → (ByteArray × Int) → Bool} {hi F root : Nat} {d : RA} (h1 : 2 * root + 2 < hi) (h2 : lt d[F + (2 * root + 1)]! d[F + (2 * root + 2)]! = true) :
    siftDown lt hi F root d = if lt d[F + root]! d[F + (2 * root + 2)]! then siftDown lt hi F (2 * root + 2) (swp d (F + root) (F + (2 * root + 2))) else d := by
  rw [siftDown, dif_neg (by omega)]
  have h2' : lt d[F + (2 * root + 1)]! d[F + (2 * root + 1) + 1]! = true := h2
  rw [h2', decide_eq_true (show 2 * root + 1 + 1 < hi by omega), Bool.and_true, if_pos rfl]
  cases lt d[F + root]! d[F + (2 * root + 2)]! with
  | true => rw [if_neg (by simp), dif_pos h1, if_pos rfl]
  | false => rw [if_pos (by simp), if_neg (by simp)]
theorem sift_left {lt : (ByteArray × Int) → (ByteArray × Int) → Bool} {hi F root : Nat} {d : RA} (h0 : 2 * root + 1 < hi) (h1 : ¬ 2 * root + 2 < hi ∨ lt d[F + (2 * root + 1)]! d[F + (2 * root + 2)]! = false) :
    siftDown lt hi F root d = if lt d[F + root]! d[F + (2 * root + 1)]! then siftDown lt hi F (2 * root + 1) (swp d (F + root) (F + (2 * root + 1))) else d := by
  rw [siftDown, dif_neg (by omega)]
  have hc : (decide (2 * root + 1 + 1 < hi) && lt d[F + (2 * root + 1)]! d[F + (2 * root + 1) + 1]!) = false := by
    rcases h1 with h1 | h1
    · rw [decide_eq_false h1]; rfl
    · rw [show F + (2 * root + 1) + 1 = F + (2 * root + 2) from rfl, h1, Bool.and_false]
  rw [hc, if_neg (by simp)]
  cases lt d[F + root]! d[F + (2 * root + 1)]! with
  | true => rw [if_neg (by simp), if_pos rfl]
  | false => rw [if_pos (by simp), if_neg (by simp)]

end Go.Proofs.YtjofbeokkainlaaDoor
namespace Go.Proofs.YtjofbeokkainlaaDoor
open Go.ChangeShapes Go.WideShapes Go.ChangeAt Go.RowKit Go.Lib
set_option linter.unusedVariables false
set_option maxRecDepth 100000
variable {R : RA → World → Prop} {ra : Option Addr} {rl rc n B : Nat}

/-- Block c holds a count of at most K. -/
def Cnt (c K : Nat) (w : World) : Prop := ∃ s : Nat, s ≤ K ∧ w.cell? ⟨c, 0, none⟩ = some (.int .i64 s) ∧ w.frozen? ⟨c, 0, none⟩ = false
theorem Cnt.keep {c K B : Nat} {w w' : World} (h : Cnt c K w) (hB : B ≤ c) (k : KeepB B w w') : Cnt c K w' := by
  obtain ⟨s, hs, hc, hf⟩ := h
  have hl : c < w.heap.size := World.block_lt_of_cell? _ _ hc
  exact ⟨s, hs, (k.2 c 0 hB hl).1.trans hc, (k.2 c 0 hB hl).2.trans hf⟩
def Two (R : RA → World → Prop) (V : RA) (c K lo up : Nat) (e : Ending) (w' : World) : Prop :=
  ∃ x y : Nat, e = .returned (.tuple #[.int .i64 x, .int .i64 y]) ∧ lo ≤ x ∧ x < up ∧ lo ≤ y ∧ y < up ∧ R V w' ∧ Cnt c K w'
def One (R : RA → World → Prop) (V : RA) (c K lo up : Nat) (e : Ending) (w' : World) : Prop :=
  ∃ x : Nat, e = .returned (.int .i64 x) ∧ lo ≤ x ∧ x < up ∧ R V w' ∧ Cnt c K w'

/-- A pivot in the range, and a hint. -/
def Pivot (R : RA → World → Prop) (V : RA) (lo up : Nat) (e : Ending) (w' : World) : Prop :=
  ∃ (p : Nat) (h : Nat), e = .returned (.tuple #[.int .i64 p, .int .i64 h]) ∧ lo ≤ p ∧ p < up ∧ h ≤ 2 ∧ R V w'

end Go.Proofs.YtjofbeokkainlaaDoor
