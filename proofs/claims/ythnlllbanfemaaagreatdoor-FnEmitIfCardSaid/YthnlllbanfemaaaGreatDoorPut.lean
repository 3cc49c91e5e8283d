
/- The program's writer of records: a byte, a record. Only the writer's position, the bytes behind it and new blocks change. -/
import Derived.Test.YthnlllbanfemaaaGreatDoorRs
import Derived.StillTailTactics
import Derived.Deep.RegionLaw
import Derived.Lib.LazyBuf
import Derived.Deep.DeepCutAuto
namespace Go.Proofs.YthnlllbanfemaaaGreatDoor
open Go.ChangeShapes Go.WideShapes Go.ChangeAt Go.RowKit
set_option linter.unusedVariables false
set_option maxRecDepth 100000

/-- Only blocks b and g have changed, and new ones are there. -/
structure Two (b g : Nat) (w w' : World) : Prop where
  os : w'.os = w.os
  tape : w'.tape = w.tape
  output : w'.output = w.output
  size : w.heap.size ≤ w'.heap.size
  block : ∀ k, k < w.heap.size → k ≠ b → k ≠ g → w'.heap[k]? = w.heap[k]?
theorem Two.refl (b g : Nat) (w : World) : Two b g w w := ⟨rfl, rfl, rfl, Nat.le_refl _, fun _ _ _ _ => rfl⟩
theorem Two.trans {b g : Nat} {w w1 w2 : World} (h : Two b g w w1) (k : Two b g w1 w2) : Two b g w w2 :=
  ⟨k.os.trans h.os, k.tape.trans h.tape, k.output.trans h.output, Nat.le_trans h.size k.size, fun i hi h1 h2 => (k.block i (Nat.lt_of_lt_of_le hi h.size) h1 h2).trans (h.block i hi h1 h2)⟩
theorem Two.below {b g : Nat} {w w1 w2 : World} (h : Two b g w w1) (k : Below w1.heap.size w1 w2) : Two b g w w2 :=
  ⟨k.os.trans h.os, k.tape.trans h.tape, k.output.trans h.output, Nat.le_trans h.size k.size, fun i hi h1 h2 => (k.block i (Nat.lt_of_lt_of_le hi h.size)).trans (h.block i hi h1 h2)⟩
theorem Two.setB {b g : Nat} {w w1 : World} (h : Two b g w w1) (j : Nat) (v : Value) : Two b g w (w1.setCell ⟨b, j, none⟩ v) :=
  ⟨h.os, h.tape, h.output, by have := h.size; simpa [World.setCell] using this, fun k hk h1 h2 => (Below.heap_setCell _ _ _ _ h1).trans (h.block k hk h1 h2)⟩
theorem Two.setG {b g : Nat} {w w1 : World} (h : Two b g w w1) (j : Nat) (v : Value) : Two b g w (w1.setCell ⟨g, j, none⟩ v) :=
  ⟨h.os, h.tape, h.output, by have := h.size; simpa [World.setCell] using this, fun k hk h1 h2 => (Below.heap_setCell _ _ _ _ h2).trans (h.block k hk h1 h2)⟩
theorem Two.setCells {b g : Nat} {w : World} : ∀ (vs : List Value) (o : Nat) (w1 : World), Two b g w w1 → Two b g w (w1.setCells g o vs)
  | [], _, _, h => h
  | v :: r, o, w1, h => Two.setCells r (o + 1) _ (h.setG o v)
theorem Two.toBelow {b g B : Nat} {w0 w w' : World} (h : Two b g w w') (hB : Below B w0 w) (h1 : B ≤ b) (h2 : B ≤ g) (h3 : B ≤ w.heap.size) : Below B w0 w' :=
  ⟨h.os.trans hB.os, h.tape.trans hB.tape, h.output.trans hB.output, Nat.le_trans hB.size h.size, fun k hk => (h.block k (Nat.lt_of_lt_of_le hk h3) (by omega) (by omega)).trans (hB.block k hk)⟩
theorem Row.two {w w1 : World} {B b g : Nat} {E : TypeId} {cur : Array Value} (h : Row w B E cur) (hT : Two b g w w1) (h1 : B ≠ b) (h2 : B ≠ g) : Row w1 B E cur := (hT.block B h.lt h1 h2).trans h

/-- The first cells of the row are the numbers X. -/
def Pre (cur : Array Value) (X : List Int) : Prop := ∀ i (h : i < X.length), cur[i]? = some (.int .u8 X[i])
theorem pre_set {cur : Array Value} {X : List Int} (h : Pre cur X) (hs : X.length < cur.size) (x : Int) : Pre (cur.setIfInBounds X.length (.int .u8 x)) (X ++ [x]) := by
  intro i hi
  simp at hi
  rcases Nat.lt_or_ge i X.length with hl | hl
  · rw [Array.getElem?_setIfInBounds_ne (by omega), h i hl, List.getElem_append_left hl]
  · obtain rfl : i = X.length := by omega
    simp [hs]
def putAll : List Value → Nat → Array Value → Array Value
  | [], _, cur => cur
  | v :: r, o, cur => putAll r (o + 1) (cur.setIfInBounds o v)
theorem putAll_size : ∀ (vs : List Value) (o : Nat) (cur : Array Value), (putAll vs o cur).size = cur.size
  | [], _, _ => rfl
  | v :: r, o, cur => by rw [putAll, putAll_size r]; simp
theorem row_setCells {E : TypeId} {g : Nat} : ∀ (vs : List Value) (o : Nat) (w : World) (cur : Array Value), Row w g E cur → Row (w.setCells g o vs) g E (putAll vs o cur)
  | [], _, _, _, h => h
  | v :: r, o, w, cur, h => row_setCells r (o + 1) _ _ (h.set o v)
theorem row_setCells_other {E : TypeId} {b g : Nat} (hne : b ≠ g) : ∀ (vs : List Value) (o : Nat) (w : World) (cur : Array Value), Row w b E cur → Row (w.setCells g o vs) b E cur
  | [], _, _, _, h => h
  | v :: r, o, w, cur, h => row_setCells_other hne r (o + 1) _ _ (h.other hne o v)
def ints (l : List UInt8) : List Int := l.map fun x => (x.toNat : Int)
theorem pre_putAll : ∀ (l : List UInt8) (cur : Array Value) (X : List Int), Pre cur X → X.length + l.length ≤ cur.size → Pre (putAll (l.map fun x => Value.int .u8 (x.toNat : Int)) X.length cur) (X ++ ints l)
  | [], cur, X, h, _ => by simpa [putAll, ints] using h
  | c :: l, cur, X, h, hs => by
    have h1 := pre_set h (by simp at hs; omega) (c.toNat : Int)
    have h2 := pre_putAll l _ _ h1 (by simp at hs ⊢; omega)
    simp only [List.map_cons, putAll, ints, List.length_append, List.length_cons, List.length_nil] at h2 ⊢
    simpa using h2

theorem row_cellP {w : World} {B : Nat} {E : TypeId} {cur : Array Value} {j : Nat} {v : Value} (h : Row w B E cur) (e : cur[j]? = some v) : w.cell? ⟨B, j, none⟩ = some v := by
  unfold Row at h; simp [World.cell?, h, e]
def wordK (n : Int) : Nat → Int
  | 0 => IntKind.u64.wrap n
  | k + 1 => wordK n k / 256
def bytesK (n : Int) : Nat → List Int
  | 0 => []
  | k + 1 => bytesK n k ++ [wordK n k % 256]
theorem bytesK_len (n : Int) : ∀ k, (bytesK n k).length = k
  | 0 => rfl
  | k + 1 => by simp [bytesK, bytesK_len n k]
/-- The bytes of a record. -/
def recN (s : ByteArray) (n : Int) : List Int := [(s.size : Int)] ++ ints s.data.toList ++ bytesK n 8
theorem recN_len (s : ByteArray) (n : Int) : (recN s n).length = s.size + 9 := by simp [recN, ints, bytesK_len]

end Go.Proofs.YthnlllbanfemaaaGreatDoor
