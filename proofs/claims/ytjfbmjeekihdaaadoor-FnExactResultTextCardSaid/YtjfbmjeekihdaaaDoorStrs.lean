
/- Slices of texts: comparing them, the laws' marks in them, and that marks are still held. Only the marked row and new blocks change. -/
import Derived.Test.YtjfbmjeekihdaaaDoorRow
import Derived.Laws.BytesArg
namespace Go.Proofs.YtjfbmjeekihdaaaDoor
open Go.ChangeShapes Go.WideShapes Go.ChangeAt Go.RowKit
set_option linter.unusedVariables false
set_option maxRecDepth 100000

abbrev Strs := List ByteArray
def strAt (l : Strs) (i : Nat) : ByteArray := l.getD i ByteArray.empty

/-- The slice (a, len, cap) holds the texts l. -/
structure StrsAt (w : World) (a : Option Addr) (len : Nat) (l : Strs) : Prop where
  length : l.length = len
  max : len ≤ maxLen
  sizes : ∀ i, i < len → (strAt l i).size ≤ maxLen
  src : len = 0 ∨ ∃ b off, a = some ⟨b, off, none⟩ ∧ b < w.heap.size ∧ ∀ i, i < len → w.cell? ⟨b, off + i, none⟩ = some (.string (strAt l i))

theorem StrsAt.keep {w w1 : World} {a : Option Addr} {len : Nat} {l : Strs} (h : StrsAt w a len l) (hB : Below w.heap.size w w1) : StrsAt w1 a len l := by
  refine ⟨h.length, h.max, h.sizes, ?_⟩
  rcases h.src with h0 | ⟨b, off, ha, hb, hc⟩
  · exact .inl h0
  · exact .inr ⟨b, off, ha, Nat.lt_of_lt_of_le hb hB.size, fun i hi => (hB.cell (p := ⟨b, off + i, none⟩) hb).trans (hc i hi)⟩

def mtAux (k : Nat) (o : List UInt8) : List UInt8 := if h : k = 0 then o else mtAux (k / 10) (UInt8.ofNat (48 + k % 10) :: o)
termination_by k
decreasing_by omega
theorem mtAux_zero (o : List UInt8) : mtAux 0 o = o := by unfold mtAux; rfl
theorem mtAux_step (k : Nat) (o : List UInt8) (h : 0 < k) : mtAux k o = mtAux (k / 10) (UInt8.ofNat (48 + k % 10) :: o) := by
  rw [mtAux, dif_neg (by omega)]
/-- The text of mark number k. -/
def mtext (k : Nat) : ByteArray := ⟨#[109]⟩ ++ ⟨(mtAux k []).toArray⟩

theorem digit_cons (K : Nat) (O : ByteArray) : (strOfNums [(48 : Int) + (K : Int) % 10] ++ O).data.toList = UInt8.ofNat (48 + K % 10) :: O.data.toList := by
  have e : ((48 : Int) + (K : Int) % 10).toNat = 48 + K % 10 := by omega
  simp [strOfNums, e]
theorem mtext_of (O : ByteArray) (k0 : Nat) (h : mtAux 0 O.data.toList = mtAux k0 []) : (⟨#[109]⟩ : ByteArray) ++ O = mtext k0 := by
  unfold mtext
  rw [← h, mtAux_zero]

def MadeStr (s : ByteArray) (w : World) (e : Ending) (w' : World) : Prop := e = .returned (.string s) ∧ Below w.heap.size w w'

/-- Row B holds the marks from number k0 on in its first n cells. -/
def Marked (cur : Array Value) (k0 n : Nat) : Prop := ∀ j, j < n → cur[j]? = some (.string (mtext (k0 + j)))
/-- The end of marking: the next number; the row is marked; nothing else that was there has changed. -/
def MadeMarks (B : Nat) (E : TypeId) (k0 len n : Nat) (w : World) (e : Ending) (w' : World) : Prop :=
  e = .returned (.int .i64 ((k0 + len : Nat) : Int)) ∧ w.grownBy w' (some B) ∧ ∃ cur, Row w' B E cur ∧ cur.size = n ∧ Marked cur k0 len

theorem Marked.step {cur : Array Value} {k0 k : Nat} (h : Marked cur k0 k) (hk : k < cur.size) : Marked (cur.setIfInBounds k (.string (mtext (k0 + k)))) k0 (k + 1) := by
  intro j hj
  rcases Nat.lt_or_ge j k with hlt | hge
  · rw [Array.getElem?_setIfInBounds_ne (by omega)]; exact h j hlt
  · obtain rfl : j = k := by omega
    simp [hk]

end Go.Proofs.YtjfbmjeekihdaaaDoor
