
/- Slices of texts: comparing them, the laws' marks in them, and that marks are still held. Only the marked row and new blocks change. -/
import Derived.Test.YtdjfihoempjjpaaDoorMg0
import Derived.Laws.BytesArg
namespace Go.Proofs.YtdjfihoempjjpaaDoor
open Go.ChangeShapes Go.WideShapes Go.ChangeAt Go.RowKit
set_option linter.unusedVariables false
set_option maxRecDepth 100000

abbrev Strs := List ByteArray
def strAt (l : Strs) (i : Nat) : ByteArray := l.getD i ByteArray.empty

/-- The slice (a, len, cap) holds the texts l. -/
structure StrsAt (w : World) (a : Option Addr) (len : Nat) (l : Strs) : Prop where
  length : l.length = len
  max : len ≤ maxLen
  sizes : ∀ i, i < len → (strAt l i).size ≤ maxLen
  src : len = 0 ∨ ∃ b off, a = some ⟨b, off, none⟩ ∧ b < w.heap.size ∧ ∀ i, i < len → w.cell? ⟨b, off + i, none⟩ = some (.string (strAt l i))

theorem StrsAt.keep {w w1 : World} {a : Option Addr} {len : Nat} {l : Strs} (h : StrsAt w a len l) (hB : Below w.heap.size w w1) : StrsAt w1 a len l := by
  refine ⟨h.length, h.max, h.sizes, ?_⟩
  rcases h.src with h0 | ⟨b, off, ha, hb, hc⟩
  · exact .inl h0
  · exact .inr ⟨b, off, ha, Nat.lt_of_lt_of_le hb hB.size, fun i hi => (hB.cell (p := ⟨b, off + i, none⟩) hb).trans (hc i hi)⟩

def mtAux (k : Nat) (o : List UInt8) : List UInt8 := if h : k = 0 then o else mtAux (k / 10) (UInt8.ofNat (48 + k % 10) :: o)
termination_by k
decreasing_by omega
theorem mtAux_zero (o : List UInt8) : mtAux 0 o = o := by unfold mtAux; rfl
theorem mtAux_step (k : Nat) (o : List UInt8) (h : 0 < k) : mtAux k o = mtAux (k / 10) (UInt8.ofNat (48 + k % 10) :: o) := by
  rw [mtAux, dif_neg (by omega)]
/-- The text of mark number k. -/
def mtext (k : Nat) : ByteArray := ⟨#[109]⟩ ++ ⟨(mtAux k []).toArray⟩

theorem digit_cons (K : Nat) (O : ByteArray) : (strOfNums [(48 : Int) + (K : Int) % 10] ++ O).data.toList = UInt8.ofNat (48 + K % 10) :: O.data.toList := by
  have e : ((48 : Int) + (K : Int) % 10).toNat = 48 + K % 10 := by omega
  simp [strOfNums, e]
theorem mtext_of (O : ByteArray) (k0 : Nat) (h : mtAux 0 O.data.toList = mtAux k0 []) : (⟨#[109]⟩ : ByteArray) ++ O = mtext k0 := by
  unfold mtext
  rw [← h, mtAux_zero]

def MadeStr (s : ByteArray) (w : World) (e : Ending) (w' : World) : Prop := e = .returned (.string s) ∧ Below w.heap.size w w'

set_option maxHeartbeats 1000000 in
theorem marktext_any (k0 : Nat) (w : World) (h1 : 1 ≤ k0) (h2 : k0 ≤ 1099511627776) :
    Calls Tryd.prog 65 #[.int .i64 k0] w (MadeStr (mtext k0) w) := by
  have kc : ∀ (wx : World) (y : Int), (convert 54 9 (.slice (some ⟨wx.heap.size, 0, none⟩) 1 1)).run Tryd.prog (wx.alloc (.cells #[.int .u8 y] 5)) = .ok (.string (strOfNums [y])) (wx.alloc (.cells #[.int .u8 y] 5)) := fun wx y =>
    run_convert_bytes_arg _ _ _ Tryd.underlying54 Tryd.underlying5 wx.heap.size 0 1 1 [y] rfl (fun i hi => by
      obtain rfl : i = 0 := by omega
      exact cell_of_one (heap_alloc_new _ _)) _ Tryd.underlying9
  have hn : ¬ (k0 : Int) ≤ 0 := by omega
  go_enter Tryd.func65, Tryd.ntmps65
  go_wp2
  go_loopw [0, 3] (fun t o wr => ∃ (K : Nat) (O : ByteArray), t = .int .i64 K ∧ o = .string O ∧ O.size + K ≤ k0 ∧ Hid (Below w.heap.size w wr ∧ mtAux K O.data.toList = mtAux k0 [])) (fun t _ _ => (intOf t).toNat)
  case atStart => exact ⟨k0, ByteArray.empty, rfl, rfl, by show 0 + k0 ≤ k0; omega, Below.refl _ _, rfl⟩
  case round =>
    obtain ⟨K, O, rfl, rfl, hsz, HW⟩ := hrel
    by_cases hK : 0 < K
    · have hb1 : 0 ≤ (48 : Int) + (K : Int) % 10 := by omega
      have hb2 : (48 : Int) + (K : Int) % 10 ≤ 57 := by omega
      have hso : (strOfNums [(48 : Int) + (K : Int) % 10]).size ≤ 1 := Nat.le_refl 1
      have hdig := Lib.hid (digit_cons K O)
      go_wp2
      go_roundw
      case rel => exact ⟨K / 10, _, by go_num, rfl, by rw [ByteArray.size_append]; omega, below_alloc HW.out.1 _, by rw [hdig.out, ← mtAux_step _ _ hK]; exact HW.out.2⟩
      case measure => simp [intOf]; omega
    · obtain rfl : K = 0 := by omega
      have HO := Lib.hid (mtext_of O k0 HW.out.2)
      go_wp2
      go_ret
      exact ⟨congrArg (fun s => Ending.returned (.string s)) HO.out, HW.out.1⟩

/-- Row B holds the marks from number k0 on in its first n cells. -/
def Marked (cur : Array Value) (k0 n : Nat) : Prop := ∀ j, j < n → cur[j]? = some (.string (mtext (k0 + j)))
/-- The end of marking: the next number; the row is marked; nothing else that was there has changed. -/
def MadeMarks (B : Nat) (E : TypeId) (k0 len n : Nat) (w : World) (e : Ending) (w' : World) : Prop :=
  e = .returned (.int .i64 ((k0 + len : Nat) : Int)) ∧ w.grownBy w' (some B) ∧ ∃ cur, Row w' B E cur ∧ cur.size = n ∧ Marked cur k0 len

theorem Marked.step {cur : Array Value} {k0 k : Nat} (h : Marked cur k0 k) (hk : k < cur.size) : Marked (cur.setIfInBounds k (.string (mtext (k0 + k)))) k0 (k + 1) := by
  intro j hj
  rcases Nat.lt_or_ge j k with hlt | hge
  · rw [Array.getElem?_setIfInBounds_ne (by omega)]; exact h j hlt
  · obtain rfl : j = k := by omega
    simp [hk]

end Go.Proofs.YtdjfihoempjjpaaDoor
