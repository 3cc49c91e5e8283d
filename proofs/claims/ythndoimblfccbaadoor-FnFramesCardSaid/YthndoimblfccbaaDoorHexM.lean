
/- Bytes as two digits each, as plain texts. -/
import Derived.Test.YthndoimblfccbaaDoorOwn
import Derived.Lib.Strings
namespace Go.Proofs.YthndoimblfccbaaDoor
open Go.ChangeShapes Go.WideShapes Go.ChangeAt Go.RowKit
set_option linter.unusedVariables false
set_option maxRecDepth 100000

def hexD (n : Nat) : Int := if n < 10 then 48 + (n : Int) else 87 + (n : Int)
theorem hexD_bd (n : Nat) (h : n < 16) : 48 ≤ hexD n ∧ hexD n ≤ 102 := by unfold hexD; split <;> omega
def byteN (s : ByteArray) (k : Nat) : Nat := (s.data.toList.getD k 0).toNat
theorem byteN_at {s : ByteArray} {k : Nat} (h : k < s.size) : byteN s k = s[k].toNat := by
  unfold byteN
  rw [List.getD_eq_getElem?_getD, List.getElem?_eq_getElem (by simpa using h)]
  rfl
def hexTo (s : ByteArray) : Nat → List Int
  | 0 => []
  | k + 1 => hexTo s k ++ [hexD (byteN s k / 16), hexD (byteN s k % 16)]
theorem hexTo_len (s : ByteArray) : ∀ k, (hexTo s k).length = 2 * k
  | 0 => rfl
  | k + 1 => by rw [hexTo, List.length_append, hexTo_len s k]; simp; omega
def dataB (s : ByteArray) : ByteArray := if s.size = 0 then ⟨#[45]⟩ else strOfNums (hexTo s s.size)

/-- The bytes so far in a row of the call's own. -/
def byteCs (X : List Int) : List Value := X.map fun x => Value.int .u8 x
structure HexSt (w wr : World) (v : Value) (n : Nat) (X : List Int) : Prop where
  own : wr.ownsRow w.heap.size 5 1 v n (byteCs X)
  length : X.length = n
  below : Below w.heap.size w wr
theorem hex_own_some {w : World} {base n cp : Nat} {e : TypeId} {q : Option Addr} {xs : List Value} (h : w.ownsRow base e 1 (.slice q n cp) n xs) (hn : 0 < n) : ∃ g, q = some ⟨g, 0, none⟩ := by
  rcases h.2 with ⟨h1, h2⟩ | ⟨g, cap, cur, hv, _⟩
  · simp only [Value.slice.injEq] at h1; omega
  · simp only [Value.slice.injEq] at hv
    exact ⟨g, hv.1⟩
theorem HexSt.text {w wr : World} {q : Option Addr} {n cp : Nat} {X : List Int} (h : HexSt w wr (.slice q n cp) n X) (hn : 0 < n) :
    (convert 29 9 (.slice q n cp)).run Tryd.prog wr = .ok (.string (strOfNums X)) wr := by
  obtain ⟨g, rfl⟩ := hex_own_some h.own hn
  exact run_convert_bytes_arg _ _ _ Tryd.underlying29 Tryd.underlying5 g 0 n cp X h.length (fun i hi => by
    rw [Nat.zero_add]
    have hl := h.length
    have hiX : i < X.length := by omega
    rw [h.own.cellAt i (by omega)]
    rw [List.getD_eq_getElem?_getD]
    simp [byteCs, hiX]) _ Tryd.underlying9
theorem HexSt.add {w wr w1 : World} {v v' : Value} {n : Nat} {X Y : List Int} (h : HexSt w wr v n X) (hown : w1.ownsRow w.heap.size 5 1 v' (n + Y.length) (byteCs X ++ byteCs Y)) (hB : Below w.heap.size w w1) : HexSt w w1 v' (n + Y.length) (X ++ Y) :=
  ⟨by simpa [byteCs] using hown, by simp [h.length], hB⟩
theorem two_new (w : World) (x y : Value) (t : TypeId) : ∀ j u, [x, y][j]? = some u → (w.alloc (.cells #[x, y] t)).cell? ((⟨w.heap.size, 0, none⟩ : Addr).add j) = some u := by
  intro j u hj
  match j, hj with
  | 0, hj => simp at hj; subst hj; simp [Addr.add]
  | 1, hj => simp at hj; subst hj; simp [Addr.add]
theorem infoByteX : ∃ i0, Tryd.prog.info? 5 = some i0 ∧ i0.zero = some (.int .u8 0) ∧ i0.size = 1 ∧ i0.bytes = 1 := by
  have h : (Tryd.prog.info? 5).map (fun i => (i.zero, i.size, i.bytes)) = some (some (.int .u8 0), 1, 1) := by kernel_rfl
  obtain ⟨i, hi, he⟩ := Option.map_eq_some_iff.1 h
  simp only [Prod.mk.injEq] at he
  exact ⟨i, hi, he.1, he.2.1, he.2.2⟩
theorem byte_ok (X : List Int) : ∀ u ∈ byteCs X, u.oneCell' = true := by
  intro u hu
  obtain ⟨x, _, rfl⟩ := List.mem_map.1 hu
  rfl
end Go.Proofs.YthndoimblfccbaaDoor
