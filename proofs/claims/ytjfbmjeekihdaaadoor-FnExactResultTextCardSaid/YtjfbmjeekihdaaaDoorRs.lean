
/- Slices of records that lie in rows of their own: they stay while other rows are marked; the laws' marks in them. Only the marked row and new blocks change. -/
import Derived.Test.YtjfbmjeekihdaaaDoorRuns2
import Derived.Test.YtjfbmjeekihdaaaDoorStrs
import Derived.Test.YtjfbmjeekihdaaaDoorOwn
namespace Go.Proofs.YtjfbmjeekihdaaaDoor
open Go.ChangeShapes Go.WideShapes Go.ChangeAt Go.RowKit
set_option linter.unusedVariables false
set_option maxRecDepth 100000

def cellsL (W : Recs) : List Value := W.flatMap fun r => [Value.string r.1, Value.int .i64 r.2]
theorem cellsL_nil : cellsL [] = [] := rfl
theorem cellsL_snoc (W : Recs) (s : ByteArray) (n : Int) : cellsL (W ++ [(s, n)]) = cellsL W ++ [.string s, .int .i64 n] := by simp [cellsL]
theorem cellsL_append (W V : Recs) : cellsL (W ++ V) = cellsL W ++ cellsL V := by simp [cellsL]
theorem cellsL_len : ∀ W : Recs, (cellsL W).length = W.length * 2
  | [] => rfl
  | r :: t => by
    have := cellsL_len t
    simp only [cellsL] at this
    simp [cellsL, List.flatMap_cons, this]; omega
theorem cellsL_get : ∀ (W : Recs) (j : Nat), j < W.length → (cellsL W)[j * 2]? = some (.string (keyAt W j)) ∧ (cellsL W)[j * 2 + 1]? = some (.int .i64 (numAt W j))
  | [], j, h => by simp at h
  | r :: t, 0, h => by simp [cellsL, keyAt, numAt]
  | r :: t, j + 1, h => by
    have := cellsL_get t j (by simpa using h)
    have e : (j + 1) * 2 = j * 2 + 1 + 1 := by omega
    simp only [cellsL] at this
    rw [e]
    simp only [cellsL, List.flatMap_cons, List.cons_append, List.nil_append, List.getElem?_cons_succ]
    simpa [keyAt, numAt] using this

theorem two_new (w : World) (x y : Value) (t : TypeId) : ∀ j u, [x, y][j]? = some u → (w.alloc (.cells #[x, y] t)).cell? ((⟨w.heap.size, 0, none⟩ : Addr).add j) = some u := by
  intro j u hj
  match j, hj with
  | 0, hj => simp at hj; subst hj; simp [Addr.add]
  | 1, hj => simp at hj; subst hj; simp [Addr.add]
theorem two_new1 (w : World) (o : Obj) (x y : Value) (t : TypeId) : ∀ j u, [x, y][j]? = some u → ((w.alloc o).alloc (.cells #[x, y] t)).cell? ((⟨w.heap.size + 1, 0, none⟩ : Addr).add j) = some u := by
  have h := two_new (w.alloc o) x y t
  have e : (w.alloc o).heap.size = w.heap.size + 1 := by simp
  rw [e] at h
  exact h
theorem two_cells (s : ByteArray) (n : Int) : ∀ u ∈ [Value.string s, Value.int .i64 n], u.oneCell' = true := by
  intro u hu
  simp at hu
  rcases hu with rfl | rfl
  · rfl
  · rfl

/-- The slice (q, length of W) holds the records W in a row from block 'base' on. -/
def Rs (base : Nat) (w : World) (q : Option Addr) (W : Recs) : Prop :=
  W.length = 0 ∨ ∃ g cur, q = some ⟨g, 0, none⟩ ∧ base ≤ g ∧ Row w g 46 cur ∧ W.length * 2 ≤ cur.size ∧ Laid cur W W.length

theorem rs_of_own {base : Nat} {w : World} {q : Option Addr} {cp : Nat} {W : Recs} (h : w.ownsRow base 46 2 (.slice q W.length cp) W.length (cellsL W)) : Rs base w q W := by
  rcases h.2 with ⟨h1, h2⟩ | ⟨g, cap, cur, hv, hb, hh, h1, _, h3, h4⟩
  · simp only [Value.slice.injEq] at h1; exact .inl h1.2.1
  · simp only [Value.slice.injEq, true_and] at hv
    obtain ⟨rfl, rfl⟩ := hv
    refine .inr ⟨g, cur, rfl, hb, hh, by omega, fun j hj => ?_⟩
    obtain ⟨e1, e2⟩ := cellsL_get W j hj
    rw [← h4, List.getElem?_take_of_lt (by omega)] at e1 e2
    exact ⟨by simpa using e1, by simpa using e2⟩
theorem rs_keep {base : Nat} {w w1 : World} {q : Option Addr} {W : Recs} (h : Rs base w q W) (hB : Below w.heap.size w w1) : Rs base w1 q W := by
  rcases h with h0 | ⟨g, cur, rfl, hb, hr, h1, h2⟩
  · exact .inl h0
  · exact .inr ⟨g, cur, rfl, hb, hr.keep hB, h1, h2⟩
theorem rs_lt {base : Nat} {w : World} {q : Option Addr} {W : Recs} (h : Rs base w q W) (hn : 0 < W.length) : ∀ g, q = some ⟨g, 0, none⟩ → base ≤ g ∧ g < w.heap.size := by
  intro g hg
  rcases h with h0 | ⟨g', cur, rfl, hb, hr, h1, h2⟩
  · omega
  · simp only [Option.some.injEq, Addr.mk.injEq, and_true] at hg
    rw [← hg]; exact ⟨hb, hr.lt⟩
theorem rs_grown {base g : Nat} {w w1 : World} {q : Option Addr} {W : Recs} (h : Rs base w q W) (hg : w.grownBy w1 (some g)) (hne : 0 < W.length → ∀ g', q = some ⟨g', 0, none⟩ → g' ≠ g) : Rs base w1 q W := by
  rcases h with h0 | ⟨g', cur, rfl, hb, hr, h1, h2⟩
  · exact .inl h0
  · by_cases h0 : W.length = 0
    · exact .inl h0
    · exact .inr ⟨g', cur, rfl, hb, (hg.block g' hr.lt (by simpa using hne (by omega) g' rfl)).trans hr, h1, h2⟩
theorem recs_of_rs {base n : Nat} {w : World} {q : Option Addr} {W : Recs} (h : Rs base w q W) (hn : W.length = n) (hm : n ≤ maxLen) (hs : ∀ i, i < n → (keyAt W i).size ≤ maxLen) : RecsAt w q n W := by
  subst hn
  refine ⟨rfl, hm, hs, ?_⟩
  rcases h with h0 | ⟨g, cur, rfl, _, hr, _, hc⟩
  · exact .inl h0
  · refine .inr ⟨g, 0, rfl, hr.lt, fun i hi => ?_⟩
    obtain ⟨e1, e2⟩ := hc i hi
    unfold Row at hr
    simp [World.cell?, hr, e1, e2]

/-- Row B holds the marks from number k0 on in its first n records. -/
def MarkedR (cur : Array Value) (k0 n : Nat) : Prop := ∀ j, j < n → cur[j * 2]? = some (.string (mtext (k0 + 2 * j))) ∧ cur[j * 2 + 1]? = some (.int .i64 ((k0 + 2 * j + 1 : Nat) : Int))
theorem MarkedR.step {cur : Array Value} {k0 k : Nat} (h : MarkedR cur k0 k) (hk : k * 2 + 1 < cur.size) (x : Int) (hx : x = ((k0 + 2 * k + 1 : Nat) : Int)) : MarkedR ((cur.setIfInBounds (k * 2) (.string (mtext (k0 + 2 * k)))).setIfInBounds (k * 2 + 1) (.int .i64 x)) k0 (k + 1) := by
  subst hx
  intro j hj
  have h1 : k * 2 < cur.size := by omega
  rcases Nat.lt_or_ge j k with hlt | hge
  · obtain ⟨e1, e2⟩ := h j hlt
    constructor
    · rw [Array.getElem?_setIfInBounds_ne (by omega), Array.getElem?_setIfInBounds_ne (by omega)]; exact e1
    · rw [Array.getElem?_setIfInBounds_ne (by omega), Array.getElem?_setIfInBounds_ne (by omega)]; exact e2
  · obtain rfl : j = k := by omega
    constructor
    · rw [Array.getElem?_setIfInBounds_ne (by omega)]; simp [h1]
    · simp [hk]

/-- The end of marking records. -/
def MadeMarksR (B : Nat) (E : TypeId) (k0 len : Nat) (w : World) (e : Ending) (w' : World) : Prop :=
  e = .returned (.int .i64 ((k0 + 2 * len : Nat) : Int)) ∧ w.grownBy w' (some B) ∧ ∃ cur, Row w' B E cur ∧ MarkedR cur k0 len

def MadeMarksN (B : Nat) (E : TypeId) (k0 len n : Nat) (w : World) (e : Ending) (w' : World) : Prop :=
  e = .returned (.int .i64 ((k0 + 2 * len : Nat) : Int)) ∧ w.grownBy w' (some B) ∧ ∃ cur, Row w' B E cur ∧ cur.size = n ∧ MarkedR cur k0 len

def HeldNumR (q : Nat) (w : World) (e : Ending) (w' : World) : Prop := e = .returned (.int .i64 (q : Int)) ∧ Below w.heap.size w w'

end Go.Proofs.YtjfbmjeekihdaaaDoor
