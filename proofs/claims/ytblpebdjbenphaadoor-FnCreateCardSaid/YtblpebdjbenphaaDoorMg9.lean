/- Texts put together, as a claim holds at most sixty files. -/
import Derived.Test.YtblpebdjbenphaaDoorMg0
import Derived.Laws.BytesArg
import Derived.Test.YtblpebdjbenphaaDoorMg2
namespace Go.Proofs.YtblpebdjbenphaaDoor
open Go.ChangeShapes Go.WideShapes Go.ChangeAt Go.RowKit
set_option linter.unusedVariables false
set_option maxRecDepth 100000

abbrev Strs := List ByteArray
def strAt (l : Strs) (i : Nat) : ByteArray := l.getD i ByteArray.empty

/-- The slice (a, len, cap) holds the texts l. -/
structure StrsAt (w : World) (a : Option Addr) (len : Nat) (l : Strs) : Prop where
  length : l.length = len
  max : len ≤ maxLen
  sizes : ∀ i, i < len → (strAt l i).size ≤ maxLen
  src : len = 0 ∨ ∃ b off, a = some ⟨b, off, none⟩ ∧ b < w.heap.size ∧ ∀ i, i < len → w.cell? ⟨b, off + i, none⟩ = some (.string (strAt l i))

theorem StrsAt.keep {w w1 : World} {a : Option Addr} {len : Nat} {l : Strs} (h : StrsAt w a len l) (hB : Below w.heap.size w w1) : StrsAt w1 a len l := by
  refine ⟨h.length, h.max, h.sizes, ?_⟩
  rcases h.src with h0 | ⟨b, off, ha, hb, hc⟩
  · exact .inl h0
  · exact .inr ⟨b, off, ha, Nat.lt_of_lt_of_le hb hB.size, fun i hi => (hB.cell (p := ⟨b, off + i, none⟩) hb).trans (hc i hi)⟩

def mtAux (k : Nat) (o : List UInt8) : List UInt8 := if h : k = 0 then o else mtAux (k / 10) (UInt8.ofNat (48 + k % 10) :: o)
termination_by k
decreasing_by omega
theorem mtAux_zero (o : List UInt8) : mtAux 0 o = o := by unfold mtAux; rfl
theorem mtAux_step (k : Nat) (o : List UInt8) (h : 0 < k) : mtAux k o = mtAux (k / 10) (UInt8.ofNat (48 + k % 10) :: o) := by
  rw [mtAux, dif_neg (by omega)]
/-- The text of mark number k. -/
def mtext (k : Nat) : ByteArray := ⟨#[109]⟩ ++ ⟨(mtAux k []).toArray⟩

theorem digit_cons (K : Nat) (O : ByteArray) : (strOfNums [(48 : Int) + (K : Int) % 10] ++ O).data.toList = UInt8.ofNat (48 + K % 10) :: O.data.toList := by
  have e : ((48 : Int) + (K : Int) % 10).toNat = 48 + K % 10 := by omega
  simp [strOfNums, e]
theorem mtext_of (O : ByteArray) (k0 : Nat) (h : mtAux 0 O.data.toList = mtAux k0 []) : (⟨#[109]⟩ : ByteArray) ++ O = mtext k0 := by
  unfold mtext
  rw [← h, mtAux_zero]

def MadeStr (s : ByteArray) (w : World) (e : Ending) (w' : World) : Prop := e = .returned (.string s) ∧ Below w.heap.size w w'

/-- Row B holds the marks from number k0 on in its first n cells. -/
def Marked (cur : Array Value) (k0 n : Nat) : Prop := ∀ j, j < n → cur[j]? = some (.string (mtext (k0 + j)))
/-- The end of marking: the next number; the row is marked; nothing else that was there has changed. -/
def MadeMarks (B : Nat) (E : TypeId) (k0 len n : Nat) (w : World) (e : Ending) (w' : World) : Prop :=
  e = .returned (.int .i64 ((k0 + len : Nat) : Int)) ∧ w.grownBy w' (some B) ∧ ∃ cur, Row w' B E cur ∧ cur.size = n ∧ Marked cur k0 len

theorem Marked.step {cur : Array Value} {k0 k : Nat} (h : Marked cur k0 k) (hk : k < cur.size) : Marked (cur.setIfInBounds k (.string (mtext (k0 + k)))) k0 (k + 1) := by
  intro j hj
  rcases Nat.lt_or_ge j k with hlt | hge
  · rw [Array.getElem?_setIfInBounds_ne (by omega)]; exact h j hlt
  · obtain rfl : j = k := by omega
    simp [hk]

end Go.Proofs.YtblpebdjbenphaaDoor
namespace Go.Proofs.YtblpebdjbenphaaDoor
open Go.ChangeShapes Go.WideShapes Go.ChangeAt Go.RowKit
set_option linter.unusedVariables false
set_option maxRecDepth 100000

def HeldNum (q : Nat) (w : World) (e : Ending) (w' : World) : Prop := e = .returned (.int .i64 (q : Int)) ∧ Below w.heap.size w w'

end Go.Proofs.YtblpebdjbenphaaDoor
namespace Go.Proofs.YtblpebdjbenphaaDoor
open Go.ChangeShapes Go.WideShapes Go.ChangeAt Go.RowKit
set_option linter.unusedVariables false
set_option maxRecDepth 100000

/-- The slice (q, length of W) holds the texts W in a row from block 'base' on. -/
def Ks (base : Nat) (w : World) (q : Option Addr) (W : Strs) : Prop :=
  W.length = 0 ∨ ∃ g cur, q = some ⟨g, 0, none⟩ ∧ base ≤ g ∧ Row w g 9 cur ∧ W.length ≤ cur.size ∧ ∀ j (h : j < W.length), cur[j]? = some (.string W[j])

theorem ks_of_own {base : Nat} {w : World} {q : Option Addr} {cp : Nat} {W : Strs} (h : w.ownsRow base 9 1 (.slice q W.length cp) W.length (W.map Value.string)) : Ks base w q W := by
  rcases h.2 with ⟨_, h2⟩ | ⟨g, cap, cur, hv, hb, hh, h1, _, h3, h4⟩
  · exact .inl h2
  · simp only [Value.slice.injEq, true_and] at hv
    obtain ⟨rfl, rfl⟩ := hv
    refine .inr ⟨g, cur, rfl, hb, hh, by omega, fun j hj => ?_⟩
    have e : (cur.toList.take (W.length * 1))[j]? = (W.map Value.string)[j]? := by rw [h4]
    rw [List.getElem?_take_of_lt (by omega)] at e
    have e2 : cur[j]? = cur.toList[j]? := by simp
    rw [e2, e]
    simp [hj]
theorem ks_keep {base : Nat} {w w1 : World} {q : Option Addr} {W : Strs} (h : Ks base w q W) (hB : Below w.heap.size w w1) : Ks base w1 q W := by
  rcases h with h0 | ⟨g, cur, rfl, hb, hr, h1, h2⟩
  · exact .inl h0
  · exact .inr ⟨g, cur, rfl, hb, hr.keep hB, h1, h2⟩
theorem ks_lt {base : Nat} {w : World} {q : Option Addr} {W : Strs} (h : Ks base w q W) (hn : 0 < W.length) : ∀ g, q = some ⟨g, 0, none⟩ → base ≤ g ∧ g < w.heap.size := by
  intro g hg
  rcases h with h0 | ⟨g', cur, rfl, hb, hr, h1, h2⟩
  · omega
  · simp only [Option.some.injEq, Addr.mk.injEq, and_true] at hg
    rw [← hg]; exact ⟨hb, hr.lt⟩
theorem ks_grown {base g : Nat} {w w1 : World} {q : Option Addr} {W : Strs} (h : Ks base w q W) (hg : w.grownBy w1 (some g)) (hne : 0 < W.length → ∀ g', q = some ⟨g', 0, none⟩ → g' ≠ g) : Ks base w1 q W := by
  rcases h with h0 | ⟨g', cur, rfl, hb, hr, h1, h2⟩
  · exact .inl h0
  · by_cases hz : W.length = 0
    · exact .inl hz
    · exact .inr ⟨g', cur, rfl, hb, (hg.block g' hr.lt (by simpa using hne (by omega) g' rfl)).trans hr, h1, h2⟩
theorem strs_of_ks {base n : Nat} {w : World} {q : Option Addr} {W : Strs} (h : Ks base w q W) (hn : W.length = n) (hm : n ≤ maxLen) (hs : ∀ x ∈ W, x.size ≤ maxLen) : StrsAt w q n W := by
  subst hn
  have hat : ∀ i (hi : i < W.length), strAt W i = W[i] := fun i hi => by
    unfold strAt; rw [List.getD_eq_getElem?_getD, List.getElem?_eq_getElem hi]; rfl
  refine ⟨rfl, hm, fun i hi => by rw [hat i hi]; exact hs _ (List.getElem_mem hi), ?_⟩
  rcases h with h0 | ⟨g, cur, rfl, _, hr, _, hc⟩
  · exact .inl h0
  · refine .inr ⟨g, 0, rfl, hr.lt, fun i hi => ?_⟩
    rw [hat i hi]
    have := hc i hi
    unfold Row at hr
    simp [World.cell?, hr, this]

end Go.Proofs.YtblpebdjbenphaaDoor
