
/- The program's Swap over a row of records of the call's own, and copy of records onto such a row; such a row is one that the library's sort may turn. -/
import Derived.Test.YtjofbeokkainlaaDoorMg19
import Derived.Test.YtjofbeokkainlaaDoorMg17
import Derived.Test.YtjofbeokkainlaaDoorMg8
import Derived.Test.YtjofbeokkainlaaDoorMg18
import Derived.Test.YtjofbeokkainlaaDoorMg2
import Derived.Laws.CopyOwn
namespace Go.Proofs.YtjofbeokkainlaaDoor
open Go.ChangeShapes Go.WideShapes Go.ChangeAt Go.RowKit Go.Lib
open Go.Sort (swp PermIn SortedIn SWO)
set_option linter.unusedVariables false
set_option maxRecDepth 100000

def Swapped (w : World) (g i j : Nat) (ki kj : ByteArray) (ni nj : Int) (e : Ending) (w' : World) : Prop :=
  e = .returned (.tuple #[]) ∧ ∃ q, w' = ((((w.setCell ⟨g, i * 2, none⟩ (.string kj)).setCell ⟨g, i * 2 + 1, none⟩ (.int .i64 nj)).setCell ⟨g, j * 2, none⟩ (.string ki)).setCell ⟨g, j * 2 + 1, none⟩ (.int .i64 ni)).drewN q

/-- copy of k elements of two cells onto a row. -/
theorem run_copy2 {P : Program} (w : World) (dT sT ty elem : TypeId) (g dLen dCap : Nat) (a : Addr) (sLen sCap : Nat) (cur : Array Value) (t : TypeId) (cs : List Value)
    (hu : P.underlying dT = some (.slice elem)) (hs : (P.info? elem).map (·.size) = some 2) (hg : w.heap[g]? = some (.cells cur t (0, 0))) (hn : cs.length = Nat.min sLen dLen * 2)
    (hsrc : ∀ j v, cs[j]? = some v → w.cell? (a.add j) = some v) (hfit : cs.length ≤ cur.size) (h1 : ∀ v ∈ cs, v.oneCell' = true) :
    (Builtin.copy_ #[dT, sT] ty #[.slice (some ⟨g, 0, none⟩) dLen dCap, .slice (some a) sLen sCap]).run P w =
      .ok (goInt (Nat.min sLen dLen)) (w.setRow g (cur.toList.take 0 ++ cs ++ cur.toList.drop (0 + cs.length)).toArray) := by
  have hl := run_loadCells_list (P := P) w a cs hsrc
  have hst := run_storeCells_at P g 0 t cs 0 cur w hg (by simpa using hfit) h1
  cases hq : P.info? elem with
  | none => simp [hq] at hs
  | some i =>
    have hi : i.size = 2 := by simpa [hq] using hs
    rw [hn] at hl
    simp [Builtin.copy_, run_underlying hu, Builtin.lenOf, Builtin.firstCells, sizeOf, typeInfo, hq, hi, hl]
    simp at hst
    rw [hst]
    rfl

/-! The row that is sorted. -/
theorem rget (V : RA) (i : Nat) (h : i < V.size) : V[i]! = (keyAt V.toList i, numAt V.toList i) := by
  rw [getElem!_pos V i h]
  unfold keyAt numAt
  rw [List.getD_eq_getElem?_getD, List.getElem?_eq_getElem (by simpa using h)]
  simp
theorem Laid.setRec {cur : Array Value} {W : Recs} {n i : Nat} (r : ByteArray × Int) (h : Laid cur W n) (hn : W.length = n) (hi : i < n) (hs : cur.size = n * 2) :
    Laid ((cur.setIfInBounds (i * 2) (.string r.1)).setIfInBounds (i * 2 + 1) (.int .i64 r.2)) (W.set i r) n := by
  intro j hj
  obtain ⟨e1, e2⟩ := h j hj
  have h1 : i * 2 < cur.size := by omega
  have h2 : i * 2 + 1 < cur.size := by omega
  by_cases hji : j = i
  · subst hji
    have hk : keyAt (W.set j r) j = r.1 ∧ numAt (W.set j r) j = r.2 := by
      unfold keyAt numAt
      rw [List.getD_eq_getElem?_getD, List.getElem?_set_self (by omega)]
      exact ⟨rfl, rfl⟩
    rw [hk.1, hk.2]
    constructor
    · rw [Array.getElem?_setIfInBounds_ne (by omega)]; simp [h1]
    · simp [h2]
  · have hk : keyAt (W.set i r) j = keyAt W j ∧ numAt (W.set i r) j = numAt W j := by
      unfold keyAt numAt
      rw [List.getD_eq_getElem?_getD, List.getElem?_set_ne (by omega), ← List.getD_eq_getElem?_getD]
      exact ⟨rfl, rfl⟩
    rw [hk.1, hk.2]
    constructor
    · rw [Array.getElem?_setIfInBounds_ne (by omega), Array.getElem?_setIfInBounds_ne (by omega)]; exact e1
    · rw [Array.getElem?_setIfInBounds_ne (by omega), Array.getElem?_setIfInBounds_ne (by omega)]; exact e2

/-- V stands in block g, whose keys are short; what W had below base is as it was. -/
def RowR (base g n : Nat) (W : World) (V : RA) (w : World) : Prop :=
  V.size = n ∧ (∃ cur, Row w g 30 cur ∧ cur.size = n * 2 ∧ Laid cur V.toList n) ∧ Below base W w ∧ ∀ i, i < n → (keyAt V.toList i).size ≤ 40

/-! The order. -/
theorem ltR_le (a b : ByteArray × Int) : ltR a b = !leR b a := by unfold ltR leR; simp
theorem ltR_swo : SWO ltR where
  irrefl := fun x => by
    have := leR_total x x
    rw [ltR_le]
    cases h : leR x x with
    | true => rfl
    | false => rw [h] at this; cases this
  trans := fun x y z h1 h2 => by
    rw [ltR_le, Bool.not_eq_true'] at h1 h2 ⊢
    cases h : leR z x with
    | false => rfl
    | true =>
      have hyz : leR y z = true := by
        have := leR_total y z
        rw [h2, Bool.or_false] at this; exact this
      rw [leR_trans y z x hyz h] at h1; cases h1
  ntrans := fun x y z h1 h2 => by
    rw [ltR_le, Bool.not_eq_false'] at h1 h2 ⊢
    exact leR_trans z y x h2 h1
/-- A sorted row with the records of V is V in order. -/
theorem sorted_row {V V' : RA} {n : Nat} (hn : V.size = n) (hp : PermIn 0 n V V') (hs : SortedIn ltR 0 n V') : V'.toList = sortL V.toList := by
  have hsz : V'.size = n := hp.1.trans hn
  have hperm : V'.toList.Perm V.toList := by
    have := hp.2.2
    rw [show V'.extract 0 n = V' by rw [← hsz]; simp, show V.extract 0 n = V by rw [← hn]; simp] at this
    exact this
  refine (sortL_of ?_ hperm).symm
  unfold InOrder
  rw [List.pairwise_iff_getElem]
  intro i j hi hj hij
  have hi' : i < V'.size := by simpa using hi
  have hj' : j < V'.size := by simpa using hj
  have := hs i j (Nat.zero_le _) hij (by omega)
  rw [ltR_le, Bool.not_eq_false', rget V' i hi', rget V' j hj', ← at_get V'.toList i hi, ← at_get V'.toList j hj] at this
  exact this
end Go.Proofs.YtjofbeokkainlaaDoor
