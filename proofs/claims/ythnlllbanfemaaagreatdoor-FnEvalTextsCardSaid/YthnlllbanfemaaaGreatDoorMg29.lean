/- Texts put together, as a claim holds at most sixty files. -/
import Derived.Test.YthnlllbanfemaaaGreatDoorMg28
import Derived.Test.YthnlllbanfemaaaGreatDoorMg27
import Derived.Test.YthnlllbanfemaaaGreatDoorMg8
import Derived.Laws.BytesArg
import Derived.Lib.AppendStr
namespace Go.Proofs.YthnlllbanfemaaaGreatDoor
open Go.ChangeShapes Go.WideShapes Go.ChangeAt Go.RowKit
set_option linter.unusedVariables false
set_option maxRecDepth 100000

theorem bless_iff (x y : List UInt8) : Op.bytesLess x y = true ↔ x < y := by
  induction x generalizing y with
  | nil => cases y <;> simp [Op.bytesLess]
  | cons a x ih =>
    cases y with
    | nil => simp [Op.bytesLess]
    | cons b y =>
      rw [List.cons_lt_cons_iff, ← ih y]
      rw [show Op.bytesLess (a :: x) (b :: y) = (decide (a < b) || a == b && Op.bytesLess x y) from rfl]
      by_cases h1 : a < b
      · simp [h1]
      · by_cases h2 : a = b
        · subst h2; simp
        · simp [h1, h2]

/-- a may stand ahead of b. -/
def leR (a b : ByteArray × Int) : Bool := !lessB b.1 b.2 a.1 a.2
theorem less_iff (s u : ByteArray) (n m : Int) : lessB s n u m = true ↔ s.toList < u.toList ∨ (s.toList = u.toList ∧ n < m) := by
  unfold lessB
  rw [Bool.or_eq_true, bless_iff, Bool.and_eq_true, beq_iff_eq, decide_eq_true_eq]
theorem leR_iff (a b : ByteArray × Int) : leR a b = true ↔ ¬ (b.1.toList < a.1.toList ∨ (b.1.toList = a.1.toList ∧ b.2 < a.2)) := by
  unfold leR
  rw [Bool.not_eq_true', ← Bool.not_eq_true, less_iff]
theorem leR_iff' (a b : ByteArray × Int) : leR a b = true ↔ a.1.toList < b.1.toList ∨ (a.1.toList = b.1.toList ∧ a.2 ≤ b.2) := by
  rw [leR_iff]
  constructor
  · intro h
    by_cases h1 : a.1.toList < b.1.toList
    · exact .inl h1
    · have h2 : a.1.toList = b.1.toList := List.le_antisymm (fun h3 => h (.inl h3)) h1
      exact .inr ⟨h2, by
        rcases Int.lt_or_le b.2 a.2 with h3 | h3
        · exact absurd (.inr ⟨h2.symm, h3⟩) h
        · exact h3⟩
  · rintro (h1 | ⟨h1, h2⟩) (h3 | ⟨h3, h4⟩)
    · exact List.lt_irrefl _ (List.lt_trans h1 h3)
    · rw [h3] at h1; exact List.lt_irrefl _ h1
    · rw [h1] at h3; exact List.lt_irrefl _ h3
    · omega
theorem leR_trans (a b c : ByteArray × Int) (h : leR a b = true) (k : leR b c = true) : leR a c = true := by
  rw [leR_iff'] at h k ⊢
  rcases h with h | ⟨h, h2⟩ <;> rcases k with k | ⟨k, k2⟩
  · exact .inl (List.lt_trans h k)
  · exact .inl (k ▸ h)
  · exact .inl (h ▸ k)
  · exact .inr ⟨h.trans k, by omega⟩
theorem leR_total (a b : ByteArray × Int) : (leR a b || leR b a) = true := by
  rw [Bool.or_eq_true]
  by_cases h : leR a b = true
  · exact .inl h
  · right
    rw [leR_iff'] at h ⊢
    by_cases h1 : b.1.toList < a.1.toList
    · exact .inl h1
    · have h2 : b.1.toList = a.1.toList := List.le_antisymm (fun h3 => h (.inl h3)) h1
      exact .inr ⟨h2, by
        rcases Int.lt_or_le a.2 b.2 with h3 | h3
        · exact absurd (.inr ⟨h2.symm, by omega⟩) h
        · exact h3⟩
theorem toList_inj {s u : ByteArray} (h : s.toList = u.toList) : s = u := by
  rw [ByteArray.toList_eq, ByteArray.toList_eq] at h
  obtain ⟨⟨a⟩⟩ := s
  obtain ⟨⟨b⟩⟩ := u
  simp at h
  rw [h]
theorem leR_antisymm (a b : ByteArray × Int) (h : leR a b = true) (k : leR b a = true) : a = b := by
  rw [leR_iff'] at h k
  rcases h with h | ⟨h, h2⟩ <;> rcases k with k | ⟨k, k2⟩
  · exact absurd (List.lt_trans h k) (List.lt_irrefl _)
  · rw [k] at h; exact absurd h (List.lt_irrefl _)
  · rw [h] at k; exact absurd k (List.lt_irrefl _)
  · obtain ⟨a1, a2⟩ := a
    obtain ⟨b1, b2⟩ := b
    simp only at h h2 k2
    rw [toList_inj h, show a2 = b2 by omega]

/-- In order. -/
def InOrder (l : Recs) : Prop := List.Pairwise (fun a b => leR a b = true) l
def sortL (l : Recs) : Recs := l.mergeSort leR
theorem sortL_perm (l : Recs) : (sortL l).Perm l := List.mergeSort_perm l leR
theorem sortL_order (l : Recs) : InOrder (sortL l) := List.pairwise_mergeSort leR_trans leR_total l
/-- Two lists in order with the same records are the same. -/
theorem order_unique {l k : Recs} (hl : InOrder l) (hk : InOrder k) (h : l.Perm k) : l = k :=
  List.Perm.eq_of_pairwise (fun a b _ _ => leR_antisymm a b) hl hk h
theorem sortL_of {l k : Recs} (hk : InOrder k) (h : k.Perm l) : sortL l = k := order_unique (sortL_order l) hk ((sortL_perm l).trans h.symm)
theorem insert_order {V : Recs} {x : ByteArray × Int} {j : Nat} (h : InOrder V) (h1 : ∀ y ∈ V.drop j, leR x y = true) (h2 : ∀ y ∈ V.take j, leR y x = true) : InOrder (V.take j ++ x :: V.drop j) := by
  unfold InOrder at h ⊢
  rw [← List.take_append_drop j V, List.pairwise_append] at h
  obtain ⟨a, b, c⟩ := h
  rw [List.pairwise_append, List.pairwise_cons]
  refine ⟨a, ⟨h1, b⟩, fun p hp q hq => ?_⟩
  rcases List.mem_cons.1 hq with rfl | hq
  · exact h2 p hp
  · exact c p hp q hq
theorem insert_perm (V : Recs) (x : ByteArray × Int) (j : Nat) : (V.take j ++ x :: V.drop j).Perm (V ++ [x]) := by
  refine List.perm_middle.trans ?_
  rw [List.take_append_drop]
  exact (List.perm_append_comm (l₁ := [x]) (l₂ := V))
/-- All that stand ahead of place j may stand ahead of x, if the last of them may. -/
theorem ahead_all {V : Recs} {x : ByteArray × Int} {j : Nat} (h : InOrder V) (hj : j < V.length) (hx : leR V[j] x = true) : ∀ y ∈ V.take (j + 1), leR y x = true := by
  intro y hy
  obtain ⟨i, hi, rfl⟩ := List.getElem_of_mem hy
  simp at hi
  simp only [List.getElem_take]
  rcases Nat.lt_or_ge i j with hl | hl
  · exact leR_trans _ _ _ (List.pairwise_iff_getElem.1 h i j (by omega) hj hl) hx
  · obtain rfl : i = j := by omega
    exact hx
theorem at_get (l : Recs) (i : Nat) (h : i < l.length) : l[i] = (keyAt l i, numAt l i) := by
  unfold keyAt numAt
  rw [List.getD_eq_getElem?_getD, List.getElem?_eq_getElem h]; rfl
/-- A list is a run just if it is short, its records are valid, and it is in order. -/
theorem runOk_iff (l : Recs) : runOkB l = true ↔ recsOkB l = true ∧ InOrder l := by
  constructor
  · intro h
    have hok : recsOkB l = true := by
      cases hr : recsOkB l with
      | true => rfl
      | false => rw [recsOk_not hr] at h; cases h
    refine ⟨hok, ?_⟩
    unfold runOkB at h
    rw [Bool.and_eq_true, List.all_eq_true] at h
    have hstep : ∀ i, i + 1 < l.length → ∀ (h1 : i < l.length) (h2 : i + 1 < l.length), leR l[i] l[i + 1] = true := by
      intro i hi h1 h2
      have := h.2 (i + 1) (List.mem_range.2 hi)
      rw [Bool.and_eq_true, Bool.not_eq_true'] at this
      have hb := this.2
      unfold badAt lessAt at hb
      rw [decide_eq_true (by omega), Bool.true_and] at hb
      unfold leR
      rw [at_get l i h1, at_get l (i + 1) h2]
      simp only [Nat.add_sub_cancel] at hb
      rw [hb]; rfl
    unfold InOrder
    rw [List.pairwise_iff_getElem]
    intro i j hi hj hij
    induction j with
    | zero => omega
    | succ j ih =>
      rcases Nat.lt_or_ge i j with hl | hl
      · exact leR_trans _ _ _ (ih (by omega) hl) (hstep j hj (by omega) hj)
      · obtain rfl : i = j := by omega
        exact hstep i hj hi hj
  · rintro ⟨h1, h2⟩
    obtain ⟨h3, h4⟩ := recsOk_parts h1
    refine runOk_good h3 fun i hi => ⟨h4 i hi, ?_⟩
    unfold badAt
    by_cases h0 : 0 < i
    · have := List.pairwise_iff_getElem.1 h2 (i - 1) i (by omega) hi (by omega)
      unfold leR at this
      rw [at_get l i hi, at_get l (i - 1) (by omega), Bool.not_eq_true'] at this
      unfold lessAt
      simp only at this
      rw [this, Bool.and_false]
    · rw [decide_eq_false h0, Bool.false_and]

/-- What Sorted returns. -/
def sortedB (l : Recs) : Recs := if recsOkB l then sortL l else []
theorem runOk_keys {l : Recs} (h : runOkB l = true) : l.length ≤ 600 ∧ ∀ i, i < l.length → (keyAt l i).size ≤ 40 := by
  have hok : recsOkB l = true := by
    cases hr : recsOkB l with
    | true => rfl
    | false => rw [recsOk_not hr] at h; cases h
  obtain ⟨h1, h2⟩ := recsOk_parts hok
  exact ⟨h1, fun i hi => by have := h2 i hi; unfold okAt okB at this; exact of_decide_eq_true this⟩
end Go.Proofs.YthnlllbanfemaaaGreatDoor
namespace Go.Proofs.YthnlllbanfemaaaGreatDoor
open Go.ChangeShapes Go.WideShapes Go.ChangeAt Go.RowKit
set_option linter.unusedVariables false
set_option maxRecDepth 100000

def bytesTo (l : Recs) : Nat → List Int
  | 0 => []
  | k + 1 => bytesTo l k ++ recN (keyAt l k) (numAt l k)
def sizeTo (l : Recs) : Nat → Nat
  | 0 => 0
  | k + 1 => sizeTo l k + (1 + (keyAt l k).size + 8)
theorem bytesTo_len (l : Recs) : ∀ k, (bytesTo l k).length = sizeTo l k
  | 0 => rfl
  | k + 1 => by
    rw [bytesTo, sizeTo, List.length_append, bytesTo_len l k, recN_len]; omega
theorem sizeTo_le (l : Recs) (h : ∀ i, i < l.length → (keyAt l i).size ≤ 40) : ∀ k, k ≤ l.length → sizeTo l k ≤ 49 * k
  | 0, _ => by simp [sizeTo]
  | k + 1, hk => by
    have := sizeTo_le l h k (by omega)
    have := h k (by omega)
    unfold sizeTo; omega
theorem sizeTo_mono (l : Recs) : ∀ k j, k ≤ j → sizeTo l k ≤ sizeTo l j := by
  intro k j hkj
  induction j with
  | zero => obtain rfl : k = 0 := by omega
            exact Nat.le_refl _
  | succ j ih =>
    rcases Nat.lt_or_ge k (j + 1) with h | h
    · have := ih (by omega)
      have e : sizeTo l (j + 1) = sizeTo l j + (1 + (keyAt l j).size + 8) := rfl
      omega
    · obtain rfl : k = j + 1 := by omega
      exact Nat.le_refl _
/-- The bytes of a run. -/
def runBytesB (l : Recs) : ByteArray := if runOkB l then strOfNums (bytesTo l l.length) else ByteArray.empty
theorem runbytes_no {l : Recs} (h : runOkB l = false) : ByteArray.empty = runBytesB l := by unfold runBytesB; rw [h]; rfl
theorem runbytes_yes {l : Recs} {n : Nat} (h : runOkB l = true) (hn : l.length = n) : strOfNums (bytesTo l n) = runBytesB l := by unfold runBytesB; rw [h, ← hn]; rfl
/-- The bytes so far, in the model. -/
def byteCells (X : List Int) : List Value := X.map fun x => Value.int .u8 x
theorem byteCells_append (X Y : List Int) : byteCells (X ++ Y) = byteCells X ++ byteCells Y := by simp [byteCells]
structure L2St (w wr : World) (v : Value) (n : Nat) (X : List Int) : Prop where
  own : wr.ownsRow w.heap.size 5 1 v n (byteCells X)
  length : X.length = n
  below : Below w.heap.size w wr
theorem L2St.text {w wr : World} {q : Option Addr} {n cp : Nat} {X : List Int} (h : L2St w wr (.slice q n cp) n X) (hne : ∃ g, q = some ⟨g, 0, none⟩) :
    (convert 40 9 (.slice q n cp)).run Tryz.prog wr = .ok (.string (strOfNums X)) wr := by
  obtain ⟨g, rfl⟩ := hne
  exact run_convert_bytes_arg _ _ _ Tryz.underlying40 Tryz.underlying5 g 0 n cp X h.length (fun i hi => by
    rw [Nat.zero_add]
    have hl := h.length
    have hiX : i < X.length := by omega
    rw [h.own.cellAt i (by omega)]
    rw [List.getD_eq_getElem?_getD]
    simp [byteCells, hiX]) _ Tryz.underlying9

theorem byte_cell (x : Int) : ∀ u ∈ [Value.int .u8 x], u.oneCell' = true := by
  intro u hu
  simp at hu
  subst hu; rfl
theorem L2St.addByte {w wr w1 : World} {v v' : Value} {n : Nat} {X : List Int} {x : Int} {o : Obj} (h : L2St w wr v n X) (hown : w1.ownsRow w.heap.size 5 1 v' (n + 1) (byteCells X ++ [.int .u8 x])) (hg : (wr.alloc o).grownBy w1 v.ownBlock) : L2St w w1 v' (n + 1) (X ++ [x]) :=
  ⟨by rw [byteCells_append]; exact hown, by simp [h.length], (below_alloc h.below o).grown hg (below_alloc h.below o).size (fun j hj => (h.own.lt j hj).1)⟩
theorem L2St.addText {w wr w1 : World} {v v' : Value} {n : Nat} {X : List Int} {s : ByteArray} (h : L2St w wr v n X) (hown : w1.ownsRow w.heap.size 5 1 v' (n + s.size) (byteCells X ++ Lib.strCells s)) (hg : wr.grownBy w1 v.ownBlock) : L2St w w1 v' (n + s.size) (X ++ ints s.data.toList) :=
  ⟨by rw [byteCells_append]; simpa [byteCells, ints, Lib.strCells, Function.comp_def] using hown, by simp [h.length, ints], h.below.grown hg h.below.size (fun j hj => (h.own.lt j hj).1)⟩
theorem own_some {w : World} {base n cp : Nat} {e : TypeId} {q : Option Addr} {xs : List Value} (h : w.ownsRow base e 1 (.slice q n cp) n xs) (hn : 0 < n) : ∃ g, q = some ⟨g, 0, none⟩ := by
  rcases h.2 with ⟨h1, h2⟩ | ⟨g, cap, cur, hv, _⟩
  · simp only [Value.slice.injEq] at h1; omega
  · simp only [Value.slice.injEq] at hv
    exact ⟨g, hv.1⟩

end Go.Proofs.YthnlllbanfemaaaGreatDoor
namespace Go.Proofs.YthnlllbanfemaaaGreatDoor
open Go.ChangeShapes Go.WideShapes Go.ChangeAt Go.RowKit
set_option linter.unusedVariables false
set_option maxRecDepth 100000

def byteAt (s : ByteArray) (i : Nat) : UInt8 := s.data.toList.getD i 0
theorem byteAt_eq {s : ByteArray} {i : Nat} (h : i < s.size) : byteAt s i = s[i] := by
  unfold byteAt
  rw [List.getD_eq_getElem?_getD, List.getElem?_eq_getElem (by simpa using h)]
  rfl
def wstep (X : Int) (y : UInt8) : Int := bits BinOp.or IntKind.u64 (IntKind.u64.wrap (X * 256)) (IntKind.u64.wrap (y.toNat : Int))
/-- The word at p, its last m bytes. -/
def wordTo (s : ByteArray) (p : Nat) : Nat → Int
  | 0 => 0
  | m + 1 => wstep (wordTo s p m) (byteAt s (p + (7 - m)))
/-- Where the key of the record at a place ends. -/
def keyEnd (s : ByteArray) (at0 : Nat) : Nat := at0 + 1 + (byteAt s at0).toNat
def recAt (s : ByteArray) (at0 : Nat) : ByteArray × Int := (s.extract (at0 + 1) (keyEnd s at0), wrap64 (wordTo s (keyEnd s at0) 8))
def fitsB (s : ByteArray) (at0 : Nat) : Bool := decide (at0 < s.size) && decide (keyEnd s at0 + 8 ≤ s.size)
/-- The place behind the first k records, if there are so many. -/
def posK (s : ByteArray) : Nat → Option Nat
  | 0 => some 0
  | k + 1 => match posK s k with
    | some at0 => if fitsB s at0 then some (keyEnd s at0 + 8) else none
    | none => none
def recsK (s : ByteArray) : Nat → Recs
  | 0 => []
  | k + 1 => recsK s k ++ [recAt s ((posK s k).getD 0)]
theorem recsK_len (s : ByteArray) : ∀ k, (recsK s k).length = k
  | 0 => rfl
  | k + 1 => by simp [recsK, recsK_len s k]
theorem posK_step {s : ByteArray} {k at0 : Nat} (h : posK s k = some at0) (hf : fitsB s at0 = true) : posK s (k + 1) = some (keyEnd s at0 + 8) := by
  simp [posK, h, hf]
theorem posK_stop {s : ByteArray} {k at0 : Nat} (h : posK s k = some at0) (hf : fitsB s at0 = false) : posK s (k + 1) = none := by
  simp [posK, h, hf]
theorem recsK_step {s : ByteArray} {k at0 : Nat} (h : posK s k = some at0) : recsK s (k + 1) = recsK s k ++ [recAt s at0] := by
  simp [recsK, h]
theorem posK_none {s : ByteArray} {k : Nat} (h : posK s k = none) : ∀ j, posK s (k + j) = none
  | 0 => h
  | j + 1 => by
    show posK s (k + j + 1) = none
    simp [posK, posK_none h j]
theorem posK_some {s : ByteArray} {k j : Nat} (h : posK s k ≠ none) (hj : j ≤ k) : posK s j ≠ none := fun h0 => h (by
  have := posK_none h0 (k - j)
  rwa [show j + (k - j) = k by omega] at this)
theorem posK_end {s : ByteArray} {k : Nat} (h : posK s k = some s.size) : posK s (k + 1) = none :=
  posK_stop h (by unfold fitsB; simp)
theorem posK_one {s : ByteArray} {k j : Nat} (h : posK s k = some s.size) (hj : posK s j = some s.size) : j = k := by
  rcases Nat.lt_trichotomy j k with hl | hl | hl
  · have := posK_some (j := j + 1) (by rw [h]; simp) hl
    exact absurd (posK_end hj) this
  · exact hl
  · have := posK_some (j := k + 1) (by rw [hj]; simp) hl
    exact absurd (posK_end h) this

def readB (s : ByteArray) : Option Recs := ((List.range 601).find? fun k => decide (posK s k = some s.size) && runOkB (recsK s k)).map (recsK s)
theorem read_yes {s : ByteArray} {k : Nat} (h : posK s k = some s.size) (hk : k ≤ 600) (hr : runOkB (recsK s k) = true) : readB s = some (recsK s k) := by
  unfold readB
  cases hf : (List.range 601).find? fun k => decide (posK s k = some s.size) && runOkB (recsK s k) with
  | none =>
    rw [List.find?_eq_none] at hf
    exact absurd (by rw [decide_eq_true h, hr]; rfl) (hf k (List.mem_range.2 (by omega)))
  | some j =>
    have h1 := List.find?_some hf
    rw [Bool.and_eq_true] at h1
    rw [posK_one h (of_decide_eq_true h1.1)]; rfl
theorem read_no {s : ByteArray} (h : ∀ k, k ≤ 600 → posK s k = some s.size → runOkB (recsK s k) = false) : readB s = none := by
  unfold readB
  rw [Option.map_eq_none_iff, List.find?_eq_none]
  intro k hk hc
  rw [Bool.and_eq_true] at hc
  have := h k (by have := List.mem_range.1 hk; omega) (of_decide_eq_true hc.1)
  rw [this] at hc
  exact absurd hc.2 (by simp)
theorem read_bad {s : ByteArray} {k : Nat} (h : posK s k = some s.size) (hr : runOkB (recsK s k) = false) : readB s = none :=
  read_no fun j _ hj => by rw [posK_one h hj]; exact hr
theorem read_unfit {s : ByteArray} {k at0 : Nat} (h : posK s k = some at0) (hne : at0 < s.size) (hf : fitsB s at0 = false) : readB s = none :=
  read_no fun j _ hj => by
    have h1 := posK_stop h hf
    rcases Nat.lt_trichotomy j k with hl | hl | hl
    · exact absurd (posK_end hj) (posK_some (j := j + 1) (by rw [h]; simp) hl)
    · subst hl; rw [h] at hj; have := Option.some.inj hj; omega
    · exact absurd h1 (posK_some (j := k + 1) (by rw [hj]; simp) hl)
theorem read_many {s : ByteArray} {k at0 : Nat} (h : posK s k = some at0) (hne : at0 < s.size) (hk : 600 ≤ k) : readB s = none :=
  read_no fun j hj0 hj => by
    rcases Nat.lt_or_ge j k with hl | hl
    · exact absurd (posK_end hj) (posK_some (j := j + 1) (by rw [h]; simp) hl)
    · obtain rfl : j = k := by omega
      rw [h] at hj; have := Option.some.inj hj; omega
def readW (s : ByteArray) : Recs := (readB s).getD []
def readK (s : ByteArray) : Bool := (readB s).isSome
theorem read_none {s : ByteArray} (h : readB s = none) : readW s = [] ∧ readK s = false := by unfold readW readK; rw [h]; exact ⟨rfl, rfl⟩
theorem read_some {s : ByteArray} {W : Recs} (h : readB s = some W) : readW s = W ∧ readK s = true := by unfold readW readK; rw [h]; exact ⟨rfl, rfl⟩
theorem posK_le {s : ByteArray} : ∀ k at0, posK s k = some at0 → at0 ≤ s.size
  | 0, at0, h => by simp [posK] at h; omega
  | k + 1, at0, h => by
    unfold posK at h
    split at h
    · split at h
      · rename_i hf
        simp [fitsB] at hf
        simp at h
        omega
      · cases h
    · cases h
theorem recsK_keys (s : ByteArray) : ∀ k i, i < k → (keyAt (recsK s k) i).size ≤ s.size
  | 0, i, h => by omega
  | k + 1, i, h => by
    unfold keyAt
    rw [recsK, List.getD_eq_getElem?_getD]
    rcases Nat.lt_or_ge i k with hl | hl
    · rw [List.getElem?_append_left (by rw [recsK_len]; exact hl), ← List.getD_eq_getElem?_getD]
      exact recsK_keys s k i hl
    · obtain rfl : i = k := by omega
      rw [List.getElem?_append_right (by rw [recsK_len]; exact Nat.le_refl _), recsK_len, Nat.sub_self]
      show (s.extract _ _).size ≤ s.size
      rw [ByteArray.size_extract]; omega
theorem fits_yes {s : ByteArray} {at0 : Nat} (h1 : at0 < s.size) (h2 : keyEnd s at0 + 8 ≤ s.size) : fitsB s at0 = true := by
  unfold fitsB; rw [decide_eq_true h1, decide_eq_true h2]; rfl
theorem fits_no {s : ByteArray} {at0 : Nat} (h2 : ¬ keyEnd s at0 + 8 ≤ s.size) : fitsB s at0 = false := by
  unfold fitsB; rw [decide_eq_false h2, Bool.and_false]
end Go.Proofs.YthnlllbanfemaaaGreatDoor
