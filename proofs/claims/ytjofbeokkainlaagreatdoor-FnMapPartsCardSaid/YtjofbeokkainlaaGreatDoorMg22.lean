/- Texts put together, as a claim holds at most sixty files. -/
import Derived.Test.YtjofbeokkainlaaGreatDoorRecsIn
import Derived.Test.YtjofbeokkainlaaGreatDoorMg21
import Derived.Test.YtjofbeokkainlaaGreatDoorMg1
namespace Go.Proofs.YtjofbeokkainlaaGreatDoor
open Go.ChangeShapes Go.WideShapes Go.ChangeAt Go.RowKit Go.Deep
set_option linter.unusedVariables false
set_option maxRecDepth 100000

/-- The slice (a, len) holds slices of records. -/
def RunLs (w : World) (a : Option Addr) (len : Nat) (LS : List Recs) : Prop :=
  LS.length = len ∧ len ≤ maxLen ∧ (len = 0 ∨ ∃ b off, a = some ⟨b, off, none⟩ ∧ b < w.heap.size ∧ ∀ i, i < len → ∃ q n c, w.cell? ⟨b, off + i, none⟩ = some (.slice q n c) ∧ RecsAt w q n (LS.getD i []))
theorem RunLs.keep {w w1 : World} {a : Option Addr} {len : Nat} {LS : List Recs} (h : RunLs w a len LS) (hB : Below w.heap.size w w1) : RunLs w1 a len LS := by
  refine ⟨h.1, h.2.1, ?_⟩
  rcases h.2.2 with h0 | ⟨b, off, ha, hb, hc⟩
  · exact .inl h0
  · refine .inr ⟨b, off, ha, Nat.lt_of_lt_of_le hb hB.size, fun i hi => ?_⟩
    obtain ⟨q, n, c, h1, h2⟩ := hc i hi
    exact ⟨q, n, c, (hB.cell (p := ⟨b, off + i, none⟩) hb).trans h1, h2.keep hB⟩

/-- The end of the laws' measure of records, told how much they take. -/
def SizedB (left : Int) (len : Nat) (w : World) (e : Ending) (w' : World) : Prop :=
  ∃ x : Int, -1 ≤ x ∧ x ≤ 1048576 ∧ e = .returned (.int .i64 x) ∧ Below w.heap.size w w' ∧ (0 ≤ x → x + len ≤ left)
theorem sz1_le (x : Int) (s : ByteArray) (h0 : 0 ≤ x) : 0 ≤ sz1 x s → sz1 x s ≤ x := by
  unfold sz1; split <;> omega

/-- The end of the laws' measure of slices of records. -/
def SizedSS (len : Nat) (LS : List Recs) (w : World) (e : Ending) (w' : World) : Prop :=
  ∃ x : Int, -1 ≤ x ∧ x ≤ 1048576 ∧ e = .returned (.int .i64 x) ∧ Below w.heap.size w w' ∧ (0 ≤ x → len ≤ 1048576 ∧ LS.flatten.length ≤ 1048576 ∧ ∀ i, i < len → (LS.getD i []).length ≤ 1048576)
theorem len_allTo {LS : List Recs} {k : Nat} (h : k < LS.length) : (allTo LS (k + 1)).length = (allTo LS k).length + (LS.getD k []).length := by
  rw [allTo_step LS k h, List.length_append]
theorem len_one {LS : List Recs} {i : Nat} (h : i < LS.length) : (LS.getD i []).length ≤ LS.flatten.length := by
  have h1 := len_allTo h
  have h2 := allTo_le LS (i + 1)
  omega

end Go.Proofs.YtjofbeokkainlaaGreatDoor
namespace Go.Proofs.YtjofbeokkainlaaGreatDoor
open Go.ChangeShapes Go.WideShapes Go.ChangeAt Go.RowKit
set_option linter.unusedVariables false
set_option maxRecDepth 100000

def nAt (LS : List Recs) (i : Nat) : Nat := (LS.getD i []).length
theorem infoRecS : (Tryz.prog.info? 34).map (fun i => (i.zero, i.size, i.bytes)) = some (some (.slice none 0 0), 1, 24) := by kernel_rfl

theorem RecsAt.other {w : World} {g n G : Nat} {l : Recs} (h : RecsAt w (some ⟨g, 0, none⟩) n l) (hne : g ≠ G) (j : Nat) (x : Value) : RecsAt (w.setCell ⟨G, j, none⟩ x) (some ⟨g, 0, none⟩) n l := by
  refine ⟨h.length, h.max, h.keys, ?_⟩
  rcases h.src with h0 | ⟨b, off, ha, hb, hc⟩
  · exact .inl h0
  · simp only [Option.some.injEq, Addr.mk.injEq, and_true] at ha
    obtain ⟨rfl, rfl⟩ := ha
    refine .inr ⟨g, 0, rfl, by simpa using hb, fun i hi => ?_⟩
    have o : ∀ p, (⟨G, j, none⟩ : Addr) ≠ ⟨g, p, none⟩ := fun p e => by simp only [Addr.mk.injEq, and_true] at e; omega
    rw [World.cell?_setCell_other _ _ _ _ (o _), World.cell?_setCell_other _ _ _ _ (o _)]
    exact hc i hi

/-- The first k slices of a row of slices of the call's own: each in a row of its own, from block lo on. -/
def Inner (LS : List Recs) (lo : Nat) (w : World) (cur : Array Value) (i : Nat) : Prop :=
  ∃ g rc, cur[i]? = some (.slice (some ⟨g, 0, none⟩) (nAt LS i) (nAt LS i)) ∧ lo ≤ g ∧ Row w g 37 rc ∧ rc.size = nAt LS i * 2 ∧ RecsAt w (some ⟨g, 0, none⟩) (nAt LS i) (LS.getD i [])
theorem Inner.keep {LS : List Recs} {lo i : Nat} {w w1 : World} {cur : Array Value} (h : Inner LS lo w cur i) (hB : Below w.heap.size w w1) : Inner LS lo w1 cur i := by
  obtain ⟨g, rc, h1, h2, h3, h4, h5⟩ := h
  exact ⟨g, rc, h1, h2, h3.keep hB, h4, h5.keep hB⟩
def MadeRecSS (len : Nat) (LS : List Recs) (w : World) (e : Ending) (w' : World) : Prop :=
  e = .returned (.slice (some ⟨w.heap.size, 0, none⟩) len len) ∧ Below w.heap.size w w' ∧ ∃ cur, Row w' w.heap.size 34 cur ∧ cur.size = len ∧ ∀ i, i < len → Inner LS (w.heap.size + 1) w' cur i

theorem sc_of_made {w' : World} {len : Nat} {LS : List Recs} {G lo : Nat} {cur : Array Value} (hl : LS.length = len) (hr : Row w' G 34 cur) (hs : cur.size = len) (hi : ∀ i, i < len → Inner LS lo w' cur i) (hsh : ∀ i, i < len → nAt LS i ≤ 1048576) :
    RunSc w' (some ⟨G, 0, none⟩) len LS := by
  refine ⟨hl, .inr ⟨G, 0, rfl, hr.lt, fun i hi' => ?_⟩⟩
  obtain ⟨g, rc, e1, _, _, _, e5⟩ := hi i hi'
  have hc : w'.cell? ⟨G, 0 + i, none⟩ = some (.slice (some ⟨g, 0, none⟩) (nAt LS i) (nAt LS i)) := by
    unfold Row at hr
    simp [World.cell?, hr, e1]
  have h2 := hsh i hi'
  exact ⟨_, _, _, hc, e5, (fun h => by cases h), Nat.le_refl _, by unfold maxLen; omega, h2⟩

/-- Blocks from lo to hi alone may have turned. -/
structure ButR (lo hi : Nat) (w w' : World) : Prop where
  os : w'.os = w.os
  tape : w'.tape = w.tape
  output : w'.output = w.output
  size : w.heap.size ≤ w'.heap.size
  block : ∀ k, k < w.heap.size → k < lo ∨ hi ≤ k → w'.heap[k]? = w.heap[k]?
theorem ButR.refl (lo hi : Nat) (w : World) : ButR lo hi w w := ⟨rfl, rfl, rfl, Nat.le_refl _, fun _ _ _ => rfl⟩
theorem ButR.step {lo hi g : Nat} {w w1 w2 : World} (h : ButR lo hi w w1) (k : w1.grownBy w2 (some g)) (h1 : lo ≤ g) (h2 : g < hi) : ButR lo hi w w2 :=
  ⟨k.os.trans h.os, k.tape.trans h.tape, k.output.trans h.output, Nat.le_trans h.size k.size, fun j hj ho => (k.block j (Nat.lt_of_lt_of_le hj h.size) (by simp; omega)).trans (h.block j hj ho)⟩
theorem ButR.row {lo hi B : Nat} {w w1 : World} {E : TypeId} {cur : Array Value} (h : ButR lo hi w w1) (r : Row w B E cur) (ho : B < lo ∨ hi ≤ B) : Row w1 B E cur := (h.block B r.lt ho).trans r
theorem ButR.rs {lo hi base : Nat} {w w1 : World} {q : Option Addr} {W : Recs} (h : ButR lo hi w w1) (r : Rs base w q W) (ho : 0 < W.length → ∀ g, q = some ⟨g, 0, none⟩ → g < lo ∨ hi ≤ g) : Rs base w1 q W := by
  rcases r with h0 | ⟨g, cur, rfl, hb, hr, h1, h2⟩
  · exact .inl h0
  · by_cases h0 : W.length = 0
    · exact .inl h0
    · exact .inr ⟨g, cur, rfl, hb, h.row hr (ho (by omega) g rfl), h1, h2⟩
theorem ButR.below {lo hi : Nat} {W w w1 : World} (h : ButR lo hi w w1) (hB : Below W.heap.size W w) (hl : W.heap.size ≤ lo) : Below W.heap.size W w1 :=
  ⟨h.os.trans hB.os, h.tape.trans hB.tape, h.output.trans hB.output, Nat.le_trans hB.size h.size, fun k hk => (h.block k (Nat.lt_of_lt_of_le hk hB.size) (.inl (by omega))).trans (hB.block k hk)⟩

/-- Rows that may be marked: block, size. -/
def InnerB (LS : List Recs) (lo hi : Nat) (w : World) (cur : Array Value) (i : Nat) : Prop :=
  ∃ g rc, cur[i]? = some (.slice (some ⟨g, 0, none⟩) (nAt LS i) (nAt LS i)) ∧ lo ≤ g ∧ g < hi ∧ Row w g 37 rc ∧ rc.size = nAt LS i * 2
theorem InnerB.keep {LS : List Recs} {lo hi i : Nat} {w w1 : World} {cur : Array Value} (h : InnerB LS lo hi w cur i) (hB : Below w.heap.size w w1) : InnerB LS lo hi w1 cur i := by
  obtain ⟨g, rc, h1, h2, h2', h3, h4⟩ := h
  exact ⟨g, rc, h1, h2, h2', h3.keep hB, h4⟩
theorem Inner.toB {LS : List Recs} {lo i : Nat} {w : World} {cur : Array Value} (h : Inner LS lo w cur i) : InnerB LS lo w.heap.size w cur i := by
  obtain ⟨g, rc, h1, h2, h3, h4, _⟩ := h
  exact ⟨g, rc, h1, h2, h3.lt, h3, h4⟩
theorem InnerB.grown {LS : List Recs} {lo hi i g0 : Nat} {w w1 : World} {cur rc0 : Array Value} (h : InnerB LS lo hi w cur i) (hg : w.grownBy w1 (some g0)) (h0 : ∃ rc, Row w g0 37 rc ∧ rc.size = rc0.size) (h1 : Row w1 g0 37 rc0) : InnerB LS lo hi w1 cur i := by
  obtain ⟨g, rc, e1, e2, e3, e4, e5⟩ := h
  by_cases hgg : g = g0
  · subst hgg
    obtain ⟨rc', r1, r2⟩ := h0
    have : rc' = rc := by unfold Row at r1 e4; rw [r1] at e4; simpa using e4
    subst this
    exact ⟨g, rc0, e1, e2, e3, h1, by omega⟩
  · exact ⟨g, rc, e1, e2, e3, e4.grown hg (by simpa using fun h => hgg h.symm), e5⟩

def MarkedSS (LS : List Recs) (lo hi : Nat) (w : World) (e : Ending) (w' : World) : Prop :=
  e = .returned (.int .i64 ((1 + 2 * LS.flatten.length : Nat) : Int)) ∧ ButR lo hi w w'

end Go.Proofs.YtjofbeokkainlaaGreatDoor
namespace Go.Proofs.YtjofbeokkainlaaGreatDoor
open Go.ChangeShapes Go.WideShapes Go.ChangeAt Go.RowKit
set_option linter.unusedVariables false
set_option maxRecDepth 100000

theorem mallW_few (LS : List Recs) : (mallW LS).length ≤ 600 ∧ ∀ i, i < (mallW LS).length → (keyAt (mallW LS) i).size ≤ 40 := by
  unfold mallW
  cases h : mallK LS with
  | false => exact ⟨Nat.zero_le _, fun i hi => by simp at hi⟩
  | true =>
    rw [if_pos rfl]
    unfold mallK at h
    rw [Bool.and_eq_true, decide_eq_true_eq, List.all_eq_true] at h
    refine ⟨by rw [sortL_len]; exact h.2, fun i hi => ?_⟩
    have hm := (sortL_perm LS.flatten).mem_iff.1 (List.getElem_mem hi)
    obtain ⟨r, hr, hx⟩ := List.mem_flatten.1 hm
    have := runOk_mem (h.1 r hr) _ hx
    rw [at_get _ i hi] at this
    exact this
theorem ls_of_sc {w : World} {a : Option Addr} {len : Nat} {LS : List Recs} (h : RunSc w a len LS) (hl : len ≤ 1048576) : RunLs w a len LS := by
  refine ⟨h.1, by unfold maxLen; omega, ?_⟩
  rcases h.2 with h0 | ⟨b, off, ha, hb, hc⟩
  · exact .inl h0
  · refine .inr ⟨b, off, ha, hb, fun i hi => ?_⟩
    obtain ⟨q, n, c, h1, h2, _⟩ := hc i hi
    exact ⟨q, n, c, h1, h2⟩

end Go.Proofs.YtjofbeokkainlaaGreatDoor
