/- Texts put together, as a claim holds at most sixty files. -/
import Derived.Test.YtdphganbnlmgcaaGreatDoorMg0
import Derived.OwnWalk
import Derived.Test.YtdphganbnlmgcaaGreatDoorMg1
import Derived.Test.YtdphganbnlmgcaaGreatDoorMg5
import Derived.Test.YtdphganbnlmgcaaGreatDoorMg4
import Derived.Test.YtdphganbnlmgcaaGreatDoorMg3
namespace Go.Proofs.YtdphganbnlmgcaaGreatDoor
open Go.ChangeShapes Go.WideShapes Go.ChangeAt Go.RowKit
set_option linter.unusedVariables false
set_option maxRecDepth 100000

abbrev Recs := List (ByteArray × Int)
def keyAt (l : Recs) (i : Nat) : ByteArray := (l.getD i (ByteArray.empty, 0)).1
def numAt (l : Recs) (i : Nat) : Int := (l.getD i (ByteArray.empty, 0)).2

/-- The slice (a, len, cap) holds the records l. -/
structure RecsAt (w : World) (a : Option Addr) (len : Nat) (l : Recs) : Prop where
  length : l.length = len
  max : len ≤ maxLen
  keys : ∀ i, i < len → (keyAt l i).size ≤ maxLen
  src : len = 0 ∨ ∃ b off, a = some ⟨b, off, none⟩ ∧ b < w.heap.size ∧ ∀ i, i < len → w.cell? ⟨b, off + i * 2, none⟩ = some (.string (keyAt l i)) ∧ w.cell? ⟨b, off + i * 2 + 1, none⟩ = some (.int .i64 (numAt l i))

theorem RecsAt.keep {w w1 : World} {a : Option Addr} {len : Nat} {l : Recs} (h : RecsAt w a len l) (hB : Below w.heap.size w w1) : RecsAt w1 a len l := by
  refine ⟨h.length, h.max, h.keys, ?_⟩
  rcases h.src with h0 | ⟨b, off, ha, hb, hc⟩
  · exact .inl h0
  · exact .inr ⟨b, off, ha, Nat.lt_of_lt_of_le hb hB.size, fun i hi => ⟨(hB.cell (p := ⟨b, off + i * 2, none⟩) hb).trans (hc i hi).1, (hB.cell (p := ⟨b, off + i * 2 + 1, none⟩) hb).trans (hc i hi).2⟩⟩

/-- The end of the laws' measure of records: below 0 (too much), or what is left; then the records and their keys are few and short. -/
def Sized (len : Nat) (l : Recs) (w : World) (e : Ending) (w' : World) : Prop :=
  ∃ x : Int, -1 ≤ x ∧ x ≤ 1048576 ∧ e = .returned (.int .i64 x) ∧ Below w.heap.size w w' ∧ (0 ≤ x → len ≤ 1048576 ∧ ∀ i, i < len → (keyAt l i).size ≤ 1048576)

theorem sz1_bd (x : Int) (s : ByteArray) (h0 : 0 ≤ x) (h1 : x ≤ 1048576) : -1 ≤ sz1 x s ∧ sz1 x s ≤ 1048576 ∧ (0 ≤ sz1 x s → s.size ≤ 1048576) := by
  unfold sz1; split <;> omega

theorem infoRec : (Tryz.prog.info? 50).map (fun i => (i.zero, i.size, i.bytes)) = some (some (.agg #[.string ByteArray.empty, .int .i64 0]), 2, 24) := by kernel_rfl

/-- The first k records of l lie at the head of the row. -/
def Laid (cur : Array Value) (l : Recs) (k : Nat) : Prop := ∀ j, j < k → cur[j * 2]? = some (.string (keyAt l j)) ∧ cur[j * 2 + 1]? = some (.int .i64 (numAt l j))
theorem Laid.step {cur : Array Value} {l : Recs} {k len : Nat} (h : Laid cur l k) (hs : cur.size = len * 2) (hk : k < len) :
    Laid ((cur.setIfInBounds (k * 2) (.string (keyAt l k))).setIfInBounds (k * 2 + 1) (.int .i64 (numAt l k))) l (k + 1) := by
  intro j hj
  have h1 : k * 2 < cur.size := by omega
  have h2 : k * 2 + 1 < cur.size := by omega
  rcases Nat.lt_or_ge j k with hlt | hge
  · obtain ⟨e1, e2⟩ := h j hlt
    constructor
    · rw [Array.getElem?_setIfInBounds_ne (by omega), Array.getElem?_setIfInBounds_ne (by omega)]; exact e1
    · rw [Array.getElem?_setIfInBounds_ne (by omega), Array.getElem?_setIfInBounds_ne (by omega)]; exact e2
  · obtain rfl : j = k := by omega
    constructor
    · rw [Array.getElem?_setIfInBounds_ne (by omega)]; simp [h1]
    · simp [h2]

theorem RecsAt.ofRow {w : World} {B len : Nat} {E : TypeId} {cur : Array Value} {l : Recs} (h : Row w B E cur) (hl : l.length = len) (hm : len ≤ maxLen) (hk : ∀ i, i < len → (keyAt l i).size ≤ maxLen) (hlaid : Laid cur l len) : RecsAt w (some ⟨B, 0, none⟩) len l := by
  refine ⟨hl, hm, hk, .inr ⟨B, 0, rfl, h.lt, fun i hi => ?_⟩⟩
  obtain ⟨e1, e2⟩ := hlaid i hi
  unfold Row at h
  simp [World.cell?, h, e1, e2]

/-- The end of the laws' copy of records: a new slice of the same records. -/
def MadeRecs (len : Nat) (l : Recs) (w : World) (e : Ending) (w' : World) : Prop :=
  e = .returned (.slice (some ⟨w.heap.size, 0, none⟩) len len) ∧ RecsAt w' (some ⟨w.heap.size, 0, none⟩) len l ∧ Below w.heap.size w w' ∧ ∃ cur, Row w' w.heap.size 50 cur ∧ cur.size = len * 2

end Go.Proofs.YtdphganbnlmgcaaGreatDoor
namespace Go.Proofs.YtdphganbnlmgcaaGreatDoor
open Go.ChangeShapes Go.WideShapes Go.ChangeAt Go.RowKit
set_option linter.unusedVariables false
set_option maxRecDepth 100000

abbrev EV := ByteArray × Int
abbrev EVs := List EV
def evAt (a : EVs) (i : Nat) : EV := a.getD i (ByteArray.empty, 0)
def wordAt (words : Strs) (n : Int) : ByteArray := if n < words.length then strAt words n.toNat else ByteArray.empty
def truthI (b : Bool) : Int := if b then 1 else 0
def numI (s : ByteArray) : Int := (numD s.data.toList).getD 0

/-- What an instruction puts, of what it takes. -/
def putV : Nat → Int → ByteArray → EVs → Strs → EV
  | 1, n, _, _, ws => (wordAt ws n, 0)
  | 2, _, s, _, _ => (s, 0)
  | 3, n, _, _, _ => (ByteArray.empty, n)
  | 4, _, _, a, _ => ((evAt a 0).1 ++ (evAt a 1).1, 0)
  | 5, _, _, a, _ => (ByteArray.empty, ((evAt a 0).1.size : Int))
  | 6, _, _, a, _ => (ByteArray.empty, numI (evAt a 0).1)
  | 7, _, _, a, _ => (decB (evAt a 0).2, 0)
  | 8, _, _, a, _ => (ByteArray.empty, wrap64 ((evAt a 0).2 + (evAt a 1).2))
  | 9, _, _, a, _ => (ByteArray.empty, wrap64 ((evAt a 0).2 - (evAt a 1).2))
  | 10, _, _, a, _ => (ByteArray.empty, wrap64 ((evAt a 0).2 * (evAt a 1).2))
  | 12, _, _, a, _ => (ByteArray.empty, truthI (decide ((evAt a 0).1 = (evAt a 1).1)))
  | _, _, _, a, _ => (ByteArray.empty, truthI (decide ((evAt a 0).2 < (evAt a 1).2)))

/-- Stack and records behind an instruction; none: a text is too long. -/
def evStep (op : Nat) (n : Int) (s : ByteArray) (ws : Strs) (x : EVs × Recs) : Option (EVs × Recs) :=
  if (givesB op).size = 0 then
    some (x.1.take (x.1.length - (takesB op).size),
      if op = 13 ∨ (evAt (x.1.drop (x.1.length - (takesB op).size)) 2).2 ≠ 0 then x.2 ++ [((evAt (x.1.drop (x.1.length - (takesB op).size)) 0).1, (evAt (x.1.drop (x.1.length - (takesB op).size)) 1).2)] else x.2)
  else if (putV op n s (x.1.drop (x.1.length - (takesB op).size)) ws).1.size ≤ 40 then
    some (x.1.take (x.1.length - (takesB op).size) ++ [putV op n s (x.1.drop (x.1.length - (takesB op).size)) ws], x.2)
  else none
def evK (l : Instrs) (ws : Strs) : Nat → Option (EVs × Recs)
  | 0 => some ([], [])
  | k + 1 => (evK l ws k).bind (evStep (ins0 l k).toNat (ins1 l k) (ins2 l k) ws)
/-- Records and code. -/
def evalR (l : Instrs) (ws : Strs) : Recs × Int :=
  if progB l = true ∧ ws.length ≤ 20 then
    match evK l ws l.length with
    | some x => (x.2, 0)
    | none => ([], 2)
  else ([], 1)
theorem evK_none {l : Instrs} {ws : Strs} {k n : Nat} (h : evK l ws k = none) (hk : k ≤ n) : evK l ws n = none := by
  induction n with
  | zero => obtain rfl : k = 0 := by omega
            exact h
  | succ n ih =>
    rcases Nat.lt_or_ge n k with h1 | h1
    · obtain rfl : k = n + 1 := by omega
      exact h
    · rw [evK, ih h1]; rfl
theorem evalR_no {l : Instrs} {ws : Strs} (h : ¬ (progB l = true ∧ ws.length ≤ 20)) : evalR l ws = ([], 1) := by unfold evalR; rw [if_neg h]
theorem evalR_long {l : Instrs} {ws : Strs} {k : Nat} (h : progB l = true) (h2 : ws.length ≤ 20) (hk : k ≤ l.length) (hn : evK l ws k = none) : evalR l ws = ([], 2) := by
  unfold evalR; rw [if_pos ⟨h, h2⟩, evK_none hn hk]
theorem evalR_good {l : Instrs} {ws : Strs} {x : EVs × Recs} (h : progB l = true) (h2 : ws.length ≤ 20) (hn : evK l ws l.length = some x) : evalR l ws = (x.2, 0) := by
  unfold evalR; rw [if_pos ⟨h, h2⟩, hn]
theorem evK_step {l : Instrs} {ws : Strs} {k : Nat} {x : EVs × Recs} (h : evK l ws k = some x) : evK l ws (k + 1) = evStep (ins0 l k).toNat (ins1 l k) (ins2 l k) ws x := by
  rw [evK, h]; rfl

/-! ### a valid program's stack has the letters that it was followed by -/
theorem prog_stk {l : Instrs} (h : progB l = true) : ∀ k, k ≤ l.length → ∃ st, stk l k = some st := by
  intro k hk
  cases hs : stk l k with
  | some st => exact ⟨st, rfl⟩
  | none => rw [prog_bad hk hs] at h; cases h
theorem prog_instr {l : Instrs} (h : progB l = true) {k : Nat} (hk : k < l.length) : instrB (ins0 l k) (ins1 l k) (ins2 l k) = true := by
  cases hb : instrB (ins0 l k) (ins1 l k) (ins2 l k) with
  | true => rfl
  | false => rw [prog_bad (k := k + 1) (by omega) (stk_wrong hb)] at h; cases h
theorem prog_len {l : Instrs} (h : progB l = true) : l.length ≤ 30 := by
  unfold progB at h
  rw [Bool.and_eq_true, decide_eq_true_eq] at h
  exact h.1
theorem step_fits_of {st tk gv st' : ByteArray} (h : stepB st tk gv = some st') : ∃ st0, st = st0 ++ tk ∧ st' = st0 ++ gv := by
  unfold stepB at h
  split at h
  · rename_i h0
    rw [Option.some.injEq] at h
    refine ⟨st.extract 0 (st.size - tk.size), ?_, h.symm⟩
    have e : st.extract 0 (st.size - tk.size) ++ st.extract (st.size - tk.size) st.size = st := by
      apply ByteArray.ext
      apply Array.toList_inj.1
      simp only [ByteArray.data_append, ByteArray.data_extract, Array.toList_append, Array.toList_extract]
      have hs : st.size = st.data.toList.length := rfl
      rw [hs]
      generalize hL : st.data.toList = L
      have : tk.size ≤ L.length := by rw [← hL]; exact h0.1
      simp only [List.extract_eq_take_drop, Nat.sub_zero, List.drop_zero]
      rw [show L.length - (L.length - tk.size) = tk.size by omega]
      rw [List.take_of_length_le (i := tk.size) (by simp; omega), List.take_append_drop]
    rw [h0.2] at e
    exact e.symm
  · cases h
theorem prog_step {l : Instrs} (h : progB l = true) {k : Nat} (hk : k < l.length) {st : ByteArray} (hs : stk l k = some st) :
    ∃ st0, st = st0 ++ takesB (ins0 l k).toNat ∧ stk l (k + 1) = some (st0 ++ givesB (ins0 l k).toNat) := by
  obtain ⟨st', h'⟩ := prog_stk h (k + 1) (by omega)
  have e := stk_step hs (prog_instr h hk)
  rw [h'] at e
  obtain ⟨st0, h1, h2⟩ := step_fits_of e.symm
  exact ⟨st0, h1, by rw [h', h2]⟩

/-! ### texts and numbers of a stack, each apart -/
def txs : List UInt8 → EVs → Strs
  | c :: st, v :: S => if c = 84 then v.1 :: txs st S else txs st S
  | _, _ => []
def nms : List UInt8 → EVs → List Int
  | c :: st, v :: S => if c = 84 then nms st S else v.2 :: nms st S
  | _, _ => []
theorem txs_app : ∀ (st st' : List UInt8) (S S' : EVs), st.length = S.length → txs (st ++ st') (S ++ S') = txs st S ++ txs st' S'
  | [], st', [], S', _ => rfl
  | [], st', v :: S, S', h => by simp at h
  | c :: st, st', [], S', h => by simp at h
  | c :: st, st', v :: S, S', h => by
    have ih := txs_app st st' S S' (by simpa using h)
    simp only [List.cons_append, txs, ih]
    split <;> rfl
theorem nms_app : ∀ (st st' : List UInt8) (S S' : EVs), st.length = S.length → nms (st ++ st') (S ++ S') = nms st S ++ nms st' S'
  | [], st', [], S', _ => rfl
  | [], st', v :: S, S', h => by simp at h
  | c :: st, st', [], S', h => by simp at h
  | c :: st, st', v :: S, S', h => by
    have ih := nms_app st st' S S' (by simpa using h)
    simp only [List.cons_append, nms, ih]
    split <;> rfl
theorem txs_mem : ∀ (st : List UInt8) (S : EVs) (s : ByteArray), s ∈ txs st S → ∃ v ∈ S, v.1 = s
  | [], S, s, h => by simp [txs] at h
  | c :: st, [], s, h => by simp [txs] at h
  | c :: st, v :: S, s, h => by
    unfold txs at h
    split at h
    · rcases List.mem_cons.1 h with rfl | h
      · exact ⟨v, by simp, rfl⟩
      · obtain ⟨u, hu, e⟩ := txs_mem st S s h
        exact ⟨u, by simp [hu], e⟩
    · obtain ⟨u, hu, e⟩ := txs_mem st S s h
      exact ⟨u, by simp [hu], e⟩
theorem nms_mem : ∀ (st : List UInt8) (S : EVs) (s : Int), s ∈ nms st S → ∃ v ∈ S, v.2 = s
  | [], S, s, h => by simp [nms] at h
  | c :: st, [], s, h => by simp [nms] at h
  | c :: st, v :: S, s, h => by
    unfold nms at h
    split at h
    · obtain ⟨u, hu, e⟩ := nms_mem st S s h
      exact ⟨u, by simp [hu], e⟩
    · rcases List.mem_cons.1 h with rfl | h
      · exact ⟨v, by simp, rfl⟩
      · obtain ⟨u, hu, e⟩ := nms_mem st S s h
        exact ⟨u, by simp [hu], e⟩
theorem txs_len : ∀ (st : List UInt8) (S : EVs), (txs st S).length ≤ S.length
  | [], S => by simp [txs]
  | c :: st, [] => by simp [txs]
  | c :: st, v :: S => by
    have := txs_len st S
    unfold txs; split <;> simp <;> omega
theorem nms_len : ∀ (st : List UInt8) (S : EVs), (nms st S).length ≤ S.length
  | [], S => by simp [nms]
  | c :: st, [] => by simp [nms]
  | c :: st, v :: S => by
    have := nms_len st S
    unfold nms; split <;> simp <;> omega

/-! ### what holds of the stack on the way -/
structure EvOkP (st : ByteArray) (k : Nat) (x : EVs × Recs) : Prop where
  len : x.1.length = st.size
  few : x.1.length ≤ k
  texts : ∀ v ∈ x.1, v.1.size ≤ 40 ∧ In64 v.2
  recs : x.2.length ≤ k
  keys : ∀ r ∈ x.2, r.1.size ≤ 40 ∧ In64 r.2
theorem in64_wrap (x : Int) : In64 (wrap64 x) := by
  unfold In64 wrap64
  omega
theorem truth64 (b : Bool) : In64 (truthI b) := by unfold In64 truthI; split <;> omega
theorem numI64 (s : ByteArray) : In64 (numI s) := by
  unfold numI
  cases h : numD s.data.toList with
  | none => exact ⟨by decide, by decide⟩
  | some v => have := (numD_iff.1 h).2; exact ⟨this.1, by have := this.2; simp only [Option.getD_some]; omega⟩
theorem in64_0 : In64 0 := ⟨by decide, by decide⟩
theorem putV64 (op : Nat) (n : Int) (s : ByteArray) (a : EVs) (ws : Strs) (hn : In64 n) (hs : (evAt a 0).1.size ≤ 40) : In64 (putV op n s a ws).2 := by
  unfold putV
  split
  · exact in64_0
  · exact in64_0
  · exact hn
  · exact in64_0
  · exact ⟨by simp only; omega, by simp only; omega⟩
  · exact numI64 _
  · exact in64_0
  · exact in64_wrap _
  · exact in64_wrap _
  · exact in64_wrap _
  · exact truth64 _
  · exact truth64 _
theorem evAt_mem {a : EVs} {i : Nat} (h : i < a.length) : evAt a i ∈ a := by
  unfold evAt; rw [List.getD_eq_getElem?_getD, List.getElem?_eq_getElem h]; exact List.getElem_mem h
theorem evOk0 : EvOkP ByteArray.empty 0 ([], []) := ⟨rfl, Nat.le_refl _, fun v hv => absurd hv (by simp), Nat.le_refl _, fun r hr => absurd hr (by simp)⟩
/-- One instruction of a valid program: what it takes lies on the stack. -/
theorem evOk_takes {st st0 : ByteArray} {op : Nat} {k : Nat} {x : EVs × Recs} (h : EvOkP st k x) (hst : st = st0 ++ takesB op) :
    ∃ S0 a, x.1 = S0 ++ a ∧ a.length = (takesB op).size ∧ S0.length = st0.size ∧ x.1.take (x.1.length - (takesB op).size) = S0 ∧ x.1.drop (x.1.length - (takesB op).size) = a := by
  have hl := h.len
  rw [hst, ByteArray.size_append] at hl
  have e1 : x.1.length - (takesB op).size = st0.size := by omega
  refine ⟨x.1.take st0.size, x.1.drop st0.size, (List.take_append_drop _ _).symm, by rw [List.length_drop]; omega, by rw [List.length_take]; omega, by rw [e1], by rw [e1]⟩
theorem ev0_le {a : EVs} (h : ∀ v ∈ a, v.1.size ≤ 40 ∧ In64 v.2) : ∀ i, (evAt a i).1.size ≤ 40 ∧ In64 (evAt a i).2 := by
  intro i
  by_cases hi : i < a.length
  · exact h _ (evAt_mem hi)
  · unfold evAt
    rw [List.getD_eq_getElem?_getD, List.getElem?_eq_none (by omega)]
    exact ⟨by decide, in64_0⟩
theorem evOk_step {st st0 : ByteArray} {op : Nat} {n : Int} {s : ByteArray} {ws : Strs} {k : Nat} {x y : EVs × Recs} (h : EvOkP st k x) (hst : st = st0 ++ takesB op) (hn : In64 n)
    (he : evStep op n s ws x = some y) : EvOkP (st0 ++ givesB op) (k + 1) y := by
  obtain ⟨S0, a, hx, ha, hS, e1, e2⟩ := evOk_takes h hst
  have hall : ∀ v ∈ a, v.1.size ≤ 40 ∧ In64 v.2 := fun v hv => h.texts v (by rw [hx]; exact List.mem_append_right _ hv)
  have hall0 : ∀ v ∈ S0, v.1.size ≤ 40 ∧ In64 v.2 := fun v hv => h.texts v (by rw [hx]; exact List.mem_append_left _ hv)
  have hfew := h.few
  rw [hx, List.length_append] at hfew
  unfold evStep at he
  rw [e1, e2] at he
  split at he
  · rename_i hg
    rw [Option.some.injEq] at he
    subst he
    refine ⟨by rw [ByteArray.size_append, hg]; exact hS, by simp only; omega, hall0, ?_, ?_⟩
    · simp only
      split
      · rw [List.length_append]; have := h.recs; simp; omega
      · have := h.recs; omega
    · simp only
      split
      · intro r hr
        rcases List.mem_append.1 hr with hr | hr
        · exact h.keys r hr
        · simp at hr
          subst hr
          exact ⟨(ev0_le hall 0).1, (ev0_le hall 1).2⟩
      · exact h.keys
  · rename_i hg
    split at he
    · rename_i hv
      rw [Option.some.injEq] at he
      subst he
      have hg1 : (givesB op).size = 1 := by have := gives_few op; omega
      refine ⟨by rw [ByteArray.size_append, hg1, List.length_append, hS]; rfl, by simp only [List.length_append, List.length_cons, List.length_nil]; omega, ?_, by have := h.recs; simp only; omega, h.keys⟩
      intro v hv'
      rcases List.mem_append.1 hv' with h1 | h1
      · exact hall0 v h1
      · simp at h1
        subst h1
        exact ⟨hv, putV64 _ _ _ _ _ hn (ev0_le hall 0).1⟩
    · cases he
/-- The whole way. -/
theorem evOk_all {l : Instrs} {ws : Strs} (hp : progB l = true) (hn : ∀ i, i < l.length → In64 (ins1 l i)) : ∀ k, k ≤ l.length → ∀ x, evK l ws k = some x → ∃ st, stk l k = some st ∧ EvOkP st k x := by
  intro k
  induction k with
  | zero =>
    intro _ x hx
    rw [evK, Option.some.injEq] at hx
    subst hx
    exact ⟨_, rfl, evOk0⟩
  | succ k ih =>
    intro hk x hx
    cases hy : evK l ws k with
    | none => rw [evK, hy] at hx; cases hx
    | some y =>
      obtain ⟨st, hs, ho⟩ := ih (by omega) y hy
      obtain ⟨st0, h1, h2⟩ := prog_step hp (by omega) hs
      rw [evK_step hy] at hx
      exact ⟨_, h2, evOk_step ho h1 (hn k (by omega)) hx⟩
theorem evalR_facts {l : Instrs} {ws : Strs} (hn : ∀ i, i < l.length → In64 (ins1 l i)) : (evalR l ws).1.length ≤ 30 ∧ (∀ r ∈ (evalR l ws).1, r.1.size ≤ 40 ∧ In64 r.2) ∧ (0 ≤ (evalR l ws).2 ∧ (evalR l ws).2 ≤ 2) ∧ ((evalR l ws).2 ≠ 0 → (evalR l ws).1 = []) := by
  by_cases h : progB l = true ∧ ws.length ≤ 20
  · cases hx : evK l ws l.length with
    | none => rw [evalR_long h.1 h.2 (Nat.le_refl _) hx]; exact ⟨by simp, fun r hr => absurd hr (by simp), ⟨by simp, by simp⟩, fun _ => rfl⟩
    | some x =>
      obtain ⟨st, _, ho⟩ := evOk_all h.1 hn _ (Nat.le_refl _) x hx
      rw [evalR_good h.1 h.2 hx]
      exact ⟨Nat.le_trans ho.recs (prog_len h.1), ho.keys, ⟨by simp, by simp⟩, fun h => absurd rfl h⟩
  · rw [evalR_no h]; exact ⟨by simp, fun r hr => absurd hr (by simp), ⟨by simp, by simp⟩, fun _ => rfl⟩
end Go.Proofs.YtdphganbnlmgcaaGreatDoor
namespace Go.Proofs.YtdphganbnlmgcaaGreatDoor
open Go.ChangeShapes Go.WideShapes Go.ChangeAt Go.RowKit
set_option linter.unusedVariables false
set_option maxRecDepth 100000

def encS (b : List UInt8) : Value := .string ⟨b.toArray⟩

theorem extract_piece (s : ByteArray) (i j : Nat) : s.extract i j = ⟨(piece s.data.toList i j).toArray⟩ := by
  have h : (s.extract i j).data.toList = piece s.data.toList i j := by simp [piece]
  rw [← h]

theorem byte_at {s : ByteArray} {L : List UInt8} (hL : s.data.toList = L) (j : Nat) (h1 : j < s.size) (h2 : j < L.length) : L[j] = s[j] := by
  subst hL; rfl

/-- The end of l1Cut: the piece ahead of the first c, what is behind it, and whether there is one. -/
def MadeCut (c : UInt8) (s : ByteArray) (w : World) (e : Ending) (w' : World) : Prop :=
  ∃ (a r : ByteArray) (b : Bool), e = .returned (.tuple #[.string a, .string r, .bool b]) ∧ Below w.heap.size w w' ∧ r.size ≤ s.size ∧
    noC c a.data.toList ∧ (b = true → s.data.toList = a.data.toList ++ c :: r.data.toList) ∧ (b = false → a = s ∧ r.size = 0)

set_option maxHeartbeats 1000000 in
theorem cut_any (s : ByteArray) (c : UInt8) (w : World) (hs : s.size ≤ maxLen) :
    Calls Tryz.prog 57 #[.string s, .int .u8 c.toNat] w (MadeCut c s w) := by
  unfold maxLen at hs
  go_enter Tryz.func57, Tryz.ntmps57
  go_wp2
  go_loop [7] (fun i => ∃ k : Nat, k ≤ s.size ∧ i = .int .i64 k ∧ Hid (noC c (piece s.data.toList 0 k))) (fun i => s.size - (intOf i).toNat)
  case atStart => exact ⟨0, Nat.zero_le _, rfl, by rw [piece_empty]; exact noC_nil⟩
  case round =>
    obtain ⟨k, hk, rfl, HN⟩ := hrel
    by_cases hlt : k < s.size
    · by_cases hc : s[k] = c
      · have hb0 : (((s[k]).toNat : Int) == (c.toNat : Int)) = true := by rw [hc]; simp
        have hi1 : (k : Int) ≤ (s.size : Int) := by omega
        have hj0 : (0 : Int) ≤ (k : Int) + 1 := by omega
        have hj1 : (k : Int) + 1 ≤ (s.size : Int) := by omega
        have HC := Lib.hid hc
        clear hc
        go_wp2_with fail
        have hj2 : ((k : Int) + 1).toNat = k + 1 := by omega
        have hwr : IntKind.i64.wrap ((k : Int) + 1) = (k : Int) + 1 := IntWalk.i64_in _ (by omega)
        go_quiet (fail)
        clear hj2 hwr
        have hkl : k < s.data.toList.length := by simpa using hlt
        have e1 : (s.extract 0 k).data.toList = piece s.data.toList 0 k := by rw [extract_piece]
        have e2 : (s.extract (k + 1) s.size).data.toList = s.data.toList.drop (k + 1) := by
          rw [extract_piece, show s.size = s.data.toList.length by simp, piece_end]
        have e3 := drop_piece s.data.toList 0 k (Nat.zero_le _) hkl
        rw [List.drop_zero, byte_at rfl k hlt hkl, HC.out] at e3
        have E1 := Lib.hid e1
        have E3 := Lib.hid (show s.data.toList = (s.extract 0 k).data.toList ++ c :: (s.extract (k + 1) s.size).data.toList by rw [e1, e2]; exact e3)
        clear e1 e2 e3
        go_wp2
        go_ret3
        exact ⟨_, _, true, rfl, below_drewN (Below.refl _ _) _, by rw [ByteArray.size_extract]; omega, by rw [E1.out]; exact HN.out, fun _ => E3.out, (fun h => by cases h)⟩
      · have hb0 : (((s[k]).toNat : Int) == (c.toNat : Int)) = false := by
          simp only [beq_eq_false_iff_ne]
          intro h
          exact hc (UInt8.toNat_inj.1 (by omega))
        have HC := Lib.hid hc
        clear hc
        go_wp2
        go_round
        case rel =>
          have hkl : k < s.data.toList.length := by simpa using hlt
          exact ⟨k + 1, by omega, by go_num, by rw [piece_snoc _ 0 k (Nat.zero_le _) hkl]; exact noC_snoc HN.out (by rw [byte_at rfl k hlt hkl]; exact HC.out)⟩
        case measure => simp [intOf]; omega
    · obtain rfl : k = s.size := by omega
      have HN2 := Lib.hid (show noC c s.data.toList by
        have := HN.out
        rw [show s.size = s.data.toList.length by simp, piece_end] at this
        simpa using this)
      go_wp2
      go_ret3
      exact ⟨s, ByteArray.empty, false, rfl, Below.refl _ _, Nat.zero_le _, HN2.out, (fun h => by cases h), fun _ => ⟨rfl, rfl⟩⟩

def lenOf : Value → Nat | .string s => s.size | _ => 0
def yes : Value → Bool | .bool b => b | _ => false
end Go.Proofs.YtdphganbnlmgcaaGreatDoor
