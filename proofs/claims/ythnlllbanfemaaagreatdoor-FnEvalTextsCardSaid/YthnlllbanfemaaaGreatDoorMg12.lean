/- Texts put together, as a claim holds at most sixty files. -/
import Derived.Test.YthnlllbanfemaaaGreatDoorMg0
import Derived.OwnWalk
import Derived.Test.YthnlllbanfemaaaGreatDoorMg1
import Derived.Test.YthnlllbanfemaaaGreatDoorMg5
import Derived.Test.YthnlllbanfemaaaGreatDoorMg4
import Derived.Laws.AppendOwnNone
namespace Go.Proofs.YthnlllbanfemaaaGreatDoor
open Go.ChangeShapes Go.WideShapes Go.ChangeAt Go.RowKit
set_option linter.unusedVariables false
set_option maxRecDepth 100000

abbrev Recs := List (ByteArray × Int)
def keyAt (l : Recs) (i : Nat) : ByteArray := (l.getD i (ByteArray.empty, 0)).1
def numAt (l : Recs) (i : Nat) : Int := (l.getD i (ByteArray.empty, 0)).2

/-- The slice (a, len, cap) holds the records l. -/
structure RecsAt (w : World) (a : Option Addr) (len : Nat) (l : Recs) : Prop where
  length : l.length = len
  max : len ≤ maxLen
  keys : ∀ i, i < len → (keyAt l i).size ≤ maxLen
  src : len = 0 ∨ ∃ b off, a = some ⟨b, off, none⟩ ∧ b < w.heap.size ∧ ∀ i, i < len → w.cell? ⟨b, off + i * 2, none⟩ = some (.string (keyAt l i)) ∧ w.cell? ⟨b, off + i * 2 + 1, none⟩ = some (.int .i64 (numAt l i))

theorem RecsAt.keep {w w1 : World} {a : Option Addr} {len : Nat} {l : Recs} (h : RecsAt w a len l) (hB : Below w.heap.size w w1) : RecsAt w1 a len l := by
  refine ⟨h.length, h.max, h.keys, ?_⟩
  rcases h.src with h0 | ⟨b, off, ha, hb, hc⟩
  · exact .inl h0
  · exact .inr ⟨b, off, ha, Nat.lt_of_lt_of_le hb hB.size, fun i hi => ⟨(hB.cell (p := ⟨b, off + i * 2, none⟩) hb).trans (hc i hi).1, (hB.cell (p := ⟨b, off + i * 2 + 1, none⟩) hb).trans (hc i hi).2⟩⟩

/-- The end of the laws' measure of records: below 0 (too much), or what is left; then the records and their keys are few and short. -/
def Sized (len : Nat) (l : Recs) (w : World) (e : Ending) (w' : World) : Prop :=
  ∃ x : Int, -1 ≤ x ∧ x ≤ 1048576 ∧ e = .returned (.int .i64 x) ∧ Below w.heap.size w w' ∧ (0 ≤ x → len ≤ 1048576 ∧ ∀ i, i < len → (keyAt l i).size ≤ 1048576)

theorem sz1_bd (x : Int) (s : ByteArray) (h0 : 0 ≤ x) (h1 : x ≤ 1048576) : -1 ≤ sz1 x s ∧ sz1 x s ≤ 1048576 ∧ (0 ≤ sz1 x s → s.size ≤ 1048576) := by
  unfold sz1; split <;> omega

theorem infoRec : (Tryz.prog.info? 54).map (fun i => (i.zero, i.size, i.bytes)) = some (some (.agg #[.string ByteArray.empty, .int .i64 0]), 2, 24) := by kernel_rfl

/-- The first k records of l lie at the head of the row. -/
def Laid (cur : Array Value) (l : Recs) (k : Nat) : Prop := ∀ j, j < k → cur[j * 2]? = some (.string (keyAt l j)) ∧ cur[j * 2 + 1]? = some (.int .i64 (numAt l j))
theorem Laid.step {cur : Array Value} {l : Recs} {k len : Nat} (h : Laid cur l k) (hs : cur.size = len * 2) (hk : k < len) :
    Laid ((cur.setIfInBounds (k * 2) (.string (keyAt l k))).setIfInBounds (k * 2 + 1) (.int .i64 (numAt l k))) l (k + 1) := by
  intro j hj
  have h1 : k * 2 < cur.size := by omega
  have h2 : k * 2 + 1 < cur.size := by omega
  rcases Nat.lt_or_ge j k with hlt | hge
  · obtain ⟨e1, e2⟩ := h j hlt
    constructor
    · rw [Array.getElem?_setIfInBounds_ne (by omega), Array.getElem?_setIfInBounds_ne (by omega)]; exact e1
    · rw [Array.getElem?_setIfInBounds_ne (by omega), Array.getElem?_setIfInBounds_ne (by omega)]; exact e2
  · obtain rfl : j = k := by omega
    constructor
    · rw [Array.getElem?_setIfInBounds_ne (by omega)]; simp [h1]
    · simp [h2]

theorem RecsAt.ofRow {w : World} {B len : Nat} {E : TypeId} {cur : Array Value} {l : Recs} (h : Row w B E cur) (hl : l.length = len) (hm : len ≤ maxLen) (hk : ∀ i, i < len → (keyAt l i).size ≤ maxLen) (hlaid : Laid cur l len) : RecsAt w (some ⟨B, 0, none⟩) len l := by
  refine ⟨hl, hm, hk, .inr ⟨B, 0, rfl, h.lt, fun i hi => ?_⟩⟩
  obtain ⟨e1, e2⟩ := hlaid i hi
  unfold Row at h
  simp [World.cell?, h, e1, e2]

/-- The end of the laws' copy of records: a new slice of the same records. -/
def MadeRecs (len : Nat) (l : Recs) (w : World) (e : Ending) (w' : World) : Prop :=
  e = .returned (.slice (some ⟨w.heap.size, 0, none⟩) len len) ∧ RecsAt w' (some ⟨w.heap.size, 0, none⟩) len l ∧ Below w.heap.size w w' ∧ ∃ cur, Row w' w.heap.size 54 cur ∧ cur.size = len * 2

end Go.Proofs.YthnlllbanfemaaaGreatDoor
namespace Go.Proofs.YthnlllbanfemaaaGreatDoor
open Go.ChangeShapes Go.WideShapes Go.ChangeAt Go.RowKit
set_option linter.unusedVariables false
set_option maxRecDepth 100000

abbrev EV := ByteArray × Int
abbrev EVs := List EV
def evAt (a : EVs) (i : Nat) : EV := a.getD i (ByteArray.empty, 0)
def wordAt (words : Strs) (n : Int) : ByteArray := if n < words.length then strAt words n.toNat else ByteArray.empty
def truthI (b : Bool) : Int := if b then 1 else 0
def numI (s : ByteArray) : Int := (numD s.data.toList).getD 0

/-- What an instruction puts, of what it takes. -/
def putV : Nat → Int → ByteArray → EVs → Strs → EV
  | 1, n, _, _, ws => (wordAt ws n, 0)
  | 2, _, s, _, _ => (s, 0)
  | 3, n, _, _, _ => (ByteArray.empty, n)
  | 4, _, _, a, _ => ((evAt a 0).1 ++ (evAt a 1).1, 0)
  | 5, _, _, a, _ => (ByteArray.empty, ((evAt a 0).1.size : Int))
  | 6, _, _, a, _ => (ByteArray.empty, numI (evAt a 0).1)
  | 7, _, _, a, _ => (decB (evAt a 0).2, 0)
  | 8, _, _, a, _ => (ByteArray.empty, wrap64 ((evAt a 0).2 + (evAt a 1).2))
  | 9, _, _, a, _ => (ByteArray.empty, wrap64 ((evAt a 0).2 - (evAt a 1).2))
  | 10, _, _, a, _ => (ByteArray.empty, wrap64 ((evAt a 0).2 * (evAt a 1).2))
  | 12, _, _, a, _ => (ByteArray.empty, truthI (decide ((evAt a 0).1 = (evAt a 1).1)))
  | _, _, _, a, _ => (ByteArray.empty, truthI (decide ((evAt a 0).2 < (evAt a 1).2)))

/-- Stack and records behind an instruction; none: a text is too long. -/
def evStep (op : Nat) (n : Int) (s : ByteArray) (ws : Strs) (x : EVs × Recs) : Option (EVs × Recs) :=
  if (givesB op).size = 0 then
    some (x.1.take (x.1.length - (takesB op).size),
      if op = 13 ∨ (evAt (x.1.drop (x.1.length - (takesB op).size)) 2).2 ≠ 0 then x.2 ++ [((evAt (x.1.drop (x.1.length - (takesB op).size)) 0).1, (evAt (x.1.drop (x.1.length - (takesB op).size)) 1).2)] else x.2)
  else if (putV op n s (x.1.drop (x.1.length - (takesB op).size)) ws).1.size ≤ 40 then
    some (x.1.take (x.1.length - (takesB op).size) ++ [putV op n s (x.1.drop (x.1.length - (takesB op).size)) ws], x.2)
  else none
def evK (l : Instrs) (ws : Strs) : Nat → Option (EVs × Recs)
  | 0 => some ([], [])
  | k + 1 => (evK l ws k).bind (evStep (ins0 l k).toNat (ins1 l k) (ins2 l k) ws)
/-- Records and code. -/
def evalR (l : Instrs) (ws : Strs) : Recs × Int :=
  if progB l = true ∧ ws.length ≤ 20 then
    match evK l ws l.length with
    | some x => (x.2, 0)
    | none => ([], 2)
  else ([], 1)
theorem evK_none {l : Instrs} {ws : Strs} {k n : Nat} (h : evK l ws k = none) (hk : k ≤ n) : evK l ws n = none := by
  induction n with
  | zero => obtain rfl : k = 0 := by omega
            exact h
  | succ n ih =>
    rcases Nat.lt_or_ge n k with h1 | h1
    · obtain rfl : k = n + 1 := by omega
      exact h
    · rw [evK, ih h1]; rfl
theorem evalR_no {l : Instrs} {ws : Strs} (h : ¬ (progB l = true ∧ ws.length ≤ 20)) : evalR l ws = ([], 1) := by unfold evalR; rw [if_neg h]
theorem evalR_long {l : Instrs} {ws : Strs} {k : Nat} (h : progB l = true) (h2 : ws.length ≤ 20) (hk : k ≤ l.length) (hn : evK l ws k = none) : evalR l ws = ([], 2) := by
  unfold evalR; rw [if_pos ⟨h, h2⟩, evK_none hn hk]
theorem evalR_good {l : Instrs} {ws : Strs} {x : EVs × Recs} (h : progB l = true) (h2 : ws.length ≤ 20) (hn : evK l ws l.length = some x) : evalR l ws = (x.2, 0) := by
  unfold evalR; rw [if_pos ⟨h, h2⟩, hn]
theorem evK_step {l : Instrs} {ws : Strs} {k : Nat} {x : EVs × Recs} (h : evK l ws k = some x) : evK l ws (k + 1) = evStep (ins0 l k).toNat (ins1 l k) (ins2 l k) ws x := by
  rw [evK, h]; rfl

/-! ### a valid program's stack has the letters that it was followed by -/
theorem prog_stk {l : Instrs} (h : progB l = true) : ∀ k, k ≤ l.length → ∃ st, stk l k = some st := by
  intro k hk
  cases hs : stk l k with
  | some st => exact ⟨st, rfl⟩
  | none => rw [prog_bad hk hs] at h; cases h
theorem prog_instr {l : Instrs} (h : progB l = true) {k : Nat} (hk : k < l.length) : instrB (ins0 l k) (ins1 l k) (ins2 l k) = true := by
  cases hb : instrB (ins0 l k) (ins1 l k) (ins2 l k) with
  | true => rfl
  | false => rw [prog_bad (k := k + 1) (by omega) (stk_wrong hb)] at h; cases h
theorem prog_len {l : Instrs} (h : progB l = true) : l.length ≤ 30 := by
  unfold progB at h
  rw [Bool.and_eq_true, decide_eq_true_eq] at h
  exact h.1
theorem step_fits_of {st tk gv st' : ByteArray} (h : stepB st tk gv = some st') : ∃ st0, st = st0 ++ tk ∧ st' = st0 ++ gv := by
  unfold stepB at h
  split at h
  · rename_i h0
    rw [Option.some.injEq] at h
    refine ⟨st.extract 0 (st.size - tk.size), ?_, h.symm⟩
    have e : st.extract 0 (st.size - tk.size) ++ st.extract (st.size - tk.size) st.size = st := by
      apply ByteArray.ext
      apply Array.toList_inj.1
      simp only [ByteArray.data_append, ByteArray.data_extract, Array.toList_append, Array.toList_extract]
      have hs : st.size = st.data.toList.length := rfl
      rw [hs]
      generalize hL : st.data.toList = L
      have : tk.size ≤ L.length := by rw [← hL]; exact h0.1
      simp only [List.extract_eq_take_drop, Nat.sub_zero, List.drop_zero]
      rw [show L.length - (L.length - tk.size) = tk.size by omega]
      rw [List.take_of_length_le (i := tk.size) (by simp; omega), List.take_append_drop]
    rw [h0.2] at e
    exact e.symm
  · cases h
theorem prog_step {l : Instrs} (h : progB l = true) {k : Nat} (hk : k < l.length) {st : ByteArray} (hs : stk l k = some st) :
    ∃ st0, st = st0 ++ takesB (ins0 l k).toNat ∧ stk l (k + 1) = some (st0 ++ givesB (ins0 l k).toNat) := by
  obtain ⟨st', h'⟩ := prog_stk h (k + 1) (by omega)
  have e := stk_step hs (prog_instr h hk)
  rw [h'] at e
  obtain ⟨st0, h1, h2⟩ := step_fits_of e.symm
  exact ⟨st0, h1, by rw [h', h2]⟩

/-! ### texts and numbers of a stack, each apart -/
def txs : List UInt8 → EVs → Strs
  | c :: st, v :: S => if c = 84 then v.1 :: txs st S else txs st S
  | _, _ => []
def nms : List UInt8 → EVs → List Int
  | c :: st, v :: S => if c = 84 then nms st S else v.2 :: nms st S
  | _, _ => []
theorem txs_app : ∀ (st st' : List UInt8) (S S' : EVs), st.length = S.length → txs (st ++ st') (S ++ S') = txs st S ++ txs st' S'
  | [], st', [], S', _ => rfl
  | [], st', v :: S, S', h => by simp at h
  | c :: st, st', [], S', h => by simp at h
  | c :: st, st', v :: S, S', h => by
    have ih := txs_app st st' S S' (by simpa using h)
    simp only [List.cons_append, txs, ih]
    split <;> rfl
theorem nms_app : ∀ (st st' : List UInt8) (S S' : EVs), st.length = S.length → nms (st ++ st') (S ++ S') = nms st S ++ nms st' S'
  | [], st', [], S', _ => rfl
  | [], st', v :: S, S', h => by simp at h
  | c :: st, st', [], S', h => by simp at h
  | c :: st, st', v :: S, S', h => by
    have ih := nms_app st st' S S' (by simpa using h)
    simp only [List.cons_append, nms, ih]
    split <;> rfl
theorem txs_mem : ∀ (st : List UInt8) (S : EVs) (s : ByteArray), s ∈ txs st S → ∃ v ∈ S, v.1 = s
  | [], S, s, h => by simp [txs] at h
  | c :: st, [], s, h => by simp [txs] at h
  | c :: st, v :: S, s, h => by
    unfold txs at h
    split at h
    · rcases List.mem_cons.1 h with rfl | h
      · exact ⟨v, by simp, rfl⟩
      · obtain ⟨u, hu, e⟩ := txs_mem st S s h
        exact ⟨u, by simp [hu], e⟩
    · obtain ⟨u, hu, e⟩ := txs_mem st S s h
      exact ⟨u, by simp [hu], e⟩
theorem nms_mem : ∀ (st : List UInt8) (S : EVs) (s : Int), s ∈ nms st S → ∃ v ∈ S, v.2 = s
  | [], S, s, h => by simp [nms] at h
  | c :: st, [], s, h => by simp [nms] at h
  | c :: st, v :: S, s, h => by
    unfold nms at h
    split at h
    · obtain ⟨u, hu, e⟩ := nms_mem st S s h
      exact ⟨u, by simp [hu], e⟩
    · rcases List.mem_cons.1 h with rfl | h
      · exact ⟨v, by simp, rfl⟩
      · obtain ⟨u, hu, e⟩ := nms_mem st S s h
        exact ⟨u, by simp [hu], e⟩
theorem txs_len : ∀ (st : List UInt8) (S : EVs), (txs st S).length ≤ S.length
  | [], S => by simp [txs]
  | c :: st, [] => by simp [txs]
  | c :: st, v :: S => by
    have := txs_len st S
    unfold txs; split <;> simp <;> omega
theorem nms_len : ∀ (st : List UInt8) (S : EVs), (nms st S).length ≤ S.length
  | [], S => by simp [nms]
  | c :: st, [] => by simp [nms]
  | c :: st, v :: S => by
    have := nms_len st S
    unfold nms; split <;> simp <;> omega

/-! ### what holds of the stack on the way -/
structure EvOkP (st : ByteArray) (k : Nat) (x : EVs × Recs) : Prop where
  len : x.1.length = st.size
  few : x.1.length ≤ k
  texts : ∀ v ∈ x.1, v.1.size ≤ 40 ∧ In64 v.2
  recs : x.2.length ≤ k
  keys : ∀ r ∈ x.2, r.1.size ≤ 40 ∧ In64 r.2
theorem in64_wrap (x : Int) : In64 (wrap64 x) := by
  unfold In64 wrap64
  omega
theorem truth64 (b : Bool) : In64 (truthI b) := by unfold In64 truthI; split <;> omega
theorem numI64 (s : ByteArray) : In64 (numI s) := by
  unfold numI
  cases h : numD s.data.toList with
  | none => exact ⟨by decide, by decide⟩
  | some v => have := (numD_iff.1 h).2; exact ⟨this.1, by have := this.2; simp only [Option.getD_some]; omega⟩
theorem in64_0 : In64 0 := ⟨by decide, by decide⟩
theorem putV64 (op : Nat) (n : Int) (s : ByteArray) (a : EVs) (ws : Strs) (hn : In64 n) (hs : (evAt a 0).1.size ≤ 40) : In64 (putV op n s a ws).2 := by
  unfold putV
  split
  · exact in64_0
  · exact in64_0
  · exact hn
  · exact in64_0
  · exact ⟨by simp only; omega, by simp only; omega⟩
  · exact numI64 _
  · exact in64_0
  · exact in64_wrap _
  · exact in64_wrap _
  · exact in64_wrap _
  · exact truth64 _
  · exact truth64 _
theorem evAt_mem {a : EVs} {i : Nat} (h : i < a.length) : evAt a i ∈ a := by
  unfold evAt; rw [List.getD_eq_getElem?_getD, List.getElem?_eq_getElem h]; exact List.getElem_mem h
theorem evOk0 : EvOkP ByteArray.empty 0 ([], []) := ⟨rfl, Nat.le_refl _, fun v hv => absurd hv (by simp), Nat.le_refl _, fun r hr => absurd hr (by simp)⟩
/-- One instruction of a valid program: what it takes lies on the stack. -/
theorem evOk_takes {st st0 : ByteArray} {op : Nat} {k : Nat} {x : EVs × Recs} (h : EvOkP st k x) (hst : st = st0 ++ takesB op) :
    ∃ S0 a, x.1 = S0 ++ a ∧ a.length = (takesB op).size ∧ S0.length = st0.size ∧ x.1.take (x.1.length - (takesB op).size) = S0 ∧ x.1.drop (x.1.length - (takesB op).size) = a := by
  have hl := h.len
  rw [hst, ByteArray.size_append] at hl
  have e1 : x.1.length - (takesB op).size = st0.size := by omega
  refine ⟨x.1.take st0.size, x.1.drop st0.size, (List.take_append_drop _ _).symm, by rw [List.length_drop]; omega, by rw [List.length_take]; omega, by rw [e1], by rw [e1]⟩
theorem ev0_le {a : EVs} (h : ∀ v ∈ a, v.1.size ≤ 40 ∧ In64 v.2) : ∀ i, (evAt a i).1.size ≤ 40 ∧ In64 (evAt a i).2 := by
  intro i
  by_cases hi : i < a.length
  · exact h _ (evAt_mem hi)
  · unfold evAt
    rw [List.getD_eq_getElem?_getD, List.getElem?_eq_none (by omega)]
    exact ⟨by decide, in64_0⟩
theorem evOk_step {st st0 : ByteArray} {op : Nat} {n : Int} {s : ByteArray} {ws : Strs} {k : Nat} {x y : EVs × Recs} (h : EvOkP st k x) (hst : st = st0 ++ takesB op) (hn : In64 n)
    (he : evStep op n s ws x = some y) : EvOkP (st0 ++ givesB op) (k + 1) y := by
  obtain ⟨S0, a, hx, ha, hS, e1, e2⟩ := evOk_takes h hst
  have hall : ∀ v ∈ a, v.1.size ≤ 40 ∧ In64 v.2 := fun v hv => h.texts v (by rw [hx]; exact List.mem_append_right _ hv)
  have hall0 : ∀ v ∈ S0, v.1.size ≤ 40 ∧ In64 v.2 := fun v hv => h.texts v (by rw [hx]; exact List.mem_append_left _ hv)
  have hfew := h.few
  rw [hx, List.length_append] at hfew
  unfold evStep at he
  rw [e1, e2] at he
  split at he
  · rename_i hg
    rw [Option.some.injEq] at he
    subst he
    refine ⟨by rw [ByteArray.size_append, hg]; exact hS, by simp only; omega, hall0, ?_, ?_⟩
    · simp only
      split
      · rw [List.length_append]; have := h.recs; simp; omega
      · have := h.recs; omega
    · simp only
      split
      · intro r hr
        rcases List.mem_append.1 hr with hr | hr
        · exact h.keys r hr
        · simp at hr
          subst hr
          exact ⟨(ev0_le hall 0).1, (ev0_le hall 1).2⟩
      · exact h.keys
  · rename_i hg
    split at he
    · rename_i hv
      rw [Option.some.injEq] at he
      subst he
      have hg1 : (givesB op).size = 1 := by have := gives_few op; omega
      refine ⟨by rw [ByteArray.size_append, hg1, List.length_append, hS]; rfl, by simp only [List.length_append, List.length_cons, List.length_nil]; omega, ?_, by have := h.recs; simp only; omega, h.keys⟩
      intro v hv'
      rcases List.mem_append.1 hv' with h1 | h1
      · exact hall0 v h1
      · simp at h1
        subst h1
        exact ⟨hv, putV64 _ _ _ _ _ hn (ev0_le hall 0).1⟩
    · cases he
/-- The whole way. -/
theorem evOk_all {l : Instrs} {ws : Strs} (hp : progB l = true) (hn : ∀ i, i < l.length → In64 (ins1 l i)) : ∀ k, k ≤ l.length → ∀ x, evK l ws k = some x → ∃ st, stk l k = some st ∧ EvOkP st k x := by
  intro k
  induction k with
  | zero =>
    intro _ x hx
    rw [evK, Option.some.injEq] at hx
    subst hx
    exact ⟨_, rfl, evOk0⟩
  | succ k ih =>
    intro hk x hx
    cases hy : evK l ws k with
    | none => rw [evK, hy] at hx; cases hx
    | some y =>
      obtain ⟨st, hs, ho⟩ := ih (by omega) y hy
      obtain ⟨st0, h1, h2⟩ := prog_step hp (by omega) hs
      rw [evK_step hy] at hx
      exact ⟨_, h2, evOk_step ho h1 (hn k (by omega)) hx⟩
theorem evalR_facts {l : Instrs} {ws : Strs} (hn : ∀ i, i < l.length → In64 (ins1 l i)) : (evalR l ws).1.length ≤ 30 ∧ (∀ r ∈ (evalR l ws).1, r.1.size ≤ 40 ∧ In64 r.2) ∧ (0 ≤ (evalR l ws).2 ∧ (evalR l ws).2 ≤ 2) ∧ ((evalR l ws).2 ≠ 0 → (evalR l ws).1 = []) := by
  by_cases h : progB l = true ∧ ws.length ≤ 20
  · cases hx : evK l ws l.length with
    | none => rw [evalR_long h.1 h.2 (Nat.le_refl _) hx]; exact ⟨by simp, fun r hr => absurd hr (by simp), ⟨by simp, by simp⟩, fun _ => rfl⟩
    | some x =>
      obtain ⟨st, _, ho⟩ := evOk_all h.1 hn _ (Nat.le_refl _) x hx
      rw [evalR_good h.1 h.2 hx]
      exact ⟨Nat.le_trans ho.recs (prog_len h.1), ho.keys, ⟨by simp, by simp⟩, fun h => absurd rfl h⟩
  · rw [evalR_no h]; exact ⟨by simp, fun r hr => absurd hr (by simp), ⟨by simp, by simp⟩, fun _ => rfl⟩
end Go.Proofs.YthnlllbanfemaaaGreatDoor
namespace Go.Proofs.YthnlllbanfemaaaGreatDoor
open Go.ChangeShapes Go.WideShapes Go.ChangeAt Go.RowKit
set_option linter.unusedVariables false
set_option maxRecDepth 100000

theorem infoRc : (Tryz.prog.info? 54).map (fun i => (i.zero, i.size, i.bytes)) = some (some (.agg #[.string ByteArray.empty, .int .i64 0]), 2, 24) := by kernel_rfl
def RcLaid (cur : Array Value) (l : Recs) (k : Nat) : Prop := ∀ j, j < k → cur[j * 2]? = some (.string (keyAt l j)) ∧ cur[j * 2 + 1]? = some (.int .i64 (numAt l j))
def cellsRc (W : Recs) : List Value := W.flatMap fun r => [Value.string r.1, Value.int .i64 r.2]
theorem cellsRc_nil : cellsRc [] = [] := rfl
theorem cellsRc_snoc (W : Recs) (x0 : ByteArray) (x1 : Int) : cellsRc (W ++ [(x0, x1)]) = cellsRc W ++ [.string x0, .int .i64 x1] := by simp [cellsRc]
theorem cellsRc_append (W V : Recs) : cellsRc (W ++ V) = cellsRc W ++ cellsRc V := by simp [cellsRc]
theorem cellsRc_one_row (x0 : ByteArray) (x1 : Int) : cellsRc [(x0, x1)] = [.string x0, .int .i64 x1] := by simp [cellsRc]
theorem cellsRc_len : ∀ W : Recs, (cellsRc W).length = W.length * 2
  | [] => rfl
  | r :: t => by
    have := cellsRc_len t
    simp only [cellsRc] at this
    simp [cellsRc, List.flatMap_cons, this]; omega
theorem cellsRc_get : ∀ (W : Recs) (j : Nat), j < W.length → (cellsRc W)[j * 2]? = some (.string (keyAt W j)) ∧ (cellsRc W)[j * 2 + 1]? = some (.int .i64 (numAt W j))
  | [], j, h => by simp at h
  | r :: t, 0, h => by simp [cellsRc, keyAt, numAt]
  | r :: t, j + 1, h => by
    have := cellsRc_get t j (by simpa using h)
    have e : (j + 1) * 2 = j * 2 + 2 := by omega
    simp only [cellsRc] at this
    rw [e]
    have e0 : j * 2 + 2 = j * 2 + 1 + 1 := by omega
    have e1 : j * 2 + 2 + 1 = j * 2 + 1 + 1 + 1 := by omega
    rw [e1, e0]
    simp only [cellsRc, List.flatMap_cons, List.cons_append, List.nil_append, List.getElem?_cons_succ]
    simpa [keyAt, numAt] using this
theorem rc_cells1 : ∀ W : Recs, ∀ u ∈ cellsRc W, u.oneCell' = true := by
  intro W u hu
  unfold cellsRc at hu
  rw [List.mem_flatMap] at hu
  obtain ⟨r, _, hr⟩ := hu
  simp only [List.mem_cons, or_false, List.not_mem_nil] at hr
  rcases hr with rfl | rfl
  all_goals rfl
theorem rc_new (w : World) (x0 : ByteArray) (x1 : Int) (t : TypeId) : ∀ j u, [Value.string x0, Value.int .i64 x1][j]? = some u → (w.alloc (.cells #[.string x0, .int .i64 x1] t)).cell? ((⟨w.heap.size, 0, none⟩ : Addr).add j) = some u := by
  intro j u hj
  match j, hj with
  | 0, hj => simp at hj; subst hj; simp [Addr.add]
  | 1, hj => simp at hj; subst hj; simp [Addr.add]
theorem rc_at_row {w : World} {B : Nat} (x0 : ByteArray) (x1 : Int) {t : TypeId} (h : Row w B t #[.string x0, .int .i64 x1]) : ∀ j u, [Value.string x0, Value.int .i64 x1][j]? = some u → w.cell? ((⟨B, 0, none⟩ : Addr).add j) = some u := by
  intro j u hj
  unfold Row at h
  match j, hj with
  | 0, hj => simp at hj; subst hj; simp [Addr.add, World.cell?, h]
  | 1, hj => simp at hj; subst hj; simp [Addr.add, World.cell?, h]

/-- The slice (q, length of W) holds the values W in a row from block 'base' on. -/
def RcK (base : Nat) (w : World) (q : Option Addr) (W : Recs) : Prop :=
  W.length = 0 ∨ ∃ g cur, q = some ⟨g, 0, none⟩ ∧ base ≤ g ∧ Row w g 54 cur ∧ W.length * 2 ≤ cur.size ∧ RcLaid cur W W.length
theorem rck_of_own {base : Nat} {w : World} {q : Option Addr} {m cp : Nat} {W : Recs} (h : w.ownsRow base 54 2 (.slice q m cp) W.length (cellsRc W)) : RcK base w q W := by
  rcases h.2 with ⟨h1, h2⟩ | ⟨g, cap, cur, hv, hb, hh, h1, _, h3, h4⟩
  · exact .inl h2
  · simp only [Value.slice.injEq] at hv
    obtain ⟨rfl, _, rfl⟩ := hv
    refine .inr ⟨g, cur, rfl, hb, hh, by omega, fun j hj => ?_⟩
    obtain ⟨e0, e1⟩ := cellsRc_get W j hj
    rw [← h4, List.getElem?_take_of_lt (by omega)] at e0 e1
    exact ⟨by simpa using e0, by simpa using e1⟩
theorem rck_keep {base : Nat} {w w1 : World} {q : Option Addr} {W : Recs} (h : RcK base w q W) (hB : Below w.heap.size w w1) : RcK base w1 q W := by
  rcases h with h0 | ⟨g, cur, rfl, hb, hr, h1, h2⟩
  · exact .inl h0
  · exact .inr ⟨g, cur, rfl, hb, hr.keep hB, h1, h2⟩
theorem rck_low {base B : Nat} {w : World} {q : Option Addr} {W : Recs} (h : RcK B w q W) (hb : base ≤ B) : RcK base w q W := by
  rcases h with h0 | ⟨g, cur, rfl, h1, hr, h2, h3⟩
  · exact .inl h0
  · exact .inr ⟨g, cur, rfl, Nat.le_trans hb h1, hr, h2, h3⟩
theorem rck_lt {base : Nat} {w : World} {q : Option Addr} {W : Recs} (h : RcK base w q W) (hn : 0 < W.length) : ∀ g, q = some ⟨g, 0, none⟩ → base ≤ g ∧ g < w.heap.size := by
  intro g hg
  rcases h with h0 | ⟨g', cur, rfl, hb, hr, h1, h2⟩
  · omega
  · simp only [Option.some.injEq, Addr.mk.injEq, and_true] at hg
    rw [← hg]; exact ⟨hb, hr.lt⟩
theorem rck_grown {base : Nat} {w w1 : World} {q : Option Addr} {W : Recs} {row : Option Nat} (h : RcK base w q W) (hg : w.grownBy w1 row) (hne : ∀ g, q = some ⟨g, 0, none⟩ → some g ≠ row) : RcK base w1 q W := by
  rcases h with h0 | ⟨g', cur, rfl, hb, hr, h1, h2⟩
  · exact .inl h0
  · exact .inr ⟨g', cur, rfl, hb, (hg.block g' hr.lt (hne g' rfl)).trans hr, h1, h2⟩
theorem rck_put {base : Nat} {w : World} {q : Option Addr} {W : Recs} (h : RcK base w q W) {X : Nat} (hne : ∀ g, q = some ⟨g, 0, none⟩ → g ≠ X) (j : Nat) (v : Value) : RcK base (w.setCell ⟨X, j, none⟩ v) q W := by
  rcases h with h0 | ⟨g', cur, rfl, hb, hr, h1, h2⟩
  · exact .inl h0
  · exact .inr ⟨g', cur, rfl, hb, hr.other (hne g' rfl) j v, h1, h2⟩
theorem rcs_of_k {base n : Nat} {w : World} {q : Option Addr} {W : Recs} (h : RcK base w q W) (hn : W.length = n) (hm : n ≤ maxLen) (hs : ∀ i, i < n → (keyAt W i).size ≤ maxLen) : RecsAt w q n W := by
  subst hn
  refine ⟨rfl, hm, hs, ?_⟩
  rcases h with h0 | ⟨g, cur, rfl, _, hr, _, hc⟩
  · exact .inl h0
  · refine .inr ⟨g, 0, rfl, hr.lt, fun i hi => ?_⟩
    obtain ⟨e0, e1⟩ := hc i hi
    unfold Row at hr
    simp [World.cell?, hr, e0, e1]

/-! ### pieces of a slice that may be read, and appends of them -/
theorem rc_at_take (l : Recs) (k i : Nat) (h : i < k) : keyAt (l.take k) i = keyAt l i ∧ numAt (l.take k) i = numAt l i := by
  refine ⟨?_, ?_⟩ <;> simp [keyAt, numAt, List.getElem?_take_of_lt h]
theorem rc_at_drop (l : Recs) (k i : Nat) : keyAt (l.drop k) i = keyAt l (k + i) ∧ numAt (l.drop k) i = numAt l (k + i) := by
  refine ⟨?_, ?_⟩ <;> simp [keyAt, numAt]
theorem rcs_take {w : World} {a : Option Addr} {len : Nat} {l : Recs} (h : RecsAt w a len l) {k : Nat} (hk : k ≤ len) : RecsAt w a k (l.take k) := by
  have hl := h.length
  refine ⟨by rw [List.length_take]; omega, Nat.le_trans hk h.max, fun i hi => ?_, ?_⟩
  · obtain ⟨e0, e1⟩ := rc_at_take l k i hi
    have := h.keys i (by omega)
    simpa only [e0, e1] using this
  · rcases h.src with h0 | ⟨b, off, ha, hb, hc⟩
    · exact .inl (by omega)
    · refine .inr ⟨b, off, ha, hb, fun i hi => ?_⟩
      obtain ⟨e0, e1⟩ := rc_at_take l k i hi
      have := hc i (by omega)
      simpa only [e0, e1] using this
theorem rcs_drop {w : World} {b off : Nat} {len : Nat} {l : Recs} (h : RecsAt w (some ⟨b, off, none⟩) len l) {k : Nat} (hk : k ≤ len) : RecsAt w (some ⟨b, off + k * 2, none⟩) (len - k) (l.drop k) := by
  have hl := h.length
  have hm := h.max
  refine ⟨by rw [List.length_drop]; omega, by omega, fun i hi => ?_, ?_⟩
  · obtain ⟨e0, e1⟩ := rc_at_drop l k i
    have := h.keys (k + i) (by omega)
    simpa only [e0, e1] using this
  · rcases h.src with h0 | ⟨b', off', ha, hb, hc⟩
    · exact .inl (by omega)
    · simp only [Option.some.injEq, Addr.mk.injEq, and_true] at ha
      obtain ⟨rfl, rfl⟩ := ha
      refine .inr ⟨b, off + k * 2, rfl, hb, fun i hi => ?_⟩
      obtain ⟨e0, e1⟩ := rc_at_drop l k i
      have := hc (k + i) (by omega)
      rw [show off + (k + i) * 2 = off + k * 2 + i * 2 by rw [Nat.add_mul]; omega] at this
      simpa only [e0, e1] using this
theorem rcs_none {w : World} {a a' : Option Addr} {len : Nat} {l : Recs} (h : RecsAt w a len l) (hn : len = 0) : RecsAt w a' 0 [] := ⟨rfl, Nat.zero_le _, fun i hi => by omega, .inl rfl⟩
theorem rc_cells_at {w : World} {q : Addr} {len : Nat} {l : Recs} (h : RecsAt w (some q) len l) : ∀ j u, (cellsRc l)[j]? = some u → w.cell? (q.add j) = some u := by
  intro j u hj
  have hl := h.length
  have hjl : j < l.length * 2 := by
    obtain ⟨h1, _⟩ := List.getElem?_eq_some_iff.1 hj
    rw [cellsRc_len] at h1; exact h1
  rcases h.src with h0 | ⟨b, off, ha, hb, hc⟩
  · omega
  · simp only [Option.some.injEq] at ha
    subst ha
    have hi : j / 2 < len := by omega
    obtain ⟨c0, c1⟩ := hc (j / 2) hi
    obtain ⟨e0, e1⟩ := cellsRc_get l (j / 2) (by omega)
    have hadd : (⟨b, off, none⟩ : Addr).add j = ⟨b, off + j, none⟩ := by
      unfold Addr.add
      split
      · rename_i h0; subst h0; rfl
      · rfl
    rw [hadd]
    have hr : j % 2 < 2 := Nat.mod_lt _ (by decide)
    have hd : 2 * (j / 2) + j % 2 = j := Nat.div_add_mod j 2
    rcases (show j % 2 = 0 ∨ j % 2 = 1 by omega) with hr0 | hr1
    · have ej : j = j / 2 * 2 := by omega
      have e := e0
      rw [← ej] at e
      rw [e] at hj
      rw [← hj, show off + j = off + j / 2 * 2 by omega]
      exact c0
    · have ej : j = j / 2 * 2 + 1 := by omega
      have e := e1
      rw [← ej] at e
      rw [e] at hj
      rw [← hj, show off + j = off + j / 2 * 2 + 1 by omega]
      exact c1

theorem own_cellsRc {w : World} {base : Nat} {v : Value} {W : Recs} {xs : List Value} {m k : Nat} (h : w.ownsRow base 54 2 v m xs) (hm : m = k) (hx : xs = cellsRc W) : w.ownsRow base 54 2 v k (cellsRc W) := by rw [← hm, ← hx]; exact h
/-- append of values that may be read, nil or not, to a row of the call's own. -/
theorem wp_append_rc {o : Oper} {a : Act} {K : Act → World → Prop} {Q : Exit → Act → World → Prop} {w : World} (s x : Operand)
    (ho : o.op = .call { callee := .builtin .append, args := #[s, x], argTypes := #[26, 26] })
    (base : Nat) (v : Value) (n : Nat) (W : Recs) (hs : a.eval s = v) (hown : w.ownsRow base 54 2 v n (cellsRc W))
    (q : Option Addr) (m c : Nat) (V : Recs) (hx : a.eval x = .slice q m c) (hrec : RecsAt w q m V) (hnone : q = none → c = 0) (h6 : n + m ≤ 2097152) (hbase : base ≤ w.heap.size)
    (h : ∀ q' c' w', w'.ownsRow base 54 2 (.slice q' (n + m) c') (n + m) (cellsRc (W ++ V)) → w.grownBy w' v.ownBlock → K (a.put o.dst (.slice q' (n + m) c')) w') : o.wp Tryz.prog a w K Q := by
  obtain ⟨i0, hi, hz0, hz1, hz2⟩ := info_parts infoRc
  cases q with
  | none =>
    have hc := hnone rfl
    have hm : m = 0 := by
      rcases hrec.src with h0 | ⟨b, off, ha, _⟩
      · exact h0
      · cases ha
    subst hm hc
    obtain rfl : V = [] := List.eq_nil_of_length_eq_zero hrec.length
    obtain ⟨q', c', rfl⟩ := own_form hown
    have h0 := h q' c' w (by simpa using hown) (World.grownBy.refl _ _)
    have hrun := run_append_owned_none (P := Tryz.prog) (w := w) base 26 o.type 54 i0 2 Tryz.underlying26 hi _ n _ hown
    unfold Oper.wp
    simp [execOp, ho, resolve, invoke, builtin, hs, hx, hrun, Result.andThen]
    exact h0
  | some p =>
    exact wp_append_own w s x 26 ho base 54 i0 _ 2 24 Tryz.underlying26 hi hz0 hz1 hz2 rfl (by decide) v n _ hs hown p m c (cellsRc V) hx (by rw [cellsRc_len, hrec.length]) (rc_cells_at hrec) (rc_cells1 _) (by unfold maxLen; omega) (by omega) hbase fun v' w' h2 h3 h4 => by
      obtain ⟨q', c', rfl⟩ := own_form h2
      exact h q' c' w' (by rw [cellsRc_append]; exact h2) h3
theorem append_rc {ops : Array Oper} {rest : List Oper} {o : Oper} {a : Act} {Q : Exit → Act → World → Prop} {w : World} (hg : o.guard = none) (s x : Operand)
    (ho : o.op = .call { callee := .builtin .append, args := #[s, x], argTypes := #[26, 26] })
    (base : Nat) (v : Value) (n : Nat) (W : Recs) (hs : a.eval s = v) (hown : w.ownsRow base 54 2 v n (cellsRc W))
    (q : Option Addr) (m c : Nat) (V : Recs) (hx : a.eval x = .slice q m c) (hrec : RecsAt w q m V) (hnone : q = none → c = 0) (h6 : n + m ≤ 2097152) (hbase : base ≤ w.heap.size)
    (h : ∀ q' c' w', w'.ownsRow base 54 2 (.slice q' (n + m) c') (n + m) (cellsRc (W ++ V)) → w.grownBy w' v.ownBlock → wpList Tryz.prog ops Q rest (a.put o.dst (.slice q' (n + m) c')) w') : wpList Tryz.prog ops Q (o :: rest) a w :=
  wpList_plain hg fun _ hK => wp_append_rc s x ho base v n W hs hown q m c V hx hrec hnone h6 hbase fun q' c' w' h2 h3 => hK _ _ (h q' c' w' h2 h3)
/-- At a step of a region that draws its order. -/
theorem step_append_rc {ops : Array Oper} {o : Oper} {a : Act} {K : Act → World → Prop} {Q : Exit → Act → World → Prop} {Ee : Prop} {w : World} (hg : o.guard = none) (s x : Operand)
    (ho : o.op = .call { callee := .builtin .append, args := #[s, x], argTypes := #[26, 26] })
    (base : Nat) (v : Value) (n : Nat) (W : Recs) (hs : a.eval s = v) (hown : w.ownsRow base 54 2 v n (cellsRc W))
    (q : Option Addr) (m c : Nat) (V : Recs) (hx : a.eval x = .slice q m c) (hrec : RecsAt w q m V) (hnone : q = none → c = 0) (h6 : n + m ≤ 2097152) (hbase : base ≤ w.heap.size)
    (h : ∀ q' c' w', w'.ownsRow base 54 2 (.slice q' (n + m) c') (n + m) (cellsRc (W ++ V)) → w.grownBy w' v.ownBlock → K (a.put o.dst (.slice q' (n + m) c')) w') :
    if Region.wanted o (yielded ops a.tmps) = true then Oper.wp Tryz.prog o a w K Q else Ee := by
  have hw : Region.wanted o (yielded ops a.tmps) = true := by simp [Region.wanted, hg]
  rw [if_pos hw]
  exact wp_append_rc s x ho base v n W hs hown q m c V hx hrec hnone h6 hbase h
/-- append of one value that has just been laid in a block of its own. -/
theorem wp_append1_rc {o : Oper} {a : Act} {K : Act → World → Prop} {Q : Exit → Act → World → Prop} {w : World} (s x : Operand)
    (ho : o.op = .call { callee := .builtin .append, args := #[s, x], argTypes := #[26, 26] })
    (base : Nat) (v : Value) (n : Nat) (W : Recs) (hs : a.eval s = v) (hown : w.ownsRow base 54 2 v n (cellsRc W))
    (B c : Nat) (x0 : ByteArray) (x1 : Int) (hx : a.eval x = .slice (some ⟨B, 0, none⟩) 1 c) (hrow : ∀ j u, [Value.string x0, Value.int .i64 x1][j]? = some u → w.cell? ((⟨B, 0, none⟩ : Addr).add j) = some u) (h6 : n + 1 ≤ 2097152) (hbase : base ≤ w.heap.size)
    (h : ∀ q' c' w', w'.ownsRow base 54 2 (.slice q' (n + 1) c') (n + 1) (cellsRc (W ++ [(x0, x1)])) → w.grownBy w' v.ownBlock → K (a.put o.dst (.slice q' (n + 1) c')) w') : o.wp Tryz.prog a w K Q := by
  obtain ⟨i0, hi, hz0, hz1, hz2⟩ := info_parts infoRc
  exact wp_append_own w s x 26 ho base 54 i0 _ 2 24 Tryz.underlying26 hi hz0 hz1 hz2 rfl (by decide) v n _ hs hown ⟨B, 0, none⟩ 1 c [Value.string x0, Value.int .i64 x1] hx rfl hrow (fun u hu => rc_cells1 [(x0, x1)] u (by rw [cellsRc_one_row]; exact hu)) (by unfold maxLen; omega) (by omega) hbase fun v' w' h2 h3 h4 => by
    obtain ⟨q', c', rfl⟩ := own_form h2
    exact h q' c' w' (by rw [cellsRc_snoc]; exact h2) h3
theorem step_append1_rc {ops : Array Oper} {Ee : Prop} {o : Oper} {a : Act} {K : Act → World → Prop} {Q : Exit → Act → World → Prop} {w : World} (hg : o.guard = none) (s x : Operand)
    (ho : o.op = .call { callee := .builtin .append, args := #[s, x], argTypes := #[26, 26] })
    (base : Nat) (v : Value) (n : Nat) (W : Recs) (hs : a.eval s = v) (hown : w.ownsRow base 54 2 v n (cellsRc W))
    (B c : Nat) (x0 : ByteArray) (x1 : Int) (hx : a.eval x = .slice (some ⟨B, 0, none⟩) 1 c) (hrow : ∀ j u, [Value.string x0, Value.int .i64 x1][j]? = some u → w.cell? ((⟨B, 0, none⟩ : Addr).add j) = some u) (h6 : n + 1 ≤ 2097152) (hbase : base ≤ w.heap.size)
    (h : ∀ q' c' w', w'.ownsRow base 54 2 (.slice q' (n + 1) c') (n + 1) (cellsRc (W ++ [(x0, x1)])) → w.grownBy w' v.ownBlock → K (a.put o.dst (.slice q' (n + 1) c')) w') :
    if Region.wanted o (yielded ops a.tmps) = true then Oper.wp Tryz.prog o a w K Q else Ee := by
  have hw : Region.wanted o (yielded ops a.tmps) = true := by simp [Region.wanted, hg]
  rw [if_pos hw]
  exact wp_append1_rc s x ho base v n W hs hown B c x0 x1 hx hrow h6 hbase h
theorem append1_rc {ops : Array Oper} {rest : List Oper} {o : Oper} {a : Act} {Q : Exit → Act → World → Prop} {w : World} (hg : o.guard = none) (s x : Operand)
    (ho : o.op = .call { callee := .builtin .append, args := #[s, x], argTypes := #[26, 26] })
    (base : Nat) (v : Value) (n : Nat) (W : Recs) (hs : a.eval s = v) (hown : w.ownsRow base 54 2 v n (cellsRc W))
    (B c : Nat) (x0 : ByteArray) (x1 : Int) (hx : a.eval x = .slice (some ⟨B, 0, none⟩) 1 c) (hrow : ∀ j u, [Value.string x0, Value.int .i64 x1][j]? = some u → w.cell? ((⟨B, 0, none⟩ : Addr).add j) = some u) (h6 : n + 1 ≤ 2097152) (hbase : base ≤ w.heap.size)
    (h : ∀ q' c' w', w'.ownsRow base 54 2 (.slice q' (n + 1) c') (n + 1) (cellsRc (W ++ [(x0, x1)])) → w.grownBy w' v.ownBlock → wpList Tryz.prog ops Q rest (a.put o.dst (.slice q' (n + 1) c')) w') : wpList Tryz.prog ops Q (o :: rest) a w :=
  wpList_plain hg fun _ hK => wp_append1_rc s x ho base v n W hs hown B c x0 x1 hx hrow h6 hbase fun q' c' w' h2 h3 => hK _ _ (h q' c' w' h2 h3)
theorem own_nilRc (w : World) (base : Nat) : w.ownsRow base 54 2 (.slice none 0 0) 0 (cellsRc []) := ⟨rfl, .inl ⟨rfl, rfl⟩⟩
/-- An array of no length that has just been made. -/
theorem own_zeroRc {w : World} {base B : Nat} (h : Row w B 54 #[]) (hb : base ≤ B) : w.ownsRow base 54 2 (.slice (some ⟨B, 0, none⟩) 0 0) 0 (cellsRc []) := ⟨rfl, .inr ⟨B, 0, #[], rfl, hb, h, Nat.le_refl _, Nat.zero_le _, rfl, rfl⟩⟩

/-- The row of a slice that is not empty. -/
theorem own_rowRc {w : World} {base : Nat} {q : Option Addr} {n m c : Nat} {xs : List Value} (h : w.ownsRow base 54 2 (.slice q m c) n xs) (hn : 0 < n) : ∃ g cur, q = some ⟨g, 0, none⟩ ∧ m = n ∧ base ≤ g ∧ Row w g 54 cur ∧ n ≤ c ∧ c ≤ maxLen ∧ cur.size = c * 2 ∧ cur.toList.take (n * 2) = xs := by
  rcases h.2 with ⟨_, h0⟩ | ⟨g, cap, cur, hv, hb, hh, h1, h2, h3, h4⟩
  · omega
  · simp only [Value.slice.injEq] at hv
    obtain ⟨rfl, rfl, rfl⟩ := hv
    exact ⟨g, cur, rfl, rfl, hb, hh, h1, h2, h3, h4⟩
theorem cellsRc_set : ∀ (W : Recs) (p : Nat) (x0 : ByteArray) (x1 : Int), p < W.length → cellsRc (W.set p (x0, x1)) = (((cellsRc W).set (p * 2) (.string x0)).set (p * 2 + 1) (.int .i64 x1))
  | [], p, x0, x1, h => by simp at h
  | r :: t, 0, x0, x1, h => by simp [cellsRc]
  | r :: t, p + 1, x0, x1, h => by
    have ih := cellsRc_set t p x0 x1 (by simpa using h)
    rw [List.set_cons_succ]
    have e : ∀ W : Recs, ∀ r, cellsRc (r :: W) = [Value.string r.1, Value.int .i64 r.2] ++ cellsRc W := fun W r => rfl
    rw [e, e, ih]
    have f0 : (p + 1) * 2 = p * 2 + 1 + 1 := by omega
    have f1 : (p + 1) * 2 + 1 = p * 2 + 1 + 1 + 1 := by omega
    rw [f1, f0]
    simp only [List.cons_append, List.nil_append, List.set_cons_succ]
/-- One value of an own row laid anew. -/
theorem own_setRc {w : World} {base g n c : Nat} {W : Recs} (h : w.ownsRow base 54 2 (.slice (some ⟨g, 0, none⟩) n c) n (cellsRc W)) {p : Nat} (hp : p < n) (x0 : ByteArray) (x1 : Int) :
    ((w.setCell ⟨g, p * 2, none⟩ (.string x0)).setCell ⟨g, p * 2 + 1, none⟩ (.int .i64 x1)).ownsRow base 54 2 (.slice (some ⟨g, 0, none⟩) n c) n (cellsRc (W.set p (x0, x1))) := by
  have hl := h.1
  rw [cellsRc_len] at hl
  have hl2 : W.length = n := by omega
  obtain ⟨g', cur, hq, _, hb, hr, h1, h2, h3, h4⟩ := own_rowRc h (by omega)
  simp only [Option.some.injEq, Addr.mk.injEq, and_true] at hq
  subst hq
  refine ⟨by rw [cellsRc_len, List.length_set, hl2], .inr ⟨g, c, ((cur.setIfInBounds (p * 2) (.string x0)).setIfInBounds (p * 2 + 1) (.int .i64 x1)), rfl, hb, (hr.set _ _).set _ _, h1, h2, by simpa using h3, ?_⟩⟩
  rw [cellsRc_set W p x0 x1 (by omega), ← h4]
  simp only [Array.toList_setIfInBounds, List.take_set]
end Go.Proofs.YthnlllbanfemaaaGreatDoor
