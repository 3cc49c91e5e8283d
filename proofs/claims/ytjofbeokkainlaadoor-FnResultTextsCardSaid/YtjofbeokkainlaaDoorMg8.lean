/- Texts put together, as a claim holds at most sixty files. -/
import Derived.Test.YtjofbeokkainlaaDoorMg3
import Derived.Test.YtjofbeokkainlaaDoorMg1
import Derived.Test.YtjofbeokkainlaaDoorMg7
import Derived.Lib.LaidTab
import Derived.Stop.LaidErr
import Derived.KernelRfl
import Derived.Deep.Strs
import Derived.Test.YtjofbeokkainlaaDoorMg2
import Derived.Deep.Slices
import Derived.Lib.Join
namespace Go.Proofs.YtjofbeokkainlaaDoor
open Go.ChangeShapes Go.WideShapes Go.ChangeAt Go.RowKit
set_option linter.unusedVariables false
set_option maxRecDepth 100000

abbrev EV := ByteArray × Int
abbrev EVs := List EV
def evAt (a : EVs) (i : Nat) : EV := a.getD i (ByteArray.empty, 0)
def wordAt (words : Strs) (n : Int) : ByteArray := if n < words.length then strAt words n.toNat else ByteArray.empty
def truthI (b : Bool) : Int := if b then 1 else 0
def numI (s : ByteArray) : Int := (numD s.data.toList).getD 0

/-- What an instruction puts, of what it takes. -/
def putV : Nat → Int → ByteArray → EVs → Strs → EV
  | 1, n, _, _, ws => (wordAt ws n, 0)
  | 2, _, s, _, _ => (s, 0)
  | 3, n, _, _, _ => (ByteArray.empty, n)
  | 4, _, _, a, _ => ((evAt a 0).1 ++ (evAt a 1).1, 0)
  | 5, _, _, a, _ => (ByteArray.empty, ((evAt a 0).1.size : Int))
  | 6, _, _, a, _ => (ByteArray.empty, numI (evAt a 0).1)
  | 7, _, _, a, _ => (decB (evAt a 0).2, 0)
  | 8, _, _, a, _ => (ByteArray.empty, wrap64 ((evAt a 0).2 + (evAt a 1).2))
  | 9, _, _, a, _ => (ByteArray.empty, wrap64 ((evAt a 0).2 - (evAt a 1).2))
  | 10, _, _, a, _ => (ByteArray.empty, wrap64 ((evAt a 0).2 * (evAt a 1).2))
  | 12, _, _, a, _ => (ByteArray.empty, truthI (decide ((evAt a 0).1 = (evAt a 1).1)))
  | _, _, _, a, _ => (ByteArray.empty, truthI (decide ((evAt a 0).2 < (evAt a 1).2)))

/-- Stack and records behind an instruction; none: a text is too long. -/
def evStep (op : Nat) (n : Int) (s : ByteArray) (ws : Strs) (x : EVs × Recs) : Option (EVs × Recs) :=
  if (givesB op).size = 0 then
    some (x.1.take (x.1.length - (takesB op).size),
      if op = 13 ∨ (evAt (x.1.drop (x.1.length - (takesB op).size)) 2).2 ≠ 0 then x.2 ++ [((evAt (x.1.drop (x.1.length - (takesB op).size)) 0).1, (evAt (x.1.drop (x.1.length - (takesB op).size)) 1).2)] else x.2)
  else if (putV op n s (x.1.drop (x.1.length - (takesB op).size)) ws).1.size ≤ 40 then
    some (x.1.take (x.1.length - (takesB op).size) ++ [putV op n s (x.1.drop (x.1.length - (takesB op).size)) ws], x.2)
  else none
def evK (l : Instrs) (ws : Strs) : Nat → Option (EVs × Recs)
  | 0 => some ([], [])
  | k + 1 => (evK l ws k).bind (evStep (ins0 l k).toNat (ins1 l k) (ins2 l k) ws)
/-- Records and code. -/
def evalR (l : Instrs) (ws : Strs) : Recs × Int :=
  if progB l = true ∧ ws.length ≤ 20 then
    match evK l ws l.length with
    | some x => (x.2, 0)
    | none => ([], 2)
  else ([], 1)
theorem evK_none {l : Instrs} {ws : Strs} {k n : Nat} (h : evK l ws k = none) (hk : k ≤ n) : evK l ws n = none := by
  induction n with
  | zero => obtain rfl : k = 0 := by omega
            exact h
  | succ n ih =>
    rcases Nat.lt_or_ge n k with h1 | h1
    · obtain rfl : k = n + 1 := by omega
      exact h
    · rw [evK, ih h1]; rfl
theorem evalR_no {l : Instrs} {ws : Strs} (h : ¬ (progB l = true ∧ ws.length ≤ 20)) : evalR l ws = ([], 1) := by unfold evalR; rw [if_neg h]
theorem evalR_long {l : Instrs} {ws : Strs} {k : Nat} (h : progB l = true) (h2 : ws.length ≤ 20) (hk : k ≤ l.length) (hn : evK l ws k = none) : evalR l ws = ([], 2) := by
  unfold evalR; rw [if_pos ⟨h, h2⟩, evK_none hn hk]
theorem evalR_good {l : Instrs} {ws : Strs} {x : EVs × Recs} (h : progB l = true) (h2 : ws.length ≤ 20) (hn : evK l ws l.length = some x) : evalR l ws = (x.2, 0) := by
  unfold evalR; rw [if_pos ⟨h, h2⟩, hn]
theorem evK_step {l : Instrs} {ws : Strs} {k : Nat} {x : EVs × Recs} (h : evK l ws k = some x) : evK l ws (k + 1) = evStep (ins0 l k).toNat (ins1 l k) (ins2 l k) ws x := by
  rw [evK, h]; rfl

/-! ### a valid program's stack has the letters that it was followed by -/
theorem prog_stk {l : Instrs} (h : progB l = true) : ∀ k, k ≤ l.length → ∃ st, stk l k = some st := by
  intro k hk
  cases hs : stk l k with
  | some st => exact ⟨st, rfl⟩
  | none => rw [prog_bad hk hs] at h; cases h
theorem prog_instr {l : Instrs} (h : progB l = true) {k : Nat} (hk : k < l.length) : instrB (ins0 l k) (ins1 l k) (ins2 l k) = true := by
  cases hb : instrB (ins0 l k) (ins1 l k) (ins2 l k) with
  | true => rfl
  | false => rw [prog_bad (k := k + 1) (by omega) (stk_wrong hb)] at h; cases h
theorem prog_len {l : Instrs} (h : progB l = true) : l.length ≤ 30 := by
  unfold progB at h
  rw [Bool.and_eq_true, decide_eq_true_eq] at h
  exact h.1
theorem step_fits_of {st tk gv st' : ByteArray} (h : stepB st tk gv = some st') : ∃ st0, st = st0 ++ tk ∧ st' = st0 ++ gv := by
  unfold stepB at h
  split at h
  · rename_i h0
    rw [Option.some.injEq] at h
    refine ⟨st.extract 0 (st.size - tk.size), ?_, h.symm⟩
    have e : st.extract 0 (st.size - tk.size) ++ st.extract (st.size - tk.size) st.size = st := by
      apply ByteArray.ext
      apply Array.toList_inj.1
      simp only [ByteArray.data_append, ByteArray.data_extract, Array.toList_append, Array.toList_extract]
      have hs : st.size = st.data.toList.length := rfl
      rw [hs]
      generalize hL : st.data.toList = L
      have : tk.size ≤ L.length := by rw [← hL]; exact h0.1
      simp only [List.extract_eq_take_drop, Nat.sub_zero, List.drop_zero]
      rw [show L.length - (L.length - tk.size) = tk.size by omega]
      rw [List.take_of_length_le (i := tk.size) (by simp; omega), List.take_append_drop]
    rw [h0.2] at e
    exact e.symm
  · cases h
theorem prog_step {l : Instrs} (h : progB l = true) {k : Nat} (hk : k < l.length) {st : ByteArray} (hs : stk l k = some st) :
    ∃ st0, st = st0 ++ takesB (ins0 l k).toNat ∧ stk l (k + 1) = some (st0 ++ givesB (ins0 l k).toNat) := by
  obtain ⟨st', h'⟩ := prog_stk h (k + 1) (by omega)
  have e := stk_step hs (prog_instr h hk)
  rw [h'] at e
  obtain ⟨st0, h1, h2⟩ := step_fits_of e.symm
  exact ⟨st0, h1, by rw [h', h2]⟩

/-! ### texts and numbers of a stack, each apart -/
def txs : List UInt8 → EVs → Strs
  | c :: st, v :: S => if c = 84 then v.1 :: txs st S else txs st S
  | _, _ => []
def nms : List UInt8 → EVs → List Int
  | c :: st, v :: S => if c = 84 then nms st S else v.2 :: nms st S
  | _, _ => []
theorem txs_app : ∀ (st st' : List UInt8) (S S' : EVs), st.length = S.length → txs (st ++ st') (S ++ S') = txs st S ++ txs st' S'
  | [], st', [], S', _ => rfl
  | [], st', v :: S, S', h => by simp at h
  | c :: st, st', [], S', h => by simp at h
  | c :: st, st', v :: S, S', h => by
    have ih := txs_app st st' S S' (by simpa using h)
    simp only [List.cons_append, txs, ih]
    split <;> rfl
theorem nms_app : ∀ (st st' : List UInt8) (S S' : EVs), st.length = S.length → nms (st ++ st') (S ++ S') = nms st S ++ nms st' S'
  | [], st', [], S', _ => rfl
  | [], st', v :: S, S', h => by simp at h
  | c :: st, st', [], S', h => by simp at h
  | c :: st, st', v :: S, S', h => by
    have ih := nms_app st st' S S' (by simpa using h)
    simp only [List.cons_append, nms, ih]
    split <;> rfl
theorem txs_mem : ∀ (st : List UInt8) (S : EVs) (s : ByteArray), s ∈ txs st S → ∃ v ∈ S, v.1 = s
  | [], S, s, h => by simp [txs] at h
  | c :: st, [], s, h => by simp [txs] at h
  | c :: st, v :: S, s, h => by
    unfold txs at h
    split at h
    · rcases List.mem_cons.1 h with rfl | h
      · exact ⟨v, by simp, rfl⟩
      · obtain ⟨u, hu, e⟩ := txs_mem st S s h
        exact ⟨u, by simp [hu], e⟩
    · obtain ⟨u, hu, e⟩ := txs_mem st S s h
      exact ⟨u, by simp [hu], e⟩
theorem nms_mem : ∀ (st : List UInt8) (S : EVs) (s : Int), s ∈ nms st S → ∃ v ∈ S, v.2 = s
  | [], S, s, h => by simp [nms] at h
  | c :: st, [], s, h => by simp [nms] at h
  | c :: st, v :: S, s, h => by
    unfold nms at h
    split at h
    · obtain ⟨u, hu, e⟩ := nms_mem st S s h
      exact ⟨u, by simp [hu], e⟩
    · rcases List.mem_cons.1 h with rfl | h
      · exact ⟨v, by simp, rfl⟩
      · obtain ⟨u, hu, e⟩ := nms_mem st S s h
        exact ⟨u, by simp [hu], e⟩
theorem txs_len : ∀ (st : List UInt8) (S : EVs), (txs st S).length ≤ S.length
  | [], S => by simp [txs]
  | c :: st, [] => by simp [txs]
  | c :: st, v :: S => by
    have := txs_len st S
    unfold txs; split <;> simp <;> omega
theorem nms_len : ∀ (st : List UInt8) (S : EVs), (nms st S).length ≤ S.length
  | [], S => by simp [nms]
  | c :: st, [] => by simp [nms]
  | c :: st, v :: S => by
    have := nms_len st S
    unfold nms; split <;> simp <;> omega

/-! ### what holds of the stack on the way -/
structure EvOkP (st : ByteArray) (k : Nat) (x : EVs × Recs) : Prop where
  len : x.1.length = st.size
  few : x.1.length ≤ k
  texts : ∀ v ∈ x.1, v.1.size ≤ 40 ∧ In64 v.2
  recs : x.2.length ≤ k
  keys : ∀ r ∈ x.2, r.1.size ≤ 40 ∧ In64 r.2
theorem in64_wrap (x : Int) : In64 (wrap64 x) := by
  unfold In64 wrap64
  omega
theorem truth64 (b : Bool) : In64 (truthI b) := by unfold In64 truthI; split <;> omega
theorem numI64 (s : ByteArray) : In64 (numI s) := by
  unfold numI
  cases h : numD s.data.toList with
  | none => exact ⟨by decide, by decide⟩
  | some v => have := (numD_iff.1 h).2; exact ⟨this.1, by have := this.2; simp only [Option.getD_some]; omega⟩
theorem in64_0 : In64 0 := ⟨by decide, by decide⟩
theorem putV64 (op : Nat) (n : Int) (s : ByteArray) (a : EVs) (ws : Strs) (hn : In64 n) (hs : (evAt a 0).1.size ≤ 40) : In64 (putV op n s a ws).2 := by
  unfold putV
  split
  · exact in64_0
  · exact in64_0
  · exact hn
  · exact in64_0
  · exact ⟨by simp only; omega, by simp only; omega⟩
  · exact numI64 _
  · exact in64_0
  · exact in64_wrap _
  · exact in64_wrap _
  · exact in64_wrap _
  · exact truth64 _
  · exact truth64 _
theorem evAt_mem {a : EVs} {i : Nat} (h : i < a.length) : evAt a i ∈ a := by
  unfold evAt; rw [List.getD_eq_getElem?_getD, List.getElem?_eq_getElem h]; exact List.getElem_mem h
theorem evOk0 : EvOkP ByteArray.empty 0 ([], []) := ⟨rfl, Nat.le_refl _, fun v hv => absurd hv (by simp), Nat.le_refl _, fun r hr => absurd hr (by simp)⟩
/-- One instruction of a valid program: what it takes lies on the stack. -/
theorem evOk_takes {st st0 : ByteArray} {op : Nat} {k : Nat} {x : EVs × Recs} (h : EvOkP st k x) (hst : st = st0 ++ takesB op) :
    ∃ S0 a, x.1 = S0 ++ a ∧ a.length = (takesB op).size ∧ S0.length = st0.size ∧ x.1.take (x.1.length - (takesB op).size) = S0 ∧ x.1.drop (x.1.length - (takesB op).size) = a := by
  have hl := h.len
  rw [hst, ByteArray.size_append] at hl
  have e1 : x.1.length - (takesB op).size = st0.size := by omega
  refine ⟨x.1.take st0.size, x.1.drop st0.size, (List.take_append_drop _ _).symm, by rw [List.length_drop]; omega, by rw [List.length_take]; omega, by rw [e1], by rw [e1]⟩
theorem ev0_le {a : EVs} (h : ∀ v ∈ a, v.1.size ≤ 40 ∧ In64 v.2) : ∀ i, (evAt a i).1.size ≤ 40 ∧ In64 (evAt a i).2 := by
  intro i
  by_cases hi : i < a.length
  · exact h _ (evAt_mem hi)
  · unfold evAt
    rw [List.getD_eq_getElem?_getD, List.getElem?_eq_none (by omega)]
    exact ⟨by decide, in64_0⟩
theorem evOk_step {st st0 : ByteArray} {op : Nat} {n : Int} {s : ByteArray} {ws : Strs} {k : Nat} {x y : EVs × Recs} (h : EvOkP st k x) (hst : st = st0 ++ takesB op) (hn : In64 n)
    (he : evStep op n s ws x = some y) : EvOkP (st0 ++ givesB op) (k + 1) y := by
  obtain ⟨S0, a, hx, ha, hS, e1, e2⟩ := evOk_takes h hst
  have hall : ∀ v ∈ a, v.1.size ≤ 40 ∧ In64 v.2 := fun v hv => h.texts v (by rw [hx]; exact List.mem_append_right _ hv)
  have hall0 : ∀ v ∈ S0, v.1.size ≤ 40 ∧ In64 v.2 := fun v hv => h.texts v (by rw [hx]; exact List.mem_append_left _ hv)
  have hfew := h.few
  rw [hx, List.length_append] at hfew
  unfold evStep at he
  rw [e1, e2] at he
  split at he
  · rename_i hg
    rw [Option.some.injEq] at he
    subst he
    refine ⟨by rw [ByteArray.size_append, hg]; exact hS, by simp only; omega, hall0, ?_, ?_⟩
    · simp only
      split
      · rw [List.length_append]; have := h.recs; simp; omega
      · have := h.recs; omega
    · simp only
      split
      · intro r hr
        rcases List.mem_append.1 hr with hr | hr
        · exact h.keys r hr
        · simp at hr
          subst hr
          exact ⟨(ev0_le hall 0).1, (ev0_le hall 1).2⟩
      · exact h.keys
  · rename_i hg
    split at he
    · rename_i hv
      rw [Option.some.injEq] at he
      subst he
      have hg1 : (givesB op).size = 1 := by have := gives_few op; omega
      refine ⟨by rw [ByteArray.size_append, hg1, List.length_append, hS]; rfl, by simp only [List.length_append, List.length_cons, List.length_nil]; omega, ?_, by have := h.recs; simp only; omega, h.keys⟩
      intro v hv'
      rcases List.mem_append.1 hv' with h1 | h1
      · exact hall0 v h1
      · simp at h1
        subst h1
        exact ⟨hv, putV64 _ _ _ _ _ hn (ev0_le hall 0).1⟩
    · cases he
/-- The whole way. -/
theorem evOk_all {l : Instrs} {ws : Strs} (hp : progB l = true) (hn : ∀ i, i < l.length → In64 (ins1 l i)) : ∀ k, k ≤ l.length → ∀ x, evK l ws k = some x → ∃ st, stk l k = some st ∧ EvOkP st k x := by
  intro k
  induction k with
  | zero =>
    intro _ x hx
    rw [evK, Option.some.injEq] at hx
    subst hx
    exact ⟨_, rfl, evOk0⟩
  | succ k ih =>
    intro hk x hx
    cases hy : evK l ws k with
    | none => rw [evK, hy] at hx; cases hx
    | some y =>
      obtain ⟨st, hs, ho⟩ := ih (by omega) y hy
      obtain ⟨st0, h1, h2⟩ := prog_step hp (by omega) hs
      rw [evK_step hy] at hx
      exact ⟨_, h2, evOk_step ho h1 (hn k (by omega)) hx⟩
theorem evalR_facts {l : Instrs} {ws : Strs} (hn : ∀ i, i < l.length → In64 (ins1 l i)) : (evalR l ws).1.length ≤ 30 ∧ (∀ r ∈ (evalR l ws).1, r.1.size ≤ 40 ∧ In64 r.2) ∧ (0 ≤ (evalR l ws).2 ∧ (evalR l ws).2 ≤ 2) ∧ ((evalR l ws).2 ≠ 0 → (evalR l ws).1 = []) := by
  by_cases h : progB l = true ∧ ws.length ≤ 20
  · cases hx : evK l ws l.length with
    | none => rw [evalR_long h.1 h.2 (Nat.le_refl _) hx]; exact ⟨by simp, fun r hr => absurd hr (by simp), ⟨by simp, by simp⟩, fun _ => rfl⟩
    | some x =>
      obtain ⟨st, _, ho⟩ := evOk_all h.1 hn _ (Nat.le_refl _) x hx
      rw [evalR_good h.1 h.2 hx]
      exact ⟨Nat.le_trans ho.recs (prog_len h.1), ho.keys, ⟨by simp, by simp⟩, fun h => absurd rfl h⟩
  · rw [evalR_no h]; exact ⟨by simp, fun r hr => absurd hr (by simp), ⟨by simp, by simp⟩, fun _ => rfl⟩
end Go.Proofs.YtjofbeokkainlaaDoor
namespace Go.Proofs.YtjofbeokkainlaaDoor
open Go.ChangeShapes Go.WideShapes Go.ChangeAt Go.RowKit
set_option linter.unusedVariables false
set_option maxRecDepth 100000

def textB : Nat → ByteArray
  | 1 => ⟨#[102]⟩ | 2 => ⟨#[116, 58]⟩ | 3 => ⟨#[110]⟩ | 4 => ⟨#[99, 97, 116]⟩ | 5 => ⟨#[108, 101, 110]⟩ | 6 => ⟨#[105, 110, 116]⟩ | 7 => ⟨#[115, 116, 114]⟩
  | 8 => ⟨#[97, 100, 100]⟩ | 9 => ⟨#[115, 117, 98]⟩ | 10 => ⟨#[109, 117, 108]⟩ | 11 => ⟨#[108, 101, 115, 115]⟩ | 12 => ⟨#[115, 97, 109, 101]⟩ | 13 => ⟨#[101, 109, 105, 116]⟩
  | 14 => ⟨#[101, 109, 105, 116, 105, 102]⟩ | _ => ByteArray.empty
def fieldB : Nat → ByteArray
  | 1 => ⟨#[78]⟩ | 2 => ⟨#[83]⟩ | 3 => ⟨#[78]⟩ | _ => ByteArray.empty
def formsD {H : Type} : List (DataW H) := (List.range 15).map fun x => .agg [.lit (.string (textB x).data.toList), .lit (.string (fieldB x).data.toList), .lit (.string (takesB x).data.toList), .lit (.string (givesB x).data.toList)]

theorem strCellsP : Tryd.prog.cellsOf 9 = 1 := by kernel_rfl
theorem bytes_eq {s u : ByteArray} (h : s.data.toList = u.data.toList) : s = u := ByteArray.ext (Array.toList_inj.1 h)

end Go.Proofs.YtjofbeokkainlaaDoor
namespace Go.Proofs.YtjofbeokkainlaaDoor
open Go.ChangeShapes Go.WideShapes Go.ChangeAt Go.RowKit
set_option linter.unusedVariables false
set_option maxRecDepth 100000

end Go.Proofs.YtjofbeokkainlaaDoor
namespace Go.Proofs.YtjofbeokkainlaaDoor
open Go.ChangeShapes Go.WideShapes Go.ChangeAt Go.RowKit
set_option linter.unusedVariables false
set_option maxRecDepth 100000

def cellsL (W : Recs) : List Value := W.flatMap fun r => [Value.string r.1, Value.int .i64 r.2]
theorem cellsL_nil : cellsL [] = [] := rfl
theorem cellsL_snoc (W : Recs) (s : ByteArray) (n : Int) : cellsL (W ++ [(s, n)]) = cellsL W ++ [.string s, .int .i64 n] := by simp [cellsL]
theorem cellsL_append (W V : Recs) : cellsL (W ++ V) = cellsL W ++ cellsL V := by simp [cellsL]
theorem cellsL_len : ∀ W : Recs, (cellsL W).length = W.length * 2
  | [] => rfl
  | r :: t => by
    have := cellsL_len t
    simp only [cellsL] at this
    simp [cellsL, List.flatMap_cons, this]; omega
theorem cellsL_get : ∀ (W : Recs) (j : Nat), j < W.length → (cellsL W)[j * 2]? = some (.string (keyAt W j)) ∧ (cellsL W)[j * 2 + 1]? = some (.int .i64 (numAt W j))
  | [], j, h => by simp at h
  | r :: t, 0, h => by simp [cellsL, keyAt, numAt]
  | r :: t, j + 1, h => by
    have := cellsL_get t j (by simpa using h)
    have e : (j + 1) * 2 = j * 2 + 1 + 1 := by omega
    simp only [cellsL] at this
    rw [e]
    simp only [cellsL, List.flatMap_cons, List.cons_append, List.nil_append, List.getElem?_cons_succ]
    simpa [keyAt, numAt] using this

theorem two_new (w : World) (x y : Value) (t : TypeId) : ∀ j u, [x, y][j]? = some u → (w.alloc (.cells #[x, y] t)).cell? ((⟨w.heap.size, 0, none⟩ : Addr).add j) = some u := by
  intro j u hj
  match j, hj with
  | 0, hj => simp at hj; subst hj; simp [Addr.add]
  | 1, hj => simp at hj; subst hj; simp [Addr.add]
theorem two_new1 (w : World) (o : Obj) (x y : Value) (t : TypeId) : ∀ j u, [x, y][j]? = some u → ((w.alloc o).alloc (.cells #[x, y] t)).cell? ((⟨w.heap.size + 1, 0, none⟩ : Addr).add j) = some u := by
  have h := two_new (w.alloc o) x y t
  have e : (w.alloc o).heap.size = w.heap.size + 1 := by simp
  rw [e] at h
  exact h
theorem two_cells (s : ByteArray) (n : Int) : ∀ u ∈ [Value.string s, Value.int .i64 n], u.oneCell' = true := by
  intro u hu
  simp at hu
  rcases hu with rfl | rfl
  · rfl
  · rfl

/-- The slice (q, length of W) holds the records W in a row from block 'base' on. -/
def Rs (base : Nat) (w : World) (q : Option Addr) (W : Recs) : Prop :=
  W.length = 0 ∨ ∃ g cur, q = some ⟨g, 0, none⟩ ∧ base ≤ g ∧ Row w g 30 cur ∧ W.length * 2 ≤ cur.size ∧ Laid cur W W.length

theorem rs_of_own {base : Nat} {w : World} {q : Option Addr} {cp : Nat} {W : Recs} (h : w.ownsRow base 30 2 (.slice q W.length cp) W.length (cellsL W)) : Rs base w q W := by
  rcases h.2 with ⟨h1, h2⟩ | ⟨g, cap, cur, hv, hb, hh, h1, _, h3, h4⟩
  · simp only [Value.slice.injEq] at h1; exact .inl h1.2.1
  · simp only [Value.slice.injEq, true_and] at hv
    obtain ⟨rfl, rfl⟩ := hv
    refine .inr ⟨g, cur, rfl, hb, hh, by omega, fun j hj => ?_⟩
    obtain ⟨e1, e2⟩ := cellsL_get W j hj
    rw [← h4, List.getElem?_take_of_lt (by omega)] at e1 e2
    exact ⟨by simpa using e1, by simpa using e2⟩
theorem rs_keep {base : Nat} {w w1 : World} {q : Option Addr} {W : Recs} (h : Rs base w q W) (hB : Below w.heap.size w w1) : Rs base w1 q W := by
  rcases h with h0 | ⟨g, cur, rfl, hb, hr, h1, h2⟩
  · exact .inl h0
  · exact .inr ⟨g, cur, rfl, hb, hr.keep hB, h1, h2⟩
theorem rs_lt {base : Nat} {w : World} {q : Option Addr} {W : Recs} (h : Rs base w q W) (hn : 0 < W.length) : ∀ g, q = some ⟨g, 0, none⟩ → base ≤ g ∧ g < w.heap.size := by
  intro g hg
  rcases h with h0 | ⟨g', cur, rfl, hb, hr, h1, h2⟩
  · omega
  · simp only [Option.some.injEq, Addr.mk.injEq, and_true] at hg
    rw [← hg]; exact ⟨hb, hr.lt⟩
theorem rs_grown {base g : Nat} {w w1 : World} {q : Option Addr} {W : Recs} (h : Rs base w q W) (hg : w.grownBy w1 (some g)) (hne : 0 < W.length → ∀ g', q = some ⟨g', 0, none⟩ → g' ≠ g) : Rs base w1 q W := by
  rcases h with h0 | ⟨g', cur, rfl, hb, hr, h1, h2⟩
  · exact .inl h0
  · by_cases h0 : W.length = 0
    · exact .inl h0
    · exact .inr ⟨g', cur, rfl, hb, (hg.block g' hr.lt (by simpa using hne (by omega) g' rfl)).trans hr, h1, h2⟩
theorem recs_of_rs {base n : Nat} {w : World} {q : Option Addr} {W : Recs} (h : Rs base w q W) (hn : W.length = n) (hm : n ≤ maxLen) (hs : ∀ i, i < n → (keyAt W i).size ≤ maxLen) : RecsAt w q n W := by
  subst hn
  refine ⟨rfl, hm, hs, ?_⟩
  rcases h with h0 | ⟨g, cur, rfl, _, hr, _, hc⟩
  · exact .inl h0
  · refine .inr ⟨g, 0, rfl, hr.lt, fun i hi => ?_⟩
    obtain ⟨e1, e2⟩ := hc i hi
    unfold Row at hr
    simp [World.cell?, hr, e1, e2]

/-- Row B holds the marks from number k0 on in its first n records. -/
def MarkedR (cur : Array Value) (k0 n : Nat) : Prop := ∀ j, j < n → cur[j * 2]? = some (.string (mtext (k0 + 2 * j))) ∧ cur[j * 2 + 1]? = some (.int .i64 ((k0 + 2 * j + 1 : Nat) : Int))
theorem MarkedR.step {cur : Array Value} {k0 k : Nat} (h : MarkedR cur k0 k) (hk : k * 2 + 1 < cur.size) (x : Int) (hx : x = ((k0 + 2 * k + 1 : Nat) : Int)) : MarkedR ((cur.setIfInBounds (k * 2) (.string (mtext (k0 + 2 * k)))).setIfInBounds (k * 2 + 1) (.int .i64 x)) k0 (k + 1) := by
  subst hx
  intro j hj
  have h1 : k * 2 < cur.size := by omega
  rcases Nat.lt_or_ge j k with hlt | hge
  · obtain ⟨e1, e2⟩ := h j hlt
    constructor
    · rw [Array.getElem?_setIfInBounds_ne (by omega), Array.getElem?_setIfInBounds_ne (by omega)]; exact e1
    · rw [Array.getElem?_setIfInBounds_ne (by omega), Array.getElem?_setIfInBounds_ne (by omega)]; exact e2
  · obtain rfl : j = k := by omega
    constructor
    · rw [Array.getElem?_setIfInBounds_ne (by omega)]; simp [h1]
    · simp [hk]

/-- The end of marking records. -/
def MadeMarksR (B : Nat) (E : TypeId) (k0 len : Nat) (w : World) (e : Ending) (w' : World) : Prop :=
  e = .returned (.int .i64 ((k0 + 2 * len : Nat) : Int)) ∧ w.grownBy w' (some B) ∧ ∃ cur, Row w' B E cur ∧ MarkedR cur k0 len

def MadeMarksN (B : Nat) (E : TypeId) (k0 len n : Nat) (w : World) (e : Ending) (w' : World) : Prop :=
  e = .returned (.int .i64 ((k0 + 2 * len : Nat) : Int)) ∧ w.grownBy w' (some B) ∧ ∃ cur, Row w' B E cur ∧ cur.size = n ∧ MarkedR cur k0 len

def HeldNumR (q : Nat) (w : World) (e : Ending) (w' : World) : Prop := e = .returned (.int .i64 (q : Int)) ∧ Below w.heap.size w w'

end Go.Proofs.YtjofbeokkainlaaDoor
namespace Go.Proofs.YtjofbeokkainlaaDoor
open Go.ChangeShapes Go.WideShapes Go.ChangeAt Go.RowKit Go.Deep
set_option linter.unusedVariables false
set_option maxRecDepth 100000

theorem add_plain (b off i : Nat) : (⟨b, off, none⟩ : Addr).add i = ⟨b, off + i, none⟩ := by
  unfold Addr.add; split <;> simp_all

end Go.Proofs.YtjofbeokkainlaaDoor
namespace Go.Proofs.YtjofbeokkainlaaDoor
open Go.ChangeShapes Go.WideShapes Go.ChangeAt Go.RowKit
set_option linter.unusedVariables false
set_option maxRecDepth 100000

/-- The bytes of the first k texts. -/
def sumTo (l : Strs) : Nat → Nat
  | 0 => 0
  | k + 1 => sumTo l k + (strAt l k).size

/-- The end of the laws' measure of texts: below 0 (too much), or what is left. -/
def SizedStrs (len : Nat) (l : Strs) (left : Int) (w : World) (e : Ending) (w' : World) : Prop :=
  ∃ x : Int, -1 ≤ x ∧ x ≤ 1048576 ∧ e = .returned (.int .i64 x) ∧ w = w' ∧ (0 ≤ x → x = left - len - sumTo l len)

/-- The first k texts of l lie at the head of the row. -/
def LaidS (cur : Array Value) (l : Strs) (k : Nat) : Prop := ∀ j, j < k → cur[j]? = some (.string (strAt l j))
theorem LaidS.step {cur : Array Value} {l : Strs} {k len : Nat} (h : LaidS cur l k) (hs : cur.size = len) (hk : k < len) :
    LaidS (cur.setIfInBounds k (.string (strAt l k))) l (k + 1) := by
  intro j hj
  rcases Nat.lt_or_ge j k with hlt | hge
  · rw [Array.getElem?_setIfInBounds_ne (by omega)]; exact h j hlt
  · obtain rfl : j = k := by omega
    have h1 : j < cur.size := by omega
    simp [h1]
theorem StrsAt.ofRow {w : World} {B len : Nat} {E : TypeId} {cur : Array Value} {l : Strs} (h : Row w B E cur) (hl : l.length = len) (hm : len ≤ maxLen) (hk : ∀ i, i < len → (strAt l i).size ≤ maxLen) (hlaid : LaidS cur l len) : StrsAt w (some ⟨B, 0, none⟩) len l := by
  refine ⟨hl, hm, hk, .inr ⟨B, 0, rfl, h.lt, fun i hi => ?_⟩⟩
  have e1 := hlaid i hi
  unfold Row at h
  simp [World.cell?, h, e1]

/-- The end of the laws' copy of texts: a new slice of the same texts. -/
def MadeStrs (len : Nat) (l : Strs) (w : World) (e : Ending) (w' : World) : Prop :=
  e = .returned (.slice (some ⟨w.heap.size, 0, none⟩) len len) ∧ StrsAt w' (some ⟨w.heap.size, 0, none⟩) len l ∧ Below w.heap.size w w' ∧ ∃ cur, Row w' w.heap.size 9 cur ∧ cur.size = len

theorem strs_of_is {w : World} {a : Option Addr} {len cap : Nat} {ss : List ByteArray}
    (h : (a = none ∧ len = 0 ∧ cap = 0 ∧ ss = []) ∨ ∃ x, a = some x ∧ len ≤ cap ∧ cap ≤ maxLen ∧ ss.length = cap ∧ (∀ i, i < ss.length → w.cell? (x.add i) = some (.string (ss.getD i ByteArray.empty))) ∧ ∀ s ∈ ss, s.size ≤ maxLen) : StrsAt w a len (ss.take len) := by
  rcases h with ⟨rfl, rfl, _, rfl⟩ | ⟨x, rfl, hl, hm, hz, hc, hw⟩
  · exact ⟨rfl, Nat.zero_le _, fun i hi => by omega, .inl rfl⟩
  · have hget : ∀ i, i < len → strAt (ss.take len) i = ss.getD i ByteArray.empty := by
      intro i hi
      unfold strAt
      rw [List.getD_eq_getElem?_getD, List.getD_eq_getElem?_getD, List.getElem?_take_of_lt hi]
    refine ⟨by simp; omega, by omega, fun i hi => ?_, ?_⟩
    · rw [hget i hi, List.getD_eq_getElem?_getD, List.getElem?_eq_getElem (by omega)]
      exact hw _ (List.getElem_mem _)
    · by_cases h0 : len = 0
      · exact .inl h0
      · obtain ⟨b, off, spot⟩ := x
        have hc0 := hc 0 (by omega)
        have hspot : spot = none := by simpa [Addr.add] using World.cell?_spot hc0
        subst hspot
        refine .inr ⟨b, off, rfl, ?_, fun i hi => ?_⟩
        · have := World.block_lt_of_cell? _ _ hc0
          simpa [Addr.add] using this
        · have h1 := hc i (by omega)
          rw [hget i hi]
          by_cases hi0 : i = 0
          · subst hi0
            simpa [Addr.add] using h1
          · simpa [Addr.add, hi0] using h1
end Go.Proofs.YtjofbeokkainlaaDoor
namespace Go.Proofs.YtjofbeokkainlaaDoor
open Go.ChangeShapes Go.WideShapes Go.ChangeAt Go.RowKit
set_option linter.unusedVariables false
set_option maxRecDepth 100000

theorem grown_belowI {w a b : World} {row : Option Nat} (hg : w.grownBy a row) (hB : Below a.heap.size a b) : w.grownBy b row :=
  ⟨hB.os.trans hg.os, hB.tape.trans hg.tape, hB.output.trans hg.output, Nat.le_trans hg.size hB.size, fun i hi hne => (hB.block i (Nat.lt_of_lt_of_le hi hg.size)).trans (hg.block i hi hne)⟩
theorem grown_setI {w a : World} {B : Nat} (hg : w.grownBy a (some B)) (j : Nat) (x : Value) : w.grownBy (a.setCell ⟨B, j, none⟩ x) (some B) :=
  ⟨hg.os, hg.tape, hg.output, by have := hg.size; simpa [World.setCell] using this, fun i hi hne => (Below.heap_setCell _ _ _ _ (fun e => hne (by rw [e]))).trans (hg.block i hi hne)⟩
end Go.Proofs.YtjofbeokkainlaaDoor
namespace Go.Proofs.YtjofbeokkainlaaDoor
open Go.ChangeShapes Go.WideShapes Go.ChangeAt Go.RowKit
set_option linter.unusedVariables false
set_option maxRecDepth 100000

/-- Row B holds the marks from number k0 on in its first n values. -/
def MarkedInstr (cur : Array Value) (k0 n : Nat) : Prop := ∀ j, j < n → cur[j * 3]? = some (.int .i64 ((k0 + 3 * j + 0 : Nat) : Int)) ∧ cur[j * 3 + 1]? = some (.int .i64 ((k0 + 3 * j + 1 : Nat) : Int)) ∧ cur[j * 3 + 2]? = some (.string (mtext (k0 + 3 * j + 2)))
theorem MarkedInstr.step {cur : Array Value} {k0 k : Nat} (h : MarkedInstr cur k0 k) (hk : k * 3 + 2 < cur.size) : MarkedInstr (((cur.setIfInBounds (k * 3) (.int .i64 ((k0 + 3 * k + 0 : Nat) : Int))).setIfInBounds (k * 3 + 1) (.int .i64 ((k0 + 3 * k + 1 : Nat) : Int))).setIfInBounds (k * 3 + 2) (.string (mtext (k0 + 3 * k + 2)))) k0 (k + 1) := by
  intro j hj
  rcases Nat.lt_or_ge j k with hlt | hge
  · obtain ⟨e0, e1, e2⟩ := h j hlt
    refine ⟨?_, ?_, ?_⟩
    · rw [Array.getElem?_setIfInBounds_ne (by omega), Array.getElem?_setIfInBounds_ne (by omega), Array.getElem?_setIfInBounds_ne (by omega)]; exact e0
    · rw [Array.getElem?_setIfInBounds_ne (by omega), Array.getElem?_setIfInBounds_ne (by omega), Array.getElem?_setIfInBounds_ne (by omega)]; exact e1
    · rw [Array.getElem?_setIfInBounds_ne (by omega), Array.getElem?_setIfInBounds_ne (by omega), Array.getElem?_setIfInBounds_ne (by omega)]; exact e2
  · obtain rfl : j = k := by omega
    refine ⟨?_, ?_, ?_⟩
    · rw [Array.getElem?_setIfInBounds_ne (by omega), Array.getElem?_setIfInBounds_ne (by omega)]; rw [Array.getElem?_setIfInBounds_self_of_lt (by first | omega | (simp only [Array.size_setIfInBounds]; omega))]
    · rw [Array.getElem?_setIfInBounds_ne (by omega)]; rw [Array.getElem?_setIfInBounds_self_of_lt (by first | omega | (simp only [Array.size_setIfInBounds]; omega))]
    · rw [Array.getElem?_setIfInBounds_self_of_lt (by first | omega | (simp only [Array.size_setIfInBounds]; omega))]
def MadeMarksInstr (B : Nat) (E : TypeId) (k0 len n : Nat) (w : World) (e : Ending) (w' : World) : Prop :=
  e = .returned (.int .i64 ((k0 + 3 * len : Nat) : Int)) ∧ w.grownBy w' (some B) ∧ ∃ cur, Row w' B E cur ∧ cur.size = n ∧ MarkedInstr cur k0 len

end Go.Proofs.YtjofbeokkainlaaDoor
namespace Go.Proofs.YtjofbeokkainlaaDoor
open Go.ChangeShapes Go.WideShapes Go.ChangeAt Go.RowKit
set_option linter.unusedVariables false
set_option maxRecDepth 100000

def cellsI : Instrs → List Value
  | [] => []
  | x :: t => .int .i64 x.1 :: .int .i64 x.2.1 :: .string x.2.2 :: cellsI t
theorem cellsI_len : ∀ l : Instrs, (cellsI l).length = l.length * 3
  | [] => rfl
  | x :: t => by simp [cellsI, cellsI_len t]; omega
theorem cellsI_snoc : ∀ (l : Instrs) (x : Int × Int × ByteArray), cellsI (l ++ [x]) = cellsI l ++ [.int .i64 x.1, .int .i64 x.2.1, .string x.2.2]
  | [], x => rfl
  | a :: t, x => by simp [cellsI, cellsI_snoc t x]
theorem cellsI_app : ∀ (l m : Instrs), cellsI (l ++ m) = cellsI l ++ cellsI m
  | [], m => rfl
  | a :: t, m => by simp [cellsI, cellsI_app t m]
theorem ins_cons (a : Int × Int × ByteArray) (t : Instrs) (k : Nat) : ins0 (a :: t) (k + 1) = ins0 t k ∧ ins1 (a :: t) (k + 1) = ins1 t k ∧ ins2 (a :: t) (k + 1) = ins2 t k := by
  simp [ins0, ins1, ins2]
theorem cellsI_get : ∀ (l : Instrs) (k : Nat), k < l.length → (cellsI l)[k * 3]? = some (.int .i64 (ins0 l k)) ∧ (cellsI l)[k * 3 + 1]? = some (.int .i64 (ins1 l k)) ∧ (cellsI l)[k * 3 + 2]? = some (.string (ins2 l k))
  | [], k, h => by simp at h
  | a :: t, 0, _ => ⟨rfl, rfl, rfl⟩
  | a :: t, k + 1, h => by
    obtain ⟨h0, h1, h2⟩ := cellsI_get t k (by simpa using h)
    obtain ⟨e0, e1, e2⟩ := ins_cons a t k
    rw [e0, e1, e2]
    have a0 : (k + 1) * 3 = k * 3 + 3 := by omega
    rw [a0]
    exact ⟨h0, h1, h2⟩
theorem three_new (w : World) (x y z : Value) (t : TypeId) : ∀ j u, [x, y, z][j]? = some u → (w.alloc (.cells #[x, y, z] t)).cell? ((⟨w.heap.size, 0, none⟩ : Addr).add j) = some u := by
  intro j u hj
  match j, hj with
  | 0, hj => simp at hj; subst hj; simp [Addr.add]
  | 1, hj => simp at hj; subst hj; simp [Addr.add]
  | 2, hj => simp at hj; subst hj; simp [Addr.add]
theorem three_new1 (w : World) (o : Obj) (x y z : Value) (t : TypeId) : ∀ j u, [x, y, z][j]? = some u → ((w.alloc o).alloc (.cells #[x, y, z] t)).cell? ((⟨w.heap.size + 1, 0, none⟩ : Addr).add j) = some u := by
  have h := three_new (w.alloc o) x y z t
  have e : (w.alloc o).heap.size = w.heap.size + 1 := by simp
  rw [e] at h
  exact h
theorem three_cells (a b : Int) (s : ByteArray) : ∀ u ∈ [Value.int .i64 a, Value.int .i64 b, Value.string s], u.oneCell' = true := by
  intro u hu
  simp at hu
  rcases hu with rfl | rfl | rfl <;> rfl
theorem own_inss {w : World} {base n cp : Nat} {q : Option Addr} {l : Instrs} (h : w.ownsRow base 80 3 (.slice q n cp) n (cellsI l)) (hn : l.length = n) (hm : n ≤ maxLen) (hk : ∀ i, i < n → (ins2 l i).size ≤ maxLen) : InstrsAt w q n l := by
  refine ⟨hn, hm, hk, ?_⟩
  rcases h.2 with ⟨h1, h2⟩ | ⟨g, cap, cur, hv, hb, hh, h1, _, h3, h4⟩
  · simp only [Value.slice.injEq] at h1; exact .inl h1.2.1
  · simp only [Value.slice.injEq, true_and] at hv
    obtain ⟨rfl, rfl⟩ := hv
    refine .inr ⟨g, 0, rfl, lt_of_block hh, fun i hi => ?_⟩
    obtain ⟨e0, e1, e2⟩ := cellsI_get l i (by omega)
    rw [← h4, List.getElem?_take_of_lt (by omega)] at e0 e1 e2
    simp [World.cell?, hh]
    exact ⟨by simpa using e0, by simpa using e1, by simpa using e2⟩
/-- The row itself, if there is an element. -/
theorem own_insrow {w : World} {base n cp : Nat} {q : Option Addr} {l : Instrs} (h : w.ownsRow base 80 3 (.slice q n cp) n (cellsI l)) (h0 : 0 < n) :
    ∃ g cur, q = some ⟨g, 0, none⟩ ∧ base ≤ g ∧ Row w g 80 cur ∧ n * 3 ≤ cur.size := by
  rcases h.2 with ⟨h1, h2⟩ | ⟨g, cap, cur, hv, hb, hh, h1, _, h3, h4⟩
  · omega
  · simp only [Value.slice.injEq] at hv
    obtain ⟨rfl, _, rfl⟩ := hv
    exact ⟨g, cur, rfl, hb, hh, by omega⟩
end Go.Proofs.YtjofbeokkainlaaDoor
namespace Go.Proofs.YtjofbeokkainlaaDoor
open Go.ChangeShapes Go.WideShapes Go.ChangeAt Go.RowKit
set_option linter.unusedVariables false
set_option maxRecDepth 100000

def insTx (op n : Int) (s : ByteArray) : ByteArray :=
  if op = 1 then ⟨#[102]⟩ ++ decB n else if op = 2 then ⟨#[116, 58]⟩ ++ s else if op = 3 then ⟨#[110]⟩ ++ decB n else textB op.toNat
def txAt (l : Instrs) (i : Nat) : ByteArray := insTx (ins0 l i) (ins1 l i) (ins2 l i)
def progTo (l : Instrs) : Nat → ByteArray
  | 0 => ByteArray.empty
  | k + 1 => (if 0 < k then progTo l k ++ ⟨#[32]⟩ else progTo l k) ++ txAt l k
def progTx (l : Instrs) : ByteArray := if progB l then progTo l l.length else ByteArray.empty
def txsOf (l : Instrs) (n : Nat) : List ByteArray := (List.range n).map (txAt l)

theorem join_snoc (xs : List (List UInt8)) (x sep : List UInt8) (h : xs ≠ []) : Lib.join (xs ++ [x]) sep = Lib.join xs sep ++ sep ++ x := by
  cases xs with
  | nil => exact absurd rfl h
  | cons a r =>
    rw [List.cons_append, Lib.join_cons, Lib.join_cons]
    simp [Lib.joinTail]
theorem join_prog (l : Instrs) : ∀ n, Lib.join ((txsOf l n).map (·.data.toList)) [32] = (progTo l n).data.toList
  | 0 => rfl
  | n + 1 => by
    have e : (txsOf l (n + 1)).map (·.data.toList) = (txsOf l n).map (·.data.toList) ++ [(txAt l n).data.toList] := by
      simp [txsOf, List.range_succ]
    rw [e]
    by_cases hn : n = 0
    · subst hn
      simp [txsOf, Lib.join_one, progTo]
    · have hne : (txsOf l n).map (·.data.toList) ≠ [] := by
        intro h
        have := congrArg List.length h
        simp [txsOf] at this
        exact hn this
      rw [join_snoc _ _ _ hne, join_prog l n]
      show _ = ((if 0 < n then progTo l n ++ ⟨#[32]⟩ else progTo l n) ++ txAt l n).data.toList
      rw [if_pos (by omega)]
      simp
theorem prog_ins {l : Instrs} (h : progB l = true) {k : Nat} (hk : k < l.length) : instrB (ins0 l k) (ins1 l k) (ins2 l k) = true := by
  cases hi : instrB (ins0 l k) (ins1 l k) (ins2 l k) with
  | true => rfl
  | false =>
    have := prog_bad (k := k + 1) (by omega) (stk_wrong hi)
    rw [h] at this
    cases this
theorem prog_few {l : Instrs} (h : progB l = true) : l.length ≤ 30 := by
  by_cases h30 : l.length ≤ 30
  · exact h30
  · rw [prog_long h30] at h; cases h
theorem pushB_size {s : ByteArray} (h : pushB s = true) : s.size ≤ 20 := by
  unfold pushB at h
  simp only [Bool.and_eq_true, decide_eq_true_eq] at h
  omega
theorem text_few (x : Nat) : (textB x).size ≤ 6 := by
  unfold textB
  split <;> decide
theorem ins_ways {op n : Int} {s : ByteArray} (h : instrB op n s = true) :
    (op = 1 ∧ s.size = 0) ∨ (op = 2 ∧ s.size ≤ 20) ∨ (op = 3 ∧ s.size = 0) ∨ ∃ x : Nat, op = (x : Int) + 4 ∧ x < 11 ∧ s.size = 0 := by
  unfold instrB at h
  split at h
  · simp only [Bool.and_eq_true, decide_eq_true_eq] at h; exact .inl ⟨by assumption, h.2⟩
  · split at h
    · simp only [Bool.and_eq_true, decide_eq_true_eq] at h; exact .inr (.inl ⟨by assumption, pushB_size h.2⟩)
    · split at h
      · simp only [decide_eq_true_eq] at h; exact .inr (.inr (.inl ⟨by assumption, h⟩))
      · simp only [Bool.and_eq_true, decide_eq_true_eq] at h
        exact .inr (.inr (.inr ⟨(op - 4).toNat, by omega, by omega, h.2.2⟩))
theorem insTx_size {op n : Int} {s : ByteArray} (h : instrB op n s = true) (hn : In64 n) : (insTx op n s).size ≤ 22 := by
  have hd : (decB n).size ≤ 20 := decB_size hn.1 (by have := hn.2; omega)
  unfold insTx
  rcases ins_ways h with ⟨rfl, h0⟩ | ⟨rfl, h0⟩ | ⟨rfl, h0⟩ | ⟨x, rfl, hx, h0⟩
  · rw [if_pos rfl, ByteArray.size_append]; show 1 + _ ≤ _; omega
  · rw [if_neg (by decide), if_pos rfl, ByteArray.size_append]; show 2 + _ ≤ _; omega
  · rw [if_neg (by decide), if_neg (by decide), if_pos rfl, ByteArray.size_append]; show 1 + _ ≤ _; omega
  · rw [if_neg (by omega), if_neg (by omega), if_neg (by omega)]
    have := text_few ((x : Int) + 4).toNat
    omega
theorem progTo_size {l : Instrs} (h : progB l = true) (hn : ∀ i, i < l.length → In64 (ins1 l i)) : ∀ k, k ≤ l.length → (progTo l k).size ≤ 23 * k
  | 0, _ => by show (0 : Nat) ≤ _; omega
  | k + 1, hk => by
    have h1 := progTo_size h hn k (by omega)
    have h2 := insTx_size (prog_ins h (show k < l.length by omega)) (hn k (by omega))
    show ((if 0 < k then progTo l k ++ ⟨#[32]⟩ else progTo l k) ++ txAt l k).size ≤ _
    rw [ByteArray.size_append]
    have h3 : (txAt l k).size ≤ 22 := h2
    split
    · rw [ByteArray.size_append]; show _ + 1 + _ ≤ _; omega
    · omega

end Go.Proofs.YtjofbeokkainlaaDoor
namespace Go.Proofs.YtjofbeokkainlaaDoor
open Go.ChangeShapes Go.WideShapes Go.ChangeAt Go.RowKit
set_option linter.unusedVariables false
set_option maxRecDepth 100000

def claimB (a e u : Int) : Bool := inB a 0 3 && (inB e 1 1000000 && inB u 0 1000000)
theorem claimB_iff {a e u : Int} : claimB a e u = true ↔ (0 ≤ a ∧ a ≤ 3) ∧ (1 ≤ e ∧ e ≤ 1000000) ∧ (0 ≤ u ∧ u ≤ 1000000) := by
  unfold claimB
  simp only [Bool.and_eq_true, inB_iff]

def cat3 (a b c : ByteArray) : ByteArray := (((a ++ ⟨#[32]⟩) ++ b) ++ ⟨#[32]⟩) ++ c
def claimTx (a e u : Int) : ByteArray := if claimB a e u then cat3 (decB a) (decB e) (decB u) else ByteArray.empty
theorem cat_run {P : Program} {w : World} (a b : ByteArray) (n : Nat) (ha : a.size ≤ n) (hb : b.size ≤ n) (hn : n ≤ 4611686018427387903 := by decide) : (Op.stringOp .add a b).run P w = .ok (.string (a ++ b)) w :=
  run_string_add_sum w a b (by omega)
theorem join3 (a e u : Int) : joinB ⟨#[32]⟩ [a, e, u] = cat3 (decB a) (decB e) (decB u) := by
  apply ba_eq
  simp [joinB, cat3, Lib.join, List.intercalate, decB]

theorem nums_new (w : World) (t : TypeId) (ns : List Int) (h : ∀ n ∈ ns, In64 n) : Nums (w.alloc (.cells (ns.map fun n => Value.int .i64 n).toArray t)) w.heap.size ns :=
  ⟨by simp, fun j hj => by
    have := heap_alloc_new w (.cells (ns.map fun n => Value.int .i64 n).toArray t)
    unfold World.cell?
    rw [this]
    simp [hj], h⟩

end Go.Proofs.YtjofbeokkainlaaDoor
