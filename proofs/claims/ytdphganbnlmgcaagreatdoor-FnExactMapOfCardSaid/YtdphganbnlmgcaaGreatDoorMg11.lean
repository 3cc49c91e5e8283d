/- Texts put together, as a claim holds at most sixty files. -/
import Derived.Test.YtdphganbnlmgcaaGreatDoorMg2
import Derived.Test.YtdphganbnlmgcaaGreatDoorMg0
import Derived.Test.YtdphganbnlmgcaaGreatDoorMg9
import Derived.Test.YtdphganbnlmgcaaGreatDoorMg8
import Derived.Test.YtdphganbnlmgcaaGreatDoorMg15
import Derived.Test.YtdphganbnlmgcaaGreatDoorMg1
import Derived.Deep.Slices
namespace Go.Proofs.YtdphganbnlmgcaaGreatDoor
open Go.ChangeShapes Go.WideShapes Go.ChangeAt Go.RowKit
set_option linter.unusedVariables false
set_option maxRecDepth 100000

abbrev EV := ByteArray × Int
abbrev EVs := List EV
def evAt (a : EVs) (i : Nat) : EV := a.getD i (ByteArray.empty, 0)
def wordAt (words : Strs) (n : Int) : ByteArray := if n < words.length then strAt words n.toNat else ByteArray.empty
def truthI (b : Bool) : Int := if b then 1 else 0
def numI (s : ByteArray) : Int := (numD s.data.toList).getD 0

/-- What an instruction puts, of what it takes. -/
def putV : Nat → Int → ByteArray → EVs → Strs → EV
  | 1, n, _, _, ws => (wordAt ws n, 0)
  | 2, _, s, _, _ => (s, 0)
  | 3, n, _, _, _ => (ByteArray.empty, n)
  | 4, _, _, a, _ => ((evAt a 0).1 ++ (evAt a 1).1, 0)
  | 5, _, _, a, _ => (ByteArray.empty, ((evAt a 0).1.size : Int))
  | 6, _, _, a, _ => (ByteArray.empty, numI (evAt a 0).1)
  | 7, _, _, a, _ => (decB (evAt a 0).2, 0)
  | 8, _, _, a, _ => (ByteArray.empty, wrap64 ((evAt a 0).2 + (evAt a 1).2))
  | 9, _, _, a, _ => (ByteArray.empty, wrap64 ((evAt a 0).2 - (evAt a 1).2))
  | 10, _, _, a, _ => (ByteArray.empty, wrap64 ((evAt a 0).2 * (evAt a 1).2))
  | 12, _, _, a, _ => (ByteArray.empty, truthI (decide ((evAt a 0).1 = (evAt a 1).1)))
  | _, _, _, a, _ => (ByteArray.empty, truthI (decide ((evAt a 0).2 < (evAt a 1).2)))

/-- Stack and records behind an instruction; none: a text is too long. -/
def evStep (op : Nat) (n : Int) (s : ByteArray) (ws : Strs) (x : EVs × Recs) : Option (EVs × Recs) :=
  if (givesB op).size = 0 then
    some (x.1.take (x.1.length - (takesB op).size),
      if op = 13 ∨ (evAt (x.1.drop (x.1.length - (takesB op).size)) 2).2 ≠ 0 then x.2 ++ [((evAt (x.1.drop (x.1.length - (takesB op).size)) 0).1, (evAt (x.1.drop (x.1.length - (takesB op).size)) 1).2)] else x.2)
  else if (putV op n s (x.1.drop (x.1.length - (takesB op).size)) ws).1.size ≤ 40 then
    some (x.1.take (x.1.length - (takesB op).size) ++ [putV op n s (x.1.drop (x.1.length - (takesB op).size)) ws], x.2)
  else none
def evK (l : Instrs) (ws : Strs) : Nat → Option (EVs × Recs)
  | 0 => some ([], [])
  | k + 1 => (evK l ws k).bind (evStep (ins0 l k).toNat (ins1 l k) (ins2 l k) ws)
/-- Records and code. -/
def evalR (l : Instrs) (ws : Strs) : Recs × Int :=
  if progB l = true ∧ ws.length ≤ 20 then
    match evK l ws l.length with
    | some x => (x.2, 0)
    | none => ([], 2)
  else ([], 1)
theorem evK_none {l : Instrs} {ws : Strs} {k n : Nat} (h : evK l ws k = none) (hk : k ≤ n) : evK l ws n = none := by
  induction n with
  | zero => obtain rfl : k = 0 := by omega
            exact h
  | succ n ih =>
    rcases Nat.lt_or_ge n k with h1 | h1
    · obtain rfl : k = n + 1 := by omega
      exact h
    · rw [evK, ih h1]; rfl
theorem evalR_no {l : Instrs} {ws : Strs} (h : ¬ (progB l = true ∧ ws.length ≤ 20)) : evalR l ws = ([], 1) := by unfold evalR; rw [if_neg h]
theorem evalR_long {l : Instrs} {ws : Strs} {k : Nat} (h : progB l = true) (h2 : ws.length ≤ 20) (hk : k ≤ l.length) (hn : evK l ws k = none) : evalR l ws = ([], 2) := by
  unfold evalR; rw [if_pos ⟨h, h2⟩, evK_none hn hk]
theorem evalR_good {l : Instrs} {ws : Strs} {x : EVs × Recs} (h : progB l = true) (h2 : ws.length ≤ 20) (hn : evK l ws l.length = some x) : evalR l ws = (x.2, 0) := by
  unfold evalR; rw [if_pos ⟨h, h2⟩, hn]
theorem evK_step {l : Instrs} {ws : Strs} {k : Nat} {x : EVs × Recs} (h : evK l ws k = some x) : evK l ws (k + 1) = evStep (ins0 l k).toNat (ins1 l k) (ins2 l k) ws x := by
  rw [evK, h]; rfl

/-! ### a valid program's stack has the letters that it was followed by -/
theorem prog_stk {l : Instrs} (h : progB l = true) : ∀ k, k ≤ l.length → ∃ st, stk l k = some st := by
  intro k hk
  cases hs : stk l k with
  | some st => exact ⟨st, rfl⟩
  | none => rw [prog_bad hk hs] at h; cases h
theorem prog_instr {l : Instrs} (h : progB l = true) {k : Nat} (hk : k < l.length) : instrB (ins0 l k) (ins1 l k) (ins2 l k) = true := by
  cases hb : instrB (ins0 l k) (ins1 l k) (ins2 l k) with
  | true => rfl
  | false => rw [prog_bad (k := k + 1) (by omega) (stk_wrong hb)] at h; cases h
theorem prog_len {l : Instrs} (h : progB l = true) : l.length ≤ 30 := by
  unfold progB at h
  rw [Bool.and_eq_true, decide_eq_true_eq] at h
  exact h.1
theorem step_fits_of {st tk gv st' : ByteArray} (h : stepB st tk gv = some st') : ∃ st0, st = st0 ++ tk ∧ st' = st0 ++ gv := by
  unfold stepB at h
  split at h
  · rename_i h0
    rw [Option.some.injEq] at h
    refine ⟨st.extract 0 (st.size - tk.size), ?_, h.symm⟩
    have e : st.extract 0 (st.size - tk.size) ++ st.extract (st.size - tk.size) st.size = st := by
      apply ByteArray.ext
      apply Array.toList_inj.1
      simp only [ByteArray.data_append, ByteArray.data_extract, Array.toList_append, Array.toList_extract]
      have hs : st.size = st.data.toList.length := rfl
      rw [hs]
      generalize hL : st.data.toList = L
      have : tk.size ≤ L.length := by rw [← hL]; exact h0.1
      simp only [List.extract_eq_take_drop, Nat.sub_zero, List.drop_zero]
      rw [show L.length - (L.length - tk.size) = tk.size by omega]
      rw [List.take_of_length_le (i := tk.size) (by simp; omega), List.take_append_drop]
    rw [h0.2] at e
    exact e.symm
  · cases h
theorem prog_step {l : Instrs} (h : progB l = true) {k : Nat} (hk : k < l.length) {st : ByteArray} (hs : stk l k = some st) :
    ∃ st0, st = st0 ++ takesB (ins0 l k).toNat ∧ stk l (k + 1) = some (st0 ++ givesB (ins0 l k).toNat) := by
  obtain ⟨st', h'⟩ := prog_stk h (k + 1) (by omega)
  have e := stk_step hs (prog_instr h hk)
  rw [h'] at e
  obtain ⟨st0, h1, h2⟩ := step_fits_of e.symm
  exact ⟨st0, h1, by rw [h', h2]⟩

/-! ### texts and numbers of a stack, each apart -/
def txs : List UInt8 → EVs → Strs
  | c :: st, v :: S => if c = 84 then v.1 :: txs st S else txs st S
  | _, _ => []
def nms : List UInt8 → EVs → List Int
  | c :: st, v :: S => if c = 84 then nms st S else v.2 :: nms st S
  | _, _ => []
theorem txs_app : ∀ (st st' : List UInt8) (S S' : EVs), st.length = S.length → txs (st ++ st') (S ++ S') = txs st S ++ txs st' S'
  | [], st', [], S', _ => rfl
  | [], st', v :: S, S', h => by simp at h
  | c :: st, st', [], S', h => by simp at h
  | c :: st, st', v :: S, S', h => by
    have ih := txs_app st st' S S' (by simpa using h)
    simp only [List.cons_append, txs, ih]
    split <;> rfl
theorem nms_app : ∀ (st st' : List UInt8) (S S' : EVs), st.length = S.length → nms (st ++ st') (S ++ S') = nms st S ++ nms st' S'
  | [], st', [], S', _ => rfl
  | [], st', v :: S, S', h => by simp at h
  | c :: st, st', [], S', h => by simp at h
  | c :: st, st', v :: S, S', h => by
    have ih := nms_app st st' S S' (by simpa using h)
    simp only [List.cons_append, nms, ih]
    split <;> rfl
theorem txs_mem : ∀ (st : List UInt8) (S : EVs) (s : ByteArray), s ∈ txs st S → ∃ v ∈ S, v.1 = s
  | [], S, s, h => by simp [txs] at h
  | c :: st, [], s, h => by simp [txs] at h
  | c :: st, v :: S, s, h => by
    unfold txs at h
    split at h
    · rcases List.mem_cons.1 h with rfl | h
      · exact ⟨v, by simp, rfl⟩
      · obtain ⟨u, hu, e⟩ := txs_mem st S s h
        exact ⟨u, by simp [hu], e⟩
    · obtain ⟨u, hu, e⟩ := txs_mem st S s h
      exact ⟨u, by simp [hu], e⟩
theorem nms_mem : ∀ (st : List UInt8) (S : EVs) (s : Int), s ∈ nms st S → ∃ v ∈ S, v.2 = s
  | [], S, s, h => by simp [nms] at h
  | c :: st, [], s, h => by simp [nms] at h
  | c :: st, v :: S, s, h => by
    unfold nms at h
    split at h
    · obtain ⟨u, hu, e⟩ := nms_mem st S s h
      exact ⟨u, by simp [hu], e⟩
    · rcases List.mem_cons.1 h with rfl | h
      · exact ⟨v, by simp, rfl⟩
      · obtain ⟨u, hu, e⟩ := nms_mem st S s h
        exact ⟨u, by simp [hu], e⟩
theorem txs_len : ∀ (st : List UInt8) (S : EVs), (txs st S).length ≤ S.length
  | [], S => by simp [txs]
  | c :: st, [] => by simp [txs]
  | c :: st, v :: S => by
    have := txs_len st S
    unfold txs; split <;> simp <;> omega
theorem nms_len : ∀ (st : List UInt8) (S : EVs), (nms st S).length ≤ S.length
  | [], S => by simp [nms]
  | c :: st, [] => by simp [nms]
  | c :: st, v :: S => by
    have := nms_len st S
    unfold nms; split <;> simp <;> omega

/-! ### what holds of the stack on the way -/
structure EvOkP (st : ByteArray) (k : Nat) (x : EVs × Recs) : Prop where
  len : x.1.length = st.size
  few : x.1.length ≤ k
  texts : ∀ v ∈ x.1, v.1.size ≤ 40 ∧ In64 v.2
  recs : x.2.length ≤ k
  keys : ∀ r ∈ x.2, r.1.size ≤ 40 ∧ In64 r.2
theorem in64_wrap (x : Int) : In64 (wrap64 x) := by
  unfold In64 wrap64
  omega
theorem truth64 (b : Bool) : In64 (truthI b) := by unfold In64 truthI; split <;> omega
theorem numI64 (s : ByteArray) : In64 (numI s) := by
  unfold numI
  cases h : numD s.data.toList with
  | none => exact ⟨by decide, by decide⟩
  | some v => have := (numD_iff.1 h).2; exact ⟨this.1, by have := this.2; simp only [Option.getD_some]; omega⟩
theorem in64_0 : In64 0 := ⟨by decide, by decide⟩
theorem putV64 (op : Nat) (n : Int) (s : ByteArray) (a : EVs) (ws : Strs) (hn : In64 n) (hs : (evAt a 0).1.size ≤ 40) : In64 (putV op n s a ws).2 := by
  unfold putV
  split
  · exact in64_0
  · exact in64_0
  · exact hn
  · exact in64_0
  · exact ⟨by simp only; omega, by simp only; omega⟩
  · exact numI64 _
  · exact in64_0
  · exact in64_wrap _
  · exact in64_wrap _
  · exact in64_wrap _
  · exact truth64 _
  · exact truth64 _
theorem evAt_mem {a : EVs} {i : Nat} (h : i < a.length) : evAt a i ∈ a := by
  unfold evAt; rw [List.getD_eq_getElem?_getD, List.getElem?_eq_getElem h]; exact List.getElem_mem h
theorem evOk0 : EvOkP ByteArray.empty 0 ([], []) := ⟨rfl, Nat.le_refl _, fun v hv => absurd hv (by simp), Nat.le_refl _, fun r hr => absurd hr (by simp)⟩
/-- One instruction of a valid program: what it takes lies on the stack. -/
theorem evOk_takes {st st0 : ByteArray} {op : Nat} {k : Nat} {x : EVs × Recs} (h : EvOkP st k x) (hst : st = st0 ++ takesB op) :
    ∃ S0 a, x.1 = S0 ++ a ∧ a.length = (takesB op).size ∧ S0.length = st0.size ∧ x.1.take (x.1.length - (takesB op).size) = S0 ∧ x.1.drop (x.1.length - (takesB op).size) = a := by
  have hl := h.len
  rw [hst, ByteArray.size_append] at hl
  have e1 : x.1.length - (takesB op).size = st0.size := by omega
  refine ⟨x.1.take st0.size, x.1.drop st0.size, (List.take_append_drop _ _).symm, by rw [List.length_drop]; omega, by rw [List.length_take]; omega, by rw [e1], by rw [e1]⟩
theorem ev0_le {a : EVs} (h : ∀ v ∈ a, v.1.size ≤ 40 ∧ In64 v.2) : ∀ i, (evAt a i).1.size ≤ 40 ∧ In64 (evAt a i).2 := by
  intro i
  by_cases hi : i < a.length
  · exact h _ (evAt_mem hi)
  · unfold evAt
    rw [List.getD_eq_getElem?_getD, List.getElem?_eq_none (by omega)]
    exact ⟨by decide, in64_0⟩
theorem evOk_step {st st0 : ByteArray} {op : Nat} {n : Int} {s : ByteArray} {ws : Strs} {k : Nat} {x y : EVs × Recs} (h : EvOkP st k x) (hst : st = st0 ++ takesB op) (hn : In64 n)
    (he : evStep op n s ws x = some y) : EvOkP (st0 ++ givesB op) (k + 1) y := by
  obtain ⟨S0, a, hx, ha, hS, e1, e2⟩ := evOk_takes h hst
  have hall : ∀ v ∈ a, v.1.size ≤ 40 ∧ In64 v.2 := fun v hv => h.texts v (by rw [hx]; exact List.mem_append_right _ hv)
  have hall0 : ∀ v ∈ S0, v.1.size ≤ 40 ∧ In64 v.2 := fun v hv => h.texts v (by rw [hx]; exact List.mem_append_left _ hv)
  have hfew := h.few
  rw [hx, List.length_append] at hfew
  unfold evStep at he
  rw [e1, e2] at he
  split at he
  · rename_i hg
    rw [Option.some.injEq] at he
    subst he
    refine ⟨by rw [ByteArray.size_append, hg]; exact hS, by simp only; omega, hall0, ?_, ?_⟩
    · simp only
      split
      · rw [List.length_append]; have := h.recs; simp; omega
      · have := h.recs; omega
    · simp only
      split
      · intro r hr
        rcases List.mem_append.1 hr with hr | hr
        · exact h.keys r hr
        · simp at hr
          subst hr
          exact ⟨(ev0_le hall 0).1, (ev0_le hall 1).2⟩
      · exact h.keys
  · rename_i hg
    split at he
    · rename_i hv
      rw [Option.some.injEq] at he
      subst he
      have hg1 : (givesB op).size = 1 := by have := gives_few op; omega
      refine ⟨by rw [ByteArray.size_append, hg1, List.length_append, hS]; rfl, by simp only [List.length_append, List.length_cons, List.length_nil]; omega, ?_, by have := h.recs; simp only; omega, h.keys⟩
      intro v hv'
      rcases List.mem_append.1 hv' with h1 | h1
      · exact hall0 v h1
      · simp at h1
        subst h1
        exact ⟨hv, putV64 _ _ _ _ _ hn (ev0_le hall 0).1⟩
    · cases he
/-- The whole way. -/
theorem evOk_all {l : Instrs} {ws : Strs} (hp : progB l = true) (hn : ∀ i, i < l.length → In64 (ins1 l i)) : ∀ k, k ≤ l.length → ∀ x, evK l ws k = some x → ∃ st, stk l k = some st ∧ EvOkP st k x := by
  intro k
  induction k with
  | zero =>
    intro _ x hx
    rw [evK, Option.some.injEq] at hx
    subst hx
    exact ⟨_, rfl, evOk0⟩
  | succ k ih =>
    intro hk x hx
    cases hy : evK l ws k with
    | none => rw [evK, hy] at hx; cases hx
    | some y =>
      obtain ⟨st, hs, ho⟩ := ih (by omega) y hy
      obtain ⟨st0, h1, h2⟩ := prog_step hp (by omega) hs
      rw [evK_step hy] at hx
      exact ⟨_, h2, evOk_step ho h1 (hn k (by omega)) hx⟩
theorem evalR_facts {l : Instrs} {ws : Strs} (hn : ∀ i, i < l.length → In64 (ins1 l i)) : (evalR l ws).1.length ≤ 30 ∧ (∀ r ∈ (evalR l ws).1, r.1.size ≤ 40 ∧ In64 r.2) ∧ (0 ≤ (evalR l ws).2 ∧ (evalR l ws).2 ≤ 2) ∧ ((evalR l ws).2 ≠ 0 → (evalR l ws).1 = []) := by
  by_cases h : progB l = true ∧ ws.length ≤ 20
  · cases hx : evK l ws l.length with
    | none => rw [evalR_long h.1 h.2 (Nat.le_refl _) hx]; exact ⟨by simp, fun r hr => absurd hr (by simp), ⟨by simp, by simp⟩, fun _ => rfl⟩
    | some x =>
      obtain ⟨st, _, ho⟩ := evOk_all h.1 hn _ (Nat.le_refl _) x hx
      rw [evalR_good h.1 h.2 hx]
      exact ⟨Nat.le_trans ho.recs (prog_len h.1), ho.keys, ⟨by simp, by simp⟩, fun h => absurd rfl h⟩
  · rw [evalR_no h]; exact ⟨by simp, fun r hr => absurd hr (by simp), ⟨by simp, by simp⟩, fun _ => rfl⟩
end Go.Proofs.YtdphganbnlmgcaaGreatDoor
namespace Go.Proofs.YtdphganbnlmgcaaGreatDoor
open Go.ChangeShapes Go.WideShapes Go.ChangeAt Go.RowKit
set_option linter.unusedVariables false
set_option maxRecDepth 100000

theorem l3truth_any (b : Bool) (w : World) : Calls Tryz.prog 78 #[.bool b] w fun e w' => e = .returned (.int .i64 (truthI b)) ∧ w' = w := by
  cases b
  · go_enter Tryz.func78, Tryz.ntmps78
    go_wp2
    go_ret
    exact ⟨rfl, rfl⟩
  · go_enter Tryz.func78, Tryz.ntmps78
    go_wp2
    go_ret
    exact ⟨rfl, rfl⟩
def twoI : Nat → Int → Int → Int
  | 8, a, b => wrap64 (a + b)
  | 9, a, b => wrap64 (a - b)
  | 10, a, b => wrap64 (a * b)
  | _, a, b => truthI (decide (a < b))
theorem l3two_any (op : Nat) (a b : Int) (w : World) (h : 8 ≤ op ∧ op ≤ 11) : Calls Tryz.prog 79 #[.int .i64 op, .int .i64 a, .int .i64 b] w fun e w' => e = .returned (.int .i64 (twoI op a b)) ∧ w' = w := by
  obtain rfl | rfl | rfl | rfl : op = 8 ∨ op = 9 ∨ op = 10 ∨ op = 11 := by omega
  · go_enter Tryz.func79, Tryz.ntmps79
    go_wp2
    go_ret
    exact ⟨rfl, rfl⟩
  · go_enter Tryz.func79, Tryz.ntmps79
    go_wp2
    go_ret
    exact ⟨rfl, rfl⟩
  · go_enter Tryz.func79, Tryz.ntmps79
    go_wp2
    go_ret
    exact ⟨rfl, rfl⟩
  · obtain ⟨z, hz⟩ : ∃ z, decide (a < b) = z := ⟨_, rfl⟩
    have HT := Lib.hid (show twoI 11 a b = truthI z by show truthI _ = _; rw [hz])
    go_enter Tryz.func79, Tryz.ntmps79
    go_wp2_with fail
    refine (l3truth_any z _).mono ?_
    rintro e w1 ⟨rfl, rfl⟩
    go_wp2
    go_ret
    rw [HT.out]
    exact ⟨rfl, rfl⟩

/-- What l3Put hands back. -/
def MadeEV (v : EV) (w : World) (e : Ending) (w' : World) : Prop := e = .returned (.agg #[.string v.1, .int .i64 v.2]) ∧ Below w.heap.size w w'
/-- The cells of a slice of values, in a later world. -/
theorem evs_cells {w w1 : World} {q : Option Addr} {m : Nat} {a : Recs} (h : RecsAt w q m a) (hB : Below w.heap.size w w1) (h0 : 0 < m) :
    ∃ b off, q = some ⟨b, off, none⟩ ∧ ∀ i, i < m → w1.cell? ⟨b, off + i * 2, none⟩ = some (.string (keyAt a i)) ∧ w1.cell? ⟨b, off + i * 2 + 1, none⟩ = some (.int .i64 (numAt a i)) := by
  rcases (h.keep hB).src with h1 | ⟨b, off, ha, _, hc⟩
  · omega
  · exact ⟨b, off, ha, hc⟩
theorem evs_key (a : Recs) (i : Nat) : keyAt a i = (evAt a i).1 := rfl
theorem evs_num (a : Recs) (i : Nat) : numAt a i = (evAt a i).2 := rfl
theorem words_cell {w w1 : World} {q : Option Addr} {m : Nat} {a : Strs} (h : StrsAt w q m a) (hB : Below w.heap.size w w1) {i : Nat} (h0 : i < m) :
    ∃ b off, q = some ⟨b, off, none⟩ ∧ w1.cell? ⟨b, off + i, none⟩ = some (.string (strAt a i)) := by
  rcases (h.keep hB).src with h1 | ⟨b, off, ha, _, hc⟩
  · omega
  · exact ⟨b, off, ha, hc i h0⟩
theorem ev_is {v : EV} {s : ByteArray} {n : Int} {w w' : World} (h : v = (s, n)) (hB : Below w.heap.size w w') : MadeEV v w (.returned (.agg #[.string s, .int .i64 n])) w' := ⟨by rw [h], hB⟩

set_option maxHeartbeats 4000000 in
theorem l3put_1 (n : Int) (s : ByteArray) (q : Option Addr) (m c : Nat) (a : Recs) (wq : Option Addr) (wn wc : Nat) (ws : Strs) (w : World) (h : RecsAt w q m a) (hm : m = (takesB 1).size) (hw : StrsAt w wq wn ws) (hs : s.size ≤ maxLen) (hn : 0 ≤ n) :
    Calls Tryz.prog 59 #[.agg #[.int .i64 1, .int .i64 n, .string s], .slice q m c, .slice wq wn wc] w (MadeEV (putV 1 n s a ws) w) := by
  have HB := Lib.hid (show Below w.heap.size w ((w.alloc (.cells #[.int .i64 1, .int .i64 n, .string s] 90)).alloc (.cells #[.string ⟨#[]⟩, .int .i64 0] 107)) from below_alloc (below_alloc (Below.refl _ _) _) _)
  have hl := hw.length
  by_cases hlt : n < (wn : Int)
  · obtain ⟨i, rfl⟩ : ∃ i : Nat, n = i := ⟨n.toNat, by omega⟩
    obtain ⟨b, off, rfl, cw⟩ := words_cell hw HB.out (i := i) (by omega)
    obtain ⟨x, hx⟩ : ∃ x, strAt ws i = x := ⟨_, rfl⟩
    have HR := Lib.hid (show putV 1 i s a ws = (x, 0) by
      show (wordAt ws i, (0 : Int)) = _
      unfold wordAt
      rw [if_pos (by omega), ← hx]; rfl)
    rw [hx] at cw
    clear hx h hw hm HB
    go_enter Tryz.func59, Tryz.ntmps59
    go_wp2
    refine bodyPost_ret (v := .agg #[.string x, .int .i64 0]) ?h1 rfl ?h2
    case h1 => simp [results, Tryz.results59, go_sem]
    case h2 => exact ev_is HR.out (below_alloc (below_alloc (Below.refl _ _) _) _)
  · have HR := Lib.hid (show putV 1 n s a ws = (ByteArray.empty, 0) by
      show (wordAt ws n, (0 : Int)) = _
      unfold wordAt
      rw [if_neg (by omega)])
    clear h hw hm HB
    go_enter Tryz.func59, Tryz.ntmps59
    go_wp2
    refine bodyPost_ret (v := .agg #[.string ⟨#[]⟩, .int .i64 0]) ?h1 rfl ?h2
    case h1 => simp [results, Tryz.results59, go_sem]
    case h2 => exact ev_is HR.out (below_alloc (below_alloc (Below.refl _ _) _) _)

set_option maxHeartbeats 4000000 in
theorem l3put_2 (n : Int) (s : ByteArray) (q : Option Addr) (m c : Nat) (a : Recs) (wq : Option Addr) (wn wc : Nat) (ws : Strs) (w : World) (h : RecsAt w q m a) (hm : m = (takesB 2).size) (hw : StrsAt w wq wn ws) (hs : s.size ≤ maxLen) (hn : True) :
    Calls Tryz.prog 59 #[.agg #[.int .i64 2, .int .i64 n, .string s], .slice q m c, .slice wq wn wc] w (MadeEV (putV 2 n s a ws) w) := by
  have HR := Lib.hid (show putV 2 n s a ws = (s, 0) from rfl)
  clear h hw hm
  go_enter Tryz.func59, Tryz.ntmps59
  go_wp2
  refine bodyPost_ret (v := .agg #[.string s, .int .i64 0]) ?h1 rfl ?h2
  case h1 => simp [results, Tryz.results59, go_sem]
  case h2 => exact ev_is HR.out (below_alloc (below_alloc (Below.refl _ _) _) _)

set_option maxHeartbeats 4000000 in
theorem l3put_3 (n : Int) (s : ByteArray) (q : Option Addr) (m c : Nat) (a : Recs) (wq : Option Addr) (wn wc : Nat) (ws : Strs) (w : World) (h : RecsAt w q m a) (hm : m = (takesB 3).size) (hw : StrsAt w wq wn ws) (hs : s.size ≤ maxLen) (hn : True) :
    Calls Tryz.prog 59 #[.agg #[.int .i64 3, .int .i64 n, .string s], .slice q m c, .slice wq wn wc] w (MadeEV (putV 3 n s a ws) w) := by
  have HR := Lib.hid (show putV 3 n s a ws = (ByteArray.empty, n) from rfl)
  clear h hw hm
  go_enter Tryz.func59, Tryz.ntmps59
  go_wp2
  refine bodyPost_ret (v := .agg #[.string ⟨#[]⟩, .int .i64 n]) ?h1 rfl ?h2
  case h1 => simp [results, Tryz.results59, go_sem]
  case h2 => exact ev_is HR.out (below_alloc (below_alloc (Below.refl _ _) _) _)

set_option maxHeartbeats 4000000 in
theorem l3put_4 (n : Int) (s : ByteArray) (q : Option Addr) (m c : Nat) (a : Recs) (wq : Option Addr) (wn wc : Nat) (ws : Strs) (w : World) (h : RecsAt w q m a) (hm : m = (takesB 4).size) (hw : StrsAt w wq wn ws) (hs : s.size ≤ maxLen) (hn : True) (ha : ∀ v ∈ a, v.1.size ≤ 40 ∧ In64 v.2) :
    Calls Tryz.prog 59 #[.agg #[.int .i64 4, .int .i64 n, .string s], .slice q m c, .slice wq wn wc] w (MadeEV (putV 4 n s a ws) w) := by
  obtain rfl : m = 2 := hm
  have HB := Lib.hid (show Below w.heap.size w ((w.alloc (.cells #[.int .i64 4, .int .i64 n, .string s] 90)).alloc (.cells #[.string ⟨#[]⟩, .int .i64 0] 107)) from below_alloc (below_alloc (Below.refl _ _) _) _)
  obtain ⟨b, off, rfl, cs⟩ := evs_cells h HB.out (by decide)
  obtain ⟨x0, hx0⟩ : ∃ x, keyAt a 0 = x := ⟨_, rfl⟩
  have k0 := (cs 0 (by decide)).1
  rw [hx0] at k0
  obtain ⟨x1, hx1⟩ : ∃ x, keyAt a 1 = x := ⟨_, rfl⟩
  have k1 := (cs 1 (by decide)).1
  rw [hx1] at k1
  simp at k0 k1
  have HR := Lib.hid (show putV 4 n s a ws = (x0 ++ x1, 0) by rw [← hx0, ← hx1]; rfl)
  have s0 : x0.size ≤ 40 := by rw [← hx0]; exact (ev0_le ha 0).1
  have s1 : x1.size ≤ 40 := by rw [← hx1]; exact (ev0_le ha 1).1
  clear cs h hw HB hx0 hx1
  go_enter Tryz.func59, Tryz.ntmps59
  go_wp2_with fail
  go_region_with (fail)
  all_goals (
    go_wp2
    refine bodyPost_ret (v := .agg #[.string (x0 ++ x1), .int .i64 0]) ?h1 rfl ?h2
    case h1 => simp [results, Tryz.results59, go_sem]
    case h2 => exact ev_is HR.out (below_alloc (below_alloc (Below.refl _ _) _) _).drew)

set_option maxHeartbeats 4000000 in
theorem l3put_5 (n : Int) (s : ByteArray) (q : Option Addr) (m c : Nat) (a : Recs) (wq : Option Addr) (wn wc : Nat) (ws : Strs) (w : World) (h : RecsAt w q m a) (hm : m = (takesB 5).size) (hw : StrsAt w wq wn ws) (hs : s.size ≤ maxLen) (hn : True) (ha : ∀ v ∈ a, v.1.size ≤ 40 ∧ In64 v.2) :
    Calls Tryz.prog 59 #[.agg #[.int .i64 5, .int .i64 n, .string s], .slice q m c, .slice wq wn wc] w (MadeEV (putV 5 n s a ws) w) := by
  obtain rfl : m = 1 := hm
  have HB := Lib.hid (show Below w.heap.size w ((w.alloc (.cells #[.int .i64 5, .int .i64 n, .string s] 90)).alloc (.cells #[.string ⟨#[]⟩, .int .i64 0] 107)) from below_alloc (below_alloc (Below.refl _ _) _) _)
  obtain ⟨b, off, rfl, cs⟩ := evs_cells h HB.out (by decide)
  obtain ⟨x0, hx0⟩ : ∃ x, keyAt a 0 = x := ⟨_, rfl⟩
  have k0 := (cs 0 (by decide)).1
  rw [hx0] at k0
  simp at k0
  have HR := Lib.hid (show putV 5 n s a ws = (ByteArray.empty, (x0.size : Int)) by rw [← hx0]; rfl)
  have s0 : x0.size ≤ 40 := by rw [← hx0]; exact (ev0_le ha 0).1
  clear cs h hw HB hx0
  go_enter Tryz.func59, Tryz.ntmps59
  go_wp2
  refine bodyPost_ret (v := .agg #[.string ⟨#[]⟩, .int .i64 (x0.size : Int)]) ?h1 rfl ?h2
  case h1 => simp [results, Tryz.results59, go_sem]
  case h2 => exact ev_is HR.out (below_alloc (below_alloc (Below.refl _ _) _) _)

set_option maxHeartbeats 4000000 in
theorem l3put_6 (n : Int) (s : ByteArray) (q : Option Addr) (m c : Nat) (a : Recs) (wq : Option Addr) (wn wc : Nat) (ws : Strs) (w : World) (h : RecsAt w q m a) (hm : m = (takesB 6).size) (hw : StrsAt w wq wn ws) (hs : s.size ≤ maxLen) (hn : True) (ha : ∀ v ∈ a, v.1.size ≤ 40 ∧ In64 v.2) :
    Calls Tryz.prog 59 #[.agg #[.int .i64 6, .int .i64 n, .string s], .slice q m c, .slice wq wn wc] w (MadeEV (putV 6 n s a ws) w) := by
  obtain rfl : m = 1 := hm
  have HB := Lib.hid (show Below w.heap.size w ((w.alloc (.cells #[.int .i64 6, .int .i64 n, .string s] 90)).alloc (.cells #[.string ⟨#[]⟩, .int .i64 0] 107)) from below_alloc (below_alloc (Below.refl _ _) _) _)
  obtain ⟨b, off, rfl, cs⟩ := evs_cells h HB.out (by decide)
  obtain ⟨x0, hx0⟩ : ∃ x, keyAt a 0 = x := ⟨_, rfl⟩
  have k0 := (cs 0 (by decide)).1
  rw [hx0] at k0
  simp at k0
  have HX := Lib.hid (show Row ((w.alloc (.cells #[.int .i64 6, .int .i64 n, .string s] 90)).alloc (.cells #[.string ⟨#[]⟩, .int .i64 0] 107)) (w.heap.size + 1) 107 #[.string ⟨#[]⟩, .int .i64 0] from by
    have := Row.new (w.alloc (.cells #[.int .i64 6, .int .i64 n, .string s] 90)) 107 #[.string ⟨#[]⟩, .int .i64 0]
    simpa using this)
  have HR := Lib.hid (show putV 6 n s a ws = (ByteArray.empty, numI x0) by rw [← hx0]; rfl)
  have s0 : x0.size ≤ maxLen := by rw [← hx0]; have := (ev0_le ha 0).1; unfold evAt at this; unfold keyAt maxLen; omega
  obtain ⟨z, hz⟩ : ∃ z, numI x0 = z := ⟨_, rfl⟩
  have HZ := Lib.hid (show (numD x0.data.toList).getD 0 = z from hz)
  rw [hz] at HR
  clear cs h hw hx0 hz
  go_enter Tryz.func59, Tryz.ntmps59
  go_wp2_with fail
  refine (l1num_any x0 _ s0).mono ?_
  rintro e w2 ⟨rfl, hB2⟩
  rw [HZ.out]
  have HX := Lib.hid (HX.out.keep hB2)
  have HB := Lib.hid (below_via HB.out hB2)
  have y0 := HX.out.cell (j := 0) (by simp)
  have y1 := HX.out.cell (j := 1) (by simp)
  have f0 := HX.out.free 0
  have f1 := HX.out.free 1
  simp at y0 y1
  clear hB2
  go_wp2
  have hbF := (HX.out.set 0 (.string ⟨#[]⟩)).set 1 (.int .i64 z)
  unfold Row at hbF
  refine bodyPost_ret (v := .agg #[.string ⟨#[]⟩, .int .i64 z]) ?h1 rfl ?h2
  case h1 => simp [results, Tryz.results59, go_sem, World.cell?, hbF]
  case h2 => exact ev_is HR.out ((HB.out.setCell (by simp) _).setCell (by simp) _)

set_option maxHeartbeats 4000000 in
theorem l3put_7 (n : Int) (s : ByteArray) (q : Option Addr) (m c : Nat) (a : Recs) (wq : Option Addr) (wn wc : Nat) (ws : Strs) (w : World) (h : RecsAt w q m a) (hm : m = (takesB 7).size) (hw : StrsAt w wq wn ws) (hs : s.size ≤ maxLen) (hn : True) (ha : ∀ v ∈ a, v.1.size ≤ 40 ∧ In64 v.2) :
    Calls Tryz.prog 59 #[.agg #[.int .i64 7, .int .i64 n, .string s], .slice q m c, .slice wq wn wc] w (MadeEV (putV 7 n s a ws) w) := by
  obtain rfl : m = 1 := hm
  have HB := Lib.hid (show Below w.heap.size w ((w.alloc (.cells #[.int .i64 7, .int .i64 n, .string s] 90)).alloc (.cells #[.string ⟨#[]⟩, .int .i64 0] 107)) from below_alloc (below_alloc (Below.refl _ _) _) _)
  obtain ⟨b, off, rfl, cs⟩ := evs_cells h HB.out (by decide)
  obtain ⟨x0, hx0⟩ : ∃ x, numAt a 0 = x := ⟨_, rfl⟩
  have k0 := (cs 0 (by decide)).2
  rw [hx0] at k0
  simp at k0
  have HX := Lib.hid (show Row ((w.alloc (.cells #[.int .i64 7, .int .i64 n, .string s] 90)).alloc (.cells #[.string ⟨#[]⟩, .int .i64 0] 107)) (w.heap.size + 1) 107 #[.string ⟨#[]⟩, .int .i64 0] from by
    have := Row.new (w.alloc (.cells #[.int .i64 7, .int .i64 n, .string s] 90)) 107 #[.string ⟨#[]⟩, .int .i64 0]
    simpa using this)
  have HR := Lib.hid (show putV 7 n s a ws = (decB x0, 0) by rw [← hx0]; rfl)
  have s0 : In64 x0 := by rw [← hx0]; exact (ev0_le ha 0).2
  obtain ⟨z, hz⟩ : ∃ z, decB x0 = z := ⟨_, rfl⟩
  have HZ := Lib.hid hz
  rw [hz] at HR
  unfold In64 at s0
  clear cs h hw hx0 hz
  go_enter Tryz.func59, Tryz.ntmps59
  go_wp2_with fail
  refine (l1dec_any x0 s0.1 (by omega) _).mono ?_
  rintro e w2 ⟨rfl, hB2⟩
  rw [HZ.out]
  have HX := Lib.hid (HX.out.keep hB2)
  have HB := Lib.hid (below_via HB.out hB2)
  have y0 := HX.out.cell (j := 0) (by simp)
  have y1 := HX.out.cell (j := 1) (by simp)
  have f0 := HX.out.free 0
  have f1 := HX.out.free 1
  simp at y0 y1
  clear hB2
  go_wp2
  have hbF := (HX.out.set 0 (.string z)).set 1 (.int .i64 0)
  unfold Row at hbF
  refine bodyPost_ret (v := .agg #[.string z, .int .i64 0]) ?h1 rfl ?h2
  case h1 => simp [results, Tryz.results59, go_sem, World.cell?, hbF]
  case h2 => exact ev_is HR.out ((HB.out.setCell (by simp) _).setCell (by simp) _)

set_option maxHeartbeats 4000000 in
theorem l3put_12 (n : Int) (s : ByteArray) (q : Option Addr) (m c : Nat) (a : Recs) (wq : Option Addr) (wn wc : Nat) (ws : Strs) (w : World) (h : RecsAt w q m a) (hm : m = (takesB 12).size) (hw : StrsAt w wq wn ws) (hs : s.size ≤ maxLen) (hn : True) (ha : ∀ v ∈ a, v.1.size ≤ 40 ∧ In64 v.2) :
    Calls Tryz.prog 59 #[.agg #[.int .i64 12, .int .i64 n, .string s], .slice q m c, .slice wq wn wc] w (MadeEV (putV 12 n s a ws) w) := by
  obtain rfl : m = 2 := hm
  have HB := Lib.hid (show Below w.heap.size w ((w.alloc (.cells #[.int .i64 12, .int .i64 n, .string s] 90)).alloc (.cells #[.string ⟨#[]⟩, .int .i64 0] 107)) from below_alloc (below_alloc (Below.refl _ _) _) _)
  obtain ⟨b, off, rfl, cs⟩ := evs_cells h HB.out (by decide)
  obtain ⟨x0, hx0⟩ : ∃ x, keyAt a 0 = x := ⟨_, rfl⟩
  have k0 := (cs 0 (by decide)).1
  rw [hx0] at k0
  obtain ⟨x1, hx1⟩ : ∃ x, keyAt a 1 = x := ⟨_, rfl⟩
  have k1 := (cs 1 (by decide)).1
  rw [hx1] at k1
  simp at k0 k1
  have s0 : x0.size ≤ 40 := by rw [← hx0]; exact (ev0_le ha 0).1
  have s1 : x1.size ≤ 40 := by rw [← hx1]; exact (ev0_le ha 1).1
  by_cases hq : x0 = x1
  · have HR := Lib.hid (show putV 12 n s a ws = (ByteArray.empty, truthI true) by
      show (ByteArray.empty, truthI (decide (keyAt a 0 = keyAt a 1))) = _
      rw [hx0, hx1, decide_eq_true hq])
    have hq2 : (x0.toList == x1.toList) = true := ba_eqv hq
    clear cs h hw HB hx0 hx1 hq
    go_enter Tryz.func59, Tryz.ntmps59
    go_wp2_with fail
    go_region_with (go_at_call 78; refine (l3truth_any true _).mono ?_; rintro e w1 ⟨rfl, rfl⟩)
    all_goals (
      go_wp2
      refine bodyPost_ret (v := .agg #[.string ⟨#[]⟩, .int .i64 (truthI true)]) ?h1 rfl ?h2
      case h1 => simp [results, Tryz.results59, go_sem]
      case h2 => exact ev_is HR.out (below_alloc (below_alloc (Below.refl _ _) _) _).drew)
  · have HR := Lib.hid (show putV 12 n s a ws = (ByteArray.empty, truthI false) by
      show (ByteArray.empty, truthI (decide (keyAt a 0 = keyAt a 1))) = _
      rw [hx0, hx1, decide_eq_false hq])
    have hq2 : (x0.toList == x1.toList) = false := ba_nev hq
    clear cs h hw HB hx0 hx1 hq
    go_enter Tryz.func59, Tryz.ntmps59
    go_wp2_with fail
    go_region_with (go_at_call 78; refine (l3truth_any false _).mono ?_; rintro e w1 ⟨rfl, rfl⟩)
    all_goals (
      go_wp2
      refine bodyPost_ret (v := .agg #[.string ⟨#[]⟩, .int .i64 (truthI false)]) ?h1 rfl ?h2
      case h1 => simp [results, Tryz.results59, go_sem]
      case h2 => exact ev_is HR.out (below_alloc (below_alloc (Below.refl _ _) _) _).drew)

set_option maxHeartbeats 4000000 in
theorem l3put_8 (n : Int) (s : ByteArray) (q : Option Addr) (m c : Nat) (a : Recs) (wq : Option Addr) (wn wc : Nat) (ws : Strs) (w : World) (h : RecsAt w q m a) (hm : m = (takesB 8).size) (hw : StrsAt w wq wn ws) (hs : s.size ≤ maxLen) (hn : True) (ha : ∀ v ∈ a, v.1.size ≤ 40 ∧ In64 v.2) :
    Calls Tryz.prog 59 #[.agg #[.int .i64 8, .int .i64 n, .string s], .slice q m c, .slice wq wn wc] w (MadeEV (putV 8 n s a ws) w) := by
  obtain rfl : m = 2 := hm
  have HB := Lib.hid (show Below w.heap.size w ((w.alloc (.cells #[.int .i64 8, .int .i64 n, .string s] 90)).alloc (.cells #[.string ⟨#[]⟩, .int .i64 0] 107)) from below_alloc (below_alloc (Below.refl _ _) _) _)
  obtain ⟨b, off, rfl, cs⟩ := evs_cells h HB.out (by decide)
  obtain ⟨x0, hx0⟩ : ∃ x, numAt a 0 = x := ⟨_, rfl⟩
  have k0 := (cs 0 (by decide)).2
  rw [hx0] at k0
  obtain ⟨x1, hx1⟩ : ∃ x, numAt a 1 = x := ⟨_, rfl⟩
  have k1 := (cs 1 (by decide)).2
  rw [hx1] at k1
  simp at k0 k1
  obtain ⟨z, hz⟩ : ∃ z, twoI 8 x0 x1 = z := ⟨_, rfl⟩
  have HR := Lib.hid (show putV 8 n s a ws = (ByteArray.empty, z) by rw [← hz, ← hx0, ← hx1]; rfl)
  have HT := Lib.hid (show ∀ w, Calls Tryz.prog 79 #[.int .i64 8, .int .i64 x0, .int .i64 x1] w (fun e w' => e = .returned (.int .i64 z) ∧ w' = w) from fun w => by
    have := l3two_any 8 x0 x1 w (by omega)
    rw [hz] at this
    exact this)
  clear cs h hw HB hx0 hx1 hz
  go_enter Tryz.func59, Tryz.ntmps59
  go_wp2_with fail
  go_region_with (go_at_call 79; refine (HT.out _).mono ?_; rintro e w1 ⟨rfl, rfl⟩)
  all_goals (
    go_wp2
    refine bodyPost_ret (v := .agg #[.string ⟨#[]⟩, .int .i64 z]) ?h1 rfl ?h2
    case h1 => simp [results, Tryz.results59, go_sem]
    case h2 => exact ev_is HR.out (below_alloc (below_alloc (Below.refl _ _) _) _).drew)

set_option maxHeartbeats 4000000 in
theorem l3put_9 (n : Int) (s : ByteArray) (q : Option Addr) (m c : Nat) (a : Recs) (wq : Option Addr) (wn wc : Nat) (ws : Strs) (w : World) (h : RecsAt w q m a) (hm : m = (takesB 9).size) (hw : StrsAt w wq wn ws) (hs : s.size ≤ maxLen) (hn : True) (ha : ∀ v ∈ a, v.1.size ≤ 40 ∧ In64 v.2) :
    Calls Tryz.prog 59 #[.agg #[.int .i64 9, .int .i64 n, .string s], .slice q m c, .slice wq wn wc] w (MadeEV (putV 9 n s a ws) w) := by
  obtain rfl : m = 2 := hm
  have HB := Lib.hid (show Below w.heap.size w ((w.alloc (.cells #[.int .i64 9, .int .i64 n, .string s] 90)).alloc (.cells #[.string ⟨#[]⟩, .int .i64 0] 107)) from below_alloc (below_alloc (Below.refl _ _) _) _)
  obtain ⟨b, off, rfl, cs⟩ := evs_cells h HB.out (by decide)
  obtain ⟨x0, hx0⟩ : ∃ x, numAt a 0 = x := ⟨_, rfl⟩
  have k0 := (cs 0 (by decide)).2
  rw [hx0] at k0
  obtain ⟨x1, hx1⟩ : ∃ x, numAt a 1 = x := ⟨_, rfl⟩
  have k1 := (cs 1 (by decide)).2
  rw [hx1] at k1
  simp at k0 k1
  obtain ⟨z, hz⟩ : ∃ z, twoI 9 x0 x1 = z := ⟨_, rfl⟩
  have HR := Lib.hid (show putV 9 n s a ws = (ByteArray.empty, z) by rw [← hz, ← hx0, ← hx1]; rfl)
  have HT := Lib.hid (show ∀ w, Calls Tryz.prog 79 #[.int .i64 9, .int .i64 x0, .int .i64 x1] w (fun e w' => e = .returned (.int .i64 z) ∧ w' = w) from fun w => by
    have := l3two_any 9 x0 x1 w (by omega)
    rw [hz] at this
    exact this)
  clear cs h hw HB hx0 hx1 hz
  go_enter Tryz.func59, Tryz.ntmps59
  go_wp2_with fail
  go_region_with (go_at_call 79; refine (HT.out _).mono ?_; rintro e w1 ⟨rfl, rfl⟩)
  all_goals (
    go_wp2
    refine bodyPost_ret (v := .agg #[.string ⟨#[]⟩, .int .i64 z]) ?h1 rfl ?h2
    case h1 => simp [results, Tryz.results59, go_sem]
    case h2 => exact ev_is HR.out (below_alloc (below_alloc (Below.refl _ _) _) _).drew)

set_option maxHeartbeats 4000000 in
theorem l3put_10 (n : Int) (s : ByteArray) (q : Option Addr) (m c : Nat) (a : Recs) (wq : Option Addr) (wn wc : Nat) (ws : Strs) (w : World) (h : RecsAt w q m a) (hm : m = (takesB 10).size) (hw : StrsAt w wq wn ws) (hs : s.size ≤ maxLen) (hn : True) (ha : ∀ v ∈ a, v.1.size ≤ 40 ∧ In64 v.2) :
    Calls Tryz.prog 59 #[.agg #[.int .i64 10, .int .i64 n, .string s], .slice q m c, .slice wq wn wc] w (MadeEV (putV 10 n s a ws) w) := by
  obtain rfl : m = 2 := hm
  have HB := Lib.hid (show Below w.heap.size w ((w.alloc (.cells #[.int .i64 10, .int .i64 n, .string s] 90)).alloc (.cells #[.string ⟨#[]⟩, .int .i64 0] 107)) from below_alloc (below_alloc (Below.refl _ _) _) _)
  obtain ⟨b, off, rfl, cs⟩ := evs_cells h HB.out (by decide)
  obtain ⟨x0, hx0⟩ : ∃ x, numAt a 0 = x := ⟨_, rfl⟩
  have k0 := (cs 0 (by decide)).2
  rw [hx0] at k0
  obtain ⟨x1, hx1⟩ : ∃ x, numAt a 1 = x := ⟨_, rfl⟩
  have k1 := (cs 1 (by decide)).2
  rw [hx1] at k1
  simp at k0 k1
  obtain ⟨z, hz⟩ : ∃ z, twoI 10 x0 x1 = z := ⟨_, rfl⟩
  have HR := Lib.hid (show putV 10 n s a ws = (ByteArray.empty, z) by rw [← hz, ← hx0, ← hx1]; rfl)
  have HT := Lib.hid (show ∀ w, Calls Tryz.prog 79 #[.int .i64 10, .int .i64 x0, .int .i64 x1] w (fun e w' => e = .returned (.int .i64 z) ∧ w' = w) from fun w => by
    have := l3two_any 10 x0 x1 w (by omega)
    rw [hz] at this
    exact this)
  clear cs h hw HB hx0 hx1 hz
  go_enter Tryz.func59, Tryz.ntmps59
  go_wp2_with fail
  go_region_with (go_at_call 79; refine (HT.out _).mono ?_; rintro e w1 ⟨rfl, rfl⟩)
  all_goals (
    go_wp2
    refine bodyPost_ret (v := .agg #[.string ⟨#[]⟩, .int .i64 z]) ?h1 rfl ?h2
    case h1 => simp [results, Tryz.results59, go_sem]
    case h2 => exact ev_is HR.out (below_alloc (below_alloc (Below.refl _ _) _) _).drew)

set_option maxHeartbeats 4000000 in
theorem l3put_11 (n : Int) (s : ByteArray) (q : Option Addr) (m c : Nat) (a : Recs) (wq : Option Addr) (wn wc : Nat) (ws : Strs) (w : World) (h : RecsAt w q m a) (hm : m = (takesB 11).size) (hw : StrsAt w wq wn ws) (hs : s.size ≤ maxLen) (hn : True) (ha : ∀ v ∈ a, v.1.size ≤ 40 ∧ In64 v.2) :
    Calls Tryz.prog 59 #[.agg #[.int .i64 11, .int .i64 n, .string s], .slice q m c, .slice wq wn wc] w (MadeEV (putV 11 n s a ws) w) := by
  obtain rfl : m = 2 := hm
  have HB := Lib.hid (show Below w.heap.size w ((w.alloc (.cells #[.int .i64 11, .int .i64 n, .string s] 90)).alloc (.cells #[.string ⟨#[]⟩, .int .i64 0] 107)) from below_alloc (below_alloc (Below.refl _ _) _) _)
  obtain ⟨b, off, rfl, cs⟩ := evs_cells h HB.out (by decide)
  obtain ⟨x0, hx0⟩ : ∃ x, numAt a 0 = x := ⟨_, rfl⟩
  have k0 := (cs 0 (by decide)).2
  rw [hx0] at k0
  obtain ⟨x1, hx1⟩ : ∃ x, numAt a 1 = x := ⟨_, rfl⟩
  have k1 := (cs 1 (by decide)).2
  rw [hx1] at k1
  simp at k0 k1
  obtain ⟨z, hz⟩ : ∃ z, twoI 11 x0 x1 = z := ⟨_, rfl⟩
  have HR := Lib.hid (show putV 11 n s a ws = (ByteArray.empty, z) by rw [← hz, ← hx0, ← hx1]; rfl)
  have HT := Lib.hid (show ∀ w, Calls Tryz.prog 79 #[.int .i64 11, .int .i64 x0, .int .i64 x1] w (fun e w' => e = .returned (.int .i64 z) ∧ w' = w) from fun w => by
    have := l3two_any 11 x0 x1 w (by omega)
    rw [hz] at this
    exact this)
  clear cs h hw HB hx0 hx1 hz
  go_enter Tryz.func59, Tryz.ntmps59
  go_wp2_with fail
  go_region_with (go_at_call 79; refine (HT.out _).mono ?_; rintro e w1 ⟨rfl, rfl⟩)
  all_goals (
    go_wp2
    refine bodyPost_ret (v := .agg #[.string ⟨#[]⟩, .int .i64 z]) ?h1 rfl ?h2
    case h1 => simp [results, Tryz.results59, go_sem]
    case h2 => exact ev_is HR.out (below_alloc (below_alloc (Below.refl _ _) _) _).drew)

/-- Every instruction that puts something. -/
theorem l3put_any (op : Nat) (n : Int) (s : ByteArray) (q : Option Addr) (m c : Nat) (a : Recs) (wq : Option Addr) (wn wc : Nat) (ws : Strs) (w : World) (h1 : 1 ≤ op) (h2 : op ≤ 12) (h : RecsAt w q m a) (hm : m = (takesB op).size) (hw : StrsAt w wq wn ws) (hs : s.size ≤ maxLen) (hn : op = 1 → 0 ≤ n) (ha : ∀ v ∈ a, v.1.size ≤ 40 ∧ In64 v.2) :
    Calls Tryz.prog 59 #[.agg #[.int .i64 op, .int .i64 n, .string s], .slice q m c, .slice wq wn wc] w (MadeEV (putV op n s a ws) w) := by
  obtain rfl | rfl | rfl | rfl | rfl | rfl | rfl | rfl | rfl | rfl | rfl | rfl : op = 1 ∨ op = 2 ∨ op = 3 ∨ op = 4 ∨ op = 5 ∨ op = 6 ∨ op = 7 ∨ op = 8 ∨ op = 9 ∨ op = 10 ∨ op = 11 ∨ op = 12 := by omega
  · exact l3put_1 n s q m c a wq wn wc ws w h hm hw hs (hn rfl)
  · exact l3put_2 n s q m c a wq wn wc ws w h hm hw hs trivial
  · exact l3put_3 n s q m c a wq wn wc ws w h hm hw hs trivial
  · exact l3put_4 n s q m c a wq wn wc ws w h hm hw hs trivial ha
  · exact l3put_5 n s q m c a wq wn wc ws w h hm hw hs trivial ha
  · exact l3put_6 n s q m c a wq wn wc ws w h hm hw hs trivial ha
  · exact l3put_7 n s q m c a wq wn wc ws w h hm hw hs trivial ha
  · exact l3put_8 n s q m c a wq wn wc ws w h hm hw hs trivial ha
  · exact l3put_9 n s q m c a wq wn wc ws w h hm hw hs trivial ha
  · exact l3put_10 n s q m c a wq wn wc ws w h hm hw hs trivial ha
  · exact l3put_11 n s q m c a wq wn wc ws w h hm hw hs trivial ha
  · exact l3put_12 n s q m c a wq wn wc ws w h hm hw hs trivial ha
end Go.Proofs.YtdphganbnlmgcaaGreatDoor
namespace Go.Proofs.YtdphganbnlmgcaaGreatDoor
open Go.ChangeShapes Go.WideShapes Go.ChangeAt Go.RowKit
set_option linter.unusedVariables false
set_option maxRecDepth 100000

theorem eqrec_same (s : ByteArray) (n : Int) (w : World) : Calls Tryz.prog 52 #[.agg #[.string s, .int .i64 n], .agg #[.string s, .int .i64 n]] w (MadeBool true w) := by
  go_enter Tryz.func52, Tryz.ntmps52
  go_wp2
  go_ret
  exact ⟨rfl, below_alloc (below_alloc (Below.refl _ _) _) _⟩

set_option maxHeartbeats 1000000 in
theorem eqrecs_same (a1 a2 : Option Addr) (len cap1 cap2 : Nat) (l : Recs) (w : World) (h1 : RecsAt w a1 len l) (h2 : RecsAt w a2 len l) :
    Calls Tryz.prog 26 #[.slice a1 len cap1, .slice a2 len cap2] w (MadeBool true w) := by
  have hm := h1.max
  unfold maxLen at hm
  have HR1 := Lib.hid h1
  have HR2 := Lib.hid h2
  clear h1 h2
  go_enter Tryz.func26, Tryz.ntmps26
  go_wp2
  go_loopw [5] (fun i wr => ∃ k : Nat, k ≤ len ∧ i = .int .i64 k ∧ Hid (Below w.heap.size w wr)) (fun i _ => len - (intOf i).toNat)
  case atStart => exact ⟨0, Nat.zero_le _, rfl, Below.refl _ _⟩
  case round =>
    obtain ⟨k, hk, rfl, HW⟩ := hrel
    by_cases hlt : k < len
    · rcases HR1.out.src with hz | ⟨b1, off1, rfl, hb1, hc1⟩
      · omega
      · rcases HR2.out.src with hz | ⟨b2, off2, rfl, hb2, hc2⟩
        · omega
        · have c0 := (HW.out.cell (p := ⟨b1, off1 + k * 2, none⟩) hb1).trans (hc1 k hlt).1
          have c1 := (HW.out.cell (p := ⟨b1, off1 + k * 2 + 1, none⟩) hb1).trans (hc1 k hlt).2
          have d0 := (HW.out.cell (p := ⟨b2, off2 + k * 2, none⟩) hb2).trans (hc2 k hlt).1
          have d1 := (HW.out.cell (p := ⟨b2, off2 + k * 2 + 1, none⟩) hb2).trans (hc2 k hlt).2
          have HB := Lib.hid HW.out.drew
          clear hc1 hc2 hb1 hb2
          go_wp2_with fail
          go_region_held3 (fun w' => Hid (Below w.heap.size w w') ∧ w'.cell? ⟨b1, off1 + k * 2, none⟩ = some (.string (keyAt l k)) ∧ w'.cell? ⟨b1, off1 + k * 2 + 1, none⟩ = some (.int .i64 (numAt l k)) ∧ w'.cell? ⟨b2, off2 + k * 2, none⟩ = some (.string (keyAt l k)) ∧ w'.cell? ⟨b2, off2 + k * 2 + 1, none⟩ = some (.int .i64 (numAt l k)))
            (first | exact ⟨HB, c0, c1, d0, d1⟩ | exact ⟨HB, e0, e1, f0, f1⟩)
            (first | (go_at_call 52; refine (eqrec_same _ _ _).mono ?_; rintro e w2 ⟨rfl, hB⟩; have e0 := (hB.cell (p := ⟨b1, off1 + k * 2, none⟩) (World.block_lt_of_cell? _ _ c0)).trans c0; have e1 := (hB.cell (p := ⟨b1, off1 + k * 2 + 1, none⟩) (World.block_lt_of_cell? _ _ c1)).trans c1; have f0 := (hB.cell (p := ⟨b2, off2 + k * 2, none⟩) (World.block_lt_of_cell? _ _ d0)).trans d0; have f1 := (hB.cell (p := ⟨b2, off2 + k * 2 + 1, none⟩) (World.block_lt_of_cell? _ _ d1)).trans d1; have HB := Lib.hid (below_via HB.out hB); clear hB))
          go_wp2
          go_roundw
          case rel => exact ⟨k + 1, by omega, by go_num, HB⟩
          case measure => simp [intOf]; omega
    · go_wp2
      go_ret
      exact ⟨rfl, HW.out⟩
end Go.Proofs.YtdphganbnlmgcaaGreatDoor
namespace Go.Proofs.YtdphganbnlmgcaaGreatDoor
open Go.ChangeShapes Go.WideShapes Go.ChangeAt Go.RowKit
set_option linter.unusedVariables false
set_option maxRecDepth 100000

def cellsL (W : Recs) : List Value := W.flatMap fun r => [Value.string r.1, Value.int .i64 r.2]
theorem cellsL_nil : cellsL [] = [] := rfl
theorem cellsL_snoc (W : Recs) (s : ByteArray) (n : Int) : cellsL (W ++ [(s, n)]) = cellsL W ++ [.string s, .int .i64 n] := by simp [cellsL]
theorem cellsL_append (W V : Recs) : cellsL (W ++ V) = cellsL W ++ cellsL V := by simp [cellsL]
theorem cellsL_len : ∀ W : Recs, (cellsL W).length = W.length * 2
  | [] => rfl
  | r :: t => by
    have := cellsL_len t
    simp only [cellsL] at this
    simp [cellsL, List.flatMap_cons, this]; omega
theorem cellsL_get : ∀ (W : Recs) (j : Nat), j < W.length → (cellsL W)[j * 2]? = some (.string (keyAt W j)) ∧ (cellsL W)[j * 2 + 1]? = some (.int .i64 (numAt W j))
  | [], j, h => by simp at h
  | r :: t, 0, h => by simp [cellsL, keyAt, numAt]
  | r :: t, j + 1, h => by
    have := cellsL_get t j (by simpa using h)
    have e : (j + 1) * 2 = j * 2 + 1 + 1 := by omega
    simp only [cellsL] at this
    rw [e]
    simp only [cellsL, List.flatMap_cons, List.cons_append, List.nil_append, List.getElem?_cons_succ]
    simpa [keyAt, numAt] using this

theorem two_new (w : World) (x y : Value) (t : TypeId) : ∀ j u, [x, y][j]? = some u → (w.alloc (.cells #[x, y] t)).cell? ((⟨w.heap.size, 0, none⟩ : Addr).add j) = some u := by
  intro j u hj
  match j, hj with
  | 0, hj => simp at hj; subst hj; simp [Addr.add]
  | 1, hj => simp at hj; subst hj; simp [Addr.add]
theorem two_new1 (w : World) (o : Obj) (x y : Value) (t : TypeId) : ∀ j u, [x, y][j]? = some u → ((w.alloc o).alloc (.cells #[x, y] t)).cell? ((⟨w.heap.size + 1, 0, none⟩ : Addr).add j) = some u := by
  have h := two_new (w.alloc o) x y t
  have e : (w.alloc o).heap.size = w.heap.size + 1 := by simp
  rw [e] at h
  exact h
theorem two_cells (s : ByteArray) (n : Int) : ∀ u ∈ [Value.string s, Value.int .i64 n], u.oneCell' = true := by
  intro u hu
  simp at hu
  rcases hu with rfl | rfl
  · rfl
  · rfl

/-- The slice (q, length of W) holds the records W in a row from block 'base' on. -/
def Rs (base : Nat) (w : World) (q : Option Addr) (W : Recs) : Prop :=
  W.length = 0 ∨ ∃ g cur, q = some ⟨g, 0, none⟩ ∧ base ≤ g ∧ Row w g 50 cur ∧ W.length * 2 ≤ cur.size ∧ Laid cur W W.length

theorem rs_of_own {base : Nat} {w : World} {q : Option Addr} {cp : Nat} {W : Recs} (h : w.ownsRow base 50 2 (.slice q W.length cp) W.length (cellsL W)) : Rs base w q W := by
  rcases h.2 with ⟨h1, h2⟩ | ⟨g, cap, cur, hv, hb, hh, h1, _, h3, h4⟩
  · simp only [Value.slice.injEq] at h1; exact .inl h1.2.1
  · simp only [Value.slice.injEq, true_and] at hv
    obtain ⟨rfl, rfl⟩ := hv
    refine .inr ⟨g, cur, rfl, hb, hh, by omega, fun j hj => ?_⟩
    obtain ⟨e1, e2⟩ := cellsL_get W j hj
    rw [← h4, List.getElem?_take_of_lt (by omega)] at e1 e2
    exact ⟨by simpa using e1, by simpa using e2⟩
theorem rs_keep {base : Nat} {w w1 : World} {q : Option Addr} {W : Recs} (h : Rs base w q W) (hB : Below w.heap.size w w1) : Rs base w1 q W := by
  rcases h with h0 | ⟨g, cur, rfl, hb, hr, h1, h2⟩
  · exact .inl h0
  · exact .inr ⟨g, cur, rfl, hb, hr.keep hB, h1, h2⟩
theorem rs_lt {base : Nat} {w : World} {q : Option Addr} {W : Recs} (h : Rs base w q W) (hn : 0 < W.length) : ∀ g, q = some ⟨g, 0, none⟩ → base ≤ g ∧ g < w.heap.size := by
  intro g hg
  rcases h with h0 | ⟨g', cur, rfl, hb, hr, h1, h2⟩
  · omega
  · simp only [Option.some.injEq, Addr.mk.injEq, and_true] at hg
    rw [← hg]; exact ⟨hb, hr.lt⟩
theorem rs_grown {base g : Nat} {w w1 : World} {q : Option Addr} {W : Recs} (h : Rs base w q W) (hg : w.grownBy w1 (some g)) (hne : 0 < W.length → ∀ g', q = some ⟨g', 0, none⟩ → g' ≠ g) : Rs base w1 q W := by
  rcases h with h0 | ⟨g', cur, rfl, hb, hr, h1, h2⟩
  · exact .inl h0
  · by_cases h0 : W.length = 0
    · exact .inl h0
    · exact .inr ⟨g', cur, rfl, hb, (hg.block g' hr.lt (by simpa using hne (by omega) g' rfl)).trans hr, h1, h2⟩
theorem recs_of_rs {base n : Nat} {w : World} {q : Option Addr} {W : Recs} (h : Rs base w q W) (hn : W.length = n) (hm : n ≤ maxLen) (hs : ∀ i, i < n → (keyAt W i).size ≤ maxLen) : RecsAt w q n W := by
  subst hn
  refine ⟨rfl, hm, hs, ?_⟩
  rcases h with h0 | ⟨g, cur, rfl, _, hr, _, hc⟩
  · exact .inl h0
  · refine .inr ⟨g, 0, rfl, hr.lt, fun i hi => ?_⟩
    obtain ⟨e1, e2⟩ := hc i hi
    unfold Row at hr
    simp [World.cell?, hr, e1, e2]

/-- Row B holds the marks from number k0 on in its first n records. -/
def MarkedR (cur : Array Value) (k0 n : Nat) : Prop := ∀ j, j < n → cur[j * 2]? = some (.string (mtext (k0 + 2 * j))) ∧ cur[j * 2 + 1]? = some (.int .i64 ((k0 + 2 * j + 1 : Nat) : Int))
theorem MarkedR.step {cur : Array Value} {k0 k : Nat} (h : MarkedR cur k0 k) (hk : k * 2 + 1 < cur.size) (x : Int) (hx : x = ((k0 + 2 * k + 1 : Nat) : Int)) : MarkedR ((cur.setIfInBounds (k * 2) (.string (mtext (k0 + 2 * k)))).setIfInBounds (k * 2 + 1) (.int .i64 x)) k0 (k + 1) := by
  subst hx
  intro j hj
  have h1 : k * 2 < cur.size := by omega
  rcases Nat.lt_or_ge j k with hlt | hge
  · obtain ⟨e1, e2⟩ := h j hlt
    constructor
    · rw [Array.getElem?_setIfInBounds_ne (by omega), Array.getElem?_setIfInBounds_ne (by omega)]; exact e1
    · rw [Array.getElem?_setIfInBounds_ne (by omega), Array.getElem?_setIfInBounds_ne (by omega)]; exact e2
  · obtain rfl : j = k := by omega
    constructor
    · rw [Array.getElem?_setIfInBounds_ne (by omega)]; simp [h1]
    · simp [hk]

/-- The end of marking records. -/
def MadeMarksR (B : Nat) (E : TypeId) (k0 len : Nat) (w : World) (e : Ending) (w' : World) : Prop :=
  e = .returned (.int .i64 ((k0 + 2 * len : Nat) : Int)) ∧ w.grownBy w' (some B) ∧ ∃ cur, Row w' B E cur ∧ MarkedR cur k0 len

def MadeMarksN (B : Nat) (E : TypeId) (k0 len n : Nat) (w : World) (e : Ending) (w' : World) : Prop :=
  e = .returned (.int .i64 ((k0 + 2 * len : Nat) : Int)) ∧ w.grownBy w' (some B) ∧ ∃ cur, Row w' B E cur ∧ cur.size = n ∧ MarkedR cur k0 len

set_option maxHeartbeats 1000000 in
theorem markrN_any (B len cap k0 n : Nat) (E : TypeId) (cur0 : Array Value) (w : World) (h : Row w B E cur0) (hn : cur0.size = n) (hl : len * 2 ≤ n) (h1 : 1 ≤ k0) (h2 : k0 + 2 * len ≤ 1099511627776) :
    Calls Tryz.prog 31 #[.slice (some ⟨B, 0, none⟩) len cap, .int .i64 k0] w (MadeMarksN B E k0 len n w) := by
  have HR := Lib.hid h
  have HN := Lib.hid hn
  clear h hn
  go_enter Tryz.func31, Tryz.ntmps31
  go_wp2
  go_loopw [1, 5] (fun t i wr => ∃ k : Nat, k ≤ len ∧ i = .int .i64 k ∧ t = .int .i64 ((k0 + 2 * k : Nat) : Int) ∧ Hid (w.grownBy wr (some B) ∧ ∃ cur, Row wr B E cur ∧ cur.size = n ∧ MarkedR cur k0 k)) (fun _ i _ => len - (intOf i).toNat)
  case atStart => exact ⟨0, Nat.zero_le _, rfl, rfl, World.grownBy.refl _ _, cur0, HR.out, HN.out, fun j hj => by omega⟩
  case round =>
    obtain ⟨k, hk, rfl, rfl, HW⟩ := hrel
    clear HR HN
    by_cases hlt : k < len
    · obtain ⟨q, hq⟩ : ∃ q, k0 + 2 * k = q := ⟨_, rfl⟩
      rw [hq]
      have hq1 : 1 ≤ q := by omega
      have hq2 : q < 1099511627776 := by omega
      have HQ := Lib.hid hq
      clear hq
      go_wp2_with fail
      refine (marktext_any q _ hq1 (by omega)).mono ?_
      rintro e w2 ⟨rfl, hB⟩
      obtain ⟨hg, cur, hr, hs, hm⟩ := HW.out
      have hr2 := hr.keep hB
      have hA0 := hr2.cell (j := k * 2) (by omega)
      have hA1 := hr2.cell (j := k * 2 + 1) (by omega)
      have hf0 := hr2.free (k * 2)
      have hf1 := hr2.free (k * 2 + 1)
      have HG := Lib.hid (growB hg hB)
      have HR2 := Lib.hid hr2
      have HS := Lib.hid hs
      have HM := Lib.hid hm
      generalize cur[k * 2] = x0 at hA0
      generalize cur[k * 2 + 1] = x1 at hA1
      clear hB hg hr hr2 hs hm HW
      go_wp2
      go_roundw
      case rel => exact ⟨k + 1, by omega, by go_num, by have := HQ.out; go_num, growS (growS HG.out _ _) _ _, _, (HR2.out.set _ _).set _ _, by simpa using HS.out, by rw [← HQ.out]; exact HM.out.step (by have := HS.out; omega) _ (by omega)⟩
      case measure => simp [intOf]; omega
    · obtain rfl : k = len := by omega
      go_wp2
      go_ret
      obtain ⟨hg, cur, hr, hs, hm⟩ := HW.out
      exact ⟨rfl, hg, cur, hr, hs, hm⟩

theorem markr_any (B len cap k0 n : Nat) (E : TypeId) (cur0 : Array Value) (w : World) (h : Row w B E cur0) (hn : cur0.size = n) (hl : len * 2 ≤ n) (h1 : 1 ≤ k0) (h2 : k0 + 2 * len ≤ 1099511627776) :
    Calls Tryz.prog 31 #[.slice (some ⟨B, 0, none⟩) len cap, .int .i64 k0] w (MadeMarksR B E k0 len w) :=
  (markrN_any B len cap k0 n E cur0 w h hn hl h1 h2).mono fun _ _ ⟨he, hg, cur, hr, _, hm⟩ => ⟨he, hg, cur, hr, hm⟩

def HeldNumR (q : Nat) (w : World) (e : Ending) (w' : World) : Prop := e = .returned (.int .i64 (q : Int)) ∧ Below w.heap.size w w'

set_option maxHeartbeats 1000000 in
theorem heldr_any (B len cap k0 : Nat) (E : TypeId) (cur : Array Value) (w : World) (h : Row w B E cur) (hm : MarkedR cur k0 len) (h1 : 1 ≤ k0) (h2 : k0 + 2 * len ≤ 1099511627776) :
    Calls Tryz.prog 32 #[.slice (some ⟨B, 0, none⟩) len cap, .int .i64 k0] w (HeldNumR (k0 + 2 * len) w) := by
  have HC := Lib.hid (show ∀ j, j < len → w.cell? ⟨B, j * 2, none⟩ = some (.string (mtext (k0 + 2 * j))) ∧ w.cell? ⟨B, j * 2 + 1, none⟩ = some (.int .i64 ((k0 + 2 * j + 1 : Nat) : Int)) by
    intro j hj
    have := hm j hj
    unfold Row at h
    simp [World.cell?, h, this])
  have HLT := Lib.hid h.lt
  clear h hm
  go_enter Tryz.func32, Tryz.ntmps32
  go_wp2
  go_loopw [1, 5] (fun t i wr => ∃ k : Nat, k ≤ len ∧ i = .int .i64 k ∧ t = .int .i64 ((k0 + 2 * k : Nat) : Int) ∧ Hid (Below w.heap.size w wr)) (fun _ i _ => len - (intOf i).toNat)
  case atStart => exact ⟨0, Nat.zero_le _, rfl, rfl, Below.refl _ _⟩
  case round =>
    obtain ⟨k, hk, rfl, rfl, HW⟩ := hrel
    by_cases hlt : k < len
    · have c0 := (HW.out.cell (p := ⟨B, k * 2, none⟩) HLT.out).trans (HC.out k hlt).1
      have c1 := (HW.out.cell (p := ⟨B, k * 2 + 1, none⟩) HLT.out).trans (HC.out k hlt).2
      obtain ⟨q, hq⟩ : ∃ q, k0 + 2 * k = q := ⟨_, rfl⟩
      rw [hq] at c0 c1 ⊢
      have hq1 : 1 ≤ q := by omega
      have hq2 : q < 1099511627776 := by omega
      have HQ := Lib.hid hq
      have HB := Lib.hid HW.out.drew
      have hi1 : (k : Int) < (len : Int) := by omega
      have hi0 : (0 : Int) ≤ (k : Int) := by omega
      have c1' : wr.cell? ⟨B, k * 2 + 1, none⟩ = some (.int .i64 ((q : Int) + 1)) := by rw [c1]; simp
      clear hq c1
      go_wp2_with fail
      go_region_held3 (fun w' => Hid (Below w.heap.size w w') ∧ w'.cell? ⟨B, k * 2, none⟩ = some (.string (mtext q)) ∧ w'.cell? ⟨B, k * 2 + 1, none⟩ = some (.int .i64 ((q : Int) + 1)))
        (first | exact ⟨HB, c0, c1'⟩ | exact ⟨HB, e0, e1⟩)
        (first | (go_at_call 54; refine (marktext_any q _ hq1 (by omega)).mono ?_; rintro e w2 ⟨rfl, hB⟩; have e0 := (hB.cell (p := ⟨B, k * 2, none⟩) (World.block_lt_of_cell? _ _ c0)).trans c0; have e1 := (hB.cell (p := ⟨B, k * 2 + 1, none⟩) (World.block_lt_of_cell? _ _ c1')).trans c1'; have HB := Lib.hid (below_via HB.out hB); clear hB))
      go_wp2
      go_roundw
      case rel => exact ⟨k + 1, by omega, by go_num, by have := HQ.out; go_num, HB⟩
      case measure => simp [intOf]; omega
    · obtain rfl : k = len := by omega
      go_wp2
      go_ret
      exact ⟨rfl, HW.out⟩

theorem markr_none (q : Option Addr) (cap k0 : Nat) (w : World) : Calls Tryz.prog 31 #[.slice q 0 cap, .int .i64 k0] w fun e w' => e = .returned (.int .i64 k0) ∧ w = w' := by
  go_enter Tryz.func31, Tryz.ntmps31
  go_wp2
  go_loop [1, 5] (fun t i => t = .int .i64 k0 ∧ i = .int .i64 0) (fun _ _ => 0)
  case atStart => exact ⟨rfl, rfl⟩
  case round =>
    obtain ⟨rfl, rfl⟩ := hrel
    go_wp2
    go_ret
    exact ⟨rfl, rfl⟩

theorem heldr_none (q : Option Addr) (cap k0 : Nat) (w : World) : Calls Tryz.prog 32 #[.slice q 0 cap, .int .i64 k0] w fun e w' => e = .returned (.int .i64 k0) ∧ w = w' := by
  go_enter Tryz.func32, Tryz.ntmps32
  go_wp2
  go_loop [1, 5] (fun t i => t = .int .i64 k0 ∧ i = .int .i64 0) (fun _ _ => 0)
  case atStart => exact ⟨rfl, rfl⟩
  case round =>
    obtain ⟨rfl, rfl⟩ := hrel
    go_wp2
    go_ret
    exact ⟨rfl, rfl⟩
end Go.Proofs.YtdphganbnlmgcaaGreatDoor
namespace Go.Proofs.YtdphganbnlmgcaaGreatDoor
open Go.ChangeShapes Go.WideShapes Go.ChangeAt Go.RowKit Go.Deep
set_option linter.unusedVariables false
set_option maxRecDepth 100000

theorem add_plain (b off i : Nat) : (⟨b, off, none⟩ : Addr).add i = ⟨b, off + i, none⟩ := by
  unfold Addr.add; split <;> simp_all

end Go.Proofs.YtdphganbnlmgcaaGreatDoor
namespace Go.Proofs.YtdphganbnlmgcaaGreatDoor
open Go.ChangeShapes Go.WideShapes Go.ChangeAt Go.RowKit
set_option linter.unusedVariables false
set_option maxRecDepth 100000

/-- The bytes of the first k texts. -/
def sumTo (l : Strs) : Nat → Nat
  | 0 => 0
  | k + 1 => sumTo l k + (strAt l k).size

/-- The end of the laws' measure of texts: below 0 (too much), or what is left. -/
def SizedStrs (len : Nat) (l : Strs) (left : Int) (w : World) (e : Ending) (w' : World) : Prop :=
  ∃ x : Int, -1 ≤ x ∧ x ≤ 1048576 ∧ e = .returned (.int .i64 x) ∧ w = w' ∧ (0 ≤ x → x = left - len - sumTo l len)

set_option maxHeartbeats 1000000 in
theorem szstrs_any (a : Option Addr) (len cap : Nat) (l : Strs) (left : Int) (w : World) (h : StrsAt w a len l) (h0 : 0 ≤ left) (h1 : left ≤ 1048576) :
    Calls Tryz.prog 14 #[.slice a len cap, .int .i64 left] w (SizedStrs len l left w) := by
  have hm := h.max
  unfold maxLen at hm
  have HR := Lib.hid h
  clear h
  by_cases hl : left < len
  · have g : left - (len : Int) < 0 := by omega
    go_enter Tryz.func14, Tryz.ntmps14
    go_wp2
    go_ret
    exact ⟨-1, by omega, by omega, rfl, rfl, fun h => by omega⟩
  · have g : ¬ left - (len : Int) < 0 := by omega
    go_enter Tryz.func14, Tryz.ntmps14
    go_wp2
    go_loop [1, 5] (fun t i => ∃ k : Nat, k ≤ len ∧ i = .int .i64 k ∧ (∃ L : Int, 0 ≤ L ∧ L ≤ 1048576 ∧ t = .int .i64 L ∧ Hid (L = left - len - sumTo l k))) (fun _ i => len - (intOf i).toNat)
    case atStart => exact ⟨0, Nat.zero_le _, rfl, _, by omega, by omega, rfl, Lib.hid (by simp [sumTo])⟩
    case round =>
      obtain ⟨k, hk, rfl, L, hL0, hL1, rfl, HL⟩ := hrel
      by_cases hlt : k < len
      · rcases HR.out.src with hz | ⟨b, off, rfl, hb, hc⟩
        · omega
        · have c0 := hc k hlt
          have HS := Lib.hid (HR.out.sizes k hlt)
          obtain ⟨s, hs⟩ : ∃ s, strAt l k = s := ⟨_, rfl⟩
          rw [hs] at c0 HS
          have HSK := Lib.hid (show sumTo l (k + 1) = sumTo l k + s.size by rw [← hs]; rfl)
          have hsm : s.size ≤ 9223372036854775807 := HS.out
          clear hc hb hs
          by_cases hneg : L < s.size
          · have g2 : L - (s.size : Int) < 0 := by omega
            go_wp2
            go_ret
            exact ⟨-1, by omega, by omega, rfl, rfl, fun h => by omega⟩
          · have g2 : ¬ L - (s.size : Int) < 0 := by omega
            go_wp2
            go_round
            case rel => exact ⟨k + 1, by omega, by go_num, _, by omega, by omega, rfl, Lib.hid (by have h1 := HSK.out; have h2 := HL.out; omega)⟩
            case measure => simp [intOf]; omega
      · obtain rfl : k = len := by omega
        go_wp2
        go_ret
        exact ⟨L, by omega, by omega, rfl, rfl, fun _ => HL.out⟩

/-- The first k texts of l lie at the head of the row. -/
def LaidS (cur : Array Value) (l : Strs) (k : Nat) : Prop := ∀ j, j < k → cur[j]? = some (.string (strAt l j))
theorem LaidS.step {cur : Array Value} {l : Strs} {k len : Nat} (h : LaidS cur l k) (hs : cur.size = len) (hk : k < len) :
    LaidS (cur.setIfInBounds k (.string (strAt l k))) l (k + 1) := by
  intro j hj
  rcases Nat.lt_or_ge j k with hlt | hge
  · rw [Array.getElem?_setIfInBounds_ne (by omega)]; exact h j hlt
  · obtain rfl : j = k := by omega
    have h1 : j < cur.size := by omega
    simp [h1]
theorem StrsAt.ofRow {w : World} {B len : Nat} {E : TypeId} {cur : Array Value} {l : Strs} (h : Row w B E cur) (hl : l.length = len) (hm : len ≤ maxLen) (hk : ∀ i, i < len → (strAt l i).size ≤ maxLen) (hlaid : LaidS cur l len) : StrsAt w (some ⟨B, 0, none⟩) len l := by
  refine ⟨hl, hm, hk, .inr ⟨B, 0, rfl, h.lt, fun i hi => ?_⟩⟩
  have e1 := hlaid i hi
  unfold Row at h
  simp [World.cell?, h, e1]

/-- The end of the laws' copy of texts: a new slice of the same texts. -/
def MadeStrs (len : Nat) (l : Strs) (w : World) (e : Ending) (w' : World) : Prop :=
  e = .returned (.slice (some ⟨w.heap.size, 0, none⟩) len len) ∧ StrsAt w' (some ⟨w.heap.size, 0, none⟩) len l ∧ Below w.heap.size w w' ∧ ∃ cur, Row w' w.heap.size 9 cur ∧ cur.size = len

set_option maxHeartbeats 1000000 in
theorem tostrs_any (a : Option Addr) (len cap : Nat) (l : Strs) (w : World) (h : StrsAt w a len l) (hfew : len ≤ 1048576) :
    Calls Tryz.prog 23 #[.slice a len cap] w (MadeStrs len l w) := by
  obtain ⟨i0, hi, hz0, hz1, hz2⟩ := info_parts infoStr
  have HR := Lib.hid h
  clear h
  go_enter Tryz.func23, Tryz.ntmps23
  go_wp2_with (at_make; refine wpList_make_full _ rfl _ _ 23 rfl w.heap.size 9 i0 _ 1 Tryz.underlying23 hi hz0 hz1 .i64 .i64 _ _ len rfl rfl rfl rfl (by rw [hz2]; omega) (by unfold maxLen; omega) (Nat.le_refl _) ?_; intro w1 hown hgrow)
  obtain ⟨cur0, hrow0, hsz0⟩ : ∃ cur, Row w1 w.heap.size 9 cur ∧ cur.size = len := by
    rcases hown.2 with ⟨h, _⟩ | ⟨g, cp, cur, hv, _, hh, _, _, hs, _⟩
    · simp at h
    · simp only [Value.slice.injEq, Option.some.injEq, Addr.mk.injEq, true_and, and_true] at hv
      obtain ⟨rfl, rfl⟩ := hv
      exact ⟨cur, hh, by omega⟩
  have HB0 := Lib.hid ((Below.refl w.heap.size w).grown hgrow (Nat.le_refl _) (by simp))
  have HR0 := Lib.hid hrow0
  have HS0 := Lib.hid hsz0
  clear hown hgrow hrow0 hsz0
  go_loopw [4] (fun i wr => ∃ k : Nat, k ≤ len ∧ i = .int .i64 k ∧ Hid (Below w.heap.size w wr ∧ ∃ cur, Row wr w.heap.size 9 cur ∧ cur.size = len ∧ LaidS cur l k)) (fun i _ => len - (intOf i).toNat)
  case atStart => exact ⟨0, Nat.zero_le _, rfl, HB0.out, cur0, HR0.out, HS0.out, fun j hj => by omega⟩
  case round =>
    obtain ⟨k, hk, rfl, HW⟩ := hrel
    clear HB0 HR0 HS0
    by_cases hlt : k < len
    · rcases HR.out.src with hz | ⟨b, off, rfl, hb, hc⟩
      · omega
      · have c0 := (HW.out.1.cell (p := ⟨b, off + k, none⟩) hb).trans (hc k hlt)
        have hbne : b ≠ w.heap.size := Nat.ne_of_lt hb
        clear hc hb
        obtain ⟨hb0, cur, hr, hs, hla⟩ := HW.out
        have hA0 := hr.cell (j := k) (by omega)
        have hf0 := hr.free k
        have HB := Lib.hid hb0
        have HR2 := Lib.hid hr
        have HS := Lib.hid hs
        have HL := Lib.hid hla
        generalize cur[k] = x0 at hA0
        have hi0 : (0 : Int) ≤ (k : Int) := by omega
        have hi1 : (k : Int) < (len : Int) := by omega
        clear hr hs hla hb0 HW
        go_wp2_with fail
        go_roundw
        case rel => exact ⟨k + 1, by omega, by go_num, HB.out.setCell (Nat.le_refl _) _, _, HR2.out.set _ _, by simpa using HS.out, HL.out.step HS.out hlt⟩
        case measure => simp [intOf]; omega
    · go_wp2
      go_ret
      obtain ⟨hb0, cur, hr, hs, hla⟩ := HW.out
      obtain rfl : k = len := by omega
      exact ⟨rfl, StrsAt.ofRow hr HR.out.length HR.out.max HR.out.sizes hla, hb0, cur, hr, hs⟩
theorem strs_of_is {w : World} {a : Option Addr} {len cap : Nat} {ss : List ByteArray}
    (h : (a = none ∧ len = 0 ∧ cap = 0 ∧ ss = []) ∨ ∃ x, a = some x ∧ len ≤ cap ∧ cap ≤ maxLen ∧ ss.length = cap ∧ (∀ i, i < ss.length → w.cell? (x.add i) = some (.string (ss.getD i ByteArray.empty))) ∧ ∀ s ∈ ss, s.size ≤ maxLen) : StrsAt w a len (ss.take len) := by
  rcases h with ⟨rfl, rfl, _, rfl⟩ | ⟨x, rfl, hl, hm, hz, hc, hw⟩
  · exact ⟨rfl, Nat.zero_le _, fun i hi => by omega, .inl rfl⟩
  · have hget : ∀ i, i < len → strAt (ss.take len) i = ss.getD i ByteArray.empty := by
      intro i hi
      unfold strAt
      rw [List.getD_eq_getElem?_getD, List.getD_eq_getElem?_getD, List.getElem?_take_of_lt hi]
    refine ⟨by simp; omega, by omega, fun i hi => ?_, ?_⟩
    · rw [hget i hi, List.getD_eq_getElem?_getD, List.getElem?_eq_getElem (by omega)]
      exact hw _ (List.getElem_mem _)
    · by_cases h0 : len = 0
      · exact .inl h0
      · obtain ⟨b, off, spot⟩ := x
        have hc0 := hc 0 (by omega)
        have hspot : spot = none := by simpa [Addr.add] using World.cell?_spot hc0
        subst hspot
        refine .inr ⟨b, off, rfl, ?_, fun i hi => ?_⟩
        · have := World.block_lt_of_cell? _ _ hc0
          simpa [Addr.add] using this
        · have h1 := hc i (by omega)
          rw [hget i hi]
          by_cases hi0 : i = 0
          · subst hi0
            simpa [Addr.add] using h1
          · simpa [Addr.add, hi0] using h1
end Go.Proofs.YtdphganbnlmgcaaGreatDoor
namespace Go.Proofs.YtdphganbnlmgcaaGreatDoor
open Go.ChangeShapes Go.WideShapes Go.ChangeAt Go.RowKit
set_option linter.unusedVariables false
set_option maxRecDepth 100000

theorem marktextI_any (x : Int) (k0 : Nat) (w : World) (hx : x = (k0 : Int)) (h1 : 1 ≤ k0) (h2 : k0 ≤ 1099511627776) :
    Calls Tryz.prog 54 #[.int .i64 x] w (MadeStr (mtext k0) w) := by
  subst hx
  exact marktext_any k0 w h1 h2
theorem grown_belowI {w a b : World} {row : Option Nat} (hg : w.grownBy a row) (hB : Below a.heap.size a b) : w.grownBy b row :=
  ⟨hB.os.trans hg.os, hB.tape.trans hg.tape, hB.output.trans hg.output, Nat.le_trans hg.size hB.size, fun i hi hne => (hB.block i (Nat.lt_of_lt_of_le hi hg.size)).trans (hg.block i hi hne)⟩
theorem grown_setI {w a : World} {B : Nat} (hg : w.grownBy a (some B)) (j : Nat) (x : Value) : w.grownBy (a.setCell ⟨B, j, none⟩ x) (some B) :=
  ⟨hg.os, hg.tape, hg.output, by have := hg.size; simpa [World.setCell] using this, fun i hi hne => (Below.heap_setCell _ _ _ _ (fun e => hne (by rw [e]))).trans (hg.block i hi hne)⟩
end Go.Proofs.YtdphganbnlmgcaaGreatDoor
namespace Go.Proofs.YtdphganbnlmgcaaGreatDoor
open Go.ChangeShapes Go.WideShapes Go.ChangeAt Go.RowKit
set_option linter.unusedVariables false
set_option maxRecDepth 100000

/-- Row B holds the marks from number k0 on in its first n values. -/
def MarkedInstr (cur : Array Value) (k0 n : Nat) : Prop := ∀ j, j < n → cur[j * 3]? = some (.int .i64 ((k0 + 3 * j + 0 : Nat) : Int)) ∧ cur[j * 3 + 1]? = some (.int .i64 ((k0 + 3 * j + 1 : Nat) : Int)) ∧ cur[j * 3 + 2]? = some (.string (mtext (k0 + 3 * j + 2)))
theorem MarkedInstr.step {cur : Array Value} {k0 k : Nat} (h : MarkedInstr cur k0 k) (hk : k * 3 + 2 < cur.size) : MarkedInstr (((cur.setIfInBounds (k * 3) (.int .i64 ((k0 + 3 * k + 0 : Nat) : Int))).setIfInBounds (k * 3 + 1) (.int .i64 ((k0 + 3 * k + 1 : Nat) : Int))).setIfInBounds (k * 3 + 2) (.string (mtext (k0 + 3 * k + 2)))) k0 (k + 1) := by
  intro j hj
  rcases Nat.lt_or_ge j k with hlt | hge
  · obtain ⟨e0, e1, e2⟩ := h j hlt
    refine ⟨?_, ?_, ?_⟩
    · rw [Array.getElem?_setIfInBounds_ne (by omega), Array.getElem?_setIfInBounds_ne (by omega), Array.getElem?_setIfInBounds_ne (by omega)]; exact e0
    · rw [Array.getElem?_setIfInBounds_ne (by omega), Array.getElem?_setIfInBounds_ne (by omega), Array.getElem?_setIfInBounds_ne (by omega)]; exact e1
    · rw [Array.getElem?_setIfInBounds_ne (by omega), Array.getElem?_setIfInBounds_ne (by omega), Array.getElem?_setIfInBounds_ne (by omega)]; exact e2
  · obtain rfl : j = k := by omega
    refine ⟨?_, ?_, ?_⟩
    · rw [Array.getElem?_setIfInBounds_ne (by omega), Array.getElem?_setIfInBounds_ne (by omega)]; rw [Array.getElem?_setIfInBounds_self_of_lt (by first | omega | (simp only [Array.size_setIfInBounds]; omega))]
    · rw [Array.getElem?_setIfInBounds_ne (by omega)]; rw [Array.getElem?_setIfInBounds_self_of_lt (by first | omega | (simp only [Array.size_setIfInBounds]; omega))]
    · rw [Array.getElem?_setIfInBounds_self_of_lt (by first | omega | (simp only [Array.size_setIfInBounds]; omega))]
def MadeMarksInstr (B : Nat) (E : TypeId) (k0 len n : Nat) (w : World) (e : Ending) (w' : World) : Prop :=
  e = .returned (.int .i64 ((k0 + 3 * len : Nat) : Int)) ∧ w.grownBy w' (some B) ∧ ∃ cur, Row w' B E cur ∧ cur.size = n ∧ MarkedInstr cur k0 len

set_option maxHeartbeats 2000000 in
theorem markinss_any (B len cap k0 n : Nat) (E : TypeId) (cur0 : Array Value) (w : World) (h : Row w B E cur0) (hn : cur0.size = n) (hl : len * 3 ≤ n) (h1 : 1 ≤ k0) (h2 : k0 + 3 * len ≤ 1099511627776) :
    Calls Tryz.prog 29 #[.slice (some ⟨B, 0, none⟩) len cap, .int .i64 k0] w (MadeMarksInstr B E k0 len n w) := by
  have HR := Lib.hid h
  have HN := Lib.hid hn
  clear h hn
  go_enter Tryz.func29, Tryz.ntmps29
  go_wp2
  go_loopw [1, 5] (fun t i wr => ∃ k : Nat, k ≤ len ∧ i = .int .i64 k ∧ t = .int .i64 ((k0 + 3 * k : Nat) : Int) ∧ Hid (w.grownBy wr (some B) ∧ ∃ cur, Row wr B E cur ∧ cur.size = n ∧ MarkedInstr cur k0 k)) (fun _ i _ => len - (intOf i).toNat)
  case atStart => exact ⟨0, Nat.zero_le _, rfl, rfl, World.grownBy.refl _ _, cur0, HR.out, HN.out, fun j hj => by omega⟩
  case round =>
    obtain ⟨k, hk, rfl, rfl, HW⟩ := hrel
    clear HR HN
    by_cases hlt : k < len
    · obtain ⟨q, hq⟩ : ∃ q, k0 + 3 * k = q := ⟨_, rfl⟩
      rw [hq]
      have hq1 : 1 ≤ q := by omega
      have hq2 : q + 3 ≤ 1099511627776 := by omega
      have HQ := Lib.hid hq
      obtain ⟨hg, cur, hr, hs, hm⟩ := HW.out
      have HG := Lib.hid hg
      have HS := Lib.hid hs
      have HM := Lib.hid hm
      have HRW := Lib.hid hr
      have HKN := Lib.hid (show k * 3 + 2 < cur.size by rw [hs]; omega)
      clear hq hg hr hs hm HW
      obtain ⟨v0, hA0⟩ : ∃ v, wr.cell? ⟨B, k * 3, none⟩ = some v := ⟨_, HRW.out.cell (by have := HKN.out; omega)⟩
      have hf0 := HRW.out.free (k * 3)
      obtain ⟨v1, hA1⟩ : ∃ v, wr.cell? ⟨B, k * 3 + 1, none⟩ = some v := ⟨_, HRW.out.cell (by have := HKN.out; omega)⟩
      have hf1 := HRW.out.free (k * 3 + 1)
      go_wp2_with fail
      refine (marktextI_any _ (q + 2) _ (by omega) (by omega) (by omega)).mono ?_
      rintro e w4 ⟨rfl, hB⟩
      have HRW := Lib.hid (((HRW.out.set (k * 3) (.int .i64 ((q + 0 : Nat) : Int))).set (k * 3 + 1) (.int .i64 ((q + 1 : Nat) : Int))).keep hB)
      have HG := Lib.hid (grown_belowI (grown_setI (grown_setI HG.out (k * 3) (.int .i64 ((q + 0 : Nat) : Int))) (k * 3 + 1) (.int .i64 ((q + 1 : Nat) : Int))) hB)
      clear hB
      obtain ⟨v2, hA2⟩ : ∃ v, w4.cell? ⟨B, k * 3 + 2, none⟩ = some v := ⟨_, HRW.out.cell (by simp only [Array.size_setIfInBounds]; have := HKN.out; omega)⟩
      have hf2 := HRW.out.free (k * 3 + 2)
      go_wp2
      go_roundw
      case rel => exact ⟨k + 1, by omega, by go_num, by have := HQ.out; go_num, (grown_setI HG.out _ _), _, (HRW.out.set _ _), by simpa using HS.out, by have e := HM.out.step HKN.out; rw [HQ.out] at e; exact e⟩
      case measure => simp [intOf]; omega
    · obtain rfl : k = len := by omega
      go_wp2
      go_ret
      obtain ⟨hg, cur, hr, hs, hm⟩ := HW.out
      exact ⟨rfl, hg, cur, hr, hs, hm⟩

theorem markinss_none (q : Option Addr) (cap k0 : Nat) (w : World) : Calls Tryz.prog 29 #[.slice q 0 cap, .int .i64 k0] w fun e w' => e = .returned (.int .i64 k0) ∧ w = w' := by
  go_enter Tryz.func29, Tryz.ntmps29
  go_wp2
  go_loop [1, 5] (fun t i => t = .int .i64 k0 ∧ i = .int .i64 0) (fun _ _ => 0)
  case atStart => exact ⟨rfl, rfl⟩
  case round =>
    obtain ⟨rfl, rfl⟩ := hrel
    go_wp2
    go_ret
    exact ⟨rfl, rfl⟩
end Go.Proofs.YtdphganbnlmgcaaGreatDoor
