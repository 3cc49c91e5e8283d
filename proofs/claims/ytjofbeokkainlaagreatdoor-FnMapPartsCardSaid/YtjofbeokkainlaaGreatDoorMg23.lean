/- Texts put together, as a claim holds at most sixty files. -/
import Derived.Test.YtjofbeokkainlaaGreatDoorMg2
import Derived.Test.YtjofbeokkainlaaGreatDoorMg0
import Derived.Test.YtjofbeokkainlaaGreatDoorMg1
import Derived.Test.YtjofbeokkainlaaGreatDoorMg9
import Derived.Test.YtjofbeokkainlaaGreatDoorMg8
import Derived.Test.YtjofbeokkainlaaGreatDoorMg15
namespace Go.Proofs.YtjofbeokkainlaaGreatDoor
open Go.ChangeShapes Go.WideShapes Go.ChangeAt Go.RowKit
set_option linter.unusedVariables false
set_option maxRecDepth 100000

abbrev EV := ByteArray × Int
abbrev EVs := List EV
def evAt (a : EVs) (i : Nat) : EV := a.getD i (ByteArray.empty, 0)
def wordAt (words : Strs) (n : Int) : ByteArray := if n < words.length then strAt words n.toNat else ByteArray.empty
def truthI (b : Bool) : Int := if b then 1 else 0
def numI (s : ByteArray) : Int := (numD s.data.toList).getD 0

/-- What an instruction puts, of what it takes. -/
def putV : Nat → Int → ByteArray → EVs → Strs → EV
  | 1, n, _, _, ws => (wordAt ws n, 0)
  | 2, _, s, _, _ => (s, 0)
  | 3, n, _, _, _ => (ByteArray.empty, n)
  | 4, _, _, a, _ => ((evAt a 0).1 ++ (evAt a 1).1, 0)
  | 5, _, _, a, _ => (ByteArray.empty, ((evAt a 0).1.size : Int))
  | 6, _, _, a, _ => (ByteArray.empty, numI (evAt a 0).1)
  | 7, _, _, a, _ => (decB (evAt a 0).2, 0)
  | 8, _, _, a, _ => (ByteArray.empty, wrap64 ((evAt a 0).2 + (evAt a 1).2))
  | 9, _, _, a, _ => (ByteArray.empty, wrap64 ((evAt a 0).2 - (evAt a 1).2))
  | 10, _, _, a, _ => (ByteArray.empty, wrap64 ((evAt a 0).2 * (evAt a 1).2))
  | 12, _, _, a, _ => (ByteArray.empty, truthI (decide ((evAt a 0).1 = (evAt a 1).1)))
  | _, _, _, a, _ => (ByteArray.empty, truthI (decide ((evAt a 0).2 < (evAt a 1).2)))

/-- Stack and records behind an instruction; none: a text is too long. -/
def evStep (op : Nat) (n : Int) (s : ByteArray) (ws : Strs) (x : EVs × Recs) : Option (EVs × Recs) :=
  if (givesB op).size = 0 then
    some (x.1.take (x.1.length - (takesB op).size),
      if op = 13 ∨ (evAt (x.1.drop (x.1.length - (takesB op).size)) 2).2 ≠ 0 then x.2 ++ [((evAt (x.1.drop (x.1.length - (takesB op).size)) 0).1, (evAt (x.1.drop (x.1.length - (takesB op).size)) 1).2)] else x.2)
  else if (putV op n s (x.1.drop (x.1.length - (takesB op).size)) ws).1.size ≤ 40 then
    some (x.1.take (x.1.length - (takesB op).size) ++ [putV op n s (x.1.drop (x.1.length - (takesB op).size)) ws], x.2)
  else none
def evK (l : Instrs) (ws : Strs) : Nat → Option (EVs × Recs)
  | 0 => some ([], [])
  | k + 1 => (evK l ws k).bind (evStep (ins0 l k).toNat (ins1 l k) (ins2 l k) ws)
/-- Records and code. -/
def evalR (l : Instrs) (ws : Strs) : Recs × Int :=
  if progB l = true ∧ ws.length ≤ 20 then
    match evK l ws l.length with
    | some x => (x.2, 0)
    | none => ([], 2)
  else ([], 1)
theorem evK_none {l : Instrs} {ws : Strs} {k n : Nat} (h : evK l ws k = none) (hk : k ≤ n) : evK l ws n = none := by
  induction n with
  | zero => obtain rfl : k = 0 := by omega
            exact h
  | succ n ih =>
    rcases Nat.lt_or_ge n k with h1 | h1
    · obtain rfl : k = n + 1 := by omega
      exact h
    · rw [evK, ih h1]; rfl
theorem evalR_no {l : Instrs} {ws : Strs} (h : ¬ (progB l = true ∧ ws.length ≤ 20)) : evalR l ws = ([], 1) := by unfold evalR; rw [if_neg h]
theorem evalR_long {l : Instrs} {ws : Strs} {k : Nat} (h : progB l = true) (h2 : ws.length ≤ 20) (hk : k ≤ l.length) (hn : evK l ws k = none) : evalR l ws = ([], 2) := by
  unfold evalR; rw [if_pos ⟨h, h2⟩, evK_none hn hk]
theorem evalR_good {l : Instrs} {ws : Strs} {x : EVs × Recs} (h : progB l = true) (h2 : ws.length ≤ 20) (hn : evK l ws l.length = some x) : evalR l ws = (x.2, 0) := by
  unfold evalR; rw [if_pos ⟨h, h2⟩, hn]
theorem evK_step {l : Instrs} {ws : Strs} {k : Nat} {x : EVs × Recs} (h : evK l ws k = some x) : evK l ws (k + 1) = evStep (ins0 l k).toNat (ins1 l k) (ins2 l k) ws x := by
  rw [evK, h]; rfl

/-! ### a valid program's stack has the letters that it was followed by -/
theorem prog_stk {l : Instrs} (h : progB l = true) : ∀ k, k ≤ l.length → ∃ st, stk l k = some st := by
  intro k hk
  cases hs : stk l k with
  | some st => exact ⟨st, rfl⟩
  | none => rw [prog_bad hk hs] at h; cases h
theorem prog_instr {l : Instrs} (h : progB l = true) {k : Nat} (hk : k < l.length) : instrB (ins0 l k) (ins1 l k) (ins2 l k) = true := by
  cases hb : instrB (ins0 l k) (ins1 l k) (ins2 l k) with
  | true => rfl
  | false => rw [prog_bad (k := k + 1) (by omega) (stk_wrong hb)] at h; cases h
theorem prog_len {l : Instrs} (h : progB l = true) : l.length ≤ 30 := by
  unfold progB at h
  rw [Bool.and_eq_true, decide_eq_true_eq] at h
  exact h.1
theorem step_fits_of {st tk gv st' : ByteArray} (h : stepB st tk gv = some st') : ∃ st0, st = st0 ++ tk ∧ st' = st0 ++ gv := by
  unfold stepB at h
  split at h
  · rename_i h0
    rw [Option.some.injEq] at h
    refine ⟨st.extract 0 (st.size - tk.size), ?_, h.symm⟩
    have e : st.extract 0 (st.size - tk.size) ++ st.extract (st.size - tk.size) st.size = st := by
      apply ByteArray.ext
      apply Array.toList_inj.1
      simp only [ByteArray.data_append, ByteArray.data_extract, Array.toList_append, Array.toList_extract]
      have hs : st.size = st.data.toList.length := rfl
      rw [hs]
      generalize hL : st.data.toList = L
      have : tk.size ≤ L.length := by rw [← hL]; exact h0.1
      simp only [List.extract_eq_take_drop, Nat.sub_zero, List.drop_zero]
      rw [show L.length - (L.length - tk.size) = tk.size by omega]
      rw [List.take_of_length_le (i := tk.size) (by simp; omega), List.take_append_drop]
    rw [h0.2] at e
    exact e.symm
  · cases h
theorem prog_step {l : Instrs} (h : progB l = true) {k : Nat} (hk : k < l.length) {st : ByteArray} (hs : stk l k = some st) :
    ∃ st0, st = st0 ++ takesB (ins0 l k).toNat ∧ stk l (k + 1) = some (st0 ++ givesB (ins0 l k).toNat) := by
  obtain ⟨st', h'⟩ := prog_stk h (k + 1) (by omega)
  have e := stk_step hs (prog_instr h hk)
  rw [h'] at e
  obtain ⟨st0, h1, h2⟩ := step_fits_of e.symm
  exact ⟨st0, h1, by rw [h', h2]⟩

/-! ### texts and numbers of a stack, each apart -/
def txs : List UInt8 → EVs → Strs
  | c :: st, v :: S => if c = 84 then v.1 :: txs st S else txs st S
  | _, _ => []
def nms : List UInt8 → EVs → List Int
  | c :: st, v :: S => if c = 84 then nms st S else v.2 :: nms st S
  | _, _ => []
theorem txs_app : ∀ (st st' : List UInt8) (S S' : EVs), st.length = S.length → txs (st ++ st') (S ++ S') = txs st S ++ txs st' S'
  | [], st', [], S', _ => rfl
  | [], st', v :: S, S', h => by simp at h
  | c :: st, st', [], S', h => by simp at h
  | c :: st, st', v :: S, S', h => by
    have ih := txs_app st st' S S' (by simpa using h)
    simp only [List.cons_append, txs, ih]
    split <;> rfl
theorem nms_app : ∀ (st st' : List UInt8) (S S' : EVs), st.length = S.length → nms (st ++ st') (S ++ S') = nms st S ++ nms st' S'
  | [], st', [], S', _ => rfl
  | [], st', v :: S, S', h => by simp at h
  | c :: st, st', [], S', h => by simp at h
  | c :: st, st', v :: S, S', h => by
    have ih := nms_app st st' S S' (by simpa using h)
    simp only [List.cons_append, nms, ih]
    split <;> rfl
theorem txs_mem : ∀ (st : List UInt8) (S : EVs) (s : ByteArray), s ∈ txs st S → ∃ v ∈ S, v.1 = s
  | [], S, s, h => by simp [txs] at h
  | c :: st, [], s, h => by simp [txs] at h
  | c :: st, v :: S, s, h => by
    unfold txs at h
    split at h
    · rcases List.mem_cons.1 h with rfl | h
      · exact ⟨v, by simp, rfl⟩
      · obtain ⟨u, hu, e⟩ := txs_mem st S s h
        exact ⟨u, by simp [hu], e⟩
    · obtain ⟨u, hu, e⟩ := txs_mem st S s h
      exact ⟨u, by simp [hu], e⟩
theorem nms_mem : ∀ (st : List UInt8) (S : EVs) (s : Int), s ∈ nms st S → ∃ v ∈ S, v.2 = s
  | [], S, s, h => by simp [nms] at h
  | c :: st, [], s, h => by simp [nms] at h
  | c :: st, v :: S, s, h => by
    unfold nms at h
    split at h
    · obtain ⟨u, hu, e⟩ := nms_mem st S s h
      exact ⟨u, by simp [hu], e⟩
    · rcases List.mem_cons.1 h with rfl | h
      · exact ⟨v, by simp, rfl⟩
      · obtain ⟨u, hu, e⟩ := nms_mem st S s h
        exact ⟨u, by simp [hu], e⟩
theorem txs_len : ∀ (st : List UInt8) (S : EVs), (txs st S).length ≤ S.length
  | [], S => by simp [txs]
  | c :: st, [] => by simp [txs]
  | c :: st, v :: S => by
    have := txs_len st S
    unfold txs; split <;> simp <;> omega
theorem nms_len : ∀ (st : List UInt8) (S : EVs), (nms st S).length ≤ S.length
  | [], S => by simp [nms]
  | c :: st, [] => by simp [nms]
  | c :: st, v :: S => by
    have := nms_len st S
    unfold nms; split <;> simp <;> omega

/-! ### what holds of the stack on the way -/
structure EvOkP (st : ByteArray) (k : Nat) (x : EVs × Recs) : Prop where
  len : x.1.length = st.size
  few : x.1.length ≤ k
  texts : ∀ v ∈ x.1, v.1.size ≤ 40 ∧ In64 v.2
  recs : x.2.length ≤ k
  keys : ∀ r ∈ x.2, r.1.size ≤ 40 ∧ In64 r.2
theorem in64_wrap (x : Int) : In64 (wrap64 x) := by
  unfold In64 wrap64
  omega
theorem truth64 (b : Bool) : In64 (truthI b) := by unfold In64 truthI; split <;> omega
theorem numI64 (s : ByteArray) : In64 (numI s) := by
  unfold numI
  cases h : numD s.data.toList with
  | none => exact ⟨by decide, by decide⟩
  | some v => have := (numD_iff.1 h).2; exact ⟨this.1, by have := this.2; simp only [Option.getD_some]; omega⟩
theorem in64_0 : In64 0 := ⟨by decide, by decide⟩
theorem putV64 (op : Nat) (n : Int) (s : ByteArray) (a : EVs) (ws : Strs) (hn : In64 n) (hs : (evAt a 0).1.size ≤ 40) : In64 (putV op n s a ws).2 := by
  unfold putV
  split
  · exact in64_0
  · exact in64_0
  · exact hn
  · exact in64_0
  · exact ⟨by simp only; omega, by simp only; omega⟩
  · exact numI64 _
  · exact in64_0
  · exact in64_wrap _
  · exact in64_wrap _
  · exact in64_wrap _
  · exact truth64 _
  · exact truth64 _
theorem evAt_mem {a : EVs} {i : Nat} (h : i < a.length) : evAt a i ∈ a := by
  unfold evAt; rw [List.getD_eq_getElem?_getD, List.getElem?_eq_getElem h]; exact List.getElem_mem h
theorem evOk0 : EvOkP ByteArray.empty 0 ([], []) := ⟨rfl, Nat.le_refl _, fun v hv => absurd hv (by simp), Nat.le_refl _, fun r hr => absurd hr (by simp)⟩
/-- One instruction of a valid program: what it takes lies on the stack. -/
theorem evOk_takes {st st0 : ByteArray} {op : Nat} {k : Nat} {x : EVs × Recs} (h : EvOkP st k x) (hst : st = st0 ++ takesB op) :
    ∃ S0 a, x.1 = S0 ++ a ∧ a.length = (takesB op).size ∧ S0.length = st0.size ∧ x.1.take (x.1.length - (takesB op).size) = S0 ∧ x.1.drop (x.1.length - (takesB op).size) = a := by
  have hl := h.len
  rw [hst, ByteArray.size_append] at hl
  have e1 : x.1.length - (takesB op).size = st0.size := by omega
  refine ⟨x.1.take st0.size, x.1.drop st0.size, (List.take_append_drop _ _).symm, by rw [List.length_drop]; omega, by rw [List.length_take]; omega, by rw [e1], by rw [e1]⟩
theorem ev0_le {a : EVs} (h : ∀ v ∈ a, v.1.size ≤ 40 ∧ In64 v.2) : ∀ i, (evAt a i).1.size ≤ 40 ∧ In64 (evAt a i).2 := by
  intro i
  by_cases hi : i < a.length
  · exact h _ (evAt_mem hi)
  · unfold evAt
    rw [List.getD_eq_getElem?_getD, List.getElem?_eq_none (by omega)]
    exact ⟨by decide, in64_0⟩
theorem evOk_step {st st0 : ByteArray} {op : Nat} {n : Int} {s : ByteArray} {ws : Strs} {k : Nat} {x y : EVs × Recs} (h : EvOkP st k x) (hst : st = st0 ++ takesB op) (hn : In64 n)
    (he : evStep op n s ws x = some y) : EvOkP (st0 ++ givesB op) (k + 1) y := by
  obtain ⟨S0, a, hx, ha, hS, e1, e2⟩ := evOk_takes h hst
  have hall : ∀ v ∈ a, v.1.size ≤ 40 ∧ In64 v.2 := fun v hv => h.texts v (by rw [hx]; exact List.mem_append_right _ hv)
  have hall0 : ∀ v ∈ S0, v.1.size ≤ 40 ∧ In64 v.2 := fun v hv => h.texts v (by rw [hx]; exact List.mem_append_left _ hv)
  have hfew := h.few
  rw [hx, List.length_append] at hfew
  unfold evStep at he
  rw [e1, e2] at he
  split at he
  · rename_i hg
    rw [Option.some.injEq] at he
    subst he
    refine ⟨by rw [ByteArray.size_append, hg]; exact hS, by simp only; omega, hall0, ?_, ?_⟩
    · simp only
      split
      · rw [List.length_append]; have := h.recs; simp; omega
      · have := h.recs; omega
    · simp only
      split
      · intro r hr
        rcases List.mem_append.1 hr with hr | hr
        · exact h.keys r hr
        · simp at hr
          subst hr
          exact ⟨(ev0_le hall 0).1, (ev0_le hall 1).2⟩
      · exact h.keys
  · rename_i hg
    split at he
    · rename_i hv
      rw [Option.some.injEq] at he
      subst he
      have hg1 : (givesB op).size = 1 := by have := gives_few op; omega
      refine ⟨by rw [ByteArray.size_append, hg1, List.length_append, hS]; rfl, by simp only [List.length_append, List.length_cons, List.length_nil]; omega, ?_, by have := h.recs; simp only; omega, h.keys⟩
      intro v hv'
      rcases List.mem_append.1 hv' with h1 | h1
      · exact hall0 v h1
      · simp at h1
        subst h1
        exact ⟨hv, putV64 _ _ _ _ _ hn (ev0_le hall 0).1⟩
    · cases he
/-- The whole way. -/
theorem evOk_all {l : Instrs} {ws : Strs} (hp : progB l = true) (hn : ∀ i, i < l.length → In64 (ins1 l i)) : ∀ k, k ≤ l.length → ∀ x, evK l ws k = some x → ∃ st, stk l k = some st ∧ EvOkP st k x := by
  intro k
  induction k with
  | zero =>
    intro _ x hx
    rw [evK, Option.some.injEq] at hx
    subst hx
    exact ⟨_, rfl, evOk0⟩
  | succ k ih =>
    intro hk x hx
    cases hy : evK l ws k with
    | none => rw [evK, hy] at hx; cases hx
    | some y =>
      obtain ⟨st, hs, ho⟩ := ih (by omega) y hy
      obtain ⟨st0, h1, h2⟩ := prog_step hp (by omega) hs
      rw [evK_step hy] at hx
      exact ⟨_, h2, evOk_step ho h1 (hn k (by omega)) hx⟩
theorem evalR_facts {l : Instrs} {ws : Strs} (hn : ∀ i, i < l.length → In64 (ins1 l i)) : (evalR l ws).1.length ≤ 30 ∧ (∀ r ∈ (evalR l ws).1, r.1.size ≤ 40 ∧ In64 r.2) ∧ (0 ≤ (evalR l ws).2 ∧ (evalR l ws).2 ≤ 2) ∧ ((evalR l ws).2 ≠ 0 → (evalR l ws).1 = []) := by
  by_cases h : progB l = true ∧ ws.length ≤ 20
  · cases hx : evK l ws l.length with
    | none => rw [evalR_long h.1 h.2 (Nat.le_refl _) hx]; exact ⟨by simp, fun r hr => absurd hr (by simp), ⟨by simp, by simp⟩, fun _ => rfl⟩
    | some x =>
      obtain ⟨st, _, ho⟩ := evOk_all h.1 hn _ (Nat.le_refl _) x hx
      rw [evalR_good h.1 h.2 hx]
      exact ⟨Nat.le_trans ho.recs (prog_len h.1), ho.keys, ⟨by simp, by simp⟩, fun h => absurd rfl h⟩
  · rw [evalR_no h]; exact ⟨by simp, fun r hr => absurd hr (by simp), ⟨by simp, by simp⟩, fun _ => rfl⟩
end Go.Proofs.YtjofbeokkainlaaGreatDoor
namespace Go.Proofs.YtjofbeokkainlaaGreatDoor
open Go.ChangeShapes Go.WideShapes Go.ChangeAt Go.RowKit
set_option linter.unusedVariables false
set_option maxRecDepth 100000

theorem l3truth_any (b : Bool) (w : World) : Calls Tryz.prog 107 #[.bool b] w fun e w' => e = .returned (.int .i64 (truthI b)) ∧ w' = w := by
  cases b
  · go_enter Tryz.func107, Tryz.ntmps107
    go_wp2
    go_ret
    exact ⟨rfl, rfl⟩
  · go_enter Tryz.func107, Tryz.ntmps107
    go_wp2
    go_ret
    exact ⟨rfl, rfl⟩
def twoI : Nat → Int → Int → Int
  | 8, a, b => wrap64 (a + b)
  | 9, a, b => wrap64 (a - b)
  | 10, a, b => wrap64 (a * b)
  | _, a, b => truthI (decide (a < b))
theorem l3two_any (op : Nat) (a b : Int) (w : World) (h : 8 ≤ op ∧ op ≤ 11) : Calls Tryz.prog 108 #[.int .i64 op, .int .i64 a, .int .i64 b] w fun e w' => e = .returned (.int .i64 (twoI op a b)) ∧ w' = w := by
  obtain rfl | rfl | rfl | rfl : op = 8 ∨ op = 9 ∨ op = 10 ∨ op = 11 := by omega
  · go_enter Tryz.func108, Tryz.ntmps108
    go_wp2
    go_ret
    exact ⟨rfl, rfl⟩
  · go_enter Tryz.func108, Tryz.ntmps108
    go_wp2
    go_ret
    exact ⟨rfl, rfl⟩
  · go_enter Tryz.func108, Tryz.ntmps108
    go_wp2
    go_ret
    exact ⟨rfl, rfl⟩
  · obtain ⟨z, hz⟩ : ∃ z, decide (a < b) = z := ⟨_, rfl⟩
    have HT := Lib.hid (show twoI 11 a b = truthI z by show truthI _ = _; rw [hz])
    go_enter Tryz.func108, Tryz.ntmps108
    go_wp2_with fail
    refine (l3truth_any z _).mono ?_
    rintro e w1 ⟨rfl, rfl⟩
    go_wp2
    go_ret
    rw [HT.out]
    exact ⟨rfl, rfl⟩

/-- What l3Put hands back. -/
def MadeEV (v : EV) (w : World) (e : Ending) (w' : World) : Prop := e = .returned (.agg #[.string v.1, .int .i64 v.2]) ∧ Below w.heap.size w w'
/-- The cells of a slice of values, in a later world. -/
theorem evs_cells {w w1 : World} {q : Option Addr} {m : Nat} {a : Recs} (h : RecsAt w q m a) (hB : Below w.heap.size w w1) (h0 : 0 < m) :
    ∃ b off, q = some ⟨b, off, none⟩ ∧ ∀ i, i < m → w1.cell? ⟨b, off + i * 2, none⟩ = some (.string (keyAt a i)) ∧ w1.cell? ⟨b, off + i * 2 + 1, none⟩ = some (.int .i64 (numAt a i)) := by
  rcases (h.keep hB).src with h1 | ⟨b, off, ha, _, hc⟩
  · omega
  · exact ⟨b, off, ha, hc⟩
theorem evs_key (a : Recs) (i : Nat) : keyAt a i = (evAt a i).1 := rfl
theorem evs_num (a : Recs) (i : Nat) : numAt a i = (evAt a i).2 := rfl
theorem words_cell {w w1 : World} {q : Option Addr} {m : Nat} {a : Strs} (h : StrsAt w q m a) (hB : Below w.heap.size w w1) {i : Nat} (h0 : i < m) :
    ∃ b off, q = some ⟨b, off, none⟩ ∧ w1.cell? ⟨b, off + i, none⟩ = some (.string (strAt a i)) := by
  rcases (h.keep hB).src with h1 | ⟨b, off, ha, _, hc⟩
  · omega
  · exact ⟨b, off, ha, hc i h0⟩
theorem ev_is {v : EV} {s : ByteArray} {n : Int} {w w' : World} (h : v = (s, n)) (hB : Below w.heap.size w w') : MadeEV v w (.returned (.agg #[.string s, .int .i64 n])) w' := ⟨by rw [h], hB⟩

set_option maxHeartbeats 4000000 in
theorem l3put_1 (n : Int) (s : ByteArray) (q : Option Addr) (m c : Nat) (a : Recs) (wq : Option Addr) (wn wc : Nat) (ws : Strs) (w : World) (h : RecsAt w q m a) (hm : m = (takesB 1).size) (hw : StrsAt w wq wn ws) (hs : s.size ≤ maxLen) (hn : 0 ≤ n) :
    Calls Tryz.prog 84 #[.agg #[.int .i64 1, .int .i64 n, .string s], .slice q m c, .slice wq wn wc] w (MadeEV (putV 1 n s a ws) w) := by
  have HB := Lib.hid (show Below w.heap.size w ((w.alloc (.cells #[.int .i64 1, .int .i64 n, .string s] 89)).alloc (.cells #[.string ⟨#[]⟩, .int .i64 0] 129)) from below_alloc (below_alloc (Below.refl _ _) _) _)
  have hl := hw.length
  by_cases hlt : n < (wn : Int)
  · obtain ⟨i, rfl⟩ : ∃ i : Nat, n = i := ⟨n.toNat, by omega⟩
    obtain ⟨b, off, rfl, cw⟩ := words_cell hw HB.out (i := i) (by omega)
    obtain ⟨x, hx⟩ : ∃ x, strAt ws i = x := ⟨_, rfl⟩
    have HR := Lib.hid (show putV 1 i s a ws = (x, 0) by
      show (wordAt ws i, (0 : Int)) = _
      unfold wordAt
      rw [if_pos (by omega), ← hx]; rfl)
    rw [hx] at cw
    clear hx h hw hm HB
    go_enter Tryz.func84, Tryz.ntmps84
    go_wp2
    refine bodyPost_ret (v := .agg #[.string x, .int .i64 0]) ?h1 rfl ?h2
    case h1 => simp [results, Tryz.results84, go_sem]
    case h2 => exact ev_is HR.out (below_alloc (below_alloc (Below.refl _ _) _) _)
  · have HR := Lib.hid (show putV 1 n s a ws = (ByteArray.empty, 0) by
      show (wordAt ws n, (0 : Int)) = _
      unfold wordAt
      rw [if_neg (by omega)])
    clear h hw hm HB
    go_enter Tryz.func84, Tryz.ntmps84
    go_wp2
    refine bodyPost_ret (v := .agg #[.string ⟨#[]⟩, .int .i64 0]) ?h1 rfl ?h2
    case h1 => simp [results, Tryz.results84, go_sem]
    case h2 => exact ev_is HR.out (below_alloc (below_alloc (Below.refl _ _) _) _)

set_option maxHeartbeats 4000000 in
theorem l3put_2 (n : Int) (s : ByteArray) (q : Option Addr) (m c : Nat) (a : Recs) (wq : Option Addr) (wn wc : Nat) (ws : Strs) (w : World) (h : RecsAt w q m a) (hm : m = (takesB 2).size) (hw : StrsAt w wq wn ws) (hs : s.size ≤ maxLen) (hn : True) :
    Calls Tryz.prog 84 #[.agg #[.int .i64 2, .int .i64 n, .string s], .slice q m c, .slice wq wn wc] w (MadeEV (putV 2 n s a ws) w) := by
  have HR := Lib.hid (show putV 2 n s a ws = (s, 0) from rfl)
  clear h hw hm
  go_enter Tryz.func84, Tryz.ntmps84
  go_wp2
  refine bodyPost_ret (v := .agg #[.string s, .int .i64 0]) ?h1 rfl ?h2
  case h1 => simp [results, Tryz.results84, go_sem]
  case h2 => exact ev_is HR.out (below_alloc (below_alloc (Below.refl _ _) _) _)

set_option maxHeartbeats 4000000 in
theorem l3put_3 (n : Int) (s : ByteArray) (q : Option Addr) (m c : Nat) (a : Recs) (wq : Option Addr) (wn wc : Nat) (ws : Strs) (w : World) (h : RecsAt w q m a) (hm : m = (takesB 3).size) (hw : StrsAt w wq wn ws) (hs : s.size ≤ maxLen) (hn : True) :
    Calls Tryz.prog 84 #[.agg #[.int .i64 3, .int .i64 n, .string s], .slice q m c, .slice wq wn wc] w (MadeEV (putV 3 n s a ws) w) := by
  have HR := Lib.hid (show putV 3 n s a ws = (ByteArray.empty, n) from rfl)
  clear h hw hm
  go_enter Tryz.func84, Tryz.ntmps84
  go_wp2
  refine bodyPost_ret (v := .agg #[.string ⟨#[]⟩, .int .i64 n]) ?h1 rfl ?h2
  case h1 => simp [results, Tryz.results84, go_sem]
  case h2 => exact ev_is HR.out (below_alloc (below_alloc (Below.refl _ _) _) _)

set_option maxHeartbeats 4000000 in
theorem l3put_4 (n : Int) (s : ByteArray) (q : Option Addr) (m c : Nat) (a : Recs) (wq : Option Addr) (wn wc : Nat) (ws : Strs) (w : World) (h : RecsAt w q m a) (hm : m = (takesB 4).size) (hw : StrsAt w wq wn ws) (hs : s.size ≤ maxLen) (hn : True) (ha : ∀ v ∈ a, v.1.size ≤ 40 ∧ In64 v.2) :
    Calls Tryz.prog 84 #[.agg #[.int .i64 4, .int .i64 n, .string s], .slice q m c, .slice wq wn wc] w (MadeEV (putV 4 n s a ws) w) := by
  obtain rfl : m = 2 := hm
  have HB := Lib.hid (show Below w.heap.size w ((w.alloc (.cells #[.int .i64 4, .int .i64 n, .string s] 89)).alloc (.cells #[.string ⟨#[]⟩, .int .i64 0] 129)) from below_alloc (below_alloc (Below.refl _ _) _) _)
  obtain ⟨b, off, rfl, cs⟩ := evs_cells h HB.out (by decide)
  obtain ⟨x0, hx0⟩ : ∃ x, keyAt a 0 = x := ⟨_, rfl⟩
  have k0 := (cs 0 (by decide)).1
  rw [hx0] at k0
  obtain ⟨x1, hx1⟩ : ∃ x, keyAt a 1 = x := ⟨_, rfl⟩
  have k1 := (cs 1 (by decide)).1
  rw [hx1] at k1
  simp at k0 k1
  have HR := Lib.hid (show putV 4 n s a ws = (x0 ++ x1, 0) by rw [← hx0, ← hx1]; rfl)
  have s0 : x0.size ≤ 40 := by rw [← hx0]; exact (ev0_le ha 0).1
  have s1 : x1.size ≤ 40 := by rw [← hx1]; exact (ev0_le ha 1).1
  clear cs h hw HB hx0 hx1
  go_enter Tryz.func84, Tryz.ntmps84
  go_wp2_with fail
  go_region_with (fail)
  all_goals (
    go_wp2
    refine bodyPost_ret (v := .agg #[.string (x0 ++ x1), .int .i64 0]) ?h1 rfl ?h2
    case h1 => simp [results, Tryz.results84, go_sem]
    case h2 => exact ev_is HR.out (below_alloc (below_alloc (Below.refl _ _) _) _).drew)

set_option maxHeartbeats 4000000 in
theorem l3put_5 (n : Int) (s : ByteArray) (q : Option Addr) (m c : Nat) (a : Recs) (wq : Option Addr) (wn wc : Nat) (ws : Strs) (w : World) (h : RecsAt w q m a) (hm : m = (takesB 5).size) (hw : StrsAt w wq wn ws) (hs : s.size ≤ maxLen) (hn : True) (ha : ∀ v ∈ a, v.1.size ≤ 40 ∧ In64 v.2) :
    Calls Tryz.prog 84 #[.agg #[.int .i64 5, .int .i64 n, .string s], .slice q m c, .slice wq wn wc] w (MadeEV (putV 5 n s a ws) w) := by
  obtain rfl : m = 1 := hm
  have HB := Lib.hid (show Below w.heap.size w ((w.alloc (.cells #[.int .i64 5, .int .i64 n, .string s] 89)).alloc (.cells #[.string ⟨#[]⟩, .int .i64 0] 129)) from below_alloc (below_alloc (Below.refl _ _) _) _)
  obtain ⟨b, off, rfl, cs⟩ := evs_cells h HB.out (by decide)
  obtain ⟨x0, hx0⟩ : ∃ x, keyAt a 0 = x := ⟨_, rfl⟩
  have k0 := (cs 0 (by decide)).1
  rw [hx0] at k0
  simp at k0
  have HR := Lib.hid (show putV 5 n s a ws = (ByteArray.empty, (x0.size : Int)) by rw [← hx0]; rfl)
  have s0 : x0.size ≤ 40 := by rw [← hx0]; exact (ev0_le ha 0).1
  clear cs h hw HB hx0
  go_enter Tryz.func84, Tryz.ntmps84
  go_wp2
  refine bodyPost_ret (v := .agg #[.string ⟨#[]⟩, .int .i64 (x0.size : Int)]) ?h1 rfl ?h2
  case h1 => simp [results, Tryz.results84, go_sem]
  case h2 => exact ev_is HR.out (below_alloc (below_alloc (Below.refl _ _) _) _)

set_option maxHeartbeats 4000000 in
theorem l3put_6 (n : Int) (s : ByteArray) (q : Option Addr) (m c : Nat) (a : Recs) (wq : Option Addr) (wn wc : Nat) (ws : Strs) (w : World) (h : RecsAt w q m a) (hm : m = (takesB 6).size) (hw : StrsAt w wq wn ws) (hs : s.size ≤ maxLen) (hn : True) (ha : ∀ v ∈ a, v.1.size ≤ 40 ∧ In64 v.2) :
    Calls Tryz.prog 84 #[.agg #[.int .i64 6, .int .i64 n, .string s], .slice q m c, .slice wq wn wc] w (MadeEV (putV 6 n s a ws) w) := by
  obtain rfl : m = 1 := hm
  have HB := Lib.hid (show Below w.heap.size w ((w.alloc (.cells #[.int .i64 6, .int .i64 n, .string s] 89)).alloc (.cells #[.string ⟨#[]⟩, .int .i64 0] 129)) from below_alloc (below_alloc (Below.refl _ _) _) _)
  obtain ⟨b, off, rfl, cs⟩ := evs_cells h HB.out (by decide)
  obtain ⟨x0, hx0⟩ : ∃ x, keyAt a 0 = x := ⟨_, rfl⟩
  have k0 := (cs 0 (by decide)).1
  rw [hx0] at k0
  simp at k0
  have HX := Lib.hid (show Row ((w.alloc (.cells #[.int .i64 6, .int .i64 n, .string s] 89)).alloc (.cells #[.string ⟨#[]⟩, .int .i64 0] 129)) (w.heap.size + 1) 129 #[.string ⟨#[]⟩, .int .i64 0] from by
    have := Row.new (w.alloc (.cells #[.int .i64 6, .int .i64 n, .string s] 89)) 129 #[.string ⟨#[]⟩, .int .i64 0]
    simpa using this)
  have HR := Lib.hid (show putV 6 n s a ws = (ByteArray.empty, numI x0) by rw [← hx0]; rfl)
  have s0 : x0.size ≤ maxLen := by rw [← hx0]; have := (ev0_le ha 0).1; unfold evAt at this; unfold keyAt maxLen; omega
  obtain ⟨z, hz⟩ : ∃ z, numI x0 = z := ⟨_, rfl⟩
  have HZ := Lib.hid (show (numD x0.data.toList).getD 0 = z from hz)
  rw [hz] at HR
  clear cs h hw hx0 hz
  go_enter Tryz.func84, Tryz.ntmps84
  go_wp2_with fail
  refine (l1num_any x0 _ s0).mono ?_
  rintro e w2 ⟨rfl, hB2⟩
  rw [HZ.out]
  have HX := Lib.hid (HX.out.keep hB2)
  have HB := Lib.hid (below_via HB.out hB2)
  have y0 := HX.out.cell (j := 0) (by simp)
  have y1 := HX.out.cell (j := 1) (by simp)
  have f0 := HX.out.free 0
  have f1 := HX.out.free 1
  simp at y0 y1
  clear hB2
  go_wp2
  have hbF := (HX.out.set 0 (.string ⟨#[]⟩)).set 1 (.int .i64 z)
  unfold Row at hbF
  refine bodyPost_ret (v := .agg #[.string ⟨#[]⟩, .int .i64 z]) ?h1 rfl ?h2
  case h1 => simp [results, Tryz.results84, go_sem, World.cell?, hbF]
  case h2 => exact ev_is HR.out ((HB.out.setCell (by simp) _).setCell (by simp) _)

set_option maxHeartbeats 4000000 in
theorem l3put_7 (n : Int) (s : ByteArray) (q : Option Addr) (m c : Nat) (a : Recs) (wq : Option Addr) (wn wc : Nat) (ws : Strs) (w : World) (h : RecsAt w q m a) (hm : m = (takesB 7).size) (hw : StrsAt w wq wn ws) (hs : s.size ≤ maxLen) (hn : True) (ha : ∀ v ∈ a, v.1.size ≤ 40 ∧ In64 v.2) :
    Calls Tryz.prog 84 #[.agg #[.int .i64 7, .int .i64 n, .string s], .slice q m c, .slice wq wn wc] w (MadeEV (putV 7 n s a ws) w) := by
  obtain rfl : m = 1 := hm
  have HB := Lib.hid (show Below w.heap.size w ((w.alloc (.cells #[.int .i64 7, .int .i64 n, .string s] 89)).alloc (.cells #[.string ⟨#[]⟩, .int .i64 0] 129)) from below_alloc (below_alloc (Below.refl _ _) _) _)
  obtain ⟨b, off, rfl, cs⟩ := evs_cells h HB.out (by decide)
  obtain ⟨x0, hx0⟩ : ∃ x, numAt a 0 = x := ⟨_, rfl⟩
  have k0 := (cs 0 (by decide)).2
  rw [hx0] at k0
  simp at k0
  have HX := Lib.hid (show Row ((w.alloc (.cells #[.int .i64 7, .int .i64 n, .string s] 89)).alloc (.cells #[.string ⟨#[]⟩, .int .i64 0] 129)) (w.heap.size + 1) 129 #[.string ⟨#[]⟩, .int .i64 0] from by
    have := Row.new (w.alloc (.cells #[.int .i64 7, .int .i64 n, .string s] 89)) 129 #[.string ⟨#[]⟩, .int .i64 0]
    simpa using this)
  have HR := Lib.hid (show putV 7 n s a ws = (decB x0, 0) by rw [← hx0]; rfl)
  have s0 : In64 x0 := by rw [← hx0]; exact (ev0_le ha 0).2
  obtain ⟨z, hz⟩ : ∃ z, decB x0 = z := ⟨_, rfl⟩
  have HZ := Lib.hid hz
  rw [hz] at HR
  unfold In64 at s0
  clear cs h hw hx0 hz
  go_enter Tryz.func84, Tryz.ntmps84
  go_wp2_with fail
  refine (l1dec_any x0 s0.1 (by omega) _).mono ?_
  rintro e w2 ⟨rfl, hB2⟩
  rw [HZ.out]
  have HX := Lib.hid (HX.out.keep hB2)
  have HB := Lib.hid (below_via HB.out hB2)
  have y0 := HX.out.cell (j := 0) (by simp)
  have y1 := HX.out.cell (j := 1) (by simp)
  have f0 := HX.out.free 0
  have f1 := HX.out.free 1
  simp at y0 y1
  clear hB2
  go_wp2
  have hbF := (HX.out.set 0 (.string z)).set 1 (.int .i64 0)
  unfold Row at hbF
  refine bodyPost_ret (v := .agg #[.string z, .int .i64 0]) ?h1 rfl ?h2
  case h1 => simp [results, Tryz.results84, go_sem, World.cell?, hbF]
  case h2 => exact ev_is HR.out ((HB.out.setCell (by simp) _).setCell (by simp) _)

set_option maxHeartbeats 4000000 in
theorem l3put_12 (n : Int) (s : ByteArray) (q : Option Addr) (m c : Nat) (a : Recs) (wq : Option Addr) (wn wc : Nat) (ws : Strs) (w : World) (h : RecsAt w q m a) (hm : m = (takesB 12).size) (hw : StrsAt w wq wn ws) (hs : s.size ≤ maxLen) (hn : True) (ha : ∀ v ∈ a, v.1.size ≤ 40 ∧ In64 v.2) :
    Calls Tryz.prog 84 #[.agg #[.int .i64 12, .int .i64 n, .string s], .slice q m c, .slice wq wn wc] w (MadeEV (putV 12 n s a ws) w) := by
  obtain rfl : m = 2 := hm
  have HB := Lib.hid (show Below w.heap.size w ((w.alloc (.cells #[.int .i64 12, .int .i64 n, .string s] 89)).alloc (.cells #[.string ⟨#[]⟩, .int .i64 0] 129)) from below_alloc (below_alloc (Below.refl _ _) _) _)
  obtain ⟨b, off, rfl, cs⟩ := evs_cells h HB.out (by decide)
  obtain ⟨x0, hx0⟩ : ∃ x, keyAt a 0 = x := ⟨_, rfl⟩
  have k0 := (cs 0 (by decide)).1
  rw [hx0] at k0
  obtain ⟨x1, hx1⟩ : ∃ x, keyAt a 1 = x := ⟨_, rfl⟩
  have k1 := (cs 1 (by decide)).1
  rw [hx1] at k1
  simp at k0 k1
  have s0 : x0.size ≤ 40 := by rw [← hx0]; exact (ev0_le ha 0).1
  have s1 : x1.size ≤ 40 := by rw [← hx1]; exact (ev0_le ha 1).1
  by_cases hq : x0 = x1
  · have HR := Lib.hid (show putV 12 n s a ws = (ByteArray.empty, truthI true) by
      show (ByteArray.empty, truthI (decide (keyAt a 0 = keyAt a 1))) = _
      rw [hx0, hx1, decide_eq_true hq])
    have hq2 : (x0.toList == x1.toList) = true := ba_eqv hq
    clear cs h hw HB hx0 hx1 hq
    go_enter Tryz.func84, Tryz.ntmps84
    go_wp2_with fail
    go_region_with (go_at_call 107; refine (l3truth_any true _).mono ?_; rintro e w1 ⟨rfl, rfl⟩)
    all_goals (
      go_wp2
      refine bodyPost_ret (v := .agg #[.string ⟨#[]⟩, .int .i64 (truthI true)]) ?h1 rfl ?h2
      case h1 => simp [results, Tryz.results84, go_sem]
      case h2 => exact ev_is HR.out (below_alloc (below_alloc (Below.refl _ _) _) _).drew)
  · have HR := Lib.hid (show putV 12 n s a ws = (ByteArray.empty, truthI false) by
      show (ByteArray.empty, truthI (decide (keyAt a 0 = keyAt a 1))) = _
      rw [hx0, hx1, decide_eq_false hq])
    have hq2 : (x0.toList == x1.toList) = false := ba_nev hq
    clear cs h hw HB hx0 hx1 hq
    go_enter Tryz.func84, Tryz.ntmps84
    go_wp2_with fail
    go_region_with (go_at_call 107; refine (l3truth_any false _).mono ?_; rintro e w1 ⟨rfl, rfl⟩)
    all_goals (
      go_wp2
      refine bodyPost_ret (v := .agg #[.string ⟨#[]⟩, .int .i64 (truthI false)]) ?h1 rfl ?h2
      case h1 => simp [results, Tryz.results84, go_sem]
      case h2 => exact ev_is HR.out (below_alloc (below_alloc (Below.refl _ _) _) _).drew)

set_option maxHeartbeats 4000000 in
theorem l3put_8 (n : Int) (s : ByteArray) (q : Option Addr) (m c : Nat) (a : Recs) (wq : Option Addr) (wn wc : Nat) (ws : Strs) (w : World) (h : RecsAt w q m a) (hm : m = (takesB 8).size) (hw : StrsAt w wq wn ws) (hs : s.size ≤ maxLen) (hn : True) (ha : ∀ v ∈ a, v.1.size ≤ 40 ∧ In64 v.2) :
    Calls Tryz.prog 84 #[.agg #[.int .i64 8, .int .i64 n, .string s], .slice q m c, .slice wq wn wc] w (MadeEV (putV 8 n s a ws) w) := by
  obtain rfl : m = 2 := hm
  have HB := Lib.hid (show Below w.heap.size w ((w.alloc (.cells #[.int .i64 8, .int .i64 n, .string s] 89)).alloc (.cells #[.string ⟨#[]⟩, .int .i64 0] 129)) from below_alloc (below_alloc (Below.refl _ _) _) _)
  obtain ⟨b, off, rfl, cs⟩ := evs_cells h HB.out (by decide)
  obtain ⟨x0, hx0⟩ : ∃ x, numAt a 0 = x := ⟨_, rfl⟩
  have k0 := (cs 0 (by decide)).2
  rw [hx0] at k0
  obtain ⟨x1, hx1⟩ : ∃ x, numAt a 1 = x := ⟨_, rfl⟩
  have k1 := (cs 1 (by decide)).2
  rw [hx1] at k1
  simp at k0 k1
  obtain ⟨z, hz⟩ : ∃ z, twoI 8 x0 x1 = z := ⟨_, rfl⟩
  have HR := Lib.hid (show putV 8 n s a ws = (ByteArray.empty, z) by rw [← hz, ← hx0, ← hx1]; rfl)
  have HT := Lib.hid (show ∀ w, Calls Tryz.prog 108 #[.int .i64 8, .int .i64 x0, .int .i64 x1] w (fun e w' => e = .returned (.int .i64 z) ∧ w' = w) from fun w => by
    have := l3two_any 8 x0 x1 w (by omega)
    rw [hz] at this
    exact this)
  clear cs h hw HB hx0 hx1 hz
  go_enter Tryz.func84, Tryz.ntmps84
  go_wp2_with fail
  go_region_with (go_at_call 108; refine (HT.out _).mono ?_; rintro e w1 ⟨rfl, rfl⟩)
  all_goals (
    go_wp2
    refine bodyPost_ret (v := .agg #[.string ⟨#[]⟩, .int .i64 z]) ?h1 rfl ?h2
    case h1 => simp [results, Tryz.results84, go_sem]
    case h2 => exact ev_is HR.out (below_alloc (below_alloc (Below.refl _ _) _) _).drew)

set_option maxHeartbeats 4000000 in
theorem l3put_9 (n : Int) (s : ByteArray) (q : Option Addr) (m c : Nat) (a : Recs) (wq : Option Addr) (wn wc : Nat) (ws : Strs) (w : World) (h : RecsAt w q m a) (hm : m = (takesB 9).size) (hw : StrsAt w wq wn ws) (hs : s.size ≤ maxLen) (hn : True) (ha : ∀ v ∈ a, v.1.size ≤ 40 ∧ In64 v.2) :
    Calls Tryz.prog 84 #[.agg #[.int .i64 9, .int .i64 n, .string s], .slice q m c, .slice wq wn wc] w (MadeEV (putV 9 n s a ws) w) := by
  obtain rfl : m = 2 := hm
  have HB := Lib.hid (show Below w.heap.size w ((w.alloc (.cells #[.int .i64 9, .int .i64 n, .string s] 89)).alloc (.cells #[.string ⟨#[]⟩, .int .i64 0] 129)) from below_alloc (below_alloc (Below.refl _ _) _) _)
  obtain ⟨b, off, rfl, cs⟩ := evs_cells h HB.out (by decide)
  obtain ⟨x0, hx0⟩ : ∃ x, numAt a 0 = x := ⟨_, rfl⟩
  have k0 := (cs 0 (by decide)).2
  rw [hx0] at k0
  obtain ⟨x1, hx1⟩ : ∃ x, numAt a 1 = x := ⟨_, rfl⟩
  have k1 := (cs 1 (by decide)).2
  rw [hx1] at k1
  simp at k0 k1
  obtain ⟨z, hz⟩ : ∃ z, twoI 9 x0 x1 = z := ⟨_, rfl⟩
  have HR := Lib.hid (show putV 9 n s a ws = (ByteArray.empty, z) by rw [← hz, ← hx0, ← hx1]; rfl)
  have HT := Lib.hid (show ∀ w, Calls Tryz.prog 108 #[.int .i64 9, .int .i64 x0, .int .i64 x1] w (fun e w' => e = .returned (.int .i64 z) ∧ w' = w) from fun w => by
    have := l3two_any 9 x0 x1 w (by omega)
    rw [hz] at this
    exact this)
  clear cs h hw HB hx0 hx1 hz
  go_enter Tryz.func84, Tryz.ntmps84
  go_wp2_with fail
  go_region_with (go_at_call 108; refine (HT.out _).mono ?_; rintro e w1 ⟨rfl, rfl⟩)
  all_goals (
    go_wp2
    refine bodyPost_ret (v := .agg #[.string ⟨#[]⟩, .int .i64 z]) ?h1 rfl ?h2
    case h1 => simp [results, Tryz.results84, go_sem]
    case h2 => exact ev_is HR.out (below_alloc (below_alloc (Below.refl _ _) _) _).drew)

set_option maxHeartbeats 4000000 in
theorem l3put_10 (n : Int) (s : ByteArray) (q : Option Addr) (m c : Nat) (a : Recs) (wq : Option Addr) (wn wc : Nat) (ws : Strs) (w : World) (h : RecsAt w q m a) (hm : m = (takesB 10).size) (hw : StrsAt w wq wn ws) (hs : s.size ≤ maxLen) (hn : True) (ha : ∀ v ∈ a, v.1.size ≤ 40 ∧ In64 v.2) :
    Calls Tryz.prog 84 #[.agg #[.int .i64 10, .int .i64 n, .string s], .slice q m c, .slice wq wn wc] w (MadeEV (putV 10 n s a ws) w) := by
  obtain rfl : m = 2 := hm
  have HB := Lib.hid (show Below w.heap.size w ((w.alloc (.cells #[.int .i64 10, .int .i64 n, .string s] 89)).alloc (.cells #[.string ⟨#[]⟩, .int .i64 0] 129)) from below_alloc (below_alloc (Below.refl _ _) _) _)
  obtain ⟨b, off, rfl, cs⟩ := evs_cells h HB.out (by decide)
  obtain ⟨x0, hx0⟩ : ∃ x, numAt a 0 = x := ⟨_, rfl⟩
  have k0 := (cs 0 (by decide)).2
  rw [hx0] at k0
  obtain ⟨x1, hx1⟩ : ∃ x, numAt a 1 = x := ⟨_, rfl⟩
  have k1 := (cs 1 (by decide)).2
  rw [hx1] at k1
  simp at k0 k1
  obtain ⟨z, hz⟩ : ∃ z, twoI 10 x0 x1 = z := ⟨_, rfl⟩
  have HR := Lib.hid (show putV 10 n s a ws = (ByteArray.empty, z) by rw [← hz, ← hx0, ← hx1]; rfl)
  have HT := Lib.hid (show ∀ w, Calls Tryz.prog 108 #[.int .i64 10, .int .i64 x0, .int .i64 x1] w (fun e w' => e = .returned (.int .i64 z) ∧ w' = w) from fun w => by
    have := l3two_any 10 x0 x1 w (by omega)
    rw [hz] at this
    exact this)
  clear cs h hw HB hx0 hx1 hz
  go_enter Tryz.func84, Tryz.ntmps84
  go_wp2_with fail
  go_region_with (go_at_call 108; refine (HT.out _).mono ?_; rintro e w1 ⟨rfl, rfl⟩)
  all_goals (
    go_wp2
    refine bodyPost_ret (v := .agg #[.string ⟨#[]⟩, .int .i64 z]) ?h1 rfl ?h2
    case h1 => simp [results, Tryz.results84, go_sem]
    case h2 => exact ev_is HR.out (below_alloc (below_alloc (Below.refl _ _) _) _).drew)

set_option maxHeartbeats 4000000 in
theorem l3put_11 (n : Int) (s : ByteArray) (q : Option Addr) (m c : Nat) (a : Recs) (wq : Option Addr) (wn wc : Nat) (ws : Strs) (w : World) (h : RecsAt w q m a) (hm : m = (takesB 11).size) (hw : StrsAt w wq wn ws) (hs : s.size ≤ maxLen) (hn : True) (ha : ∀ v ∈ a, v.1.size ≤ 40 ∧ In64 v.2) :
    Calls Tryz.prog 84 #[.agg #[.int .i64 11, .int .i64 n, .string s], .slice q m c, .slice wq wn wc] w (MadeEV (putV 11 n s a ws) w) := by
  obtain rfl : m = 2 := hm
  have HB := Lib.hid (show Below w.heap.size w ((w.alloc (.cells #[.int .i64 11, .int .i64 n, .string s] 89)).alloc (.cells #[.string ⟨#[]⟩, .int .i64 0] 129)) from below_alloc (below_alloc (Below.refl _ _) _) _)
  obtain ⟨b, off, rfl, cs⟩ := evs_cells h HB.out (by decide)
  obtain ⟨x0, hx0⟩ : ∃ x, numAt a 0 = x := ⟨_, rfl⟩
  have k0 := (cs 0 (by decide)).2
  rw [hx0] at k0
  obtain ⟨x1, hx1⟩ : ∃ x, numAt a 1 = x := ⟨_, rfl⟩
  have k1 := (cs 1 (by decide)).2
  rw [hx1] at k1
  simp at k0 k1
  obtain ⟨z, hz⟩ : ∃ z, twoI 11 x0 x1 = z := ⟨_, rfl⟩
  have HR := Lib.hid (show putV 11 n s a ws = (ByteArray.empty, z) by rw [← hz, ← hx0, ← hx1]; rfl)
  have HT := Lib.hid (show ∀ w, Calls Tryz.prog 108 #[.int .i64 11, .int .i64 x0, .int .i64 x1] w (fun e w' => e = .returned (.int .i64 z) ∧ w' = w) from fun w => by
    have := l3two_any 11 x0 x1 w (by omega)
    rw [hz] at this
    exact this)
  clear cs h hw HB hx0 hx1 hz
  go_enter Tryz.func84, Tryz.ntmps84
  go_wp2_with fail
  go_region_with (go_at_call 108; refine (HT.out _).mono ?_; rintro e w1 ⟨rfl, rfl⟩)
  all_goals (
    go_wp2
    refine bodyPost_ret (v := .agg #[.string ⟨#[]⟩, .int .i64 z]) ?h1 rfl ?h2
    case h1 => simp [results, Tryz.results84, go_sem]
    case h2 => exact ev_is HR.out (below_alloc (below_alloc (Below.refl _ _) _) _).drew)

/-- Every instruction that puts something. -/
theorem l3put_any (op : Nat) (n : Int) (s : ByteArray) (q : Option Addr) (m c : Nat) (a : Recs) (wq : Option Addr) (wn wc : Nat) (ws : Strs) (w : World) (h1 : 1 ≤ op) (h2 : op ≤ 12) (h : RecsAt w q m a) (hm : m = (takesB op).size) (hw : StrsAt w wq wn ws) (hs : s.size ≤ maxLen) (hn : op = 1 → 0 ≤ n) (ha : ∀ v ∈ a, v.1.size ≤ 40 ∧ In64 v.2) :
    Calls Tryz.prog 84 #[.agg #[.int .i64 op, .int .i64 n, .string s], .slice q m c, .slice wq wn wc] w (MadeEV (putV op n s a ws) w) := by
  obtain rfl | rfl | rfl | rfl | rfl | rfl | rfl | rfl | rfl | rfl | rfl | rfl : op = 1 ∨ op = 2 ∨ op = 3 ∨ op = 4 ∨ op = 5 ∨ op = 6 ∨ op = 7 ∨ op = 8 ∨ op = 9 ∨ op = 10 ∨ op = 11 ∨ op = 12 := by omega
  · exact l3put_1 n s q m c a wq wn wc ws w h hm hw hs (hn rfl)
  · exact l3put_2 n s q m c a wq wn wc ws w h hm hw hs trivial
  · exact l3put_3 n s q m c a wq wn wc ws w h hm hw hs trivial
  · exact l3put_4 n s q m c a wq wn wc ws w h hm hw hs trivial ha
  · exact l3put_5 n s q m c a wq wn wc ws w h hm hw hs trivial ha
  · exact l3put_6 n s q m c a wq wn wc ws w h hm hw hs trivial ha
  · exact l3put_7 n s q m c a wq wn wc ws w h hm hw hs trivial ha
  · exact l3put_8 n s q m c a wq wn wc ws w h hm hw hs trivial ha
  · exact l3put_9 n s q m c a wq wn wc ws w h hm hw hs trivial ha
  · exact l3put_10 n s q m c a wq wn wc ws w h hm hw hs trivial ha
  · exact l3put_11 n s q m c a wq wn wc ws w h hm hw hs trivial ha
  · exact l3put_12 n s q m c a wq wn wc ws w h hm hw hs trivial ha
end Go.Proofs.YtjofbeokkainlaaGreatDoor
