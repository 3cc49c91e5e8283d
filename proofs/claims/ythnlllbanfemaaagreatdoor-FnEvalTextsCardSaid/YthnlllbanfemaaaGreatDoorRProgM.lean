
/- What is read of words as instructions: by the program, by the model; they take the same texts. No model in this text. -/
import Derived.Test.YthnlllbanfemaaaGreatDoorMg5
import Derived.Test.YthnlllbanfemaaaGreatDoorMg23
namespace Go.Proofs.YthnlllbanfemaaaGreatDoor
open Go.ChangeShapes Go.WideShapes Go.ChangeAt Go.RowKit
set_option linter.unusedVariables false
set_option maxRecDepth 100000

/-! ### Joining and splitting -/
theorem join_two (a b : List UInt8) (t : List (List UInt8)) (sep : List UInt8) : Lib.join (a :: b :: t) sep = a ++ sep ++ Lib.join (b :: t) sep := by
  rw [Lib.join_cons, Lib.join_cons]
  simp [Lib.joinTail]
theorem split_joinS (c : UInt8) : ∀ ws : List (List UInt8), ws ≠ [] → (∀ x ∈ ws, noC c x) → splitL c (Lib.join ws [c]) = ws
  | [], h, _ => absurd rfl h
  | [a], _, h => by rw [Lib.join_one]; exact splitL_no c a (h a (by simp))
  | a :: b :: t, _, h => by
    rw [join_two, List.append_assoc]
    show splitL c (a ++ c :: Lib.join (b :: t) [c]) = _
    rw [splitL_at c a _ (h a (by simp)), split_joinS c (b :: t) (by simp) (fun x hx => h x (by simp [hx]))]
theorem join_splitS (c : UInt8) : ∀ l : List UInt8, Lib.join (splitL c l) [c] = l
  | [] => rfl
  | x :: t => by
    have ih := join_splitS c t
    unfold splitL
    split
    · rename_i hx
      cases hs : splitL c t with
      | nil => exact absurd hs (splitL_ne c t)
      | cons a r =>
        rw [hs] at ih
        rw [join_two, ih, hx]; rfl
    · cases hs : splitL c t with
      | nil => exact absurd hs (splitL_ne c t)
      | cons a r =>
        rw [hs] at ih
        simp only
        cases r with
        | nil =>
          rw [Lib.join_one] at ih ⊢
          rw [ih]
        | cons b r =>
          rw [join_two] at ih ⊢
          rw [← ih]; rfl

/-- The words of a program's text. -/
def prWords (l : List UInt8) : List (List UInt8) := if l = [] then [] else splitL 32 l
theorem prWords_noC (l : List UInt8) : ∀ x ∈ prWords l, noC 32 x := by
  intro x hx
  unfold prWords at hx
  split at hx
  · cases hx
  · exact split_noC 32 l x hx
theorem join_prWords (l : List UInt8) : Lib.join (prWords l) [32] = l := by
  unfold prWords
  split
  · rename_i h; rw [h]; rfl
  · exact join_splitS 32 l

/-! ### Words -/
def nmL (x : Nat) : List UInt8 := (textB (x + 4)).data.toList
theorem nm_head {x : Nat} (h : x < 11) : (nmL x).head? ≠ some 102 ∧ (nmL x).head? ≠ some 110 ∧ (nmL x).head? ≠ some 116 := by
  rcases (by omega : x = 0 ∨ x = 1 ∨ x = 2 ∨ x = 3 ∨ x = 4 ∨ x = 5 ∨ x = 6 ∨ x = 7 ∨ x = 8 ∨ x = 9 ∨ x = 10) with rfl | rfl | rfl | rfl | rfl | rfl | rfl | rfl | rfl | rfl | rfl <;> decide
def nmAt (w : List UInt8) : Option Nat := (List.range 11).find? fun x => decide (nmL x = w)
theorem nmAt_some {w : List UInt8} {x : Nat} (h : nmAt w = some x) : x < 11 ∧ nmL x = w := by
  unfold nmAt at h
  have h1 := List.mem_of_find?_eq_some h
  have h2 := List.find?_some h
  exact ⟨by simpa using h1, of_decide_eq_true h2⟩
theorem nmAt_none {w : List UInt8} (h : ∀ x, x < 11 → nmL x ≠ w) : nmAt w = none := by
  unfold nmAt
  rw [List.find?_eq_none]
  intro x hx
  simpa using h x (by simpa using hx)
theorem nmAt_name {x : Nat} (h : x < 11) : nmAt (nmL x) = some x := by
  rcases (by omega : x = 0 ∨ x = 1 ∨ x = 2 ∨ x = 3 ∨ x = 4 ∨ x = 5 ∨ x = 6 ∨ x = 7 ∨ x = 8 ∨ x = 9 ∨ x = 10) with rfl | rfl | rfl | rfl | rfl | rfl | rfl | rfl | rfl | rfl | rfl <;> rfl
theorem nmAt_head {w : List UInt8} {c : UInt8} (h : w.head? = some c) (hc : c = 102 ∨ c = 110 ∨ c = 116) : nmAt w = none := by
  refine nmAt_none fun x hx e => ?_
  have h1 := nm_head hx
  rw [e, h] at h1
  rcases hc with rfl | rfl | rfl
  · exact h1.1 rfl
  · exact h1.2.1 rfl
  · exact h1.2.2 rfl

/-- The form of a word: what its instruction is, apart from the numbers. -/
def formW (w : List UInt8) : Nat × List UInt8 :=
  match nmAt w with
  | some x => (x + 4, [])
  | none => match w with
    | 116 :: 58 :: r => (2, r)
    | 102 :: r => (1, r)
    | 110 :: r => (3, r)
    | _ => (0, [])
theorem formW_name {w : List UInt8} {x : Nat} (h : nmAt w = some x) : formW w = (x + 4, []) := by unfold formW; rw [h]
theorem formW_t (r : List UInt8) : formW (116 :: 58 :: r) = (2, r) := by
  unfold formW; rw [nmAt_head (c := 116) rfl (by simp)]; rfl
theorem formW_f (r : List UInt8) : formW (102 :: r) = (1, r) := by
  unfold formW; rw [nmAt_head (c := 102) rfl (by simp)]; rfl
theorem formW_n (r : List UInt8) : formW (110 :: r) = (3, r) := by
  unfold formW; rw [nmAt_head (c := 110) rfl (by simp)]; rfl
theorem form_ways (w : List UInt8) : (∃ x, x < 11 ∧ w = nmL x ∧ formW w = (x + 4, [])) ∨ (∃ r, w = 116 :: 58 :: r ∧ formW w = (2, r)) ∨ (∃ r, w = 102 :: r ∧ formW w = (1, r)) ∨ (∃ r, w = 110 :: r ∧ formW w = (3, r)) ∨
    ((∀ x, x < 11 → nmL x ≠ w) ∧ (∀ r, w ≠ 116 :: 58 :: r) ∧ w.head? ≠ some 102 ∧ w.head? ≠ some 110 ∧ formW w = (0, [])) := by
  cases h : nmAt w with
  | some x => exact .inl ⟨x, (nmAt_some h).1, (nmAt_some h).2.symm, formW_name h⟩
  | none =>
    have hn : ∀ x, x < 11 → nmL x ≠ w := fun x hx e => by
      rw [← e, nmAt_name hx] at h; cases h
    by_cases ht : ∃ r, w = 116 :: 58 :: r
    · obtain ⟨r, rfl⟩ := ht
      exact .inr (.inl ⟨r, rfl, formW_t r⟩)
    by_cases hf : ∃ r, w = 102 :: r
    · obtain ⟨r, rfl⟩ := hf
      exact .inr (.inr (.inl ⟨r, rfl, formW_f r⟩))
    by_cases hnn : ∃ r, w = 110 :: r
    · obtain ⟨r, rfl⟩ := hnn
      exact .inr (.inr (.inr (.inl ⟨r, rfl, formW_n r⟩)))
    refine .inr (.inr (.inr (.inr ⟨hn, fun r e => ht ⟨r, e⟩, ?_, ?_, ?_⟩)))
    · intro e
      cases w with
      | nil => cases e
      | cons c r => simp at e; exact hf ⟨r, by rw [e]⟩
    · intro e
      cases w with
      | nil => cases e
      | cons c r => simp at e; exact hnn ⟨r, by rw [e]⟩
    · unfold formW
      rw [h]
      simp only
      split
      · exact absurd ⟨_, rfl⟩ ht
      · exact absurd ⟨_, rfl⟩ hf
      · exact absurd ⟨_, rfl⟩ hnn
      · rfl

/-- What the model reads of a word. -/
def readL (w : List UInt8) : Int × Int × ByteArray :=
  match formW w with
  | (1, r) => (1, (numD r).getD 0, ByteArray.empty)
  | (2, r) => (2, 0, ⟨r.toArray⟩)
  | (3, r) => (3, (numD r).getD 0, ByteArray.empty)
  | (x, _) => ((x : Int), 0, ByteArray.empty)
/-- Does the program take it? -/
def readLB (w : List UInt8) : Bool :=
  match formW w with
  | (1, r) => (numD r).isSome
  | (3, r) => (numD r).isSome
  | (0, _) => false
  | _ => true
theorem readL_f (r : List UInt8) : readL (102 :: r) = (1, (numD r).getD 0, ByteArray.empty) := by unfold readL; rw [formW_f]; rfl
theorem readL_t (r : List UInt8) : readL (116 :: 58 :: r) = (2, 0, ⟨r.toArray⟩) := by unfold readL; rw [formW_t]; rfl
theorem readL_n (r : List UInt8) : readL (110 :: r) = (3, (numD r).getD 0, ByteArray.empty) := by unfold readL; rw [formW_n]; rfl
theorem readL_nm {x : Nat} (h : x < 11) : readL (nmL x) = (((x + 4 : Nat) : Int), 0, ByteArray.empty) := by
  unfold readL; rw [formW_name (nmAt_name h)]; rfl
theorem readL_no {w : List UInt8} (h : formW w = (0, [])) : readL w = (0, 0, ByteArray.empty) := by unfold readL; rw [h]; rfl
theorem readB_f (r : List UInt8) : readLB (102 :: r) = (numD r).isSome := by unfold readLB; rw [formW_f]; rfl
theorem readB_t (r : List UInt8) : readLB (116 :: 58 :: r) = true := by unfold readLB; rw [formW_t]; rfl
theorem readB_n (r : List UInt8) : readLB (110 :: r) = (numD r).isSome := by unfold readLB; rw [formW_n]; rfl
theorem readB_nm {x : Nat} (h : x < 11) : readLB (nmL x) = true := by
  unfold readLB; rw [formW_name (nmAt_name h)]; rfl
theorem readB_no {w : List UInt8} (h : formW w = (0, [])) : readLB w = false := by unfold readLB; rw [h]; rfl

theorem num_in {r : List UInt8} : In64 ((numD r).getD 0) := by
  cases h : numD r with
  | none => exact ⟨by decide, by decide⟩
  | some v => have := numD_iff.1 h; exact ⟨this.2.1, by show v ≤ _; omega⟩
theorem readL_in (w : List UInt8) : In64 (readL w).2.1 := by
  rcases form_ways w with ⟨x, hx, rfl, _⟩ | ⟨r, rfl, _⟩ | ⟨r, rfl, _⟩ | ⟨r, rfl, _⟩ | ⟨_, _, _, _, hf⟩
  · rw [readL_nm hx]; exact ⟨by show _ ≤ (0 : Int); decide, by show (0 : Int) ≤ _; decide⟩
  · rw [readL_t]; exact ⟨by show _ ≤ (0 : Int); decide, by show (0 : Int) ≤ _; decide⟩
  · rw [readL_f]; exact num_in
  · rw [readL_n]; exact num_in
  · rw [readL_no hf]; exact ⟨by decide, by decide⟩
theorem readL_size (w : List UInt8) : (readL w).2.2.size ≤ w.length := by
  rcases form_ways w with ⟨x, hx, rfl, _⟩ | ⟨r, rfl, _⟩ | ⟨r, rfl, _⟩ | ⟨r, rfl, _⟩ | ⟨_, _, _, _, hf⟩
  · rw [readL_nm hx]; exact Nat.zero_le _
  · rw [readL_t]; show r.toArray.size ≤ _; simp; omega
  · rw [readL_f]; exact Nat.zero_le _
  · rw [readL_n]; exact Nat.zero_le _
  · rw [readL_no hf]; exact Nat.zero_le _
def txR (w : List UInt8) : ByteArray := insTx (readL w).1 (readL w).2.1 (readL w).2.2
theorem tx_f (r : List UInt8) : (txR (102 :: r)).data.toList = 102 :: Lib.itoa ((numD r).getD 0) := by
  unfold txR; rw [readL_f]
  show (⟨#[102]⟩ ++ decB _ : ByteArray).data.toList = _
  simp [decB]
theorem tx_n (r : List UInt8) : (txR (110 :: r)).data.toList = 110 :: Lib.itoa ((numD r).getD 0) := by
  unfold txR; rw [readL_n]
  show (⟨#[110]⟩ ++ decB _ : ByteArray).data.toList = _
  simp [decB]
theorem tx_t (r : List UInt8) : (txR (116 :: 58 :: r)).data.toList = 116 :: 58 :: r := by
  unfold txR; rw [readL_t]
  show (⟨#[116, 58]⟩ ++ ⟨r.toArray⟩ : ByteArray).data.toList = _
  simp
theorem tx_nm {x : Nat} (h : x < 11) : (txR (nmL x)).data.toList = nmL x := by
  unfold txR; rw [readL_nm h]
  unfold insTx
  simp only
  rw [if_neg (by omega), if_neg (by omega), if_neg (by omega), Int.toNat_natCast]
  rfl
/-- What the program takes, is written again as it was. -/
theorem read_backL {w : List UInt8} (h : readLB w = true) : (txR w).data.toList = w := by
  rcases form_ways w with ⟨x, hx, rfl, _⟩ | ⟨r, rfl, _⟩ | ⟨r, rfl, _⟩ | ⟨r, rfl, _⟩ | ⟨_, _, _, _, hf⟩
  · exact tx_nm hx
  · exact tx_t r
  · rw [readB_f, Option.isSome_iff_exists] at h
    obtain ⟨v, hv⟩ := h
    rw [tx_f, hv, Option.getD_some, (numD_iff.1 hv).1]
  · rw [readB_n, Option.isSome_iff_exists] at h
    obtain ⟨v, hv⟩ := h
    rw [tx_n, hv, Option.getD_some, (numD_iff.1 hv).1]
  · rw [readB_no hf] at h; cases h
theorem num_zero {r : List UInt8} (h : Lib.itoa ((numD r).getD 0) = r) : (numD r).isSome = true := by
  cases hn : numD r with
  | some v => rfl
  | none =>
    rw [hn, Option.getD_none] at h
    rw [← h, numD_itoa (by decide) (by decide)] at hn
    cases hn
/-- What is valid and written again as it was, the program takes. -/
theorem back_read {w : List UInt8} (hi : instrB (readL w).1 (readL w).2.1 (readL w).2.2 = true) (h : (txR w).data.toList = w) : readLB w = true := by
  rcases form_ways w with ⟨x, hx, rfl, _⟩ | ⟨r, rfl, _⟩ | ⟨r, rfl, _⟩ | ⟨r, rfl, _⟩ | ⟨_, _, _, _, hf⟩
  · exact readB_nm hx
  · exact readB_t r
  · rw [tx_f] at h
    rw [readB_f]
    exact num_zero (List.cons.inj h).2
  · rw [tx_n] at h
    rw [readB_n]
    exact num_zero (List.cons.inj h).2
  · rw [readL_no hf] at hi
    exact absurd hi (by decide)

/-! ### Valid instructions have no blank in their texts -/
theorem push_mem {s : ByteArray} (h : pushB s = true) : ∀ c ∈ s.data.toList, c ≠ 32 := by
  intro c hc e
  unfold pushB at h
  rw [Bool.and_eq_true, List.all_eq_true] at h
  have := h.2 c hc
  rw [e] at this
  exact absurd this (by decide)
theorem noC_cons {c x : UInt8} {l : List UInt8} (hx : x ≠ c) (h : noC c l) : noC c (x :: l) := fun y hy => by
  rcases List.mem_cons.1 hy with e | e
  · subst e; exact hx
  · exact h y e
theorem insTx_noC {op n : Int} {s : ByteArray} (h : instrB op n s = true) : noC 32 (insTx op n s).data.toList := by
  have hdec : ∀ v, noC 32 (Lib.itoa v) := fun v => itoa_noC 32 (by decide) v
  unfold instrB at h
  unfold insTx
  split
  · rw [show ((⟨#[102]⟩ ++ decB n : ByteArray).data.toList) = 102 :: Lib.itoa n by simp [decB]]
    exact noC_cons (by decide) (hdec n)
  · rename_i h1
    rw [if_neg h1] at h
    split
    · rename_i h2
      rw [if_pos h2, Bool.and_eq_true] at h
      rw [show ((⟨#[116, 58]⟩ ++ s : ByteArray).data.toList) = 116 :: 58 :: s.data.toList by simp]
      exact noC_cons (by decide) (noC_cons (by decide) (push_mem h.2))
    · rename_i h2
      rw [if_neg h2] at h
      split
      · rw [show ((⟨#[110]⟩ ++ decB n : ByteArray).data.toList) = 110 :: Lib.itoa n by simp [decB]]
        exact noC_cons (by decide) (hdec n)
      · rename_i h3
        rw [if_neg h3, Bool.and_eq_true, decide_eq_true_eq] at h
        obtain ⟨x, hx, hx2⟩ : ∃ x : Nat, op = ((x + 4 : Nat) : Int) ∧ x < 11 := ⟨(op - 4).toNat, by omega, by omega⟩
        rw [hx, Int.toNat_natCast]
        rcases (by omega : x = 0 ∨ x = 1 ∨ x = 2 ∨ x = 3 ∨ x = 4 ∨ x = 5 ∨ x = 6 ∨ x = 7 ∨ x = 8 ∨ x = 9 ∨ x = 10) with rfl | rfl | rfl | rfl | rfl | rfl | rfl | rfl | rfl | rfl | rfl <;> (unfold noC; decide)

/-! ### Whole texts -/
def insOf (l : List UInt8) : Instrs := (prWords l).map readL
/-- What is read of a text as a program. -/
def readP (l : List UInt8) : Option Instrs := if (prWords l).all readLB && progB (insOf l) then some (insOf l) else none
theorem insOf_get {l : List UInt8} {k : Nat} (h : k < (prWords l).length) : ins0 (insOf l) k = (readL (prWords l)[k]).1 ∧ ins1 (insOf l) k = (readL (prWords l)[k]).2.1 ∧ ins2 (insOf l) k = (readL (prWords l)[k]).2.2 ∧ txAt (insOf l) k = txR (prWords l)[k] := by
  have e : (insOf l).getD k (0, 0, ByteArray.empty) = readL (prWords l)[k] := by
    unfold insOf
    rw [List.getD_eq_getElem?_getD, List.getElem?_map, List.getElem?_eq_getElem h]; rfl
  unfold txAt txR ins0 ins1 ins2
  rw [e]
  exact ⟨rfl, rfl, rfl, rfl⟩
theorem insOf_len (l : List UInt8) : (insOf l).length = (prWords l).length := by unfold insOf; rw [List.length_map]
theorem insOf_in (l : List UInt8) : ∀ i, i < (insOf l).length → In64 (ins1 (insOf l) i) := fun i hi => by
  rw [insOf_len] at hi
  rw [(insOf_get hi).2.1]
  exact readL_in _
theorem txs_words {l : List UInt8} : (txsOf (insOf l) (insOf l).length).map (·.data.toList) = (prWords l).map fun w => (txR w).data.toList := by
  refine List.ext_getElem (by simp [txsOf, insOf_len]) fun i h1 h2 => ?_
  have hi : i < (prWords l).length := by simpa using h2
  simp [txsOf, (insOf_get hi).2.2.2]
theorem readP_back {l : List UInt8} (h : (prWords l).all readLB = true) : (progTo (insOf l) (insOf l).length).data.toList = l := by
  rw [List.all_eq_true] at h
  rw [← join_prog, txs_words]
  have : ((prWords l).map fun w => (txR w).data.toList) = prWords l := by
    conv => rhs; rw [← List.map_id (prWords l)]
    exact List.map_congr_left fun w hw => read_backL (h w hw)
  rw [this, join_prWords]
theorem back_readP {l : List UInt8} (hp : progB (insOf l) = true) (h : (progTo (insOf l) (insOf l).length).data.toList = l) : (prWords l).all readLB = true := by
  rw [List.all_eq_true]
  have hi : ∀ w ∈ prWords l, instrB (readL w).1 (readL w).2.1 (readL w).2.2 = true := by
    intro w hw
    obtain ⟨k, hk, rfl⟩ := List.getElem_of_mem hw
    have := prog_ins hp (k := k) (by rw [insOf_len]; exact hk)
    obtain ⟨e0, e1, e2, _⟩ := insOf_get hk
    rw [e0, e1, e2] at this
    exact this
  intro w hw
  refine back_read (hi w hw) ?_
  have hne : prWords l ≠ [] := fun e => by rw [e] at hw; cases hw
  have hl : l ≠ [] := fun e => by rw [e] at hne; exact hne rfl
  have h2 : splitL 32 l = (prWords l).map fun w => (txR w).data.toList := by
    conv => lhs; rw [← h, ← join_prog, txs_words]
    refine split_joinS 32 _ (by simpa using hne) fun x hx => ?_
    obtain ⟨v, hv, rfl⟩ := List.mem_map.1 hx
    exact insTx_noC (hi v hv)
  have h3 : prWords l = (prWords l).map fun w => (txR w).data.toList := by
    conv => lhs; unfold prWords; rw [if_neg hl]
    exact h2
  obtain ⟨k, hk, rfl⟩ := List.getElem_of_mem hw
  have h4 : (prWords l)[k]? = ((prWords l).map fun w => (txR w).data.toList)[k]? := congrArg (·[k]?) h3
  rw [List.getElem?_map, List.getElem?_eq_getElem hk] at h4
  exact (Option.some.inj h4).symm
/-- How the model decides. -/
theorem readP_model {s : ByteArray} : readP s.data.toList = if s.size ≤ 1000 ∧ progB (insOf s.data.toList) = true ∧ progTo (insOf s.data.toList) (insOf s.data.toList).length = s then some (insOf s.data.toList) else none := by
  unfold readP
  cases hp : progB (insOf s.data.toList) with
  | false => simp
  | true =>
    cases ha : (prWords s.data.toList).all readLB with
    | true =>
      have h1 := readP_back ha
      have h2 : progTo (insOf s.data.toList) (insOf s.data.toList).length = s := ba_eq h1
      have h3 := progTo_size hp (insOf_in s.data.toList) _ (Nat.le_refl _)
      have h4 := prog_few hp
      rw [h2] at h3
      rw [if_pos (by rfl), if_pos ⟨by omega, rfl, h2⟩]
    | false =>
      rw [if_neg (by simp), if_neg]
      rintro ⟨_, _, h⟩
      rw [back_readP hp (by rw [h])] at ha
      cases ha
/-- How the program decides. -/
theorem readP_no {l : List UInt8} {w : List UInt8} (hw : w ∈ prWords l) (h : readLB w = false) : readP l = none := by
  unfold readP
  rw [if_neg]
  intro e
  rw [Bool.and_eq_true, List.all_eq_true] at e
  rw [e.1 w hw] at h
  cases h
theorem readP_many {l : List UInt8} (h : 30 < (prWords l).length) : readP l = none := by
  unfold readP
  rw [prog_long (by rw [insOf_len]; omega), Bool.and_false]; rfl
theorem readP_bad {l : List UInt8} (h : progB (insOf l) = false) : readP l = none := by
  unfold readP
  rw [h, Bool.and_false]; rfl
theorem readP_good {l : List UInt8} (h : progB (insOf l) = true) (ha : ∀ w ∈ prWords l, readLB w = true) : readP l = some (insOf l) := by
  unfold readP
  rw [List.all_eq_true.2 ha, h]; rfl
theorem split_count (c : UInt8) : ∀ l : List UInt8, (splitL c l).length ≤ l.length + 1
  | [] => Nat.le_refl _
  | x :: t => by
    have ih := split_count c t
    unfold splitL
    split
    · simp; omega
    · split
      · rename_i w ws heq
        rw [heq] at ih
        simp at ih ⊢; omega
      · simp
theorem prWords_len (l : List UInt8) : (prWords l).length ≤ l.length + 1 := by
  unfold prWords
  split
  · exact Nat.zero_le _
  · exact split_count 32 l
end Go.Proofs.YthnlllbanfemaaaGreatDoor
