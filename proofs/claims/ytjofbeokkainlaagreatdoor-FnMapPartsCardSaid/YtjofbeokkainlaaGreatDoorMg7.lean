/- Texts put together, as a claim holds at most sixty files. -/
import Derived.Lib.ItoaNum
import Derived.Lib.ParseIntBTie
import Derived.Test.YtjofbeokkainlaaGreatDoorMg0
namespace Go.Proofs.YtjofbeokkainlaaGreatDoor
set_option linter.unusedVariables false

def digit (c : UInt8) : Prop := 48 ≤ c.toNat ∧ c.toNat ≤ 57
instance (c : UInt8) : Decidable (digit c) := by unfold digit; exact inferInstance
/-- What digits spell, behind what is there. -/
def valF (acc : Nat) : List UInt8 → Nat
  | [] => acc
  | c :: r => valF (acc * 10 + (c.toNat - 48)) r

theorem of_digit (d : Nat) (h : d < 10) : (UInt8.ofNat (48 + d)).toNat = 48 + d := by
  simp only [UInt8.toNat_ofNat']
  omega
theorem digit_of (d : Nat) (h : d < 10) : digit (UInt8.ofNat (48 + d)) := by unfold digit; rw [of_digit d h]; omega
theorem digit_back {c : UInt8} (h : digit c) : UInt8.ofNat (48 + (c.toNat - 48)) = c := by
  unfold digit at h
  rw [show 48 + (c.toNat - 48) = c.toNat by omega]
  simp

theorem valF_append : ∀ (a b : List UInt8) (acc : Nat), valF acc (a ++ b) = valF (valF acc a) b
  | [], _, _ => rfl
  | c :: r, b, acc => valF_append r b _
theorem valF_snoc (a : List UInt8) (c : UInt8) (acc : Nat) : valF acc (a ++ [c]) = valF acc a * 10 + (c.toNat - 48) := by rw [valF_append]; rfl
theorem valF_le : ∀ (l : List UInt8) (acc : Nat), acc ≤ valF acc l
  | [], _ => Nat.le_refl _
  | c :: r, acc => Nat.le_trans (show acc ≤ acc * 10 + (c.toNat - 48) by omega) (valF_le r (acc * 10 + (c.toNat - 48)))
theorem valF_lt (l : List UInt8) : ∀ (acc : Nat), (∀ c ∈ l, digit c) → valF acc l < (acc + 1) * 10 ^ l.length := by
  induction l with
  | nil => intro acc _; show acc < (acc + 1) * 1; omega
  | cons c r ih =>
    intro acc h
    have hc := h c (by simp)
    unfold digit at hc
    have h1 := ih (acc * 10 + (c.toNat - 48)) (fun x hx => h x (by simp [hx]))
    have h2 : (acc * 10 + (c.toNat - 48) + 1) * 10 ^ r.length ≤ ((acc + 1) * 10) * 10 ^ r.length := Nat.mul_le_mul_right _ (by omega)
    have h3 : (acc + 1) * 10 ^ (c :: r).length = ((acc + 1) * 10) * 10 ^ r.length := by
      rw [List.length_cons, Nat.pow_succ, Nat.mul_comm (10 ^ r.length) 10, Nat.mul_assoc]
    rw [h3]
    exact Nat.lt_of_lt_of_le h1 h2

theorem dd_big {u : Nat} (h : ¬ u < 10) : Lib.decDigits u = Lib.decDigits (u / 10) ++ [UInt8.ofNat (48 + u % 10)] := by rw [Lib.decDigits, dif_neg h]
theorem dd_one {u : Nat} (h : u < 10) : Lib.decDigits u = [UInt8.ofNat (48 + u)] := by rw [Lib.decDigits, dif_pos h]
theorem dd_digit (u : Nat) : ∀ c ∈ Lib.decDigits u, digit c := by
  induction u using Nat.strongRecOn with
  | _ u ih =>
    intro c hc
    by_cases h : u < 10
    · rw [dd_one h] at hc
      simp only [List.mem_singleton] at hc
      subst hc
      exact digit_of u h
    · rw [dd_big h] at hc
      rcases List.mem_append.1 hc with h1 | h1
      · exact ih (u / 10) (by omega) c h1
      · simp only [List.mem_singleton] at h1
        subst h1
        exact digit_of _ (by omega)
theorem dd_ne (u : Nat) : Lib.decDigits u ≠ [] := by
  by_cases h : u < 10
  · rw [dd_one h]; simp
  · rw [dd_big h]; simp
theorem dd_val (u : Nat) : valF 0 (Lib.decDigits u) = u := by
  induction u using Nat.strongRecOn with
  | _ u ih =>
    by_cases h : u < 10
    · rw [dd_one h]
      show 0 * 10 + ((UInt8.ofNat (48 + u)).toNat - 48) = u
      rw [of_digit u h, Nat.zero_mul, Nat.zero_add, Nat.add_sub_cancel_left]
    · have h10 : u % 10 < 10 := Nat.mod_lt _ (by decide)
      rw [dd_big h, valF_snoc, ih (u / 10) (by omega), of_digit _ h10, Nat.add_sub_cancel_left]
      omega
theorem dd_inj {a b : Nat} (h : Lib.decDigits a = Lib.decDigits b) : a = b := by rw [← dd_val a, ← dd_val b, h]
theorem dd_len_le {u : Nat} : ∀ k, 1 ≤ k → u < 10 ^ k → (Lib.decDigits u).length ≤ k := by
  induction u using Nat.strongRecOn with
  | _ u ih =>
    intro k hk hu
    by_cases h : u < 10
    · rw [dd_one h]; simpa using hk
    · obtain ⟨j, rfl⟩ : ∃ j, k = j + 1 := ⟨k - 1, by omega⟩
      have hj : 1 ≤ j := by
        rcases Nat.eq_zero_or_pos j with e | e
        · subst e; simp at hu; omega
        · exact e
      rw [dd_big h, List.length_append, List.length_singleton]
      rw [Nat.pow_succ] at hu
      have := ih (u / 10) (by omega) j hj (by omega)
      omega
theorem dd_head {u : Nat} (h : 1 ≤ u) : ∀ c r, Lib.decDigits u = c :: r → c ≠ 48 := by
  induction u using Nat.strongRecOn with
  | _ u ih =>
    intro c r hc
    by_cases h1 : u < 10
    · rw [dd_one h1] at hc
      injection hc with e _
      intro e2
      have := of_digit u h1
      rw [e, e2] at this
      have e3 : (48 : UInt8).toNat = 48 := rfl
      omega
    · rw [dd_big h1] at hc
      cases hd : Lib.decDigits (u / 10) with
      | nil => exact absurd hd (dd_ne _)
      | cons c2 r2 =>
        rw [hd] at hc
        injection hc with e _
        rw [← e]
        exact ih (u / 10) (by omega) (by omega) c2 r2 hd
/-- A leading 0 stands alone. -/
theorem dd_zero {u : Nat} {r : List UInt8} (h : Lib.decDigits u = 48 :: r) : r = [] ∧ u = 0 := by
  rcases Nat.eq_zero_or_pos u with e | e
  · subst e
    rw [dd_one (by decide)] at h
    injection h with _ h
    exact ⟨h.symm, rfl⟩
  · exact absurd rfl (dd_head e _ _ h)
/-- Digits that begin well are those of what they spell. -/
theorem dd_of : ∀ (n : Nat) (l : List UInt8), l.length = n → l ≠ [] → (∀ c ∈ l, digit c) → (∀ r, l = 48 :: r → r = []) → Lib.decDigits (valF 0 l) = l
  | 0, l, hn, hne, _, _ => absurd (List.length_eq_zero_iff.1 hn) hne
  | n + 1, l, hn, hne, hd, hz => by
    obtain ⟨a, c, rfl⟩ : ∃ a c, l = a ++ [c] := ⟨l.dropLast, l.getLast hne, (List.dropLast_concat_getLast hne).symm⟩
    have hc := hd c (by simp)
    have hcd : c.toNat - 48 < 10 := by unfold digit at hc; omega
    rw [valF_snoc]
    by_cases ha : a = []
    · subst ha
      show Lib.decDigits (0 * 10 + (c.toNat - 48)) = [c]
      rw [Nat.zero_mul, Nat.zero_add, dd_one hcd, digit_back hc]
    · obtain ⟨x, t, rfl⟩ : ∃ x t, a = x :: t := by
        cases a with
        | nil => exact absurd rfl ha
        | cons x t => exact ⟨x, t, rfl⟩
      have hx48 : x ≠ 48 := by
        intro e
        subst e
        have := hz (t ++ [c]) (by simp)
        simp at this
      have ih := dd_of n (x :: t) (by simpa using hn) (by simp) (fun y hy => hd y (List.mem_append_left _ hy)) (fun r hr => by injection hr with e _; exact absurd e hx48)
      generalize valF 0 (x :: t) = v at ih ⊢
      have hpos : 1 ≤ v := by
        rcases Nat.eq_zero_or_pos v with e | e
        · rw [e, dd_one (by decide)] at ih
          injection ih with e1 _
          exact absurd e1.symm hx48
        · exact e
      rw [dd_big (by omega), show (v * 10 + (c.toNat - 48)) / 10 = v by omega, show (v * 10 + (c.toNat - 48)) % 10 = c.toNat - 48 by omega, ih, digit_back hc]

/-! ### The program's reading -/
theorem pu_ok : ∀ (l : List UInt8) (acc : Nat), (∀ c ∈ l, digit c) → valF acc l < 18446744073709551616 → Lib.parseUint10 acc l = .ok (valF acc l)
  | [], _, _, _ => rfl
  | c :: r, acc, h, hv => by
    have hc := h c (by simp)
    have hle : acc * 10 + (c.toNat - 48) < 18446744073709551616 := Nat.lt_of_le_of_lt (valF_le r (acc * 10 + (c.toNat - 48))) hv
    unfold digit at hc
    have e : Lib.parseUint10 acc (c :: r) = Lib.parseUint10 (acc * 10 + (c.toNat - 48)) r := by
      simp only [Lib.parseUint10]
      rw [if_pos hc, if_neg (by omega), if_neg (by omega)]
    rw [e]
    exact pu_ok r _ (fun x hx => h x (by simp [hx])) hv

/-- The number of which this is the text, if there is one. -/
def numD (l : List UInt8) : Option Int :=
  match Lib.parseIntB 64 l with
  | .ok v => if Lib.itoa v = l then some v else none
  | _ => none

theorem itoa_neg {v : Int} (h : v < 0) : Lib.itoa v = 45 :: Lib.decDigits v.natAbs := by unfold Lib.itoa; rw [if_pos h]
theorem itoa_nat {v : Int} (h : 0 ≤ v) : Lib.itoa v = Lib.decDigits v.toNat := by unfold Lib.itoa; rw [if_neg (by omega)]
theorem parse_itoa {v : Int} (h0 : -9223372036854775808 ≤ v) (h1 : v < 9223372036854775808) : Lib.parseIntB 64 (Lib.itoa v) = .ok v := by
  by_cases h : v < 0
  · rw [itoa_neg h, Lib.parseIntB_minus, Lib.parseUintB_64]
    unfold Lib.parseMag
    rw [if_neg (dd_ne _), pu_ok _ 0 (dd_digit _) (by rw [dd_val]; omega), dd_val]
    unfold Lib.signedC
    simp only
    rw [if_neg (by simp; omega)]
    congr 1
    omega
  · rw [itoa_nat (by omega)]
    cases hd : Lib.decDigits v.toNat with
    | nil => exact absurd hd (dd_ne _)
    | cons c r =>
      have hc : digit c := dd_digit v.toNat c (by rw [hd]; simp)
      unfold digit at hc
      rw [Lib.parseIntB_plain 64 c r (by omega) (by omega), Lib.parseUintB_64]
      unfold Lib.parseMag
      rw [if_neg (by simp), ← hd, pu_ok _ 0 (dd_digit _) (by rw [dd_val]; omega), dd_val]
      unfold Lib.signlessC
      simp only
      rw [if_neg (by simp; omega)]
      congr 1
      omega
theorem numD_iff {l : List UInt8} {v : Int} : numD l = some v ↔ Lib.itoa v = l ∧ -9223372036854775808 ≤ v ∧ v < 9223372036854775808 := by
  constructor
  · intro h
    unfold numD at h
    cases hp : Lib.parseIntB 64 l with
    | ok u =>
      rw [hp] at h
      simp only at h
      by_cases hu : Lib.itoa u = l
      · rw [if_pos hu] at h
        injection h with h
        subst h
        have := Lib.parseIntB_bounds hp
        simp at this
        exact ⟨hu, this.1, this.2⟩
      · rw [if_neg hu] at h; cases h
    | _ => rw [hp] at h; cases h
  · rintro ⟨rfl, h0, h1⟩
    unfold numD
    rw [parse_itoa h0 h1]
    simp
theorem numD_itoa {v : Int} (h0 : -9223372036854775808 ≤ v) (h1 : v < 9223372036854775808) : numD (Lib.itoa v) = some v := numD_iff.2 ⟨rfl, h0, h1⟩
theorem itoa_inj {a b : Int} (ha : -9223372036854775808 ≤ a ∧ a < 9223372036854775808) (hb : -9223372036854775808 ≤ b ∧ b < 9223372036854775808) (h : Lib.itoa a = Lib.itoa b) : a = b := by
  have := numD_itoa ha.1 ha.2
  rw [h, numD_itoa hb.1 hb.2] at this
  injection this with this
  exact this.symm

/-! ### The model's reading -/
/-- The digits behind a sign. -/
def tailN (l : List UInt8) : List UInt8 := if 1 < l.length ∧ l.head? = some 45 then l.drop 1 else l
def negN (l : List UInt8) : Bool := decide (1 < l.length ∧ l.head? = some 45)
theorem num_form {l : List UInt8} {v : Int} (h : numD l = some v) :
    (negN l = false ∧ tailN l = Lib.decDigits v.toNat ∧ 0 ≤ v ∧ v < 9223372036854775808) ∨ (negN l = true ∧ tailN l = Lib.decDigits v.natAbs ∧ v < 0 ∧ -9223372036854775808 ≤ v) := by
  obtain ⟨rfl, h0, h1⟩ := numD_iff.1 h
  by_cases hv : v < 0
  · right
    have hl : 1 < (Lib.itoa v).length ∧ (Lib.itoa v).head? = some 45 := by
      rw [itoa_neg hv]
      have : (Lib.decDigits v.natAbs).length ≠ 0 := fun e => dd_ne _ (List.length_eq_zero_iff.1 e)
      simp
      omega
    refine ⟨decide_eq_true hl, ?_, hv, h0⟩
    unfold tailN
    rw [if_pos hl, itoa_neg hv]
    rfl
  · left
    have hl : ¬ (1 < (Lib.itoa v).length ∧ (Lib.itoa v).head? = some 45) := by
      rw [itoa_nat (by omega)]
      rintro ⟨_, e⟩
      cases hd : Lib.decDigits v.toNat with
      | nil => exact dd_ne _ hd
      | cons c r =>
        have hc : digit c := dd_digit v.toNat c (by rw [hd]; simp)
        rw [hd] at e
        simp at e
        subst e
        exact absurd hc (by decide)
    refine ⟨decide_eq_false hl, ?_, by omega, h1⟩
    unfold tailN
    rw [if_neg hl, itoa_nat (by omega)]
/-- What makes a text a number, as the model looks: the digits, how many, and what they spell. -/
theorem num_yes {l : List UInt8} (hne : tailN l ≠ []) (hd : ∀ c ∈ tailN l, digit c) (hz : ∀ r, tailN l = 48 :: r → r = [] ∧ negN l = false) (hv : (negN l = false → valF 0 (tailN l) < 9223372036854775808) ∧ (negN l = true → valF 0 (tailN l) ≤ 9223372036854775808)) :
    numD l = some (if negN l = true then -((valF 0 (tailN l) : Nat) : Int) else ((valF 0 (tailN l) : Nat) : Int)) := by
  have hof := dd_of _ (tailN l) rfl hne hd (fun r hr => (hz r hr).1)
  rw [numD_iff]
  cases hn : negN l with
  | false =>
    have h1 := hv.1 hn
    have hl : tailN l = l := by
      unfold negN at hn
      unfold tailN
      rw [if_neg (by simpa using hn)]
    simp only [Bool.false_eq_true, if_false]
    refine ⟨?_, by omega, by omega⟩
    rw [itoa_nat (by omega), Int.toNat_natCast, hof, hl]
  | true =>
    have h1 := hv.2 hn
    have hpos : 1 ≤ valF 0 (tailN l) := by
      rcases Nat.eq_zero_or_pos (valF 0 (tailN l)) with e | e
      · rw [e, dd_one (by decide)] at hof
        have := (hz [] hof.symm).2
        rw [hn] at this
        cases this
      · exact e
    simp only [if_true]
    refine ⟨?_, by omega, by omega⟩
    have hl : l = 45 :: tailN l := by
      unfold negN at hn
      have hn2 := of_decide_eq_true hn
      unfold tailN
      rw [if_pos hn2]
      cases l with
      | nil => simp at hn2
      | cons c r =>
        have := hn2.2
        simp at this
        subst this
        rfl
    rw [itoa_neg (by omega), show (-((valF 0 (tailN l) : Nat) : Int)).natAbs = valF 0 (tailN l) by omega, hof]
    exact hl.symm
theorem num_no_len0 {l : List UInt8} (h : tailN l = []) : numD l = none := by
  cases hv : numD l with
  | none => rfl
  | some v => rcases num_form hv with ⟨_, e, _⟩ | ⟨_, e, _⟩ <;> exact absurd (e.symm.trans h) (dd_ne _)
theorem num_no_long {l : List UInt8} (h : 19 < (tailN l).length) : numD l = none := by
  cases hv : numD l with
  | none => rfl
  | some v =>
    rcases num_form hv with ⟨_, e, h0, h1⟩ | ⟨_, e, h0, h1⟩
    · have := @dd_len_le v.toNat 19 (by decide) (by omega)
      rw [e] at h; omega
    · have := @dd_len_le v.natAbs 19 (by decide) (by omega)
      rw [e] at h; omega
theorem num_no_zero {l r : List UInt8} (h : tailN l = 48 :: r) (h2 : r ≠ [] ∨ negN l = true) : numD l = none := by
  cases hv : numD l with
  | none => rfl
  | some v =>
    rcases num_form hv with ⟨hn, e, h0, h1⟩ | ⟨hn, e, h0, h1⟩
    · have hz := dd_zero (e.symm.trans h)
      rcases h2 with h2 | h2
      · exact absurd hz.1 h2
      · rw [hn] at h2; cases h2
    · have hz := dd_zero (e.symm.trans h)
      omega
theorem num_no_digit {l : List UInt8} {c : UInt8} (h : c ∈ tailN l) (h2 : ¬ digit c) : numD l = none := by
  cases hv : numD l with
  | none => rfl
  | some v => rcases num_form hv with ⟨_, e, _⟩ | ⟨_, e, _⟩ <;> exact absurd (dd_digit _ c (by rw [← e]; exact h)) h2
theorem num_no_big {l : List UInt8} (h : (negN l = false ∧ 9223372036854775808 ≤ valF 0 (tailN l)) ∨ (negN l = true ∧ 9223372036854775808 < valF 0 (tailN l))) : numD l = none := by
  cases hv : numD l with
  | none => rfl
  | some v =>
    rcases num_form hv with ⟨hn, e, h0, h1⟩ | ⟨hn, e, h0, h1⟩
    · rw [e, dd_val, hn] at h
      simp at h
      omega
    · rw [e, dd_val, hn] at h
      simp at h
      omega

/-! ### Their lengths, their bytes -/
theorem itoa_ne (v : Int) : Lib.itoa v ≠ [] := by
  by_cases h : v < 0
  · rw [itoa_neg h]; simp
  · rw [itoa_nat (by omega)]; exact dd_ne _
theorem itoa_len {v : Int} (h0 : -9223372036854775808 ≤ v) (h1 : v ≤ 9223372036854775808) : (Lib.itoa v).length ≤ 20 := by
  by_cases h : v < 0
  · rw [itoa_neg h]
    have := @dd_len_le v.natAbs 19 (by decide) (by omega)
    simp; omega
  · rw [itoa_nat (by omega)]
    have := @dd_len_le v.toNat 19 (by decide) (by omega)
    omega
theorem itoa_len_k {v : Int} (k : Nat) (hk : 1 ≤ k) (h0 : 0 ≤ v) (h1 : v.toNat < 10 ^ k) : (Lib.itoa v).length ≤ k := by
  rw [itoa_nat h0]; exact dd_len_le k hk h1
theorem itoa_bytes (v : Int) : ∀ c ∈ Lib.itoa v, c = 45 ∨ digit c := by
  intro c hc
  by_cases h : v < 0
  · rw [itoa_neg h] at hc
    rcases List.mem_cons.1 hc with e | e
    · exact .inl e
    · exact .inr (dd_digit _ c e)
  · rw [itoa_nat (by omega)] at hc
    exact .inr (dd_digit _ c hc)
theorem itoa_noC (c : UInt8) (hc : c ≠ 45 ∧ ¬ digit c) (v : Int) : noC c (Lib.itoa v) := fun x hx e => by
  subst e
  rcases itoa_bytes v x hx with h | h
  · exact hc.1 h
  · exact hc.2 h
/-- The text of a number. -/
def decB (v : Int) : ByteArray := ⟨(Lib.itoa v).toArray⟩
theorem decB_list (v : Int) : (decB v).data.toList = Lib.itoa v := by simp [decB]
theorem decB_size {v : Int} (h0 : -9223372036854775808 ≤ v) (h1 : v ≤ 9223372036854775808) : (decB v).size ≤ 20 := by
  have := itoa_len h0 h1
  simpa [decB, ByteArray.size] using this
end Go.Proofs.YtjofbeokkainlaaGreatDoor
namespace Go.Proofs.YtjofbeokkainlaaGreatDoor

def linesP (P : List (List UInt8)) : Option (List (List UInt8)) :=
  if P.getLast? = some [] ∧ P.dropLast.length ≤ 10 ∧ P.dropLast.all (fun x => decide (x.length ≤ 200)) = true then some P.dropLast else none
def linesB (L : List UInt8) : Option (List (List UInt8)) := linesP (splitL 10 L)
def linesW (L : List UInt8) : List (List UInt8) := (linesB L).getD []
def linesK (L : List UInt8) : Bool := (linesB L).isSome

theorem linesP_done (W : List (List UInt8)) (h1 : W.length ≤ 10) (h2 : ∀ x ∈ W, x.length ≤ 200) : linesP (W ++ [[]]) = some W := by
  unfold linesP
  rw [if_pos]
  · simp
  · refine ⟨by simp, by simpa using h1, ?_⟩
    simpa [List.all_eq_true] using h2
theorem linesP_open (W : List (List UInt8)) (a : List UInt8) (h : a ≠ []) : linesP (W ++ [a]) = none := by
  unfold linesP
  rw [if_neg]
  rintro ⟨h1, _⟩
  simp at h1
  exact h h1
theorem dropLast_cons (W Q : List (List UInt8)) (a : List UInt8) (hQ : Q ≠ []) : (W ++ a :: Q).dropLast = W ++ a :: Q.dropLast := by
  rw [List.dropLast_append_of_ne_nil (by simp), List.dropLast_cons_of_ne_nil hQ]
theorem linesP_long (W Q : List (List UInt8)) (a : List UInt8) (hQ : Q ≠ []) (h : ¬ a.length ≤ 200) : linesP (W ++ a :: Q) = none := by
  unfold linesP
  rw [if_neg]
  rintro ⟨_, _, h3⟩
  rw [dropLast_cons W Q a hQ, List.all_eq_true] at h3
  exact h (of_decide_eq_true (h3 a (by simp)))
theorem linesP_many (W Q : List (List UInt8)) (a : List UInt8) (hQ : Q ≠ []) (h : W.length = 10) : linesP (W ++ a :: Q) = none := by
  unfold linesP
  rw [if_neg]
  rintro ⟨_, h2, _⟩
  rw [dropLast_cons W Q a hQ] at h2
  simp at h2
  omega
theorem linesP_bad (W : List (List UInt8)) (h : ¬ (W.length ≤ 10 ∧ ∀ x ∈ W, x.length ≤ 200)) : linesP (W ++ [[]]) = none := by
  unfold linesP
  rw [if_neg]
  rintro ⟨_, h2, h3⟩
  simp at h2
  rw [List.all_eq_true] at h3
  exact h ⟨h2, fun x hx => of_decide_eq_true (h3 x (by simpa using hx))⟩

theorem split_noC (c : UInt8) : ∀ l : List UInt8, ∀ x ∈ splitL c l, noC c x
  | [], x, hx => by simp [splitL] at hx; subst hx; exact noC_nil
  | y :: t, x, hx => by
    have ih := split_noC c t
    unfold splitL at hx
    split at hx
    · rcases List.mem_cons.1 hx with rfl | h
      · exact noC_nil
      · exact ih x h
    · rename_i hy
      split at hx
      · rename_i w ws heq
        rcases List.mem_cons.1 hx with rfl | h
        · intro z hz
          rcases List.mem_cons.1 hz with rfl | h2
          · exact hy
          · exact ih w (by rw [heq]; simp) z h2
        · exact ih x (by rw [heq]; simp [h])
      · simp at hx; subst hx
        intro z hz
        simp at hz
        subst hz
        exact hy

theorem split_short (c : UInt8) : ∀ l : List UInt8, ∀ x ∈ splitL c l, x.length ≤ l.length
  | [], x, hx => by simp [splitL] at hx; subst hx; simp
  | y :: t, x, hx => by
    have ih := split_short c t
    unfold splitL at hx
    split at hx
    · rcases List.mem_cons.1 hx with rfl | h
      · simp
      · have := ih x h; simp; omega
    · split at hx
      · rename_i w ws heq
        rcases List.mem_cons.1 hx with rfl | h
        · have := ih w (by rw [heq]; simp)
          simp; omega
        · have := ih x (by rw [heq]; simp [h])
          simp; omega
      · simp at hx; subst hx; simp
theorem linesB_some (L : List UInt8) (W : List (List UInt8)) (h : linesB L = some W) : W.length ≤ 10 ∧ (∀ x ∈ W, x.length ≤ 200 ∧ noC 10 x) ∧ splitL 10 L = W ++ [[]] := by
  unfold linesB linesP at h
  split at h
  · rename_i h1
    obtain ⟨h1, h2, h3⟩ := h1
    obtain rfl := Option.some.inj h
    rw [List.all_eq_true] at h3
    refine ⟨h2, fun x hx => ⟨of_decide_eq_true (h3 x hx), split_noC 10 L x (List.dropLast_subset _ hx)⟩, ?_⟩
    obtain ⟨ys, e⟩ := List.getLast?_eq_some_iff.1 h1
    rw [e]; simp
  · cases h

theorem linesW_few (L : List UInt8) : (linesW L).length ≤ 10 ∧ ∀ x ∈ linesW L, x.length ≤ 200 := by
  unfold linesW
  cases h : linesB L with
  | none => simp
  | some W => obtain ⟨h1, h2, _⟩ := linesB_some L W h; exact ⟨h1, fun x hx => (h2 x hx).1⟩
theorem lines_none {L : List UInt8} (h : linesB L = none) : linesW L = [] ∧ linesK L = false := by unfold linesW linesK; rw [h]; exact ⟨rfl, rfl⟩
theorem lines_some {L : List UInt8} {W : List (List UInt8)} (h : linesB L = some W) : linesW L = W ∧ linesK L = true := by unfold linesW linesK; rw [h]; exact ⟨rfl, rfl⟩

/-- The text of lines. -/
def joinN : List (List UInt8) → List UInt8
  | [] => []
  | a :: t => a ++ 10 :: joinN t
theorem joinN_snoc : ∀ (A : List (List UInt8)) (w : List UInt8), joinN (A ++ [w]) = joinN A ++ w ++ [10]
  | [], w => by simp [joinN]
  | a :: t, w => by simp [joinN, joinN_snoc t w]
theorem joinN_len : ∀ (A : List (List UInt8)) (m : Nat), (∀ x ∈ A, x.length ≤ m) → (joinN A).length ≤ A.length * (m + 1)
  | [], m, _ => by simp [joinN]
  | a :: t, m, h => by
    have := joinN_len t m (fun x hx => h x (by simp [hx]))
    have h1 := h a (by simp)
    simp only [joinN, List.length_append, List.length_cons, Nat.add_mul]
    omega
theorem split_joinN : ∀ A : List (List UInt8), (∀ x ∈ A, noC 10 x) → splitL 10 (joinN A) = A ++ [[]]
  | [], _ => rfl
  | a :: t, h => by
    rw [joinN, splitL_at 10 a _ (h a (by simp)), split_joinN t (fun x hx => h x (by simp [hx]))]
    rfl
theorem joinN_split : ∀ L : List UInt8, ∀ A, splitL 10 L = A ++ [[]] → joinN A = L
  | [], A, h => by
    have : A = [] := by
      have := congrArg List.length h
      simp [splitL] at this
      exact this
    subst this; rfl
  | y :: t, A, h => by
    unfold splitL at h
    split at h
    · rename_i hy
      match A, h with
      | [], h => have := congrArg List.length h; simp at this; exact absurd this (splitL_ne 10 t)
      | a :: A', h =>
        simp only [List.cons_append, List.cons.injEq] at h
        obtain ⟨rfl, h⟩ := h
        rw [joinN, joinN_split t A' h, hy]; rfl
    · split at h
      · rename_i w ws heq
        match A, h with
        | [], h => simp at h
        | a :: A', h =>
          simp only [List.cons_append, List.cons.injEq] at h
          obtain ⟨rfl, h⟩ := h
          have := joinN_split t (w :: A') (by rw [heq, h]; rfl)
          rw [joinN] at this ⊢
          rw [← this]; rfl
      · rename_i heq; exact absurd heq (splitL_ne 10 t)
/-- Lines that come back. -/
def rightL (W : List (List UInt8)) : Bool := decide (W.length ≤ 10) && W.all fun x => decide (x.length ≤ 200) && x.all fun c => c != 10
theorem rightL_iff (W : List (List UInt8)) : rightL W = true ↔ W.length ≤ 10 ∧ ∀ x ∈ W, x.length ≤ 200 ∧ noC 10 x := by
  unfold rightL noC
  simp [List.all_eq_true]
theorem linesB_of_split {L : List UInt8} {W : List (List UInt8)} (h : splitL 10 L = W ++ [[]]) : linesB L = if rightL W = true then some W else none := by
  have hno : ∀ x ∈ W, noC 10 x := fun x hx => split_noC 10 L x (by rw [h]; simp [hx])
  unfold linesB
  rw [h]
  by_cases hr : rightL W = true
  · rw [if_pos hr]
    obtain ⟨h1, h2⟩ := (rightL_iff W).1 hr
    exact linesP_done W h1 (fun x hx => (h2 x hx).1)
  · rw [if_neg hr]
    refine linesP_bad W fun ⟨h1, h2⟩ => hr ((rightL_iff W).2 ⟨h1, fun x hx => ⟨h2 x hx, hno x hx⟩⟩)
end Go.Proofs.YtjofbeokkainlaaGreatDoor
