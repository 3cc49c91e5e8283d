/- Texts put together, as a claim holds at most sixty files. -/
import Derived.Test.YtjofbeokkainlaaGreatDoorMg7
import Derived.Test.YtjofbeokkainlaaGreatDoorMg0
import Derived.Lib.Strings
namespace Go.Proofs.YtjofbeokkainlaaGreatDoor
open Go.ChangeShapes Go.WideShapes Go.ChangeAt Go.RowKit
set_option linter.unusedVariables false
set_option maxRecDepth 100000

/-- The end of a function that returns a text and makes at most new blocks. -/
def MadeTx (s : ByteArray) (w : World) (e : Ending) (w' : World) : Prop := e = .returned (.string s) ∧ Below w.heap.size w w'

theorem dig_cons (K : Nat) (O : ByteArray) (x : Int) (hx : x = (48 : Int) + (K : Int)) : (strOfNums [x] ++ O).data.toList = UInt8.ofNat (48 + K) :: O.data.toList := by
  subst hx
  have e : ((48 : Int) + (K : Int)).toNat = 48 + K := by omega
  simp [strOfNums, e]
theorem ba_eq {a b : ByteArray} (h : a.data.toList = b.data.toList) : a = b := by
  cases a; cases b; simp at h; congr

theorem dec_end {U M : Nat} {O : ByteArray} (h : Lib.decDigits M ++ O.data.toList = Lib.decDigits U) (hM : M < 10) (x : Int) (hx : x = (48 : Int) + (M : Int)) (n : Int) (hn : 0 ≤ n) (hU : U = n.toNat) : strOfNums [x] ++ O = decB n := by
  apply ba_eq
  rw [dig_cons M O x hx, decB_list, itoa_nat hn, ← hU, ← h, dd_one hM]
  rfl
theorem dec_end2 {U M : Nat} {O : ByteArray} (h : Lib.decDigits M ++ O.data.toList = Lib.decDigits U) (hM : M < 10) (x : Int) (hx : x = (48 : Int) + (M : Int)) (n : Int) (hn : n < 0) (hU : U = n.natAbs) : (⟨#[45]⟩ : ByteArray) ++ (strOfNums [x] ++ O) = decB n := by
  apply ba_eq
  rw [decB_list, itoa_neg hn, ← hU, ← h, dd_one hM]
  have := dig_cons M O x hx
  rw [ByteArray.data_append, Array.toList_append, this]
  rfl
theorem dec_round {U M : Nat} {O : ByteArray} (h : Lib.decDigits M ++ O.data.toList = Lib.decDigits U) (hM : 10 ≤ M) (x : Int) (hx : x = (48 : Int) + ((M % 10 : Nat) : Int)) : Lib.decDigits (M / 10) ++ (strOfNums [x] ++ O).data.toList = Lib.decDigits U := by
  rw [dig_cons (M % 10) O x hx, ← h, dd_big (by omega : ¬ M < 10), List.append_assoc]
  rfl
theorem dec_size {U M : Nat} {O : ByteArray} (h : Lib.decDigits M ++ O.data.toList = Lib.decDigits U) (hU : U ≤ 9223372036854775808) : O.size ≤ 19 := by
  have h1 := @dd_len_le U 19 (by decide) (by omega)
  have h2 := congrArg List.length h
  simp at h2
  have h3 : O.size = O.data.size := rfl
  omega

set_option maxHeartbeats 2000000 in
theorem l1dec_any (n : Int) (h0 : -9223372036854775808 ≤ n) (h1 : n < 9223372036854775808) (w : World) :
    Calls Tryz.prog 41 #[.int .i64 n] w (MadeTx (decB n) w) := by
  have kc : ∀ (wx : World) (y : Int), (convert 22 9 (.slice (some ⟨wx.heap.size, 0, none⟩) 1 1)).run Tryz.prog (wx.alloc (.cells #[.int .u8 y] 5)) = .ok (.string (strOfNums [y])) (wx.alloc (.cells #[.int .u8 y] 5)) := fun wx y =>
    run_convert_bytes_arg _ _ _ Tryz.underlying22 Tryz.underlying5 wx.heap.size 0 1 1 [y] rfl (fun i hi => by
      obtain rfl : i = 0 := by omega
      exact cell_of_one (heap_alloc_new _ _)) _ Tryz.underlying9
  obtain ⟨U, hU⟩ : ∃ U : Nat, U = n.natAbs := ⟨_, rfl⟩
  have hU2 : U ≤ 9223372036854775808 := by omega
  by_cases hneg : n < 0
  · have e1 : IntKind.u64.wrap n = n + 18446744073709551616 := by simp [IntKind.wrap, IntKind.bits, IntKind.signed]; omega
    have e2 : IntKind.u64.wrap (-(n + 18446744073709551616)) = (U : Int) := by simp [IntKind.wrap, IntKind.bits, IntKind.signed]; omega
    have HU := Lib.hid hU
    have HN := Lib.hid hneg
    clear hU
    go_enter Tryz.func41, Tryz.ntmps41
    go_wp2
    go_loopw [3, 4] (fun m o wr => ∃ (M : Nat) (O : ByteArray), m = .int .u64 M ∧ o = .string O ∧ M ≤ 9223372036854775808 ∧ Hid (Below w.heap.size w wr ∧ Lib.decDigits M ++ O.data.toList = Lib.decDigits U)) (fun m _ _ => (intOf m).toNat)
    case atStart => exact ⟨U, ByteArray.empty, rfl, rfl, hU2, Below.refl _ _, by simp⟩
    case round =>
      obtain ⟨M, O, rfl, rfl, hM, HW⟩ := hrel
      clear e1 e2
      have hO := dec_size HW.out.2 hU2
      by_cases hK : 10 ≤ M
      · have hb1 : 0 ≤ (48 : Int) + (M : Int) % 10 := by omega
        have hb2 : (48 : Int) + (M : Int) % 10 ≤ 57 := by omega
        have hso : (strOfNums [(48 : Int) + (M : Int) % 10]).size ≤ 1 := Nat.le_refl 1
        have HR := Lib.hid (dec_round HW.out.2 hK ((48 : Int) + (M : Int) % 10) (by omega))
        go_wp2
        go_roundw
        case rel => exact ⟨M / 10, _, by go_num, rfl, by omega, below_alloc HW.out.1 _, HR.out⟩
        case measure => simp [intOf]; omega
      · have hb1 : 0 ≤ (48 : Int) + (M : Int) := by omega
        have hb2 : (48 : Int) + (M : Int) ≤ 57 := by omega
        have hso : (strOfNums [(48 : Int) + (M : Int)]).size ≤ 1 := Nat.le_refl 1
        have hn2 : n < 0 := HN.out
        have HE := Lib.hid (dec_end2 HW.out.2 (by omega) ((48 : Int) + (M : Int)) rfl n HN.out HU.out)
        go_wp2
        go_ret
        exact ⟨congrArg (fun s => Ending.returned (.string s)) HE.out, below_alloc HW.out.1 _⟩
  · have e1 : IntKind.u64.wrap n = (U : Int) := by simp [IntKind.wrap, IntKind.bits, IntKind.signed]; omega
    have HU := Lib.hid hU
    have HN := Lib.hid hneg
    clear hU
    go_enter Tryz.func41, Tryz.ntmps41
    go_wp2
    go_loopw [3, 4] (fun m o wr => ∃ (M : Nat) (O : ByteArray), m = .int .u64 M ∧ o = .string O ∧ M ≤ 9223372036854775808 ∧ Hid (Below w.heap.size w wr ∧ Lib.decDigits M ++ O.data.toList = Lib.decDigits U)) (fun m _ _ => (intOf m).toNat)
    case atStart => exact ⟨U, ByteArray.empty, rfl, rfl, hU2, Below.refl _ _, by simp⟩
    case round =>
      obtain ⟨M, O, rfl, rfl, hM, HW⟩ := hrel
      clear e1
      have hO := dec_size HW.out.2 hU2
      by_cases hK : 10 ≤ M
      · have hb1 : 0 ≤ (48 : Int) + (M : Int) % 10 := by omega
        have hb2 : (48 : Int) + (M : Int) % 10 ≤ 57 := by omega
        have hso : (strOfNums [(48 : Int) + (M : Int) % 10]).size ≤ 1 := Nat.le_refl 1
        have HR := Lib.hid (dec_round HW.out.2 hK ((48 : Int) + (M : Int) % 10) (by omega))
        go_wp2
        go_roundw
        case rel => exact ⟨M / 10, _, by go_num, rfl, by omega, below_alloc HW.out.1 _, HR.out⟩
        case measure => simp [intOf]; omega
      · have hb1 : 0 ≤ (48 : Int) + (M : Int) := by omega
        have hb2 : (48 : Int) + (M : Int) ≤ 57 := by omega
        have hso : (strOfNums [(48 : Int) + (M : Int)]).size ≤ 1 := Nat.le_refl 1
        have hn0 : 0 ≤ n := by omega
        have HE := Lib.hid (dec_end HW.out.2 (by omega) ((48 : Int) + (M : Int)) rfl n hn0 (by rw [HU.out]; omega))
        go_wp2
        go_ret
        exact ⟨congrArg (fun s => Ending.returned (.string s)) HE.out, below_alloc HW.out.1 _⟩
end Go.Proofs.YtjofbeokkainlaaGreatDoor
namespace Go.Proofs.YtjofbeokkainlaaGreatDoor
open Go.ChangeShapes Go.WideShapes Go.ChangeAt Go.RowKit
set_option linter.unusedVariables false

theorem ba_eqv {a b : ByteArray} (h : a = b) : (a.toList == b.toList) = true := by rw [h]; simp
theorem ba_nev {a b : ByteArray} (h : ¬ a = b) : (a.toList == b.toList) = false := by
  rw [beq_eq_false_iff_ne]
  intro e
  rw [ByteArray.toList_eq, ByteArray.toList_eq] at e
  exact h (ba_eq e)
theorem ba_some {s : ByteArray} (h : 0 < s.size) : s.toList.isEmpty = false := by
  rw [ByteArray.toList_eq]
  cases hs : s.data.toList with
  | nil =>
    have : s.size = 0 := by rw [← ByteArray.size_data, ← Array.length_toList, hs]; rfl
    omega
  | cons x t => rfl
theorem ba_nil {s : ByteArray} (h : s.size = 0) : s.toList.isEmpty = true := by
  rw [ByteArray.toList_eq]
  have : s.data.toList = [] := List.eq_nil_of_length_eq_zero (by rw [Array.length_toList]; exact h)
  rw [this]; rfl
theorem lit_yes {a : ByteArray} {l : List UInt8} (h : a = ⟨l.toArray⟩) : (a.toList == l) = true := by rw [ByteArray.toList_eq, h]; simp
theorem lit_no {a : ByteArray} {l : List UInt8} (h : ¬ a = ⟨l.toArray⟩) : (a.toList == l) = false := by
  rw [ByteArray.toList_eq, beq_eq_false_iff_ne]
  intro e
  exact h (ba_eq (by rw [e]))
end Go.Proofs.YtjofbeokkainlaaGreatDoor
namespace Go.Proofs.YtjofbeokkainlaaGreatDoor
open Go.ChangeShapes Go.WideShapes Go.ChangeAt Go.RowKit
set_option linter.unusedVariables false
set_option maxRecDepth 100000

def MadeNum (o : Option Int) (w : World) (e : Ending) (w' : World) : Prop := e = .returned (.tuple #[.int .i64 (o.getD 0), .bool o.isSome]) ∧ Below w.heap.size w w'
theorem num_fail {o : Option Int} {w w' : World} (h : o = none) (hB : Below w.heap.size w w') : MadeNum o w (.returned (.tuple #[.int .i64 0, .bool false])) w' := by
  subst h
  exact ⟨rfl, hB⟩
theorem num_good {o : Option Int} {v : Int} {w w' : World} (h : o = some v) (hB : Below w.heap.size w w') : MadeNum o w (.returned (.tuple #[.int .i64 v, .bool true])) w' := by
  subst h
  exact ⟨rfl, hB⟩
theorem take_snoc (s : ByteArray) (k : Nat) (h : k < s.size) : s.data.toList.take (k + 1) = s.data.toList.take k ++ [s[k]] := by
  rw [List.take_succ_eq_append_getElem (by simpa using h)]; rfl
theorem pow_le18 {x k : Nat} (h : x < 10 ^ k) (hk : k ≤ 18) : x < 1000000000000000000 := Nat.lt_of_lt_of_le h (by have := Nat.pow_le_pow_right (n := 10) (by decide) hk; simpa using this)
theorem pow_le19 {x k : Nat} (h : x < 10 ^ k) (hk : k ≤ 19) : x < 10000000000000000000 := Nat.lt_of_lt_of_le h (by have := Nat.pow_le_pow_right (n := 10) (by decide) hk; simpa using this)
theorem val_lt0 {l : List UInt8} (h : ∀ c ∈ l, digit c) : valF 0 l < 10 ^ l.length := by
  have := valF_lt l 0 h
  simpa using this
/-- The digits so far. -/
structure NumSt (T : ByteArray) (k : Nat) (x : Nat) : Prop where
  dig : ∀ c ∈ T.data.toList.take k, digit c
  val : valF 0 (T.data.toList.take k) = x
theorem NumSt.lt {T : ByteArray} {k x : Nat} (h : NumSt T k x) (hk : k ≤ T.size) (h18 : k ≤ 18) : x < 1000000000000000000 := by
  have := val_lt0 h.dig
  rw [h.val, List.length_take] at this
  exact pow_le18 this (by omega)
theorem NumSt.step {T : ByteArray} {k x : Nat} (h : NumSt T k x) (hk : k < T.size) (hd : digit T[k]) : NumSt T (k + 1) (x * 10 + (T[k].toNat - 48)) :=
  ⟨fun c hc => by
    rw [take_snoc T k hk] at hc
    rcases List.mem_append.1 hc with h1 | h1
    · exact h.dig c h1
    · simp only [List.mem_singleton] at h1
      subst h1; exact hd, by rw [take_snoc T k hk, valF_snoc, h.val]⟩
theorem NumSt.all {T : ByteArray} {x : Nat} (h : NumSt T T.size x) : (∀ c ∈ T.data.toList, digit c) ∧ valF 0 T.data.toList = x := by
  have e : T.data.toList.take T.size = T.data.toList := List.take_of_length_le (by simp)
  exact ⟨by have := h.dig; rwa [e] at this, by have := h.val; rwa [e] at this⟩
theorem head_zero {T : ByteArray} {r : List UInt8} (h : T.data.toList = 48 :: r) : ∃ h0 : 0 < T.size, T[0] = 48 ∧ T.size = r.length + 1 := by
  have hs : T.size = r.length + 1 := by
    have := congrArg List.length h
    simpa using this
  refine ⟨by omega, ?_, hs⟩
  have h1 : T.data.toList[0]? = some 48 := by rw [h]; rfl
  have h2 : T.data.toList[0]? = some T[0] := by
    rw [List.getElem?_eq_getElem (by simpa using (show 0 < T.size by omega))]; rfl
  rw [h1] at h2
  injection h2 with h2
  exact h2.symm
theorem zero_head {T : ByteArray} (h0 : 0 < T.size) (h : T[0] = 48) : ∃ r, T.data.toList = 48 :: r ∧ T.size = r.length + 1 := by
  cases hl : T.data.toList with
  | nil =>
    have h2 : T.data.toList.length = T.size := by simp
    rw [hl] at h2
    exact absurd h2 (by simp; omega)
  | cons c r =>
    have h1 : T.data.toList[0]'(by simpa using h0) = T[0] := rfl
    simp only [hl, List.getElem_cons_zero] at h1
    rw [h] at h1
    subst h1
    refine ⟨r, rfl, ?_⟩
    have := congrArg List.length hl
    simpa using this
theorem byte_is {c : UInt8} {n : Nat} (h : c.toNat = n) (hn : n < 256) : c = UInt8.ofNat n := by
  subst h; simp

/-- What is known of a text and of what stands behind its sign. -/
structure SignAt (s T : ByteArray) (b : Bool) : Prop where
  tail : tailN s.data.toList = T.data.toList
  neg : negN s.data.toList = b
theorem mem_at {T : ByteArray} {k : Nat} (hk : k < T.size) : T[k] ∈ T.data.toList := by
  have : T[k] = T.data.toList[k]'(by simpa using hk) := rfl
  rw [this]; exact List.getElem_mem _
theorem no_byte {s T : ByteArray} {b : Bool} (h : SignAt s T b) {k : Nat} (hk : k < T.size) (hd : ¬ digit T[k]) : numD s.data.toList = none :=
  num_no_digit (by rw [h.tail]; exact mem_at hk) hd
theorem no_first {s T : ByteArray} {b : Bool} (h : SignAt s T b) (h0 : 0 < T.size) (hz : T[0] = 48) (h2 : 1 < T.size ∨ b = true) : numD s.data.toList = none := by
  obtain ⟨r, hr, hs⟩ := zero_head h0 hz
  refine num_no_zero (by rw [h.tail]; exact hr) ?_
  rcases h2 with h2 | h2
  · left; intro e; subst e; simp at hs; omega
  · right; rw [h.neg, h2]
theorem no_empty {s T : ByteArray} {b : Bool} (h : SignAt s T b) (h0 : T.size = 0) : numD s.data.toList = none :=
  num_no_len0 (by rw [h.tail]; exact List.length_eq_zero_iff.1 (by simpa using h0))
theorem no_long {s T : ByteArray} {b : Bool} (h : SignAt s T b) (h0 : 19 < T.size) : numD s.data.toList = none :=
  num_no_long (by rw [h.tail]; simpa using h0)
theorem no_big {s T : ByteArray} {b : Bool} (h : SignAt s T b) {x : Nat} (hx : NumSt T T.size x) (h2 : (b = false ∧ 9223372036854775808 ≤ x) ∨ (b = true ∧ 9223372036854775808 < x)) : numD s.data.toList = none :=
  num_no_big (by rw [h.tail, h.neg, hx.all.2]; exact h2)
def FirstOk (T : ByteArray) (b : Bool) : Prop := ∀ h0 : 0 < T.size, ¬ (T[0] = 48 ∧ (1 < T.size ∨ b = true))
theorem ne_nil {T : ByteArray} (h0 : 0 < T.size) : T.data.toList ≠ [] := by
  intro e
  have h2 : T.data.toList.length = T.size := by simp
  rw [e] at h2
  exact absurd h2 (by simp; omega)
theorem numst0 (T : ByteArray) : NumSt T 0 0 := ⟨fun c hc => by rw [List.take_zero] at hc; exact absurd hc (by simp), by rw [List.take_zero]; rfl⟩
theorem is_num {s T : ByteArray} {b : Bool} (h : SignAt s T b) {x : Nat} (hx : NumSt T T.size x) (h0 : 0 < T.size) (hz : ¬ (T[0] = 48 ∧ (1 < T.size ∨ b = true))) (hv : (b = false → x < 9223372036854775808) ∧ (b = true → x ≤ 9223372036854775808)) :
    numD s.data.toList = some (if b = true then -((x : Nat) : Int) else ((x : Nat) : Int)) := by
  have := @num_yes s.data.toList (by rw [h.tail]; exact ne_nil h0) (by rw [h.tail]; exact hx.all.1)
    (fun r hr => by
      rw [h.tail] at hr
      obtain ⟨h1, h2, h3⟩ := head_zero hr
      have h4 : ¬ (1 < T.size ∨ b = true) := fun e => hz ⟨h2, e⟩
      refine ⟨?_, ?_⟩
      · cases r with
        | nil => rfl
        | cons a t => exact absurd (.inl (by simp at h3; omega)) h4
      · rw [h.neg]
        cases b with
        | false => rfl
        | true => exact absurd (.inr rfl) h4)
    (by rw [h.tail, h.neg, hx.all.2]; exact hv)
  rw [h.tail, h.neg, hx.all.2] at this
  exact this
theorem sign_pos {s : ByteArray} (h : ¬ (1 < s.size ∧ ∃ h0 : 0 < s.size, s[0] = 45)) : SignAt s s false := by
  have hn : ¬ (1 < s.data.toList.length ∧ s.data.toList.head? = some 45) := by
    rintro ⟨h1, h2⟩
    have h1' : 1 < s.size := by simpa using h1
    refine h ⟨h1', by omega, ?_⟩
    rw [List.head?_eq_getElem?, List.getElem?_eq_getElem (by omega)] at h2
    injection h2
  exact ⟨by unfold tailN; rw [if_neg hn], decide_eq_false hn⟩
theorem sign_neg {s : ByteArray} (h1 : 1 < s.size) (h0 : 0 < s.size) (h : s[0] = 45) : SignAt s (s.extract 1 s.size) true := by
  have hn : 1 < s.data.toList.length ∧ s.data.toList.head? = some 45 := by
    refine ⟨by simpa using h1, ?_⟩
    rw [List.head?_eq_getElem?, List.getElem?_eq_getElem (by simpa using h0)]
    exact congrArg some h
  refine ⟨?_, decide_eq_true hn⟩
  unfold tailN
  rw [if_pos hn]
  have : (s.extract 1 s.size).data.toList = (s.data.toList.drop 1).take (s.size - 1) := by simp
  rw [this, List.take_of_length_le (by simp)]

set_option maxHeartbeats 4000000 in
theorem l1num_any (s : ByteArray) (w : World) (hs : s.size ≤ maxLen) : Calls Tryz.prog 106 #[.string s] w (MadeNum (numD s.data.toList) w) := by
  unfold maxLen at hs
  by_cases hsg : 1 < s.size ∧ ∃ h0 : 0 < s.size, s[0] = 45
  · obtain ⟨hs1, h0, h45⟩ := hsg
    have hb45 : ((s[0].toNat : Int) == 45) = true := by rw [h45]; rfl
    have HSG := Lib.hid (sign_neg hs1 h0 h45)
    have hTs : (s.extract 1 s.size).size = s.size - 1 := by rw [ByteArray.size_extract]; omega
    obtain ⟨T, hT⟩ : ∃ T, s.extract 1 s.size = T := ⟨_, rfl⟩
    rw [hT] at HSG hTs
    have hT1 : (T.size : Int) < (s.size : Int) := by omega
    have hT2 : 0 < T.size := by omega
    have hT3 : (1 : Int) ≤ (s.size : Int) := by omega
    have hs2 : (1 : Int) < (s.size : Int) := by omega
    have hT4 : ¬ (T.size : Int) < 1 := by omega
    clear h45 hTs
    by_cases hlen : T.size ≤ 19
    · have hT5 : ¬ (19 : Int) < (T.size : Int) := by omega
      by_cases hz : T[0] = 48
      · have hz2 : ((T[0].toNat : Int) == 48) = true := by rw [hz]; rfl
        have HR := Lib.hid (no_first HSG.out hT2 hz (.inr rfl))
        clear hz
        go_enter Tryz.func106, Tryz.ntmps106
        go_wp2
        all_goals
          go_ret2
          exact num_fail HR.out (Below.refl _ _)
      · have HZ := Lib.hid (show FirstOk T true from fun _ e => hz e.1)
        have hz2 : ((T[0].toNat : Int) == 48) = false := by
          rw [beq_eq_false_iff_ne]
          intro e
          exact hz (byte_is (n := 48) (by omega) (by decide))
        clear hz
        go_enter Tryz.func106, Tryz.ntmps106
        go_wp2
        go_loop [6, 7] (fun n i => ∃ (k x : Nat), k ≤ T.size ∧ i = .int .i64 k ∧ n = .int .u64 x ∧ Hid (NumSt T k x)) (fun _ i => T.size - (intOf i).toNat)
        case atStart => exact ⟨0, 0, Nat.zero_le _, rfl, rfl, Lib.hid (numst0 _)⟩
        case round =>
          obtain ⟨k, x, hk, rfl, rfl, HX⟩ := hrel
          by_cases hlt : k < T.size
          · have hi0 : (0 : Int) ≤ (k : Int) := by omega
            have hi1 : (k : Int) < (T.size : Int) := by omega
            have hx18 := HX.out.lt (Nat.le_of_lt hlt) (by omega)
            by_cases hd : digit T[k]
            · have HX2 := Lib.hid (HX.out.step hlt hd)
              unfold digit at hd
              obtain ⟨hd1, hd2⟩ := hd
              have hd3 : ¬ ((T[k].toNat : Nat) : Int) < 48 := by omega
              have hd4 : ¬ (57 : Int) < ((T[k].toNat : Nat) : Int) := by omega
              go_wp2
              go_round
              case rel => exact ⟨k + 1, _, by omega, by go_num, by go_num, HX2⟩
              case measure => simp [intOf]; omega
            · have HR := Lib.hid (no_byte HSG.out hlt hd)
              unfold digit at hd
              by_cases hd3 : ((T[k].toNat : Nat) : Int) < 48
              · clear hd
                go_wp2
                go_ret2
                exact num_fail HR.out (Below.refl _ _)
              · have hd4 : (57 : Int) < ((T[k].toNat : Nat) : Int) := by omega
                clear hd
                go_wp2
                go_ret2
                exact num_fail HR.out (Below.refl _ _)
          · obtain rfl : k = T.size := by omega
            have hx19 : (x : Int) < 10000000000000000000 := by
              have h1 := val_lt0 HX.out.all.1
              rw [HX.out.all.2] at h1
              have := pow_le19 h1 (by simpa using hlen)
              omega
            by_cases hbig : (9223372036854775808 : Int) < (x : Int)
            · have HR := Lib.hid (no_big HSG.out HX.out (.inr ⟨rfl, by omega⟩))
              go_wp2
              go_ret2
              exact num_fail HR.out (Below.refl _ _)
            · have HR := Lib.hid (is_num HSG.out HX.out hT2 (HZ.out hT2) ⟨fun h => by simp at h, fun _ => by omega⟩)
              obtain ⟨y, hy⟩ : ∃ y : Int, (if x = 0 then 0 else 18446744073709551616 - (x : Int)) = y := ⟨_, rfl⟩
              have e1 : IntKind.u64.wrap (-(x : Int)) = y := by rw [← hy]; simp [IntKind.wrap, IntKind.bits, IntKind.signed]; split <;> omega
              have e2 : IntKind.i64.wrap y = -(x : Int) := by rw [← hy]; simp [IntKind.wrap, IntKind.bits, IntKind.signed]; split <;> split <;> omega
              clear hy
              go_wp2
              go_ret2
              exact num_good HR.out (Below.refl _ _)

    · have hlen2 : (19 : Int) < (T.size : Int) := by omega
      have HR := Lib.hid (no_long HSG.out (by omega))
      go_enter Tryz.func106, Tryz.ntmps106
      go_wp2
      all_goals
        go_ret2
        exact num_fail HR.out (Below.refl _ _)
  · have HSG := Lib.hid (sign_pos hsg)
    by_cases h0 : 0 < s.size
    · by_cases hs1 : (1 : Int) < (s.size : Int)
      · have hb45 : ((s[0].toNat : Int) == 45) = false := by
          rw [beq_eq_false_iff_ne]
          intro e
          exact hsg ⟨by omega, h0, byte_is (n := 45) (by omega) (by decide)⟩
        clear hsg
        have hT4 : ¬ (s.size : Int) < 1 := by omega
        by_cases hlen : s.size ≤ 19
        · have hT5 : ¬ (19 : Int) < (s.size : Int) := by omega
          by_cases hz : s[0] = 48
          · have hz2 : ((s[0].toNat : Int) == 48) = true := by rw [hz]; rfl
            have h1 : 1 < s.size := by omega
            have HR := Lib.hid (no_first HSG.out h0 hz (.inl h1))
            clear hz
            go_enter Tryz.func106, Tryz.ntmps106
            go_wp2
            all_goals
              go_ret2
              exact num_fail HR.out (Below.refl _ _)
          · have HZ := Lib.hid (show FirstOk s false from fun _ e => hz e.1)
            have hz2 : ((s[0].toNat : Int) == 48) = false := by
              rw [beq_eq_false_iff_ne]
              intro e
              exact hz (byte_is (n := 48) (by omega) (by decide))
            clear hz
            go_enter Tryz.func106, Tryz.ntmps106
            go_wp2
            go_loop [6, 7] (fun n i => ∃ (k x : Nat), k ≤ s.size ∧ i = .int .i64 k ∧ n = .int .u64 x ∧ Hid (NumSt s k x)) (fun _ i => s.size - (intOf i).toNat)
            case atStart => exact ⟨0, 0, Nat.zero_le _, rfl, rfl, Lib.hid (numst0 _)⟩
            case round =>
              obtain ⟨k, x, hk, rfl, rfl, HX⟩ := hrel
              by_cases hlt : k < s.size
              · have hi0 : (0 : Int) ≤ (k : Int) := by omega
                have hi1 : (k : Int) < (s.size : Int) := by omega
                have hx18 := HX.out.lt (Nat.le_of_lt hlt) (by omega)
                by_cases hd : digit s[k]
                · have HX2 := Lib.hid (HX.out.step hlt hd)
                  unfold digit at hd
                  obtain ⟨hd1, hd2⟩ := hd
                  have hd3 : ¬ ((s[k].toNat : Nat) : Int) < 48 := by omega
                  have hd4 : ¬ (57 : Int) < ((s[k].toNat : Nat) : Int) := by omega
                  go_wp2
                  go_round
                  case rel => exact ⟨k + 1, _, by omega, by go_num, by go_num, HX2⟩
                  case measure => simp [intOf]; omega
                · have HR := Lib.hid (no_byte HSG.out hlt hd)
                  unfold digit at hd
                  by_cases hd3 : ((s[k].toNat : Nat) : Int) < 48
                  · clear hd
                    go_wp2
                    go_ret2
                    exact num_fail HR.out (Below.refl _ _)
                  · have hd4 : (57 : Int) < ((s[k].toNat : Nat) : Int) := by omega
                    clear hd
                    go_wp2
                    go_ret2
                    exact num_fail HR.out (Below.refl _ _)
              · obtain rfl : k = s.size := by omega
                have hx19 : (x : Int) < 10000000000000000000 := by
                  have h1 := val_lt0 HX.out.all.1
                  rw [HX.out.all.2] at h1
                  have := pow_le19 h1 (by simpa using hlen)
                  omega
                by_cases hbig : (9223372036854775808 : Int) ≤ (x : Int)
                · have HR := Lib.hid (no_big HSG.out HX.out (.inl ⟨rfl, by omega⟩))
                  go_wp2
                  go_ret2
                  exact num_fail HR.out (Below.refl _ _)
                · have HR := Lib.hid (is_num HSG.out HX.out h0 (HZ.out h0) ⟨fun _ => by omega, fun h => by simp at h⟩)
                  go_wp2
                  go_ret2
                  exact num_good HR.out (Below.refl _ _)

        · have hlen2 : (19 : Int) < (s.size : Int) := by omega
          have HR := Lib.hid (no_long HSG.out (by omega))
          go_enter Tryz.func106, Tryz.ntmps106
          go_wp2
          all_goals
            go_ret2
            exact num_fail HR.out (Below.refl _ _)
      · clear hsg
        have hT4 : ¬ (s.size : Int) < 1 := by omega
        by_cases hlen : s.size ≤ 19
        · have hT5 : ¬ (19 : Int) < (s.size : Int) := by omega
          by_cases hz : s[0] = 48
          · have hz2 : ((s[0].toNat : Int) == 48) = true := by rw [hz]; rfl
            have h1 : ¬ 1 < s.size := by omega
            have HZ := Lib.hid (show FirstOk s false from fun _ e => by rcases e.2 with e | e; exact h1 e; cases e)
            clear hz
            go_enter Tryz.func106, Tryz.ntmps106
            go_wp2
            go_loop [6, 7] (fun n i => ∃ (k x : Nat), k ≤ s.size ∧ i = .int .i64 k ∧ n = .int .u64 x ∧ Hid (NumSt s k x)) (fun _ i => s.size - (intOf i).toNat)
            case atStart => exact ⟨0, 0, Nat.zero_le _, rfl, rfl, Lib.hid (numst0 _)⟩
            case round =>
              obtain ⟨k, x, hk, rfl, rfl, HX⟩ := hrel
              by_cases hlt : k < s.size
              · have hi0 : (0 : Int) ≤ (k : Int) := by omega
                have hi1 : (k : Int) < (s.size : Int) := by omega
                have hx18 := HX.out.lt (Nat.le_of_lt hlt) (by omega)
                by_cases hd : digit s[k]
                · have HX2 := Lib.hid (HX.out.step hlt hd)
                  unfold digit at hd
                  obtain ⟨hd1, hd2⟩ := hd
                  have hd3 : ¬ ((s[k].toNat : Nat) : Int) < 48 := by omega
                  have hd4 : ¬ (57 : Int) < ((s[k].toNat : Nat) : Int) := by omega
                  go_wp2
                  go_round
                  case rel => exact ⟨k + 1, _, by omega, by go_num, by go_num, HX2⟩
                  case measure => simp [intOf]; omega
                · have HR := Lib.hid (no_byte HSG.out hlt hd)
                  unfold digit at hd
                  by_cases hd3 : ((s[k].toNat : Nat) : Int) < 48
                  · clear hd
                    go_wp2
                    go_ret2
                    exact num_fail HR.out (Below.refl _ _)
                  · have hd4 : (57 : Int) < ((s[k].toNat : Nat) : Int) := by omega
                    clear hd
                    go_wp2
                    go_ret2
                    exact num_fail HR.out (Below.refl _ _)
              · obtain rfl : k = s.size := by omega
                have hx19 : (x : Int) < 10000000000000000000 := by
                  have h1 := val_lt0 HX.out.all.1
                  rw [HX.out.all.2] at h1
                  have := pow_le19 h1 (by simpa using hlen)
                  omega
                by_cases hbig : (9223372036854775808 : Int) ≤ (x : Int)
                · have HR := Lib.hid (no_big HSG.out HX.out (.inl ⟨rfl, by omega⟩))
                  go_wp2
                  go_ret2
                  exact num_fail HR.out (Below.refl _ _)
                · have HR := Lib.hid (is_num HSG.out HX.out h0 (HZ.out h0) ⟨fun _ => by omega, fun h => by simp at h⟩)
                  go_wp2
                  go_ret2
                  exact num_good HR.out (Below.refl _ _)

          · have HZ := Lib.hid (show FirstOk s false from fun _ e => hz e.1)
            have hz2 : ((s[0].toNat : Int) == 48) = false := by
              rw [beq_eq_false_iff_ne]
              intro e
              exact hz (byte_is (n := 48) (by omega) (by decide))
            clear hz
            go_enter Tryz.func106, Tryz.ntmps106
            go_wp2
            go_loop [6, 7] (fun n i => ∃ (k x : Nat), k ≤ s.size ∧ i = .int .i64 k ∧ n = .int .u64 x ∧ Hid (NumSt s k x)) (fun _ i => s.size - (intOf i).toNat)
            case atStart => exact ⟨0, 0, Nat.zero_le _, rfl, rfl, Lib.hid (numst0 _)⟩
            case round =>
              obtain ⟨k, x, hk, rfl, rfl, HX⟩ := hrel
              by_cases hlt : k < s.size
              · have hi0 : (0 : Int) ≤ (k : Int) := by omega
                have hi1 : (k : Int) < (s.size : Int) := by omega
                have hx18 := HX.out.lt (Nat.le_of_lt hlt) (by omega)
                by_cases hd : digit s[k]
                · have HX2 := Lib.hid (HX.out.step hlt hd)
                  unfold digit at hd
                  obtain ⟨hd1, hd2⟩ := hd
                  have hd3 : ¬ ((s[k].toNat : Nat) : Int) < 48 := by omega
                  have hd4 : ¬ (57 : Int) < ((s[k].toNat : Nat) : Int) := by omega
                  go_wp2
                  go_round
                  case rel => exact ⟨k + 1, _, by omega, by go_num, by go_num, HX2⟩
                  case measure => simp [intOf]; omega
                · have HR := Lib.hid (no_byte HSG.out hlt hd)
                  unfold digit at hd
                  by_cases hd3 : ((s[k].toNat : Nat) : Int) < 48
                  · clear hd
                    go_wp2
                    go_ret2
                    exact num_fail HR.out (Below.refl _ _)
                  · have hd4 : (57 : Int) < ((s[k].toNat : Nat) : Int) := by omega
                    clear hd
                    go_wp2
                    go_ret2
                    exact num_fail HR.out (Below.refl _ _)
              · obtain rfl : k = s.size := by omega
                have hx19 : (x : Int) < 10000000000000000000 := by
                  have h1 := val_lt0 HX.out.all.1
                  rw [HX.out.all.2] at h1
                  have := pow_le19 h1 (by simpa using hlen)
                  omega
                by_cases hbig : (9223372036854775808 : Int) ≤ (x : Int)
                · have HR := Lib.hid (no_big HSG.out HX.out (.inl ⟨rfl, by omega⟩))
                  go_wp2
                  go_ret2
                  exact num_fail HR.out (Below.refl _ _)
                · have HR := Lib.hid (is_num HSG.out HX.out h0 (HZ.out h0) ⟨fun _ => by omega, fun h => by simp at h⟩)
                  go_wp2
                  go_ret2
                  exact num_good HR.out (Below.refl _ _)

        · have hlen2 : (19 : Int) < (s.size : Int) := by omega
          have HR := Lib.hid (no_long HSG.out (by omega))
          go_enter Tryz.func106, Tryz.ntmps106
          go_wp2
          all_goals
            go_ret2
            exact num_fail HR.out (Below.refl _ _)
    · clear hsg
      have hz0 : s.size = 0 := by omega
      have hT4 : (s.size : Int) < 1 := by omega
      have hs1 : ¬ (1 : Int) < (s.size : Int) := by omega
      have HR := Lib.hid (no_empty HSG.out hz0)
      go_enter Tryz.func106, Tryz.ntmps106
      go_wp2
      all_goals
        go_ret2
        exact num_fail HR.out (Below.refl _ _)
end Go.Proofs.YtjofbeokkainlaaGreatDoor
