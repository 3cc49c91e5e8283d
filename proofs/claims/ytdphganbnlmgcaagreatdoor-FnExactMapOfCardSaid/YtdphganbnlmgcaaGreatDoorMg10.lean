/- Texts put together, as a claim holds at most sixty files. -/
import Derived.Test.YtdphganbnlmgcaaGreatDoorMg6
import Derived.Test.YtdphganbnlmgcaaGreatDoorMg9
import Derived.Test.YtdphganbnlmgcaaGreatDoorMg3
import Derived.Test.YtdphganbnlmgcaaGreatDoorRows
import Derived.WalkKit
import Derived.RegionTactic
import Derived.Deep.RegionHeld3
namespace Go.Proofs.YtdphganbnlmgcaaGreatDoor
open Go.ChangeShapes Go.WideShapes Go.ChangeAt Go.RowKit
set_option linter.unusedVariables false
set_option maxRecDepth 100000

/-- Records and code of the first k words, each alone. -/
def eachTo (l : Instrs) (ws : Strs) : Nat → Recs × Int
  | 0 => ([], 0)
  | k + 1 => if (eachTo l ws k).2 ≠ 0 then eachTo l ws k else if (evalR l [strAt ws k]).2 ≠ 0 then ([], (evalR l [strAt ws k]).2) else ((eachTo l ws k).1 ++ (evalR l [strAt ws k]).1, 0)
def wordsB (s : ByteArray) : Strs := strsOf ((wordsL s.data.toList).take 20)
def lineR (l : Instrs) (each : Bool) (s : ByteArray) : Recs × Int :=
  if progB l = true ∧ s.size ≤ 200 then (if each = true then eachTo l (wordsB s) (wordsB s).length else evalR l (wordsB s)) else ([], 1)
theorem eachTo_bad {l : Instrs} {ws : Strs} {k n : Nat} (h : (eachTo l ws k).2 ≠ 0) (hk : k ≤ n) : eachTo l ws n = eachTo l ws k := by
  induction n with
  | zero => obtain rfl : k = 0 := by omega
            rfl
  | succ n ih =>
    rcases Nat.lt_or_ge n k with h1 | h1
    · obtain rfl : k = n + 1 := by omega
      rfl
    · have := ih h1
      rw [eachTo, this, if_pos h]
theorem eachTo_stop {l : Instrs} {ws : Strs} {k : Nat} {O : Recs} (h : eachTo l ws k = (O, 0)) {V : Recs} {c : Int} (hr : evalR l [strAt ws k] = (V, c)) (hc : c ≠ 0) : eachTo l ws (k + 1) = ([], c) := by
  rw [eachTo, if_neg (by rw [h]; exact fun h => h rfl), hr, if_pos hc]
theorem eachTo_go {l : Instrs} {ws : Strs} {k : Nat} {O : Recs} (h : eachTo l ws k = (O, 0)) {V : Recs} {c : Int} (hr : evalR l [strAt ws k] = (V, c)) (hc : c = 0) : eachTo l ws (k + 1) = (O ++ V, 0) := by
  rw [eachTo, if_neg (by rw [h]; exact fun h => h rfl), hr, if_neg (by simpa using hc), h]
theorem eachTo_facts {l : Instrs} (ws : Strs) (hn : ∀ i, i < l.length → In64 (ins1 l i)) : ∀ k, (eachTo l ws k).1.length ≤ 30 * k ∧ (∀ r ∈ (eachTo l ws k).1, r.1.size ≤ 40 ∧ In64 r.2) ∧ (0 ≤ (eachTo l ws k).2 ∧ (eachTo l ws k).2 ≤ 2) ∧ ((eachTo l ws k).2 ≠ 0 → (eachTo l ws k).1 = [])
  | 0 => ⟨by simp [eachTo], fun r hr => absurd hr (by simp [eachTo]), ⟨by simp [eachTo], by simp [eachTo]⟩, fun _ => rfl⟩
  | k + 1 => by
    have ih := eachTo_facts ws hn k
    have he := evalR_facts (ws := [strAt ws k]) hn
    rw [eachTo]
    split
    · exact ⟨by have := ih.1; omega, ih.2⟩
    · split
      · exact ⟨by simp, fun r hr => absurd hr (by simp), he.2.2.1, fun _ => rfl⟩
      · refine ⟨by rw [List.length_append]; have := ih.1; have := he.1; omega, fun r hr => ?_, ⟨by simp, by simp⟩, fun h => absurd rfl h⟩
        rcases List.mem_append.1 hr with hr | hr
        · exact ih.2.1 r hr
        · exact he.2.1 r hr
theorem wordsB_few (s : ByteArray) : (wordsB s).length ≤ 20 := by
  unfold wordsB strsOf
  rw [List.length_map]; exact List.length_take_le _ _
theorem lineR_facts {l : Instrs} {each : Bool} {s : ByteArray} (hn : ∀ i, i < l.length → In64 (ins1 l i)) : (lineR l each s).1.length ≤ 600 ∧ (∀ r ∈ (lineR l each s).1, r.1.size ≤ 40 ∧ In64 r.2) ∧ (0 ≤ (lineR l each s).2 ∧ (lineR l each s).2 ≤ 2) ∧ ((lineR l each s).2 ≠ 0 → (lineR l each s).1 = []) := by
  unfold lineR
  split
  · split
    · have h := eachTo_facts (l := l) (wordsB s) hn (wordsB s).length
      have := wordsB_few s
      exact ⟨by have := h.1; omega, h.2⟩
    · have h := evalR_facts (l := l) (ws := wordsB s) hn
      exact ⟨by have := h.1; omega, h.2⟩
  · exact ⟨by simp, fun r hr => absurd hr (by simp), ⟨by simp, by simp⟩, fun _ => rfl⟩
end Go.Proofs.YtdphganbnlmgcaaGreatDoor
namespace Go.Proofs.YtdphganbnlmgcaaGreatDoor
open Go.ChangeShapes Go.WideShapes Go.ChangeAt Go.RowKit
set_option linter.unusedVariables false
set_option maxRecDepth 100000

def MadeNum (o : Option Int) (w : World) (e : Ending) (w' : World) : Prop := e = .returned (.tuple #[.int .i64 (o.getD 0), .bool o.isSome]) ∧ Below w.heap.size w w'
theorem num_fail {o : Option Int} {w w' : World} (h : o = none) (hB : Below w.heap.size w w') : MadeNum o w (.returned (.tuple #[.int .i64 0, .bool false])) w' := by
  subst h
  exact ⟨rfl, hB⟩
theorem num_good {o : Option Int} {v : Int} {w w' : World} (h : o = some v) (hB : Below w.heap.size w w') : MadeNum o w (.returned (.tuple #[.int .i64 v, .bool true])) w' := by
  subst h
  exact ⟨rfl, hB⟩
theorem take_snoc (s : ByteArray) (k : Nat) (h : k < s.size) : s.data.toList.take (k + 1) = s.data.toList.take k ++ [s[k]] := by
  rw [List.take_succ_eq_append_getElem (by simpa using h)]; rfl
theorem pow_le18 {x k : Nat} (h : x < 10 ^ k) (hk : k ≤ 18) : x < 1000000000000000000 := Nat.lt_of_lt_of_le h (by have := Nat.pow_le_pow_right (n := 10) (by decide) hk; simpa using this)
theorem pow_le19 {x k : Nat} (h : x < 10 ^ k) (hk : k ≤ 19) : x < 10000000000000000000 := Nat.lt_of_lt_of_le h (by have := Nat.pow_le_pow_right (n := 10) (by decide) hk; simpa using this)
theorem val_lt0 {l : List UInt8} (h : ∀ c ∈ l, digit c) : valF 0 l < 10 ^ l.length := by
  have := valF_lt l 0 h
  simpa using this
/-- The digits so far. -/
structure NumSt (T : ByteArray) (k : Nat) (x : Nat) : Prop where
  dig : ∀ c ∈ T.data.toList.take k, digit c
  val : valF 0 (T.data.toList.take k) = x
theorem NumSt.lt {T : ByteArray} {k x : Nat} (h : NumSt T k x) (hk : k ≤ T.size) (h18 : k ≤ 18) : x < 1000000000000000000 := by
  have := val_lt0 h.dig
  rw [h.val, List.length_take] at this
  exact pow_le18 this (by omega)
theorem NumSt.step {T : ByteArray} {k x : Nat} (h : NumSt T k x) (hk : k < T.size) (hd : digit T[k]) : NumSt T (k + 1) (x * 10 + (T[k].toNat - 48)) :=
  ⟨fun c hc => by
    rw [take_snoc T k hk] at hc
    rcases List.mem_append.1 hc with h1 | h1
    · exact h.dig c h1
    · simp only [List.mem_singleton] at h1
      subst h1; exact hd, by rw [take_snoc T k hk, valF_snoc, h.val]⟩
theorem NumSt.all {T : ByteArray} {x : Nat} (h : NumSt T T.size x) : (∀ c ∈ T.data.toList, digit c) ∧ valF 0 T.data.toList = x := by
  have e : T.data.toList.take T.size = T.data.toList := List.take_of_length_le (by simp)
  exact ⟨by have := h.dig; rwa [e] at this, by have := h.val; rwa [e] at this⟩
theorem head_zero {T : ByteArray} {r : List UInt8} (h : T.data.toList = 48 :: r) : ∃ h0 : 0 < T.size, T[0] = 48 ∧ T.size = r.length + 1 := by
  have hs : T.size = r.length + 1 := by
    have := congrArg List.length h
    simpa using this
  refine ⟨by omega, ?_, hs⟩
  have h1 : T.data.toList[0]? = some 48 := by rw [h]; rfl
  have h2 : T.data.toList[0]? = some T[0] := by
    rw [List.getElem?_eq_getElem (by simpa using (show 0 < T.size by omega))]; rfl
  rw [h1] at h2
  injection h2 with h2
  exact h2.symm
theorem zero_head {T : ByteArray} (h0 : 0 < T.size) (h : T[0] = 48) : ∃ r, T.data.toList = 48 :: r ∧ T.size = r.length + 1 := by
  cases hl : T.data.toList with
  | nil =>
    have h2 : T.data.toList.length = T.size := by simp
    rw [hl] at h2
    exact absurd h2 (by simp; omega)
  | cons c r =>
    have h1 : T.data.toList[0]'(by simpa using h0) = T[0] := rfl
    simp only [hl, List.getElem_cons_zero] at h1
    rw [h] at h1
    subst h1
    refine ⟨r, rfl, ?_⟩
    have := congrArg List.length hl
    simpa using this
theorem byte_is {c : UInt8} {n : Nat} (h : c.toNat = n) (hn : n < 256) : c = UInt8.ofNat n := by
  subst h; simp

/-- What is known of a text and of what stands behind its sign. -/
structure SignAt (s T : ByteArray) (b : Bool) : Prop where
  tail : tailN s.data.toList = T.data.toList
  neg : negN s.data.toList = b
theorem mem_at {T : ByteArray} {k : Nat} (hk : k < T.size) : T[k] ∈ T.data.toList := by
  have : T[k] = T.data.toList[k]'(by simpa using hk) := rfl
  rw [this]; exact List.getElem_mem _
theorem no_byte {s T : ByteArray} {b : Bool} (h : SignAt s T b) {k : Nat} (hk : k < T.size) (hd : ¬ digit T[k]) : numD s.data.toList = none :=
  num_no_digit (by rw [h.tail]; exact mem_at hk) hd
theorem no_first {s T : ByteArray} {b : Bool} (h : SignAt s T b) (h0 : 0 < T.size) (hz : T[0] = 48) (h2 : 1 < T.size ∨ b = true) : numD s.data.toList = none := by
  obtain ⟨r, hr, hs⟩ := zero_head h0 hz
  refine num_no_zero (by rw [h.tail]; exact hr) ?_
  rcases h2 with h2 | h2
  · left; intro e; subst e; simp at hs; omega
  · right; rw [h.neg, h2]
theorem no_empty {s T : ByteArray} {b : Bool} (h : SignAt s T b) (h0 : T.size = 0) : numD s.data.toList = none :=
  num_no_len0 (by rw [h.tail]; exact List.length_eq_zero_iff.1 (by simpa using h0))
theorem no_long {s T : ByteArray} {b : Bool} (h : SignAt s T b) (h0 : 19 < T.size) : numD s.data.toList = none :=
  num_no_long (by rw [h.tail]; simpa using h0)
theorem no_big {s T : ByteArray} {b : Bool} (h : SignAt s T b) {x : Nat} (hx : NumSt T T.size x) (h2 : (b = false ∧ 9223372036854775808 ≤ x) ∨ (b = true ∧ 9223372036854775808 < x)) : numD s.data.toList = none :=
  num_no_big (by rw [h.tail, h.neg, hx.all.2]; exact h2)
def FirstOk (T : ByteArray) (b : Bool) : Prop := ∀ h0 : 0 < T.size, ¬ (T[0] = 48 ∧ (1 < T.size ∨ b = true))
theorem ne_nil {T : ByteArray} (h0 : 0 < T.size) : T.data.toList ≠ [] := by
  intro e
  have h2 : T.data.toList.length = T.size := by simp
  rw [e] at h2
  exact absurd h2 (by simp; omega)
theorem numst0 (T : ByteArray) : NumSt T 0 0 := ⟨fun c hc => by rw [List.take_zero] at hc; exact absurd hc (by simp), by rw [List.take_zero]; rfl⟩
theorem is_num {s T : ByteArray} {b : Bool} (h : SignAt s T b) {x : Nat} (hx : NumSt T T.size x) (h0 : 0 < T.size) (hz : ¬ (T[0] = 48 ∧ (1 < T.size ∨ b = true))) (hv : (b = false → x < 9223372036854775808) ∧ (b = true → x ≤ 9223372036854775808)) :
    numD s.data.toList = some (if b = true then -((x : Nat) : Int) else ((x : Nat) : Int)) := by
  have := @num_yes s.data.toList (by rw [h.tail]; exact ne_nil h0) (by rw [h.tail]; exact hx.all.1)
    (fun r hr => by
      rw [h.tail] at hr
      obtain ⟨h1, h2, h3⟩ := head_zero hr
      have h4 : ¬ (1 < T.size ∨ b = true) := fun e => hz ⟨h2, e⟩
      refine ⟨?_, ?_⟩
      · cases r with
        | nil => rfl
        | cons a t => exact absurd (.inl (by simp at h3; omega)) h4
      · rw [h.neg]
        cases b with
        | false => rfl
        | true => exact absurd (.inr rfl) h4)
    (by rw [h.tail, h.neg, hx.all.2]; exact hv)
  rw [h.tail, h.neg, hx.all.2] at this
  exact this
theorem sign_pos {s : ByteArray} (h : ¬ (1 < s.size ∧ ∃ h0 : 0 < s.size, s[0] = 45)) : SignAt s s false := by
  have hn : ¬ (1 < s.data.toList.length ∧ s.data.toList.head? = some 45) := by
    rintro ⟨h1, h2⟩
    have h1' : 1 < s.size := by simpa using h1
    refine h ⟨h1', by omega, ?_⟩
    rw [List.head?_eq_getElem?, List.getElem?_eq_getElem (by omega)] at h2
    injection h2
  exact ⟨by unfold tailN; rw [if_neg hn], decide_eq_false hn⟩
theorem sign_neg {s : ByteArray} (h1 : 1 < s.size) (h0 : 0 < s.size) (h : s[0] = 45) : SignAt s (s.extract 1 s.size) true := by
  have hn : 1 < s.data.toList.length ∧ s.data.toList.head? = some 45 := by
    refine ⟨by simpa using h1, ?_⟩
    rw [List.head?_eq_getElem?, List.getElem?_eq_getElem (by simpa using h0)]
    exact congrArg some h
  refine ⟨?_, decide_eq_true hn⟩
  unfold tailN
  rw [if_pos hn]
  have : (s.extract 1 s.size).data.toList = (s.data.toList.drop 1).take (s.size - 1) := by simp
  rw [this, List.take_of_length_le (by simp)]

set_option maxHeartbeats 4000000 in
theorem l1num_any (s : ByteArray) (w : World) (hs : s.size ≤ maxLen) : Calls Tryz.prog 76 #[.string s] w (MadeNum (numD s.data.toList) w) := by
  unfold maxLen at hs
  by_cases hsg : 1 < s.size ∧ ∃ h0 : 0 < s.size, s[0] = 45
  · obtain ⟨hs1, h0, h45⟩ := hsg
    have hb45 : ((s[0].toNat : Int) == 45) = true := by rw [h45]; rfl
    have HSG := Lib.hid (sign_neg hs1 h0 h45)
    have hTs : (s.extract 1 s.size).size = s.size - 1 := by rw [ByteArray.size_extract]; omega
    obtain ⟨T, hT⟩ : ∃ T, s.extract 1 s.size = T := ⟨_, rfl⟩
    rw [hT] at HSG hTs
    have hT1 : (T.size : Int) < (s.size : Int) := by omega
    have hT2 : 0 < T.size := by omega
    have hT3 : (1 : Int) ≤ (s.size : Int) := by omega
    have hs2 : (1 : Int) < (s.size : Int) := by omega
    have hT4 : ¬ (T.size : Int) < 1 := by omega
    clear h45 hTs
    by_cases hlen : T.size ≤ 19
    · have hT5 : ¬ (19 : Int) < (T.size : Int) := by omega
      by_cases hz : T[0] = 48
      · have hz2 : ((T[0].toNat : Int) == 48) = true := by rw [hz]; rfl
        have HR := Lib.hid (no_first HSG.out hT2 hz (.inr rfl))
        clear hz
        go_enter Tryz.func76, Tryz.ntmps76
        go_wp2
        all_goals
          go_ret2
          exact num_fail HR.out (Below.refl _ _)
      · have HZ := Lib.hid (show FirstOk T true from fun _ e => hz e.1)
        have hz2 : ((T[0].toNat : Int) == 48) = false := by
          rw [beq_eq_false_iff_ne]
          intro e
          exact hz (byte_is (n := 48) (by omega) (by decide))
        clear hz
        go_enter Tryz.func76, Tryz.ntmps76
        go_wp2
        go_loop [6, 7] (fun n i => ∃ (k x : Nat), k ≤ T.size ∧ i = .int .i64 k ∧ n = .int .u64 x ∧ Hid (NumSt T k x)) (fun _ i => T.size - (intOf i).toNat)
        case atStart => exact ⟨0, 0, Nat.zero_le _, rfl, rfl, Lib.hid (numst0 _)⟩
        case round =>
          obtain ⟨k, x, hk, rfl, rfl, HX⟩ := hrel
          by_cases hlt : k < T.size
          · have hi0 : (0 : Int) ≤ (k : Int) := by omega
            have hi1 : (k : Int) < (T.size : Int) := by omega
            have hx18 := HX.out.lt (Nat.le_of_lt hlt) (by omega)
            by_cases hd : digit T[k]
            · have HX2 := Lib.hid (HX.out.step hlt hd)
              unfold digit at hd
              obtain ⟨hd1, hd2⟩ := hd
              have hd3 : ¬ ((T[k].toNat : Nat) : Int) < 48 := by omega
              have hd4 : ¬ (57 : Int) < ((T[k].toNat : Nat) : Int) := by omega
              go_wp2
              go_round
              case rel => exact ⟨k + 1, _, by omega, by go_num, by go_num, HX2⟩
              case measure => simp [intOf]; omega
            · have HR := Lib.hid (no_byte HSG.out hlt hd)
              unfold digit at hd
              by_cases hd3 : ((T[k].toNat : Nat) : Int) < 48
              · clear hd
                go_wp2
                go_ret2
                exact num_fail HR.out (Below.refl _ _)
              · have hd4 : (57 : Int) < ((T[k].toNat : Nat) : Int) := by omega
                clear hd
                go_wp2
                go_ret2
                exact num_fail HR.out (Below.refl _ _)
          · obtain rfl : k = T.size := by omega
            have hx19 : (x : Int) < 10000000000000000000 := by
              have h1 := val_lt0 HX.out.all.1
              rw [HX.out.all.2] at h1
              have := pow_le19 h1 (by simpa using hlen)
              omega
            by_cases hbig : (9223372036854775808 : Int) < (x : Int)
            · have HR := Lib.hid (no_big HSG.out HX.out (.inr ⟨rfl, by omega⟩))
              go_wp2
              go_ret2
              exact num_fail HR.out (Below.refl _ _)
            · have HR := Lib.hid (is_num HSG.out HX.out hT2 (HZ.out hT2) ⟨fun h => by simp at h, fun _ => by omega⟩)
              obtain ⟨y, hy⟩ : ∃ y : Int, (if x = 0 then 0 else 18446744073709551616 - (x : Int)) = y := ⟨_, rfl⟩
              have e1 : IntKind.u64.wrap (-(x : Int)) = y := by rw [← hy]; simp [IntKind.wrap, IntKind.bits, IntKind.signed]; split <;> omega
              have e2 : IntKind.i64.wrap y = -(x : Int) := by rw [← hy]; simp [IntKind.wrap, IntKind.bits, IntKind.signed]; split <;> split <;> omega
              clear hy
              go_wp2
              go_ret2
              exact num_good HR.out (Below.refl _ _)

    · have hlen2 : (19 : Int) < (T.size : Int) := by omega
      have HR := Lib.hid (no_long HSG.out (by omega))
      go_enter Tryz.func76, Tryz.ntmps76
      go_wp2
      all_goals
        go_ret2
        exact num_fail HR.out (Below.refl _ _)
  · have HSG := Lib.hid (sign_pos hsg)
    by_cases h0 : 0 < s.size
    · by_cases hs1 : (1 : Int) < (s.size : Int)
      · have hb45 : ((s[0].toNat : Int) == 45) = false := by
          rw [beq_eq_false_iff_ne]
          intro e
          exact hsg ⟨by omega, h0, byte_is (n := 45) (by omega) (by decide)⟩
        clear hsg
        have hT4 : ¬ (s.size : Int) < 1 := by omega
        by_cases hlen : s.size ≤ 19
        · have hT5 : ¬ (19 : Int) < (s.size : Int) := by omega
          by_cases hz : s[0] = 48
          · have hz2 : ((s[0].toNat : Int) == 48) = true := by rw [hz]; rfl
            have h1 : 1 < s.size := by omega
            have HR := Lib.hid (no_first HSG.out h0 hz (.inl h1))
            clear hz
            go_enter Tryz.func76, Tryz.ntmps76
            go_wp2
            all_goals
              go_ret2
              exact num_fail HR.out (Below.refl _ _)
          · have HZ := Lib.hid (show FirstOk s false from fun _ e => hz e.1)
            have hz2 : ((s[0].toNat : Int) == 48) = false := by
              rw [beq_eq_false_iff_ne]
              intro e
              exact hz (byte_is (n := 48) (by omega) (by decide))
            clear hz
            go_enter Tryz.func76, Tryz.ntmps76
            go_wp2
            go_loop [6, 7] (fun n i => ∃ (k x : Nat), k ≤ s.size ∧ i = .int .i64 k ∧ n = .int .u64 x ∧ Hid (NumSt s k x)) (fun _ i => s.size - (intOf i).toNat)
            case atStart => exact ⟨0, 0, Nat.zero_le _, rfl, rfl, Lib.hid (numst0 _)⟩
            case round =>
              obtain ⟨k, x, hk, rfl, rfl, HX⟩ := hrel
              by_cases hlt : k < s.size
              · have hi0 : (0 : Int) ≤ (k : Int) := by omega
                have hi1 : (k : Int) < (s.size : Int) := by omega
                have hx18 := HX.out.lt (Nat.le_of_lt hlt) (by omega)
                by_cases hd : digit s[k]
                · have HX2 := Lib.hid (HX.out.step hlt hd)
                  unfold digit at hd
                  obtain ⟨hd1, hd2⟩ := hd
                  have hd3 : ¬ ((s[k].toNat : Nat) : Int) < 48 := by omega
                  have hd4 : ¬ (57 : Int) < ((s[k].toNat : Nat) : Int) := by omega
                  go_wp2
                  go_round
                  case rel => exact ⟨k + 1, _, by omega, by go_num, by go_num, HX2⟩
                  case measure => simp [intOf]; omega
                · have HR := Lib.hid (no_byte HSG.out hlt hd)
                  unfold digit at hd
                  by_cases hd3 : ((s[k].toNat : Nat) : Int) < 48
                  · clear hd
                    go_wp2
                    go_ret2
                    exact num_fail HR.out (Below.refl _ _)
                  · have hd4 : (57 : Int) < ((s[k].toNat : Nat) : Int) := by omega
                    clear hd
                    go_wp2
                    go_ret2
                    exact num_fail HR.out (Below.refl _ _)
              · obtain rfl : k = s.size := by omega
                have hx19 : (x : Int) < 10000000000000000000 := by
                  have h1 := val_lt0 HX.out.all.1
                  rw [HX.out.all.2] at h1
                  have := pow_le19 h1 (by simpa using hlen)
                  omega
                by_cases hbig : (9223372036854775808 : Int) ≤ (x : Int)
                · have HR := Lib.hid (no_big HSG.out HX.out (.inl ⟨rfl, by omega⟩))
                  go_wp2
                  go_ret2
                  exact num_fail HR.out (Below.refl _ _)
                · have HR := Lib.hid (is_num HSG.out HX.out h0 (HZ.out h0) ⟨fun _ => by omega, fun h => by simp at h⟩)
                  go_wp2
                  go_ret2
                  exact num_good HR.out (Below.refl _ _)

        · have hlen2 : (19 : Int) < (s.size : Int) := by omega
          have HR := Lib.hid (no_long HSG.out (by omega))
          go_enter Tryz.func76, Tryz.ntmps76
          go_wp2
          all_goals
            go_ret2
            exact num_fail HR.out (Below.refl _ _)
      · clear hsg
        have hT4 : ¬ (s.size : Int) < 1 := by omega
        by_cases hlen : s.size ≤ 19
        · have hT5 : ¬ (19 : Int) < (s.size : Int) := by omega
          by_cases hz : s[0] = 48
          · have hz2 : ((s[0].toNat : Int) == 48) = true := by rw [hz]; rfl
            have h1 : ¬ 1 < s.size := by omega
            have HZ := Lib.hid (show FirstOk s false from fun _ e => by rcases e.2 with e | e; exact h1 e; cases e)
            clear hz
            go_enter Tryz.func76, Tryz.ntmps76
            go_wp2
            go_loop [6, 7] (fun n i => ∃ (k x : Nat), k ≤ s.size ∧ i = .int .i64 k ∧ n = .int .u64 x ∧ Hid (NumSt s k x)) (fun _ i => s.size - (intOf i).toNat)
            case atStart => exact ⟨0, 0, Nat.zero_le _, rfl, rfl, Lib.hid (numst0 _)⟩
            case round =>
              obtain ⟨k, x, hk, rfl, rfl, HX⟩ := hrel
              by_cases hlt : k < s.size
              · have hi0 : (0 : Int) ≤ (k : Int) := by omega
                have hi1 : (k : Int) < (s.size : Int) := by omega
                have hx18 := HX.out.lt (Nat.le_of_lt hlt) (by omega)
                by_cases hd : digit s[k]
                · have HX2 := Lib.hid (HX.out.step hlt hd)
                  unfold digit at hd
                  obtain ⟨hd1, hd2⟩ := hd
                  have hd3 : ¬ ((s[k].toNat : Nat) : Int) < 48 := by omega
                  have hd4 : ¬ (57 : Int) < ((s[k].toNat : Nat) : Int) := by omega
                  go_wp2
                  go_round
                  case rel => exact ⟨k + 1, _, by omega, by go_num, by go_num, HX2⟩
                  case measure => simp [intOf]; omega
                · have HR := Lib.hid (no_byte HSG.out hlt hd)
                  unfold digit at hd
                  by_cases hd3 : ((s[k].toNat : Nat) : Int) < 48
                  · clear hd
                    go_wp2
                    go_ret2
                    exact num_fail HR.out (Below.refl _ _)
                  · have hd4 : (57 : Int) < ((s[k].toNat : Nat) : Int) := by omega
                    clear hd
                    go_wp2
                    go_ret2
                    exact num_fail HR.out (Below.refl _ _)
              · obtain rfl : k = s.size := by omega
                have hx19 : (x : Int) < 10000000000000000000 := by
                  have h1 := val_lt0 HX.out.all.1
                  rw [HX.out.all.2] at h1
                  have := pow_le19 h1 (by simpa using hlen)
                  omega
                by_cases hbig : (9223372036854775808 : Int) ≤ (x : Int)
                · have HR := Lib.hid (no_big HSG.out HX.out (.inl ⟨rfl, by omega⟩))
                  go_wp2
                  go_ret2
                  exact num_fail HR.out (Below.refl _ _)
                · have HR := Lib.hid (is_num HSG.out HX.out h0 (HZ.out h0) ⟨fun _ => by omega, fun h => by simp at h⟩)
                  go_wp2
                  go_ret2
                  exact num_good HR.out (Below.refl _ _)

          · have HZ := Lib.hid (show FirstOk s false from fun _ e => hz e.1)
            have hz2 : ((s[0].toNat : Int) == 48) = false := by
              rw [beq_eq_false_iff_ne]
              intro e
              exact hz (byte_is (n := 48) (by omega) (by decide))
            clear hz
            go_enter Tryz.func76, Tryz.ntmps76
            go_wp2
            go_loop [6, 7] (fun n i => ∃ (k x : Nat), k ≤ s.size ∧ i = .int .i64 k ∧ n = .int .u64 x ∧ Hid (NumSt s k x)) (fun _ i => s.size - (intOf i).toNat)
            case atStart => exact ⟨0, 0, Nat.zero_le _, rfl, rfl, Lib.hid (numst0 _)⟩
            case round =>
              obtain ⟨k, x, hk, rfl, rfl, HX⟩ := hrel
              by_cases hlt : k < s.size
              · have hi0 : (0 : Int) ≤ (k : Int) := by omega
                have hi1 : (k : Int) < (s.size : Int) := by omega
                have hx18 := HX.out.lt (Nat.le_of_lt hlt) (by omega)
                by_cases hd : digit s[k]
                · have HX2 := Lib.hid (HX.out.step hlt hd)
                  unfold digit at hd
                  obtain ⟨hd1, hd2⟩ := hd
                  have hd3 : ¬ ((s[k].toNat : Nat) : Int) < 48 := by omega
                  have hd4 : ¬ (57 : Int) < ((s[k].toNat : Nat) : Int) := by omega
                  go_wp2
                  go_round
                  case rel => exact ⟨k + 1, _, by omega, by go_num, by go_num, HX2⟩
                  case measure => simp [intOf]; omega
                · have HR := Lib.hid (no_byte HSG.out hlt hd)
                  unfold digit at hd
                  by_cases hd3 : ((s[k].toNat : Nat) : Int) < 48
                  · clear hd
                    go_wp2
                    go_ret2
                    exact num_fail HR.out (Below.refl _ _)
                  · have hd4 : (57 : Int) < ((s[k].toNat : Nat) : Int) := by omega
                    clear hd
                    go_wp2
                    go_ret2
                    exact num_fail HR.out (Below.refl _ _)
              · obtain rfl : k = s.size := by omega
                have hx19 : (x : Int) < 10000000000000000000 := by
                  have h1 := val_lt0 HX.out.all.1
                  rw [HX.out.all.2] at h1
                  have := pow_le19 h1 (by simpa using hlen)
                  omega
                by_cases hbig : (9223372036854775808 : Int) ≤ (x : Int)
                · have HR := Lib.hid (no_big HSG.out HX.out (.inl ⟨rfl, by omega⟩))
                  go_wp2
                  go_ret2
                  exact num_fail HR.out (Below.refl _ _)
                · have HR := Lib.hid (is_num HSG.out HX.out h0 (HZ.out h0) ⟨fun _ => by omega, fun h => by simp at h⟩)
                  go_wp2
                  go_ret2
                  exact num_good HR.out (Below.refl _ _)

        · have hlen2 : (19 : Int) < (s.size : Int) := by omega
          have HR := Lib.hid (no_long HSG.out (by omega))
          go_enter Tryz.func76, Tryz.ntmps76
          go_wp2
          all_goals
            go_ret2
            exact num_fail HR.out (Below.refl _ _)
    · clear hsg
      have hz0 : s.size = 0 := by omega
      have hT4 : (s.size : Int) < 1 := by omega
      have hs1 : ¬ (1 : Int) < (s.size : Int) := by omega
      have HR := Lib.hid (no_empty HSG.out hz0)
      go_enter Tryz.func76, Tryz.ntmps76
      go_wp2
      all_goals
        go_ret2
        exact num_fail HR.out (Below.refl _ _)
end Go.Proofs.YtdphganbnlmgcaaGreatDoor
namespace Go.Proofs.YtdphganbnlmgcaaGreatDoor
set_option linter.unusedVariables false

section
variable {P : Program} {ops : Array Oper} {Q : Exit → Act → World → Prop} {md : Region.Mode} {S : World → Prop}

theorem held_take {i d : Nat} {oi : Oper} {v : Value} {fuel : Nat} {listed : Array Bool} {a : Act} {w : World} (hi : ops[i]? = some oi) (hd : oi.dst = some d)
    (hs : Region.noSelect ops = true) (hf : Region.free md ops listed i = true) (hr : (Region.ready md ops listed).contains i = true)
    (hw : Region.wanted oi (yielded ops a.tmps) = true) (hy : ∀ w, S w → (execOp a.eval oi).run P w = .ok (.value v) w) (hS : S w)
    (h : wpAnyH P md ops (NoPanic Q) S fuel (listed.setIfInBounds i true) { a with tmps := a.tmps.setIfInBounds d v } w) : wpAnyH P md ops (NoPanic Q) S (fuel + 1) listed a w :=
  wpAnyH_take hi hs hf hr (fun _ _ _ h => h) (Or.inl ⟨hw, hy⟩) hS (by rw [hd]; exact h)

theorem held_skip {i d : Nat} {oi : Oper} {fuel : Nat} {listed : Array Bool} {a : Act} {w : World} (hi : ops[i]? = some oi) (hd : oi.dst = some d)
    (hs : Region.noSelect ops = true) (hf : Region.free md ops listed i = true) (hr : (Region.ready md ops listed).contains i = true)
    (hw : Region.wanted oi (yielded ops a.tmps) = false) (hS : S w)
    (h : wpAnyH P md ops (NoPanic Q) S fuel (listed.setIfInBounds i true) { a with tmps := a.tmps.setIfInBounds d undef } w) : wpAnyH P md ops (NoPanic Q) S (fuel + 1) listed a w :=
  wpAnyH_take hi hs hf hr (fun _ _ _ h => h) (Or.inr ⟨hw, rfl⟩) hS (by rw [hd]; exact h)
/-- A stronger condition may be taken on the way. -/
theorem held_mono {S' : World → Prop} (hs : ∀ w, S' w → S w) : ∀ {fuel : Nat} {listed : Array Bool} {a : Act} {w : World}, wpAnyH P md ops Q S' fuel listed a w → wpAnyH P md ops Q S fuel listed a w
  | 0, _, _, _, h => h
  | fuel + 1, _, _, _, h => ⟨h.1, fun i hi => wpOp_mono (fun a' w' h' => ⟨hs w' h'.1, held_mono hs h'.2⟩) (h.2 i hi)⟩
end
end Go.Proofs.YtdphganbnlmgcaaGreatDoor
