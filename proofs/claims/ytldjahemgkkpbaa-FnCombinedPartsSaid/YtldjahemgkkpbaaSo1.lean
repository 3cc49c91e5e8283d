
/- The library's insertion sort, heap sort and reversal over such a row: each computes the plain one. -/
import Derived.Test.YtldjahemgkkpbaaSo0
namespace Go.Proofs.Ytldjahemgkkpbaa
open Go.ChangeShapes Go.WideShapes Go.ChangeAt Go.RowKit Go.Lib
open Go.Sort hiding Below
set_option linter.unusedVariables false
set_option maxRecDepth 100000
variable {R : RA → World → Prop} {ra : Option Addr} {rl rc n B : Nat}

theorem ins_go {lt : (ByteArray × Int) → (ByteArray × Int) → Bool} {a j : Nat} {d : RA} (hj : a < j) (hl : lt d[j]! d[j - 1]! = true) : insInner lt a j d = insInner lt a (j - 1) (swp d j (j - 1)) := by
  cases j with
  | zero => omega
  | succ k =>
    rw [Nat.add_sub_cancel] at hl ⊢
    rw [insInner, hl, decide_eq_true hj]; rfl
theorem ins_stop {lt : (ByteArray × Int) → (ByteArray × Int) → Bool} {a j : Nat} {d : RA} (h : j ≤ a ∨ lt d[j]! d[j - 1]! = false) : insInner lt a j d = d := by
  cases j with
  | zero => rw [insInner]
  | succ k =>
    rw [Nat.add_sub_cancel] at h
    rw [insInner]
    rcases h with h | h
    · rw [decide_eq_false (by omega)]; rfl
    · rw [h, Bool.and_false]; rfl
theorem outer_go {lt : (ByteArray × Int) → (ByteArray × Int) → Bool} {a b i : Nat} {d : RA} (h : i < b) : insOuter lt a b i d = insOuter lt a b (i + 1) (insInner lt a i d) := by
  rw [insOuter, if_pos h]
theorem outer_stop {lt : (ByteArray × Int) → (ByteArray × Int) → Bool} {a b i : Nat} {d : RA} (h : ¬ i < b) : insOuter lt a b i d = d := by
  rw [insOuter, if_neg h]

set_option maxHeartbeats 2000000 in
theorem isort_any (S : SortRow R ra rl rc n B) (a b : Nat) (V : RA) (w : World) (h : R V w) (hab : a ≤ b) (hb : b ≤ n) (hn : n < 4611686018427387904) :
    Calls Try.prog 57 #[.iface 51 (.slice ra rl rc), .int .i64 a, .int .i64 b] w (EndR R (.tuple #[]) (insertionSort ltR V a b)) := by
  have m1 := method_less ra rl rc
  have m2 := method_swap ra rl rc
  have H := Lib.hid h
  clear h
  go_enter Try.func57, Try.ntmps57
  go_wp2
  go_loopw [6] (fun vi wr => ∃ (i : Nat) (dk : RA), vi = .int .i64 i ∧ a < i ∧ i ≤ b + 1 ∧ Hid (R dk wr ∧ insOuter ltR a b i dk = insOuter ltR a b (a + 1) V)) (fun vi _ => b + 1 - (intOf vi).toNat)
  case atStart => exact ⟨a + 1, V, by go_num, by omega, by omega, H.out, rfl⟩
  case round =>
    obtain ⟨i, dk, rfl, hai, hib, HO⟩ := hrel
    by_cases hlt : i < b
    · have hltz : (i : Int) < (b : Int) := by omega
      go_wp2
      go_loopw [7] (fun vj wr2 => ∃ (j : Nat) (dj : RA), vj = .int .i64 j ∧ a ≤ j ∧ j ≤ i ∧ Hid (R dj wr2 ∧ insInner ltR a j dj = insInner ltR a i dk)) (fun vj _ => (intOf vj).toNat)
      case atStart => exact ⟨i, dk, rfl, by omega, Nat.le_refl _, HO.out.1, rfl⟩
      case round =>
        obtain ⟨j, dj, rfl, haj, hji, HI⟩ := hrel
        by_cases hja : a < j
        · cases hlv : ltR dj[j]! dj[j - 1]! with
          | true =>
            have hl := S.lessZ j (j - 1) (j : Int) ((j : Int) - 1) true HI.out.1 (by omega) (by omega) rfl (by omega) hlv
            have HV := Lib.hid hlv
            clear hlv
            go_wp2_with (first
              | (go_at_call 92; refine hl.mono ?_; rintro e w' ⟨rfl, hR⟩; have hs := S.swapZ j (j - 1) (j : Int) ((j : Int) - 1) hR (by omega) (by omega) rfl (by omega); clear hR hl)
              | (go_at_call 93; refine hs.mono ?_; rintro e w2 ⟨rfl, hR⟩; have HR := Lib.hid hR; clear hR hs))
            go_roundw
            case rel => exact ⟨j - 1, swp dj j (j - 1), by congr 1 <;> omega, by omega, by omega, HR.out, (ins_go hja HV.out).symm.trans HI.out.2⟩
            case measure => simp [intOf]; omega
          | false =>
            have hl := S.lessZ j (j - 1) (j : Int) ((j : Int) - 1) false HI.out.1 (by omega) (by omega) rfl (by omega) hlv
            have HV := Lib.hid hlv
            clear hlv
            go_wp2_with (go_at_call 92; refine hl.mono ?_; rintro e w' ⟨rfl, hR⟩; have HR := Lib.hid hR; clear hR hl)
            go_roundw
            case rel => exact ⟨i + 1, dj, by go_num, by omega, by omega, HR.out, by rw [← HO.out.2, outer_go hlt, ← HI.out.2, ins_stop (Or.inr HV.out)]⟩
            case measure => simp [intOf]; omega
        · go_wp2
          go_roundw
          case rel => exact ⟨i + 1, dj, by go_num, by omega, by omega, HI.out.1, by rw [← HO.out.2, outer_go hlt, ← HI.out.2, ins_stop (Or.inl (by omega))]⟩
          case measure => simp [intOf]; omega
    · have hltz : ¬ (i : Int) < (b : Int) := by omega
      go_wp2
      go_end0
      refine ⟨rfl, ?_⟩
      unfold insertionSort
      rw [← HO.out.2, outer_stop hlt]
      exact HO.out.1

theorem rev_go {i j : Nat} {d : RA} (h : i < j) : reverseLoop i j d = reverseLoop (i + 1) (j - 1) (swp d i j) := by
  rw [reverseLoop, if_pos h]
theorem rev_stop {i j : Nat} {d : RA} (h : ¬ i < j) : reverseLoop i j d = d := by
  rw [reverseLoop, if_neg h]

set_option maxHeartbeats 1600000 in
theorem reverse_any (S : SortRow R ra rl rc n B) (a b : Nat) (V : RA) (w : World) (h : R V w) (hab : a < b) (hb : b ≤ n) (hn : n < 4611686018427387904) :
    Calls Try.prog 61 #[.iface 51 (.slice ra rl rc), .int .i64 a, .int .i64 b] w (EndR R (.tuple #[]) (reverseRange V a b)) := by
  have m2 := method_swap ra rl rc
  have H := Lib.hid h
  clear h
  go_enter Try.func61, Try.ntmps61
  go_wp2
  go_loopw [6, 7] (fun vi vj wr => ∃ (i j : Nat) (dk : RA), vi = .int .i64 i ∧ vj = .int .i64 j ∧ j < b ∧ i ≤ b ∧ Hid (R dk wr ∧ reverseLoop i j dk = reverseLoop a (b - 1) V)) (fun vi vj _ => (intOf vj).toNat + 1 - (intOf vi).toNat)
  case atStart => exact ⟨a, b - 1, V, rfl, by congr 1 <;> omega, by omega, by omega, H.out, rfl⟩
  case round =>
    obtain ⟨i, j, dk, rfl, rfl, hjb, hib, HO⟩ := hrel
    by_cases hlt : i < j
    · have hltz : (i : Int) < (j : Int) := by omega
      have hs := S.swapZ i j (i : Int) (j : Int) HO.out.1 (by omega) (by omega) rfl rfl
      go_wp2_with (go_at_call 93; refine hs.mono ?_; rintro e w2 ⟨rfl, hR⟩; have HR := Lib.hid hR; clear hR hs)
      go_roundw
      case rel => exact ⟨i + 1, j - 1, swp dk i j, by go_num, by congr 1 <;> omega, by omega, by omega, HR.out, (rev_go hlt).symm.trans HO.out.2⟩
      case measure => simp [intOf]; omega
    · have hltz : ¬ (i : Int) < (j : Int) := by omega
      go_wp2
      go_end0
      refine ⟨rfl, ?_⟩
      unfold reverseRange
      rw [← HO.out.2, rev_stop hlt]
      exact HO.out.1

theorem sift_end {lt : (ByteArray × Int) → (ByteArray × Int) → Bool} {hi F root : Nat} {d : RA} (h : hi ≤ 2 * root + 1) : siftDown lt hi F root d = d := by
  rw [siftDown, dif_pos h]
theorem sift_right {lt : (ByteArray × Int) → (ByteArray × Int) → Bool} {hi F root : Nat} {d : RA} (h1 : 2 * root + 2 < hi) (h2 : lt d[F + (2 * root + 1)]! d[F + (2 * root + 2)]! = true) :
    siftDown lt hi F root d = if lt d[F + root]! d[F + (2 * root + 2)]! then siftDown lt hi F (2 * root + 2) (swp d (F + root) (F + (2 * root + 2))) else d := by
  rw [siftDown, dif_neg (by omega)]
  have h2' : lt d[F + (2 * root + 1)]! d[F + (2 * root + 1) + 1]! = true := h2
  rw [h2', decide_eq_true (show 2 * root + 1 + 1 < hi by omega), Bool.and_true, if_pos rfl]
  cases lt d[F + root]! d[F + (2 * root + 2)]! with
  | true => rw [if_neg (by simp), dif_pos h1, if_pos rfl]
  | false => rw [if_pos (by simp), if_neg (by simp)]
theorem sift_left {lt : (ByteArray × Int) → (ByteArray × Int) → Bool} {hi F root : Nat} {d : RA} (h0 : 2 * root + 1 < hi) (h1 : ¬ 2 * root + 2 < hi ∨ lt d[F + (2 * root + 1)]! d[F + (2 * root + 2)]! = false) :
    siftDown lt hi F root d = if lt d[F + root]! d[F + (2 * root + 1)]! then siftDown lt hi F (2 * root + 1) (swp d (F + root) (F + (2 * root + 1))) else d := by
  rw [siftDown, dif_neg (by omega)]
  have hc : (decide (2 * root + 1 + 1 < hi) && lt d[F + (2 * root + 1)]! d[F + (2 * root + 1) + 1]!) = false := by
    rcases h1 with h1 | h1
    · rw [decide_eq_false h1]; rfl
    · rw [show F + (2 * root + 1) + 1 = F + (2 * root + 2) from rfl, h1, Bool.and_false]
  rw [hc, if_neg (by simp)]
  cases lt d[F + root]! d[F + (2 * root + 1)]! with
  | true => rw [if_neg (by simp), if_pos rfl]
  | false => rw [if_pos (by simp), if_neg (by simp)]

set_option maxHeartbeats 8000000 in
theorem sift_any (S : SortRow R ra rl rc n B) (lo hi first : Nat) (V : RA) (w : World) (h : R V w) (hlo : lo ≤ hi) (hb : first + hi ≤ n) (hn : n < 4611686018427387904) :
    Calls Try.prog 68 #[.iface 51 (.slice ra rl rc), .int .i64 lo, .int .i64 hi, .int .i64 first] w (EndR R (.tuple #[]) (siftDown ltR hi first lo V)) := by
  have m1 := method_less ra rl rc
  have m2 := method_swap ra rl rc
  have H := Lib.hid h
  clear h
  go_enter Try.func68, Try.ntmps68
  go_wp2
  go_loopw [8] (fun v8 wr => ∃ (root : Nat) (dk : RA), v8 = .int .i64 root ∧ root ≤ hi ∧ Hid (R dk wr ∧ siftDown ltR hi first root dk = siftDown ltR hi first lo V)) (fun v8 _ => hi - (intOf v8).toNat)
  case atStart => exact ⟨lo, V, rfl, hlo, H.out, rfl⟩
  case round =>
    obtain ⟨root, dk, rfl, hr, HO⟩ := hrel
    by_cases h0 : hi ≤ 2 * root + 1
    · have h0z : (hi : Int) ≤ 2 * (root : Int) + 1 := by omega
      go_wp2
      go_end0
      refine ⟨rfl, ?_⟩
      rw [← HO.out.2, sift_end h0]
      exact HO.out.1
    · have h0z : ¬ ((hi : Int) ≤ 2 * (root : Int) + 1) := by omega
      by_cases h1 : 2 * root + 2 < hi
      · have h1z : 2 * (root : Int) + 1 + 1 < (hi : Int) := by omega
        cases hL : ltR dk[first + (2 * root + 1)]! dk[first + (2 * root + 2)]! with
        | true =>
          have hl := S.lessZ (first + (2 * root + 1)) (first + (2 * root + 2)) ((first : Int) + (2 * (root : Int) + 1)) ((first : Int) + (2 * (root : Int) + 1) + 1) true HO.out.1 (by omega) (by omega) (by omega) (by omega) hL
          have HE := Lib.hid (sift_right (lt := ltR) (F := first) h1 hL)
          clear hL
          cases hG : ltR dk[first + root]! dk[first + (2 * root + 2)]! with
          | true =>
            have HG := Lib.hid hG
            clear hG
            go_wp2_with (first
              | (go_at_call 92; refine hl.mono ?_; rintro e w' ⟨rfl, hR⟩; have hk := S.lessZ (first + root) (first + (2 * root + 2)) ((first : Int) + (root : Int)) ((first : Int) + (2 * (root : Int) + 1 + 1)) true hR (by omega) (by omega) (by omega) (by omega) HG.out; clear hR hl)
              | (go_at_call 92; refine hk.mono ?_; rintro e w' ⟨rfl, hR⟩; have hs := S.swapZ (first + root) (first + (2 * root + 2)) ((first : Int) + (root : Int)) ((first : Int) + (2 * (root : Int) + 1 + 1)) hR (by omega) (by omega) (by omega) (by omega); clear hR hk)
              | (go_at_call 93; refine hs.mono ?_; rintro e w2 ⟨rfl, hR⟩; have HR := Lib.hid hR; clear hR hs))
            go_roundw
            case rel => exact ⟨2 * root + 2, swp dk (first + root) (first + (2 * root + 2)), by go_num, by omega, HR.out, by rw [← HO.out.2, HE.out, if_pos HG.out]⟩
            case measure => simp [intOf]; omega
          | false =>
            have HG := Lib.hid hG
            clear hG
            go_wp2_with (first
              | (go_at_call 92; refine hl.mono ?_; rintro e w' ⟨rfl, hR⟩; have hk := S.lessZ (first + root) (first + (2 * root + 2)) ((first : Int) + (root : Int)) ((first : Int) + (2 * (root : Int) + 1 + 1)) false hR (by omega) (by omega) (by omega) (by omega) HG.out; clear hR hl)
              | (go_at_call 92; refine hk.mono ?_; rintro e w' ⟨rfl, hR⟩; have HR := Lib.hid hR; clear hR hk))
            (try simp only [Exit.inBlock, Exit.then]); refine bodyPost_ret (results_none rfl _ _ _) rfl ?_
            refine ⟨rfl, ?_⟩
            rw [← HO.out.2, HE.out, if_neg (by rw [HG.out]; simp)]
            exact HR.out
        | false =>
          have hl := S.lessZ (first + (2 * root + 1)) (first + (2 * root + 2)) ((first : Int) + (2 * (root : Int) + 1)) ((first : Int) + (2 * (root : Int) + 1) + 1) false HO.out.1 (by omega) (by omega) (by omega) (by omega) hL
          have HE := Lib.hid (sift_left (lt := ltR) (F := first) (d := dk) (hi := hi) (root := root) (by omega) (Or.inr hL))
          clear hL
          cases hG : ltR dk[first + root]! dk[first + (2 * root + 1)]! with
          | true =>
            have HG := Lib.hid hG
            clear hG
            go_wp2_with (first
              | (go_at_call 92; refine hl.mono ?_; rintro e w' ⟨rfl, hR⟩; have hk := S.lessZ (first + root) (first + (2 * root + 1)) ((first : Int) + (root : Int)) ((first : Int) + (2 * (root : Int) + 1)) true hR (by omega) (by omega) (by omega) (by omega) HG.out; clear hR hl)
              | (go_at_call 92; refine hk.mono ?_; rintro e w' ⟨rfl, hR⟩; have hs := S.swapZ (first + root) (first + (2 * root + 1)) ((first : Int) + (root : Int)) ((first : Int) + (2 * (root : Int) + 1)) hR (by omega) (by omega) (by omega) (by omega); clear hR hk)
              | (go_at_call 93; refine hs.mono ?_; rintro e w2 ⟨rfl, hR⟩; have HR := Lib.hid hR; clear hR hs))
            go_roundw
            case rel => exact ⟨2 * root + 1, swp dk (first + root) (first + (2 * root + 1)), by go_num, by omega, HR.out, by rw [← HO.out.2, HE.out, if_pos HG.out]⟩
            case measure => simp [intOf]; omega
          | false =>
            have HG := Lib.hid hG
            clear hG
            go_wp2_with (first
              | (go_at_call 92; refine hl.mono ?_; rintro e w' ⟨rfl, hR⟩; have hk := S.lessZ (first + root) (first + (2 * root + 1)) ((first : Int) + (root : Int)) ((first : Int) + (2 * (root : Int) + 1)) false hR (by omega) (by omega) (by omega) (by omega) HG.out; clear hR hl)
              | (go_at_call 92; refine hk.mono ?_; rintro e w' ⟨rfl, hR⟩; have HR := Lib.hid hR; clear hR hk))
            (try simp only [Exit.inBlock, Exit.then]); refine bodyPost_ret (results_none rfl _ _ _) rfl ?_
            refine ⟨rfl, ?_⟩
            rw [← HO.out.2, HE.out, if_neg (by rw [HG.out]; simp)]
            exact HR.out
      · have h1z : ¬ (2 * (root : Int) + 1 + 1 < (hi : Int)) := by omega
        have HE := Lib.hid (sift_left (lt := ltR) (F := first) (d := dk) (hi := hi) (root := root) (by omega) (Or.inl h1))
        cases hG : ltR dk[first + root]! dk[first + (2 * root + 1)]! with
        | true =>
          have hk := S.lessZ (first + root) (first + (2 * root + 1)) ((first : Int) + (root : Int)) ((first : Int) + (2 * (root : Int) + 1)) true HO.out.1 (by omega) (by omega) (by omega) (by omega) hG
          have HG := Lib.hid hG
          clear hG
          go_wp2_with (first
            | (go_at_call 92; refine hk.mono ?_; rintro e w' ⟨rfl, hR⟩; have hs := S.swapZ (first + root) (first + (2 * root + 1)) ((first : Int) + (root : Int)) ((first : Int) + (2 * (root : Int) + 1)) hR (by omega) (by omega) (by omega) (by omega); clear hR hk)
            | (go_at_call 93; refine hs.mono ?_; rintro e w2 ⟨rfl, hR⟩; have HR := Lib.hid hR; clear hR hs))
          go_roundw
          case rel => exact ⟨2 * root + 1, swp dk (first + root) (first + (2 * root + 1)), by go_num, by omega, HR.out, by rw [← HO.out.2, HE.out, if_pos HG.out]⟩
          case measure => simp [intOf]; omega
        | false =>
          have hk := S.lessZ (first + root) (first + (2 * root + 1)) ((first : Int) + (root : Int)) ((first : Int) + (2 * (root : Int) + 1)) false HO.out.1 (by omega) (by omega) (by omega) (by omega) hG
          have HG := Lib.hid hG
          clear hG
          go_wp2_with (go_at_call 92; refine hk.mono ?_; rintro e w' ⟨rfl, hR⟩; have HR := Lib.hid hR; clear hR hk)
          (try simp only [Exit.inBlock, Exit.then]); refine bodyPost_ret (results_none rfl _ _ _) rfl ?_
          refine ⟨rfl, ?_⟩
          rw [← HO.out.2, HE.out, if_neg (by rw [HG.out]; simp)]
          exact HR.out

set_option maxHeartbeats 4000000 in
theorem heap_any (S : SortRow R ra rl rc n B) (a b : Nat) (V : RA) (w : World) (h : R V w) (hab : a ≤ b) (hb : b ≤ n) (hn : n < 4611686018427387904) :
    Calls Try.prog 58 #[.iface 51 (.slice ra rl rc), .int .i64 a, .int .i64 b] w (EndR R (.tuple #[]) (heapSort ltR V a b)) := by
  have m2 := method_swap ra rl rc
  have H := Lib.hid h
  clear h
  obtain ⟨m, hm⟩ : ∃ m, b - a = m := ⟨_, rfl⟩
  have ecast : (b : Int) - (a : Int) = (m : Int) := by omega
  have ehalf : ((m : Int) - 1).tdiv 2 = (((m - 1) / 2 + 1 : Nat) : Int) - 1 := by
    rcases Nat.eq_zero_or_pos m with h0 | h0
    · subst h0; decide
    · rw [Int.tdiv_eq_ediv_of_nonneg (by omega)]; omega
  have HM := Lib.hid hm
  have hma : a + m ≤ n := by omega
  clear hm
  go_enter Try.func58, Try.ntmps58
  go_wp2
  go_loopg [9] ((m - 1) / 2 + 1) (fun kx s9 wr => s9 = .int .i64 ((kx : Int) - 1) ∧ kx ≤ (m - 1) / 2 + 1 ∧ ∃ (dk : RA), Hid (R dk wr ∧ heapBuild ltR m a kx dk = heapBuild ltR m a ((m - 1) / 2 + 1) V))
  case atStart => exact ⟨by first | rw [ehalf] | (congr 1 <;> omega), Nat.le_refl _, V, H.out, rfl⟩
  case round =>
    obtain ⟨rfl, hkk, dk, HO⟩ := hrel
    cases gk with
    | zero =>
      go_wp2
      go_loopg [10] m (fun kx s10 wr2 => s10 = .int .i64 ((kx : Int) - 1) ∧ kx ≤ m ∧ ∃ (dj : RA), Hid (R dj wr2 ∧ heapPop ltR a kx dj = heapPop ltR a m dk))
      case atStart => exact ⟨by rfl, Nat.le_refl _, dk, HO.out.1, rfl⟩
      case round =>
        obtain ⟨rfl, hkk, dj, HP⟩ := hrel
        cases gk with
        | zero =>
          go_wp2
          go_end0
          have e : heapSort ltR V a b = dj := by
            unfold heapSort
            rw [HM.out, ← HO.out.2]
            exact (HP.out.2).symm
          refine ⟨rfl, ?_⟩
          rw [e]
          exact HP.out.1
        | succ kx =>
          have hs := S.swapZ a (a + kx) (a : Int) ((a : Int) + (kx : Int)) HP.out.1 (by omega) (by omega) rfl (by omega)
          go_wp2_with (first
            | (go_at_call 93; refine hs.mono ?_; rintro e w' ⟨rfl, hR⟩; have hc := sift_any S 0 kx a _ _ hR (Nat.zero_le _) (by omega) hn; clear hR hs)
            | (go_at_call 68; refine hc.mono ?_; rintro e w2 ⟨rfl, hR⟩; have HR := Lib.hid hR; clear hR hc))
          go_roundg kx
          case measure => omega
          case rel => exact ⟨by simp, by omega, siftDown ltR kx a 0 (swp dj a (a + kx)), HR.out, HP.out.2⟩
    | succ kx =>
      have hc := sift_any S kx m a _ _ HO.out.1 (by omega) (by omega) hn
      go_wp2_with (go_at_call 68; refine hc.mono ?_; rintro e w2 ⟨rfl, hR⟩; have HR := Lib.hid hR; clear hR hc)
      go_roundg kx
      case measure => omega
      case rel => exact ⟨by simp, by omega, siftDown ltR m a kx dk, HR.out, HO.out.2⟩
end Go.Proofs.Ytldjahemgkkpbaa
