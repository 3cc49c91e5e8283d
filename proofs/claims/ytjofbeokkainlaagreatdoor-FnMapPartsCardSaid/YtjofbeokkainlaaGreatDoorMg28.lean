/- Texts put together, as a claim holds at most sixty files. -/
import Derived.Test.YtjofbeokkainlaaGreatDoorMg18
import Derived.Sort.Statements
import Derived.Deep.LoopGhost
namespace Go.Proofs.YtjofbeokkainlaaGreatDoor
open Go.ChangeShapes Go.WideShapes Go.ChangeAt Go.RowKit Go.Lib
set_option linter.unusedVariables false
set_option maxRecDepth 100000

abbrev RA := Array (ByteArray × Int)
def ltR (a b : ByteArray × Int) : Bool := lessB a.1 a.2 b.1 b.2

/-- Blocks from B on that were there are as they were. -/
def KeepB (B : Nat) (w w' : World) : Prop :=
  w.heap.size ≤ w'.heap.size ∧ ∀ b o, B ≤ b → b < w.heap.size → w'.cell? ⟨b, o, none⟩ = w.cell? ⟨b, o, none⟩ ∧ w'.frozen? ⟨b, o, none⟩ = w.frozen? ⟨b, o, none⟩
theorem KeepB.refl (B : Nat) (w : World) : KeepB B w w := ⟨Nat.le_refl _, fun _ _ _ _ => ⟨rfl, rfl⟩⟩
theorem KeepB.trans {B : Nat} {w w1 w2 : World} (h : KeepB B w w1) (k : KeepB B w1 w2) : KeepB B w w2 :=
  ⟨Nat.le_trans h.1 k.1, fun b o hb hl => ⟨((k.2 b o hb (Nat.lt_of_lt_of_le hl h.1)).1).trans (h.2 b o hb hl).1, ((k.2 b o hb (Nat.lt_of_lt_of_le hl h.1)).2).trans (h.2 b o hb hl).2⟩⟩

/-- A row of n records below block B, read by Less and turned by Swap of the receiver (ra, rl, rc). -/
structure SortRow (R : RA → World → Prop) (ra : Option Addr) (rl rc n B : Nat) : Prop where
  size : ∀ {V w}, R V w → V.size = n
  room : ∀ {V w}, R V w → B ≤ w.heap.size
  drewN : ∀ {V w} (q : Nat), R V w → R V (w.drewN q)
  alloc : ∀ {V w} (o : Obj), R V w → R V (w.alloc o)
  set : ∀ {V w} (b o : Nat) (v : Value), R V w → B ≤ b → R V (w.setCell ⟨b, o, none⟩ v)
  less : ∀ {V w} (i j : Nat), R V w → i < n → j < n → Calls Tryz.prog 220 #[.slice ra rl rc, .int .i64 i, .int .i64 j] w fun e w' => e = .returned (.bool (ltR V[i]! V[j]!)) ∧ R V w' ∧ KeepB B w w'
  swap : ∀ {V w} (i j : Nat), R V w → i < n → j < n → Calls Tryz.prog 221 #[.slice ra rl rc, .int .i64 i, .int .i64 j] w fun e w' => e = .returned (.tuple #[]) ∧ R (Go.Sort.swp V i j) w' ∧ KeepB B w w'

theorem method_swap (a : Option Addr) (len cap : Nat) (w : World) : (method 338 78 (.slice a len cap) "Swap").run Tryz.prog w = .ok (221, .slice a len cap) w := by kernel_rfl

/-- The end of a step of the sort: what it returns, and what stands in the row. -/
def EndR (R : RA → World → Prop) (v : Value) (V : RA) (e : Ending) (w' : World) : Prop := e = .returned v ∧ R V w'

/-- Less and Swap at places that are known as integers. -/
theorem SortRow.lessZ {R : RA → World → Prop} {ra : Option Addr} {rl rc n B : Nat} (S : SortRow R ra rl rc n B) {V : RA} {w : World} (i j : Nat) (x y : Int) (z : Bool) (h : R V w) (hi : i < n) (hj : j < n) (hx : (i : Int) = x) (hy : (j : Int) = y) (hz : ltR V[i]! V[j]! = z) :
    Calls Tryz.prog 220 #[.slice ra rl rc, .int .i64 x, .int .i64 y] w fun e w' => e = .returned (.bool z) ∧ R V w' := by
  subst hx hy hz
  exact (S.less i j h hi hj).mono fun _ _ ⟨he, hR, _⟩ => ⟨he, hR⟩
theorem SortRow.swapZ {R : RA → World → Prop} {ra : Option Addr} {rl rc n B : Nat} (S : SortRow R ra rl rc n B) {V : RA} {w : World} (i j : Nat) (x y : Int) (h : R V w) (hi : i < n) (hj : j < n) (hx : (i : Int) = x) (hy : (j : Int) = y) :
    Calls Tryz.prog 221 #[.slice ra rl rc, .int .i64 x, .int .i64 y] w fun e w' => e = .returned (.tuple #[]) ∧ R (Go.Sort.swp V i j) w' := by
  subst hx hy
  exact (S.swap i j h hi hj).mono fun _ _ ⟨he, hR, _⟩ => ⟨he, hR⟩
end Go.Proofs.YtjofbeokkainlaaGreatDoor
namespace Go.Proofs.YtjofbeokkainlaaGreatDoor
open Go.ChangeShapes Go.WideShapes Go.ChangeAt Go.RowKit Go.Lib
open Go.Sort hiding Below
set_option linter.unusedVariables false
set_option maxRecDepth 100000
variable {R : RA → World → Prop} {ra : Option Addr} {rl rc n B : Nat}

theorem ins_go {lt : (ByteArray × Int) → (ByteArray × Int) → Bool} {a j : Nat} {d : RA} (hj : a < j) (hl : lt d[j]! d[j - 1]! = true) : insInner lt a j d = insInner lt a (j - 1) (swp d j (j - 1)) := by
  cases j with
  | zero => omega
  | succ k =>
    rw [Nat.add_sub_cancel] at hl ⊢
    rw [insInner, hl, decide_eq_true hj]; rfl
theorem ins_stop {lt : (ByteArray × Int) → (ByteArray × Int) → Bool} {a j : Nat} {d : RA} (h : j ≤ a ∨ lt d[j]! d[j - 1]! = false) : insInner lt a j d = d := by
  cases j with
  | zero => rw [insInner]
  | succ k =>
    rw [Nat.add_sub_cancel] at h
    rw [insInner]
    rcases h with h | h
    · rw [decide_eq_false (by omega)]; rfl
    · rw [h, Bool.and_false]; rfl
theorem outer_go {lt : (ByteArray × Int) → (ByteArray × Int) → Bool} {a b i : Nat} {d : RA} (h : i < b) : insOuter lt a b i d = insOuter lt a b (i + 1) (insInner lt a i d) := by
  rw [insOuter, if_pos h]
theorem outer_stop {lt : (ByteArray × Int) → (ByteArray × Int) → Bool} {a b i : Nat} {d : RA} (h : ¬ i < b) : insOuter lt a b i d = d := by
  rw [insOuter, if_neg h]

set_option maxHeartbeats 2000000 in
theorem isort_any (S : SortRow R ra rl rc n B) (a b : Nat) (V : RA) (w : World) (h : R V w) (hab : a ≤ b) (hb : b ≤ n) (hn : n < 4611686018427387904) :
    Calls Tryz.prog 93 #[.iface 78 (.slice ra rl rc), .int .i64 a, .int .i64 b] w (EndR R (.tuple #[]) (insertionSort ltR V a b)) := by
  have m1 := method_less ra rl rc
  have m2 := method_swap ra rl rc
  have H := Lib.hid h
  clear h
  go_enter Tryz.func93, Tryz.ntmps93
  go_wp2
  go_loopw [6] (fun vi wr => ∃ (i : Nat) (dk : RA), vi = .int .i64 i ∧ a < i ∧ i ≤ b + 1 ∧ Hid (R dk wr ∧ insOuter ltR a b i dk = insOuter ltR a b (a + 1) V)) (fun vi _ => b + 1 - (intOf vi).toNat)
  case atStart => exact ⟨a + 1, V, by go_num, by omega, by omega, H.out, rfl⟩
  case round =>
    obtain ⟨i, dk, rfl, hai, hib, HO⟩ := hrel
    by_cases hlt : i < b
    · have hltz : (i : Int) < (b : Int) := by omega
      go_wp2
      go_loopw [7] (fun vj wr2 => ∃ (j : Nat) (dj : RA), vj = .int .i64 j ∧ a ≤ j ∧ j ≤ i ∧ Hid (R dj wr2 ∧ insInner ltR a j dj = insInner ltR a i dk)) (fun vj _ => (intOf vj).toNat)
      case atStart => exact ⟨i, dk, rfl, by omega, Nat.le_refl _, HO.out.1, rfl⟩
      case round =>
        obtain ⟨j, dj, rfl, haj, hji, HI⟩ := hrel
        by_cases hja : a < j
        · cases hlv : ltR dj[j]! dj[j - 1]! with
          | true =>
            have hl := S.lessZ j (j - 1) (j : Int) ((j : Int) - 1) true HI.out.1 (by omega) (by omega) rfl (by omega) hlv
            have HV := Lib.hid hlv
            clear hlv
            go_wp2_with (first
              | (go_at_call 220; refine hl.mono ?_; rintro e w' ⟨rfl, hR⟩; have hs := S.swapZ j (j - 1) (j : Int) ((j : Int) - 1) hR (by omega) (by omega) rfl (by omega); clear hR hl)
              | (go_at_call 221; refine hs.mono ?_; rintro e w2 ⟨rfl, hR⟩; have HR := Lib.hid hR; clear hR hs))
            go_roundw
            case rel => exact ⟨j - 1, swp dj j (j - 1), by congr 1 <;> omega, by omega, by omega, HR.out, (ins_go hja HV.out).symm.trans HI.out.2⟩
            case measure => simp [intOf]; omega
          | false =>
            have hl := S.lessZ j (j - 1) (j : Int) ((j : Int) - 1) false HI.out.1 (by omega) (by omega) rfl (by omega) hlv
            have HV := Lib.hid hlv
            clear hlv
            go_wp2_with (go_at_call 220; refine hl.mono ?_; rintro e w' ⟨rfl, hR⟩; have HR := Lib.hid hR; clear hR hl)
            go_roundw
            case rel => exact ⟨i + 1, dj, by go_num, by omega, by omega, HR.out, by rw [← HO.out.2, outer_go hlt, ← HI.out.2, ins_stop (Or.inr HV.out)]⟩
            case measure => simp [intOf]; omega
        · go_wp2
          go_roundw
          case rel => exact ⟨i + 1, dj, by go_num, by omega, by omega, HI.out.1, by rw [← HO.out.2, outer_go hlt, ← HI.out.2, ins_stop (Or.inl (by omega))]⟩
          case measure => simp [intOf]; omega
    · have hltz : ¬ (i : Int) < (b : Int) := by omega
      go_wp2
      go_end0
      refine ⟨rfl, ?_⟩
      unfold insertionSort
      rw [← HO.out.2, outer_stop hlt]
      exact HO.out.1

theorem rev_go {i j : Nat} {d : RA} (h : i < j) : reverseLoop i j d = reverseLoop (i + 1) (j - 1) (swp d i j) := by
  rw [reverseLoop, if_pos h]
theorem rev_stop {i j : Nat} {d : RA} (h : ¬ i < j) : reverseLoop i j d = d := by
  rw [reverseLoop, if_neg h]

set_option maxHeartbeats 1600000 in
theorem reverse_any (S : SortRow R ra rl rc n B) (a b : Nat) (V : RA) (w : World) (h : R V w) (hab : a < b) (hb : b ≤ n) (hn : n < 4611686018427387904) :
    Calls Tryz.prog 97 #[.iface 78 (.slice ra rl rc), .int .i64 a, .int .i64 b] w (EndR R (.tuple #[]) (reverseRange V a b)) := by
  have m2 := method_swap ra rl rc
  have H := Lib.hid h
  clear h
  go_enter Tryz.func97, Tryz.ntmps97
  go_wp2
  go_loopw [6, 7] (fun vi vj wr => ∃ (i j : Nat) (dk : RA), vi = .int .i64 i ∧ vj = .int .i64 j ∧ j < b ∧ i ≤ b ∧ Hid (R dk wr ∧ reverseLoop i j dk = reverseLoop a (b - 1) V)) (fun vi vj _ => (intOf vj).toNat + 1 - (intOf vi).toNat)
  case atStart => exact ⟨a, b - 1, V, rfl, by congr 1 <;> omega, by omega, by omega, H.out, rfl⟩
  case round =>
    obtain ⟨i, j, dk, rfl, rfl, hjb, hib, HO⟩ := hrel
    by_cases hlt : i < j
    · have hltz : (i : Int) < (j : Int) := by omega
      have hs := S.swapZ i j (i : Int) (j : Int) HO.out.1 (by omega) (by omega) rfl rfl
      go_wp2_with (go_at_call 221; refine hs.mono ?_; rintro e w2 ⟨rfl, hR⟩; have HR := Lib.hid hR; clear hR hs)
      go_roundw
      case rel => exact ⟨i + 1, j - 1, swp dk i j, by go_num, by congr 1 <;> omega, by omega, by omega, HR.out, (rev_go hlt).symm.trans HO.out.2⟩
      case measure => simp [intOf]; omega
    · have hltz : ¬ (i : Int) < (j : Int) := by omega
      go_wp2
      go_end0
      refine ⟨rfl, ?_⟩
      unfold reverseRange
      rw [← HO.out.2, rev_stop hlt]
      exact HO.out.1

theorem sift_end {lt : (ByteArray × Int) → (ByteArray × Int) → Bool} {hi F root : Nat} {d : RA} (h : hi ≤ 2 * root + 1) : siftDown lt hi F root d = d := by
  rw [siftDown, dif_pos h]
theorem sift_right {lt : (ByteArray × Int) → (ByteArray × Int) → Bool} {hi F root : Nat} {d : RA} (h1 : 2 * root + 2 < hi) (h2 : lt d[F + (2 * root + 1)]! d[F + (2 * root + 2)]! = true) :
    siftDown lt hi F root d = if lt d[F + root]! d[F + (2 * root + 2)]! then siftDown lt hi F (2 * root + 2) (swp d (F + root) (F + (2 * root + 2))) else d := by
  rw [siftDown, dif_neg (by omega)]
  have h2' : lt d[F + (2 * root + 1)]! d[F + (2 * root + 1) + 1]! = true := h2
  rw [h2', decide_eq_true (show 2 * root + 1 + 1 < hi by omega), Bool.and_true, if_pos rfl]
  cases lt d[F + root]! d[F + (2 * root + 2)]! with
  | true => rw [if_neg (by simp), dif_pos h1, if_pos rfl]
  | false => rw [if_pos (by simp), if_neg (by simp)]
theorem sift_left {lt : (ByteArray × Int) → (ByteArray × Int) → Bool} {hi F root : Nat} {d : RA} (h0 : 2 * root + 1 < hi) (h1 : ¬ 2 * root + 2 < hi ∨ lt d[F + (2 * root + 1)]! d[F + (2 * root + 2)]! = false) :
    siftDown lt hi F root d = if lt d[F + root]! d[F + (2 * root + 1)]! then siftDown lt hi F (2 * root + 1) (swp d (F + root) (F + (2 * root + 1))) else d := by
  rw [siftDown, dif_neg (by omega)]
  have hc : (decide (2 * root + 1 + 1 < hi) && lt d[F + (2 * root + 1)]! d[F + (2 * root + 1) + 1]!) = false := by
    rcases h1 with h1 | h1
    · rw [decide_eq_false h1]; rfl
    · rw [show F + (2 * root + 1) + 1 = F + (2 * root + 2) from rfl, h1, Bool.and_false]
  rw [hc, if_neg (by simp)]
  cases lt d[F + root]! d[F + (2 * root + 1)]! with
  | true => rw [if_neg (by simp), if_pos rfl]
  | false => rw [if_pos (by simp), if_neg (by simp)]

set_option maxHeartbeats 8000000 in
theorem sift_any (S : SortRow R ra rl rc n B) (lo hi first : Nat) (V : RA) (w : World) (h : R V w) (hlo : lo ≤ hi) (hb : first + hi ≤ n) (hn : n < 4611686018427387904) :
    Calls Tryz.prog 116 #[.iface 78 (.slice ra rl rc), .int .i64 lo, .int .i64 hi, .int .i64 first] w (EndR R (.tuple #[]) (siftDown ltR hi first lo V)) := by
  have m1 := method_less ra rl rc
  have m2 := method_swap ra rl rc
  have H := Lib.hid h
  clear h
  go_enter Tryz.func116, Tryz.ntmps116
  go_wp2
  go_loopw [8] (fun v8 wr => ∃ (root : Nat) (dk : RA), v8 = .int .i64 root ∧ root ≤ hi ∧ Hid (R dk wr ∧ siftDown ltR hi first root dk = siftDown ltR hi first lo V)) (fun v8 _ => hi - (intOf v8).toNat)
  case atStart => exact ⟨lo, V, rfl, hlo, H.out, rfl⟩
  case round =>
    obtain ⟨root, dk, rfl, hr, HO⟩ := hrel
    by_cases h0 : hi ≤ 2 * root + 1
    · have h0z : (hi : Int) ≤ 2 * (root : Int) + 1 := by omega
      go_wp2
      go_end0
      refine ⟨rfl, ?_⟩
      rw [← HO.out.2, sift_end h0]
      exact HO.out.1
    · have h0z : ¬ ((hi : Int) ≤ 2 * (root : Int) + 1) := by omega
      by_cases h1 : 2 * root + 2 < hi
      · have h1z : 2 * (root : Int) + 1 + 1 < (hi : Int) := by omega
        cases hL : ltR dk[first + (2 * root + 1)]! dk[first + (2 * root + 2)]! with
        | true =>
          have hl := S.lessZ (first + (2 * root + 1)) (first + (2 * root + 2)) ((first : Int) + (2 * (root : Int) + 1)) ((first : Int) + (2 * (root : Int) + 1) + 1) true HO.out.1 (by omega) (by omega) (by omega) (by omega) hL
          have HE := Lib.hid (sift_right (lt := ltR) (F := first) h1 hL)
          clear hL
          cases hG : ltR dk[first + root]! dk[first + (2 * root + 2)]! with
          | true =>
            have HG := Lib.hid hG
            clear hG
            go_wp2_with (first
              | (go_at_call 220; refine hl.mono ?_; rintro e w' ⟨rfl, hR⟩; have hk := S.lessZ (first + root) (first + (2 * root + 2)) ((first : Int) + (root : Int)) ((first : Int) + (2 * (root : Int) + 1 + 1)) true hR (by omega) (by omega) (by omega) (by omega) HG.out; clear hR hl)
              | (go_at_call 220; refine hk.mono ?_; rintro e w' ⟨rfl, hR⟩; have hs := S.swapZ (first + root) (first + (2 * root + 2)) ((first : Int) + (root : Int)) ((first : Int) + (2 * (root : Int) + 1 + 1)) hR (by omega) (by omega) (by omega) (by omega); clear hR hk)
              | (go_at_call 221; refine hs.mono ?_; rintro e w2 ⟨rfl, hR⟩; have HR := Lib.hid hR; clear hR hs))
            go_roundw
            case rel => exact ⟨2 * root + 2, swp dk (first + root) (first + (2 * root + 2)), by go_num, by omega, HR.out, by rw [← HO.out.2, HE.out, if_pos HG.out]⟩
            case measure => simp [intOf]; omega
          | false =>
            have HG := Lib.hid hG
            clear hG
            go_wp2_with (first
              | (go_at_call 220; refine hl.mono ?_; rintro e w' ⟨rfl, hR⟩; have hk := S.lessZ (first + root) (first + (2 * root + 2)) ((first : Int) + (root : Int)) ((first : Int) + (2 * (root : Int) + 1 + 1)) false hR (by omega) (by omega) (by omega) (by omega) HG.out; clear hR hl)
              | (go_at_call 220; refine hk.mono ?_; rintro e w' ⟨rfl, hR⟩; have HR := Lib.hid hR; clear hR hk))
            (try simp only [Exit.inBlock, Exit.then]); refine bodyPost_ret (results_none rfl _ _ _) rfl ?_
            refine ⟨rfl, ?_⟩
            rw [← HO.out.2, HE.out, if_neg (by rw [HG.out]; simp)]
            exact HR.out
        | false =>
          have hl := S.lessZ (first + (2 * root + 1)) (first + (2 * root + 2)) ((first : Int) + (2 * (root : Int) + 1)) ((first : Int) + (2 * (root : Int) + 1) + 1) false HO.out.1 (by omega) (by omega) (by omega) (by omega) hL
          have HE := Lib.hid (sift_left (lt := ltR) (F := first) (d := dk) (hi := hi) (root := root) (by omega) (Or.inr hL))
          clear hL
          cases hG : ltR dk[first + root]! dk[first + (2 * root + 1)]! with
          | true =>
            have HG := Lib.hid hG
            clear hG
            go_wp2_with (first
              | (go_at_call 220; refine hl.mono ?_; rintro e w' ⟨rfl, hR⟩; have hk := S.lessZ (first + root) (first + (2 * root + 1)) ((first : Int) + (root : Int)) ((first : Int) + (2 * (root : Int) + 1)) true hR (by omega) (by omega) (by omega) (by omega) HG.out; clear hR hl)
              | (go_at_call 220; refine hk.mono ?_; rintro e w' ⟨rfl, hR⟩; have hs := S.swapZ (first + root) (first + (2 * root + 1)) ((first : Int) + (root : Int)) ((first : Int) + (2 * (root : Int) + 1)) hR (by omega) (by omega) (by omega) (by omega); clear hR hk)
              | (go_at_call 221; refine hs.mono ?_; rintro e w2 ⟨rfl, hR⟩; have HR := Lib.hid hR; clear hR hs))
            go_roundw
            case rel => exact ⟨2 * root + 1, swp dk (first + root) (first + (2 * root + 1)), by go_num, by omega, HR.out, by rw [← HO.out.2, HE.out, if_pos HG.out]⟩
            case measure => simp [intOf]; omega
          | false =>
            have HG := Lib.hid hG
            clear hG
            go_wp2_with (first
              | (go_at_call 220; refine hl.mono ?_; rintro e w' ⟨rfl, hR⟩; have hk := S.lessZ (first + root) (first + (2 * root + 1)) ((first : Int) + (root : Int)) ((first : Int) + (2 * (root : Int) + 1)) false hR (by omega) (by omega) (by omega) (by omega) HG.out; clear hR hl)
              | (go_at_call 220; refine hk.mono ?_; rintro e w' ⟨rfl, hR⟩; have HR := Lib.hid hR; clear hR hk))
            (try simp only [Exit.inBlock, Exit.then]); refine bodyPost_ret (results_none rfl _ _ _) rfl ?_
            refine ⟨rfl, ?_⟩
            rw [← HO.out.2, HE.out, if_neg (by rw [HG.out]; simp)]
            exact HR.out
      · have h1z : ¬ (2 * (root : Int) + 1 + 1 < (hi : Int)) := by omega
        have HE := Lib.hid (sift_left (lt := ltR) (F := first) (d := dk) (hi := hi) (root := root) (by omega) (Or.inl h1))
        cases hG : ltR dk[first + root]! dk[first + (2 * root + 1)]! with
        | true =>
          have hk := S.lessZ (first + root) (first + (2 * root + 1)) ((first : Int) + (root : Int)) ((first : Int) + (2 * (root : Int) + 1)) true HO.out.1 (by omega) (by omega) (by omega) (by omega) hG
          have HG := Lib.hid hG
          clear hG
          go_wp2_with (first
            | (go_at_call 220; refine hk.mono ?_; rintro e w' ⟨rfl, hR⟩; have hs := S.swapZ (first + root) (first + (2 * root + 1)) ((first : Int) + (root : Int)) ((first : Int) + (2 * (root : Int) + 1)) hR (by omega) (by omega) (by omega) (by omega); clear hR hk)
            | (go_at_call 221; refine hs.mono ?_; rintro e w2 ⟨rfl, hR⟩; have HR := Lib.hid hR; clear hR hs))
          go_roundw
          case rel => exact ⟨2 * root + 1, swp dk (first + root) (first + (2 * root + 1)), by go_num, by omega, HR.out, by rw [← HO.out.2, HE.out, if_pos HG.out]⟩
          case measure => simp [intOf]; omega
        | false =>
          have hk := S.lessZ (first + root) (first + (2 * root + 1)) ((first : Int) + (root : Int)) ((first : Int) + (2 * (root : Int) + 1)) false HO.out.1 (by omega) (by omega) (by omega) (by omega) hG
          have HG := Lib.hid hG
          clear hG
          go_wp2_with (go_at_call 220; refine hk.mono ?_; rintro e w' ⟨rfl, hR⟩; have HR := Lib.hid hR; clear hR hk)
          (try simp only [Exit.inBlock, Exit.then]); refine bodyPost_ret (results_none rfl _ _ _) rfl ?_
          refine ⟨rfl, ?_⟩
          rw [← HO.out.2, HE.out, if_neg (by rw [HG.out]; simp)]
          exact HR.out

set_option maxHeartbeats 4000000 in
theorem heap_any (S : SortRow R ra rl rc n B) (a b : Nat) (V : RA) (w : World) (h : R V w) (hab : a ≤ b) (hb : b ≤ n) (hn : n < 4611686018427387904) :
    Calls Tryz.prog 94 #[.iface 78 (.slice ra rl rc), .int .i64 a, .int .i64 b] w (EndR R (.tuple #[]) (heapSort ltR V a b)) := by
  have m2 := method_swap ra rl rc
  have H := Lib.hid h
  clear h
  obtain ⟨m, hm⟩ : ∃ m, b - a = m := ⟨_, rfl⟩
  have ecast : (b : Int) - (a : Int) = (m : Int) := by omega
  have ehalf : ((m : Int) - 1).tdiv 2 = (((m - 1) / 2 + 1 : Nat) : Int) - 1 := by
    rcases Nat.eq_zero_or_pos m with h0 | h0
    · subst h0; decide
    · rw [Int.tdiv_eq_ediv_of_nonneg (by omega)]; omega
  have HM := Lib.hid hm
  have hma : a + m ≤ n := by omega
  clear hm
  go_enter Tryz.func94, Tryz.ntmps94
  go_wp2
  go_loopg [9] ((m - 1) / 2 + 1) (fun kx s9 wr => s9 = .int .i64 ((kx : Int) - 1) ∧ kx ≤ (m - 1) / 2 + 1 ∧ ∃ (dk : RA), Hid (R dk wr ∧ heapBuild ltR m a kx dk = heapBuild ltR m a ((m - 1) / 2 + 1) V))
  case atStart => exact ⟨by first | rw [ehalf] | (congr 1 <;> omega), Nat.le_refl _, V, H.out, rfl⟩
  case round =>
    obtain ⟨rfl, hkk, dk, HO⟩ := hrel
    cases gk with
    | zero =>
      go_wp2
      go_loopg [10] m (fun kx s10 wr2 => s10 = .int .i64 ((kx : Int) - 1) ∧ kx ≤ m ∧ ∃ (dj : RA), Hid (R dj wr2 ∧ heapPop ltR a kx dj = heapPop ltR a m dk))
      case atStart => exact ⟨by rfl, Nat.le_refl _, dk, HO.out.1, rfl⟩
      case round =>
        obtain ⟨rfl, hkk, dj, HP⟩ := hrel
        cases gk with
        | zero =>
          go_wp2
          go_end0
          have e : heapSort ltR V a b = dj := by
            unfold heapSort
            rw [HM.out, ← HO.out.2]
            exact (HP.out.2).symm
          refine ⟨rfl, ?_⟩
          rw [e]
          exact HP.out.1
        | succ kx =>
          have hs := S.swapZ a (a + kx) (a : Int) ((a : Int) + (kx : Int)) HP.out.1 (by omega) (by omega) rfl (by omega)
          go_wp2_with (first
            | (go_at_call 221; refine hs.mono ?_; rintro e w' ⟨rfl, hR⟩; have hc := sift_any S 0 kx a _ _ hR (Nat.zero_le _) (by omega) hn; clear hR hs)
            | (go_at_call 116; refine hc.mono ?_; rintro e w2 ⟨rfl, hR⟩; have HR := Lib.hid hR; clear hR hc))
          go_roundg kx
          case measure => omega
          case rel => exact ⟨by simp, by omega, siftDown ltR kx a 0 (swp dj a (a + kx)), HR.out, HP.out.2⟩
    | succ kx =>
      have hc := sift_any S kx m a _ _ HO.out.1 (by omega) (by omega) hn
      go_wp2_with (go_at_call 116; refine hc.mono ?_; rintro e w2 ⟨rfl, hR⟩; have HR := Lib.hid hR; clear hR hc)
      go_roundg kx
      case measure => omega
      case rel => exact ⟨by simp, by omega, siftDown ltR m a kx dk, HR.out, HO.out.2⟩
end Go.Proofs.YtjofbeokkainlaaGreatDoor
namespace Go.Proofs.YtjofbeokkainlaaGreatDoor
open Go.ChangeShapes Go.WideShapes Go.ChangeAt Go.RowKit Go.Lib
set_option linter.unusedVariables false
set_option maxRecDepth 100000
variable {R : RA → World → Prop} {ra : Option Addr} {rl rc n B : Nat}

/-- Block c holds a count of at most K. -/
def Cnt (c K : Nat) (w : World) : Prop := ∃ s : Nat, s ≤ K ∧ w.cell? ⟨c, 0, none⟩ = some (.int .i64 s) ∧ w.frozen? ⟨c, 0, none⟩ = false
theorem Cnt.keep {c K B : Nat} {w w' : World} (h : Cnt c K w) (hB : B ≤ c) (k : KeepB B w w') : Cnt c K w' := by
  obtain ⟨s, hs, hc, hf⟩ := h
  have hl : c < w.heap.size := World.block_lt_of_cell? _ _ hc
  exact ⟨s, hs, (k.2 c 0 hB hl).1.trans hc, (k.2 c 0 hB hl).2.trans hf⟩
def Two (R : RA → World → Prop) (V : RA) (c K lo up : Nat) (e : Ending) (w' : World) : Prop :=
  ∃ x y : Nat, e = .returned (.tuple #[.int .i64 x, .int .i64 y]) ∧ lo ≤ x ∧ x < up ∧ lo ≤ y ∧ y < up ∧ R V w' ∧ Cnt c K w'
def One (R : RA → World → Prop) (V : RA) (c K lo up : Nat) (e : Ending) (w' : World) : Prop :=
  ∃ x : Nat, e = .returned (.int .i64 x) ∧ lo ≤ x ∧ x < up ∧ R V w' ∧ Cnt c K w'

set_option maxHeartbeats 1000000 in
theorem order2_any (S : SortRow R ra rl rc n B) (c K lo up i j : Nat) (V : RA) (w : World) (h : R V w) (hc : Cnt c K w) (hB : B ≤ c) (hi0 : lo ≤ i) (hi : i < up) (hj0 : lo ≤ j) (hj : j < up) (hup : up ≤ n) (hn : n < 4611686018427387904) (hK : K < 4611686018427387904) :
    Calls Tryz.prog 151 #[.iface 78 (.slice ra rl rc), .int .i64 i, .int .i64 j, .pointer (some ⟨c, 0, none⟩)] w (Two R V c (K + 1) lo up) := by
  have m1 := method_less ra rl rc
  have hl := (S.less j i h (by omega) (by omega)).mono (R' := fun e w' => e = .returned (.bool (ltR V[j]! V[i]!)) ∧ R V w' ∧ Cnt c K w') (fun _ _ ⟨he, hR, hk⟩ => ⟨he, hR, hc.keep hB hk⟩)
  clear hc h
  cases hlv : ltR V[j]! V[i]! with
  | true =>
    rw [hlv] at hl
    clear hlv
    go_enter Tryz.func151, Tryz.ntmps151
    go_wp2_with fail
    refine hl.mono ?_
    rintro e w' ⟨rfl, hR, s, hs, hc, hf⟩
    have HR := Lib.hid hR
    have hsb : s < 4611686018427387904 := by omega
    clear hR hl
    go_wp2
    go_ret2
    refine ⟨j, i, rfl, hj0, hj, hi0, hi, S.set _ _ _ (HR.out) hB, s + 1, by omega, ?_, ?_⟩
    · rw [World.cell?_setCell_same _ _ _ (by simpa using hc)]; go_num
    · simpa using hf
  | false =>
    rw [hlv] at hl
    clear hlv
    go_enter Tryz.func151, Tryz.ntmps151
    go_wp2_with fail
    refine hl.mono ?_
    rintro e w' ⟨rfl, hR, hc⟩
    have HR := Lib.hid hR
    have HC := Lib.hid hc
    clear hR hl hc
    go_wp2
    go_ret2
    obtain ⟨s, hs, h1, h2⟩ := HC.out
    exact ⟨i, j, rfl, hi0, hi, hj0, hj, HR.out, s, by omega, h1, h2⟩

set_option maxHeartbeats 1000000 in
theorem median_any (S : SortRow R ra rl rc n B) (c K lo up x y z : Nat) (V : RA) (w : World) (h : R V w) (hc : Cnt c K w) (hB : B ≤ c) (hx0 : lo ≤ x) (hx : x < up) (hy0 : lo ≤ y) (hy : y < up) (hz0 : lo ≤ z) (hz : z < up) (hup : up ≤ n) (hn : n < 4611686018427387904) (hK : K < 4611686018427387900) :
    Calls Tryz.prog 120 #[.iface 78 (.slice ra rl rc), .int .i64 x, .int .i64 y, .int .i64 z, .pointer (some ⟨c, 0, none⟩)] w (One R V c (K + 3) lo up) := by
  have hcall := order2_any S c K lo up x y V w h hc hB hx0 hx hy0 hy hup hn (by omega)
  clear h hc
  go_enter Tryz.func120, Tryz.ntmps120
  go_wp2_with fail
  refine hcall.mono ?_
  rintro e w1 ⟨x1, y1, rfl, hx10, hx1, hy10, hy1, hR, hC⟩
  have hcall := order2_any S c (K + 1) lo up y1 z V w1 hR hC hB hy10 hy1 hz0 hz hup hn (by omega)
  clear hR hC
  go_wp2_with fail
  refine hcall.mono ?_
  rintro e w2 ⟨y2, z2, rfl, hy20, hy2, hz20, hz2, hR, hC⟩
  have hcall := order2_any S c (K + 1 + 1) lo up x1 y2 V w2 hR hC hB hx10 hx1 hy20 hy2 hup hn (by omega)
  clear hR hC
  go_wp2_with fail
  refine hcall.mono ?_
  rintro e w3 ⟨x3, y3, rfl, hx30, hx3, hy30, hy3, hR, hC⟩
  have HR := Lib.hid hR
  have HC := Lib.hid hC
  clear hR hC hcall
  go_wp2
  go_ret
  exact ⟨y3, rfl, hy30, hy3, HR.out, HC.out⟩

set_option maxHeartbeats 1000000 in
theorem medadj_any (S : SortRow R ra rl rc n B) (c K lo up x : Nat) (V : RA) (w : World) (h : R V w) (hc : Cnt c K w) (hB : B ≤ c) (hx0 : lo + 1 ≤ x) (hx : x + 1 < up) (hup : up ≤ n) (hn : n < 4611686018427387904) (hK : K < 4611686018427387900) :
    Calls Tryz.prog 119 #[.iface 78 (.slice ra rl rc), .int .i64 x, .pointer (some ⟨c, 0, none⟩)] w (One R V c (K + 3) lo up) := by
  have hcall := median_any S c K lo up (x - 1) x (x + 1) V w h hc hB (by omega) (by omega) (by omega) (by omega) (by omega) hx hup hn hK
  rw [show ((x - 1 : Nat) : Int) = (x : Int) - 1 by omega, show ((x + 1 : Nat) : Int) = (x : Int) + 1 by omega] at hcall
  clear h hc
  go_enter Tryz.func119, Tryz.ntmps119
  go_wp2_with fail
  refine hcall.mono ?_
  rintro e w1 ⟨x1, rfl, hx10, hx1, hR, hC⟩
  have HR := Lib.hid hR
  have HC := Lib.hid hC
  clear hR hC hcall
  go_wp2
  go_ret
  exact ⟨x1, rfl, hx10, hx1, HR.out, HC.out⟩

/-- A pivot in the range, and a hint. -/
def Pivot (R : RA → World → Prop) (V : RA) (lo up : Nat) (e : Ending) (w' : World) : Prop :=
  ∃ (p : Nat) (h : Nat), e = .returned (.tuple #[.int .i64 p, .int .i64 h]) ∧ lo ≤ p ∧ p < up ∧ h ≤ 2 ∧ R V w'

set_option maxHeartbeats 2000000 in
theorem pivot_any (S : SortRow R ra rl rc n B) (a b : Nat) (V : RA) (w : World) (h : R V w) (hab : a < b) (hb : b ≤ n) (hn : n < 4611686018427387904) :
    Calls Tryz.prog 96 #[.iface 78 (.slice ra rl rc), .int .i64 a, .int .i64 b] w (Pivot R V a b) := by
  obtain ⟨c, hcz⟩ : ∃ c, w.heap.size = c := ⟨_, rfl⟩
  have hB : B ≤ c := hcz ▸ S.room h
  have HR := Lib.hid (S.alloc (.cells #[.int .i64 0] 3) h)
  have HC := Lib.hid (show Cnt c 0 (w.alloc (.cells #[.int .i64 0] 3)) from ⟨0, Nat.le_refl _, by subst hcz; rw [World.cell?_alloc_at _ _ _ _ rfl]; rfl, by subst hcz; rw [World.frozen?_alloc_at _ _ _ _ rfl]⟩)
  obtain ⟨I, hI⟩ : ∃ I : Nat, I = a + (b - a) / 4 * 1 := ⟨_, rfl⟩
  obtain ⟨J, hJ⟩ : ∃ J : Nat, J = a + (b - a) / 4 * 2 := ⟨_, rfl⟩
  obtain ⟨K, hK⟩ : ∃ K : Nat, K = a + (b - a) / 4 * 3 := ⟨_, rfl⟩
  have eI : ((a : Int) + ((b : Int) - (a : Int)) / 4) = (I : Int) := by omega
  have eJ : ((a : Int) + ((b : Int) - (a : Int)) / 4 * 2) = (J : Int) := by omega
  have eK : ((a : Int) + ((b : Int) - (a : Int)) / 4 * 3) = (K : Int) := by omega
  have hI0 : a ≤ I ∧ I < b := by omega
  have hJ0 : a ≤ J ∧ J < b := by omega
  have hK0 : a ≤ K ∧ K < b := by omega
  have HZ := Lib.hid hcz
  by_cases h8 : 8 ≤ b - a
  · have h8z : (8 : Int) ≤ (b : Int) - (a : Int) := by omega
    by_cases h50 : 50 ≤ b - a
    · have h50z : (50 : Int) ≤ (b : Int) - (a : Int) := by omega
      have hI1 : a + 1 ≤ I ∧ I + 1 < b := by omega
      have hJ1 : a + 1 ≤ J ∧ J + 1 < b := by omega
      have hK1 : a + 1 ≤ K ∧ K + 1 < b := by omega
      have hc1 := medadj_any S c 0 a b I V _ HR.out HC.out hB hI1.1 hI1.2 hb hn (by omega)
      rw [← hcz] at hc1
      clear hI hJ hK h hcz
      go_enter Tryz.func96, Tryz.ntmps96
      go_wp2_with fail
      refine hc1.mono ?_
      rintro e w1 ⟨i1, rfl, hi10, hi1, hR, hC⟩
      rw [HZ.out] at hC
      have hc2 := medadj_any S c (0 + 3) a b J V w1 hR hC hB hJ1.1 hJ1.2 hb hn (by omega)
      rw [← HZ.out] at hc2
      clear hR hC hc1
      go_wp2_with fail
      refine hc2.mono ?_
      rintro e w2 ⟨j1, rfl, hj10, hj1, hR, hC⟩
      rw [HZ.out] at hC
      have hc3 := medadj_any S c (0 + 3 + 3) a b K V w2 hR hC hB hK1.1 hK1.2 hb hn (by omega)
      rw [← HZ.out] at hc3
      clear hR hC hc2
      go_wp2_with fail
      refine hc3.mono ?_
      rintro e w3 ⟨k1, rfl, hk10, hk1, hR, hC⟩
      rw [HZ.out] at hC
      have hc4 := median_any S c (0 + 3 + 3 + 3) a b i1 j1 k1 V w3 hR hC hB hi10 hi1 hj10 hj1 hk10 hk1 hb hn (by omega)
      rw [← HZ.out] at hc4
      clear hR hC hc3
      go_wp2_with fail
      refine hc4.mono ?_
      rintro e w4 ⟨p, rfl, hp0, hp1, hR, s, hs, hC, hF⟩
      have HR := Lib.hid hR
      clear hR hc4
      go_wp2
      all_goals
        go_ret2
        first
          | exact ⟨p, 0, rfl, hp0, hp1, by omega, HR.out⟩
          | exact ⟨p, 1, rfl, hp0, hp1, by omega, HR.out⟩
          | exact ⟨p, 2, rfl, hp0, hp1, by omega, HR.out⟩
    · have h50z : ¬ (50 : Int) ≤ (b : Int) - (a : Int) := by omega
      have hc4 := median_any S c 0 a b I J K V _ HR.out HC.out hB hI0.1 hI0.2 hJ0.1 hJ0.2 hK0.1 hK0.2 hb hn (by omega)
      rw [← hcz] at hc4
      clear hI hJ hK h hcz
      go_enter Tryz.func96, Tryz.ntmps96
      go_wp2_with fail
      refine hc4.mono ?_
      rintro e w4 ⟨p, rfl, hp0, hp1, hR, s, hs, hC, hF⟩
      have HR := Lib.hid hR
      clear hR hc4
      go_wp2
      all_goals
        go_ret2
        first
          | exact ⟨p, 0, rfl, hp0, hp1, by omega, HR.out⟩
          | exact ⟨p, 1, rfl, hp0, hp1, by omega, HR.out⟩
          | exact ⟨p, 2, rfl, hp0, hp1, by omega, HR.out⟩
  · have h8z : ¬ (8 : Int) ≤ (b : Int) - (a : Int) := by omega
    clear hI hJ hK h hcz
    go_enter Tryz.func96, Tryz.ntmps96
    go_wp2
    all_goals
      go_ret2
      first
        | exact ⟨J, 0, rfl, hJ0.1, hJ0.2, by omega, HR.out⟩
        | exact ⟨J, 1, rfl, hJ0.1, hJ0.2, by omega, HR.out⟩
        | exact ⟨J, 2, rfl, hJ0.1, hJ0.2, by omega, HR.out⟩
end Go.Proofs.YtjofbeokkainlaaGreatDoor
