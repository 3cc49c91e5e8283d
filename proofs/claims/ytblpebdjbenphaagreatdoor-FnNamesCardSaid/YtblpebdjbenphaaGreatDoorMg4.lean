/- Texts put together, as a claim holds at most sixty files. -/
import Derived.Test.YtblpebdjbenphaaGreatDoorMg3
import Derived.Test.YtblpebdjbenphaaGreatDoorRows
import Derived.WalkKit
import Derived.ProofKit
import Derived.OpenShut
import Derived.WalkLawsBesides
import Derived.Deep.QuietTactic
import Derived.BigQuiet
import Derived.Lib.Hide
import Derived.Outline
namespace Go.Proofs.YtblpebdjbenphaaGreatDoor
open Go.ChangeShapes Go.WideShapes Go.ChangeAt Go.RowKit
set_option linter.unusedVariables false
set_option maxRecDepth 100000

theorem size_list (s : ByteArray) : s.size = s.data.toList.length := by cases s; simp [ByteArray.size]
/-- Nothing, or a slash first. -/
def Rest (l : List UInt8) : Prop := l = [] ∨ ∃ r, l = 47 :: r
theorem rest_tail (xs : List Int) : Rest (Lib.joinTail [47] (xs.map Lib.itoa)) := by
  cases xs with
  | nil => left; simp [Lib.joinTail]
  | cons x t => right; exact ⟨_, by simp [Lib.joinTail]; rfl⟩
theorem part_inj : ∀ {a b r s : List UInt8}, (∀ c ∈ a, c ≠ 47) → (∀ c ∈ b, c ≠ 47) → Rest r → Rest s → a ++ r = b ++ s → a = b ∧ r = s
  | [], [], r, s, _, _, _, _, h => ⟨rfl, by simpa using h⟩
  | [], y :: b, r, s, _, hb, hr, _, h => by
    exfalso
    rcases hr with rfl | ⟨r', rfl⟩
    · simp at h
    · simp only [List.nil_append, List.cons_append, List.cons.injEq] at h
      exact hb y (List.mem_cons_self ..) h.1.symm
  | x :: a, [], r, s, ha, _, _, hs, h => by
    exfalso
    rcases hs with rfl | ⟨s', rfl⟩
    · simp at h
    · simp only [List.nil_append, List.cons_append, List.cons.injEq] at h
      exact ha x (List.mem_cons_self ..) h.1
  | x :: a, y :: b, r, s, ha, hb, hr, hs, h => by
    simp only [List.cons_append, List.cons.injEq] at h
    obtain ⟨h1, h2⟩ := part_inj (fun c hc => ha c (List.mem_cons_of_mem _ hc)) (fun c hc => hb c (List.mem_cons_of_mem _ hc)) hr hs h.2
    exact ⟨by rw [h.1, h1], h2⟩
theorem itoa_dig {v : Int} (h : 0 ≤ v) : ∀ c ∈ Lib.itoa v, 48 ≤ c.toNat ∧ c.toNat ≤ 57 := by
  rw [itoa_nat h]; exact dd_digit _
theorem itoa_no {v : Int} (h : 0 ≤ v) : ∀ c ∈ Lib.itoa v, c ≠ 47 := fun c hc he => by
  have := itoa_dig h c hc
  rw [he] at this
  simp at this
theorem tails_inj : ∀ {xs ys : List Int}, xs.length = ys.length → (∀ x ∈ xs, inB x 0 1000000 = true) → (∀ y ∈ ys, inB y 0 1000000 = true) → Lib.joinTail [47] (xs.map Lib.itoa) = Lib.joinTail [47] (ys.map Lib.itoa) → xs = ys
  | [], [], _, _, _, _ => rfl
  | x :: xs, y :: ys, hl, hx, hy, h => by
    have hx0 := inB_iff.1 (hx x (List.mem_cons_self ..))
    have hy0 := inB_iff.1 (hy y (List.mem_cons_self ..))
    have h2 : Lib.itoa x ++ Lib.joinTail [47] (xs.map Lib.itoa) = Lib.itoa y ++ Lib.joinTail [47] (ys.map Lib.itoa) := by
      simp only [Lib.joinTail, List.map_cons, List.flatten_cons, List.cons_append, List.nil_append, List.cons.injEq, true_and] at h ⊢
      exact h
    obtain ⟨h3, h4⟩ := part_inj (itoa_no hx0.1) (itoa_no hy0.1) (rest_tail _) (rest_tail _) h2
    rw [itoa_inj (by omega) (by omega) h3, tails_inj (by simpa using hl) (fun z hz => hx z (List.mem_cons_of_mem _ hz)) (fun z hz => hy z (List.mem_cons_of_mem _ hz)) h4]
  | [], y :: ys, hl, _, _, _ => by simp at hl
  | x :: xs, [], hl, _, _, _ => by simp at hl
theorem allIn_mem {ns : List Int} (h : allIn ns = true) : ∀ x ∈ ns, inB x 0 1000000 = true := by
  unfold allIn at h
  exact fun x hx => List.all_eq_true.1 h x hx
theorem nameTx_form {word : ByteArray} {ns : List Int} (h : nameTx word ns ≠ ByteArray.empty) : allIn ns = true ∧ (nameTx word ns).data.toList = word.data.toList ++ Lib.joinTail [47] (ns.map Lib.itoa) := by
  unfold nameTx at h ⊢
  cases ha : allIn ns with
  | false => rw [ha] at h; simp at h
  | true =>
    refine ⟨rfl, ?_⟩
    simp only [if_true]
    rw [nmTo_list word ns ns.length (Nat.le_refl _), List.take_length]
/-- What a name is: its word, and its numbers. -/
def wordN (kind : Int) : List UInt8 :=
  if kind = 1 then [105, 110] else if kind = 2 then [99, 108, 97, 105, 109] else if kind = 3 then [109, 97, 114, 107] else if kind = 4 then [111, 117, 116] else if kind = 5 then [114, 101, 115] else [106, 111, 98]
def numsN (kind t e k p : Int) : List Int :=
  if kind = 4 then [t, e, k, p] else if kind = 5 then [t, e, k] else if kind = 6 then [] else [t]
theorem name_form {kind t e k p : Int} (h : nameB kind t e k p ≠ ByteArray.empty) : 1 ≤ kind ∧ kind ≤ 6 ∧ allIn (numsN kind t e k p) = true ∧ (nameB kind t e k p).data.toList = wordN kind ++ Lib.joinTail [47] ((numsN kind t e k p).map Lib.itoa) := by
  unfold nameB at h ⊢
  by_cases h1 : kind = 1
  · subst h1
    rw [if_pos rfl] at h ⊢
    obtain ⟨ha, hb⟩ := nameTx_form h
    exact ⟨by decide, by decide, ha, hb⟩
  rw [if_neg h1] at h ⊢
  by_cases h2 : kind = 2
  · subst h2
    rw [if_pos rfl] at h ⊢
    obtain ⟨ha, hb⟩ := nameTx_form h
    exact ⟨by decide, by decide, ha, hb⟩
  rw [if_neg h2] at h ⊢
  by_cases h3 : kind = 3
  · subst h3
    rw [if_pos rfl] at h ⊢
    obtain ⟨ha, hb⟩ := nameTx_form h
    exact ⟨by decide, by decide, ha, hb⟩
  rw [if_neg h3] at h ⊢
  by_cases h4 : kind = 4
  · subst h4
    rw [if_pos rfl] at h ⊢
    obtain ⟨ha, hb⟩ := nameTx_form h
    exact ⟨by decide, by decide, ha, hb⟩
  rw [if_neg h4] at h ⊢
  by_cases h5 : kind = 5
  · subst h5
    rw [if_pos rfl] at h ⊢
    obtain ⟨ha, hb⟩ := nameTx_form h
    exact ⟨by decide, by decide, ha, hb⟩
  rw [if_neg h5] at h ⊢
  by_cases h6 : kind = 6
  · subst h6
    exact ⟨by decide, by decide, rfl, by simp [wordN, numsN, Lib.joinTail]⟩
  · rw [if_neg h6] at h; exact absurd rfl h
theorem word_ne (kind : Int) : ∃ c r, wordN kind = c :: r := by
  unfold wordN
  repeat' split
  all_goals exact ⟨_, _, rfl⟩
theorem word_no (kind : Int) : ∀ c ∈ wordN kind, c ≠ 47 := by
  unfold wordN
  repeat' split
  all_goals decide
theorem word_inj {a b : Int} (ha : 1 ≤ a) (ha6 : a ≤ 6) (hb : 1 ≤ b) (hb6 : b ≤ 6) (h : wordN a = wordN b) : a = b := by
  have h1 : a = 1 ∨ a = 2 ∨ a = 3 ∨ a = 4 ∨ a = 5 ∨ a = 6 := by omega
  have h2 : b = 1 ∨ b = 2 ∨ b = 3 ∨ b = 4 ∨ b = 5 ∨ b = 6 := by omega
  rcases h1 with rfl | rfl | rfl | rfl | rfl | rfl <;> rcases h2 with rfl | rfl | rfl | rfl | rfl | rfl <;> first | rfl | (exfalso; revert h; decide)
theorem nums_len {a t e k p t' e' k' p' : Int} : (numsN a t e k p).length = (numsN a t' e' k' p').length := by
  unfold numsN; split
  · rfl
  · split
    · rfl
    · split <;> rfl
/-- Equal names: the same kind, the same numbers. -/
theorem name_inj {a b c d e f g h i j : Int} (h1 : nameB a b c d e ≠ ByteArray.empty) (h2 : nameB f g h i j ≠ ByteArray.empty) (he : nameB a b c d e = nameB f g h i j) : a = f ∧ numsN a b c d e = numsN f g h i j := by
  obtain ⟨a1, a6, ha, hb⟩ := name_form h1
  obtain ⟨f1, f6, hc, hd⟩ := name_form h2
  have hx : wordN a ++ Lib.joinTail [47] ((numsN a b c d e).map Lib.itoa) = wordN f ++ Lib.joinTail [47] ((numsN f g h i j).map Lib.itoa) := by rw [← hb, ← hd, he]
  obtain ⟨hw, ht⟩ := part_inj (word_no a) (word_no f) (rest_tail _) (rest_tail _) hx
  have haf := word_inj a1 a6 f1 f6 hw
  subst haf
  exact ⟨rfl, tails_inj nums_len (allIn_mem ha) (allIn_mem hc) ht⟩
theorem name_same {a b c d e g h i j : Int} (hh : numsN a b c d e = numsN a g h i j) : nameB a b c d e = nameB a g h i j := by
  unfold numsN at hh
  by_cases h4 : a = 4
  · subst h4
    simp only [if_true, List.cons.injEq, and_true] at hh
    obtain ⟨rfl, rfl, rfl, rfl⟩ := hh
    rfl
  · rw [if_neg h4, if_neg h4] at hh
    by_cases h5 : a = 5
    · subst h5
      simp only [if_true, List.cons.injEq, and_true] at hh
      obtain ⟨rfl, rfl, rfl⟩ := hh
      rfl
    · rw [if_neg h5, if_neg h5] at hh
      by_cases h6 : a = 6
      · subst h6; rfl
      · rw [if_neg h6, if_neg h6] at hh
        simp only [List.cons.injEq, and_true] at hh
        subst hh
        unfold nameB
        simp only [if_neg h4, if_neg h5, if_neg h6]
theorem tail_ok : ∀ {xs : List Int}, (∀ x ∈ xs, inB x 0 1000000 = true) → (∀ c ∈ Lib.joinTail [47] (xs.map Lib.itoa), kbB c.toNat = true) ∧ (Lib.joinTail [47] (xs.map Lib.itoa)).length ≤ 8 * xs.length
  | [], _ => by simp [Lib.joinTail]
  | x :: xs, h => by
    obtain ⟨h1, h2⟩ := tail_ok (xs := xs) (fun y hy => h y (List.mem_cons_of_mem _ hy))
    have hx := inB_iff.1 (h x (List.mem_cons_self ..))
    have hd := itoa_dig hx.1
    have hl := itoa_len_k (v := x) 7 (by decide) hx.1 (Nat.lt_of_le_of_lt (show x.toNat ≤ 1000000 by omega) (by decide))
    have e : Lib.joinTail [47] ((x :: xs).map Lib.itoa) = 47 :: (Lib.itoa x ++ Lib.joinTail [47] (xs.map Lib.itoa)) := by simp [Lib.joinTail]
    rw [e]
    constructor
    · intro c hc
      rcases List.mem_cons.1 hc with rfl | hc
      · decide
      · rcases List.mem_append.1 hc with hc | hc
        · have := hd c hc
          unfold kbB
          simp; omega
        · exact h1 c hc
    · simp only [List.length_cons, List.length_append]; omega
theorem word_ok {a : Int} (h1 : 1 ≤ a) (h6 : a ≤ 6) : (∀ c ∈ wordN a, kbB c.toNat = true) ∧ (wordN a).length ≤ 5 := by
  have h : a = 1 ∨ a = 2 ∨ a = 3 ∨ a = 4 ∨ a = 5 ∨ a = 6 := by omega
  rcases h with rfl | rfl | rfl | rfl | rfl | rfl <;> decide
theorem nums_few (a b c d e : Int) : (numsN a b c d e).length ≤ 4 := by
  unfold numsN; repeat' split
  all_goals simp
theorem name_key {a b c d e : Int} (h : nameB a b c d e ≠ ByteArray.empty) : keyB (nameB a b c d e) = true := by
  obtain ⟨a1, a6, ha, hb⟩ := name_form h
  obtain ⟨t1, t2⟩ := tail_ok (allIn_mem ha)
  obtain ⟨w1, w2⟩ := word_ok a1 a6
  have hf := nums_few a b c d e
  have hs : (nameB a b c d e).size = (nameB a b c d e).data.toList.length := size_list _
  unfold keyB
  rw [hs, hb]
  obtain ⟨c0, r0, hw⟩ := word_ne a
  have hw1 : 1 ≤ (wordN a).length := by rw [hw]; simp
  rw [Bool.and_eq_true]
  refine ⟨decide_eq_true ⟨by rw [List.length_append]; omega, by rw [List.length_append]; omega⟩, ?_⟩
  rw [List.all_append, Bool.and_eq_true]
  exact ⟨List.all_eq_true.2 w1, List.all_eq_true.2 t1⟩
end Go.Proofs.YtblpebdjbenphaaGreatDoor
namespace Go.Proofs.YtblpebdjbenphaaGreatDoor
open Go.ChangeShapes Go.WideShapes Go.ChangeAt Go.RowKit
set_option linter.unusedVariables false
set_option maxRecDepth 100000

theorem nmTo_yes {word : ByteArray} {ns : List Int} (h : ∀ j (hj : j < ns.length), j < ns.length → inB ns[j] 0 1000000 = true) : nmTo word ns ns.length = nameTx word ns := by
  unfold nameTx; rw [if_pos (allIn_yes fun j hj => h j hj hj)]
theorem nmTo_size2 {word : ByteArray} {ns : List Int} (hw : word.size ≤ 5) : ∀ k, k ≤ ns.length → (∀ j (hj : j < ns.length), j < k → inB ns[j] 0 1000000 = true) → (nmTo word ns k).size ≤ 5 + 21 * k
  | 0, _, _ => by simpa [nmTo] using hw
  | k + 1, hk, h => by
    have ih := nmTo_size2 hw k (by omega) (fun j hj h1 => h j hj (by omega))
    have hi := in_of (h k hk (by omega))
    unfold In64 at hi
    have hz := @decB_size ns[k] hi.1 (by omega)
    have e : ns.getD k 0 = ns[k] := by rw [List.getD_eq_getElem?_getD, List.getElem?_eq_getElem (by omega)]; rfl
    rw [nmTo, e, ByteArray.size_append, ByteArray.size_append]
    show _ + 1 + _ ≤ _
    omega
theorem nmTo_next {word : ByteArray} {ns : List Int} {k : Nat} {v : Int} (h : k < ns.length) (hv : ns[k] = v) : nmTo word ns k ++ ⟨#[47]⟩ ++ decB v = nmTo word ns (k + 1) := by
  have e : ns.getD k 0 = ns[k] := by rw [List.getD_eq_getElem?_getD, List.getElem?_eq_getElem (by omega)]; rfl
  rw [nmTo, e, hv]

set_option maxHeartbeats 4000000 in
theorem snameof_any (kind t e k p : Int) (w : World) : Calls Tryz.prog 16 #[.int .i64 kind, .int .i64 t, .int .i64 e, .int .i64 k, .int .i64 p] w (MadeTx (nameB kind t e k p) w) := by
  by_cases h1 : kind = 1
  · subst h1
    obtain ⟨ns, hns⟩ : ∃ ns : List Int, [t] = ns := ⟨_, rfl⟩
    have HR := Lib.hid (show nameB 1 t e k p = nameTx ⟨#[105, 110]⟩ ns by rw [← hns]; rfl)
    have HN := Lib.hid (show ns.length = 1 by rw [← hns]; rfl)
    have HS := Lib.hid (show Nums0 (w.alloc (.cells #[.int .i64 t, .int .i64 e, .int .i64 k, .int .i64 p] 2)) w.heap.size ns from ⟨by simp, fun j hj => by
      rw [World.cell?_alloc_mark]
      subst hns
      have hj2 := hj
      simp only [List.length_cons, List.length_nil] at hj2
      match j, hj2 with
      | 0, _ => rfl⟩)
    have HI := Lib.hid (show inB 1 1 6 = true by decide)
    have HW := Lib.hid (show (⟨#[105, 110]⟩ : ByteArray).size ≤ 5 by decide)
    clear hns
    go_enter Tryz.func16, Tryz.ntmps16
    go_wp2_with (go_at_call 32; refine (l1in_any _ _ _ _).mono ?_; rw [HI.out]; rintro x w1 ⟨rfl, rfl⟩)
    have HB0 := Lib.hid (below_alloc (below_alloc (below_alloc (Below.refl w.heap.size w) (.cells #[.int .i64 t, .int .i64 e, .int .i64 k, .int .i64 p] 2)) (.cells #[.int .i64 1, .int .i64 1, .int .i64 1, .int .i64 4, .int .i64 3] 3)) (.cells #[.string ⟨#[105, 110]⟩, .string ⟨#[99, 108, 97, 105, 109]⟩, .string ⟨#[109, 97, 114, 107]⟩, .string ⟨#[111, 117, 116]⟩, .string ⟨#[114, 101, 115]⟩] 9))
    go_loopw [12, 13] (fun s i wr => ∃ j : Nat, j ≤ 1 ∧ i = .int .i64 j ∧ s = .string (nmTo ⟨#[105, 110]⟩ ns j) ∧ Hid (Below w.heap.size w wr ∧ Nums0 wr w.heap.size ns ∧ ∀ l, (hl : l < ns.length) → l < j → inB ns[l] 0 1000000 = true)) (fun _ i _ => 1 - (intOf i).toNat)
    case atStart => exact ⟨0, Nat.zero_le _, rfl, rfl, HB0.out, HS.out.keep (below_alloc (below_alloc (Below.refl _ _) _) _), fun j hj hk => by omega⟩
    case round =>
      obtain ⟨j, hj, rfl, rfl, HA⟩ := hrel
      clear HB0 HS
      have hsz := nmTo_size2 HW.out j (by rw [HN.out]; exact hj) HA.out.2.2
      by_cases hlt : j < 1
      · have hkl : j < ns.length := by rw [HN.out]; exact hlt
        have c0 := HA.out.2.1.cell j hkl
        obtain ⟨v, hv⟩ : ∃ v, ns[j] = v := ⟨_, rfl⟩
        rw [hv] at c0
        have HV := Lib.hid hv
        have HKL := Lib.hid hkl
        clear hv
        have hi0 : (0 : Int) ≤ (j : Int) := by omega
        have hi1 : (j : Int) < (1 : Int) := by omega
        have HNX := Lib.hid (nmTo_next (word := ⟨#[105, 110]⟩) HKL.out HV.out)
        obtain ⟨cur, hcur⟩ : ∃ cur, nmTo ⟨#[105, 110]⟩ ns j = cur := ⟨_, rfl⟩
        rw [hcur] at hsz HNX ⊢
        clear hcur
        cases hq : inB v 0 1000000 with
        | true =>
          have HQ := Lib.hid hq
          have hv0 : 0 ≤ v ∧ v ≤ 1000000 := inB_iff.1 hq
          have hz := @decB_size v (by omega) (by omega)
          clear hq
          go_wp2_with fail
          refine (l1in_any _ _ _ _).mono ?_
          rw [HQ.out]
          rintro x w1 ⟨rfl, rfl⟩
          go_wp2_with fail
          refine (l1dec_any v (by omega) (by omega) _).mono ?_
          rintro x w2 ⟨rfl, hB⟩
          have HB := Lib.hid (below_via HA.out.1 hB)
          have HNU := Lib.hid (HA.out.2.1.keep hB)
          clear hB c0
          go_wp2
          go_roundw
          case rel =>
            refine ⟨j + 1, by omega, by go_num, congrArg Value.string HNX.out, HB.out, HNU.out, fun l hl hlj => ?_⟩
            rcases Nat.lt_or_ge l j with h1 | h1
            · exact HA.out.2.2 l hl h1
            · obtain rfl : l = j := by omega
              rw [HV.out]; exact HQ.out
          case measure => simp [intOf]; omega
        | false =>
          have HRN := Lib.hid (name_no (word := ⟨#[105, 110]⟩) (allIn_no HKL.out (by rw [HV.out]; exact hq)))
          have HQ := Lib.hid hq
          clear hq
          go_wp2_with (go_at_call 32; refine (l1in_any _ _ _ _).mono ?_; rw [HQ.out]; rintro x w1 ⟨rfl, rfl⟩)
          go_ret
          exact ⟨congrArg (fun s => Ending.returned (.string s)) (by rw [HR.out, HRN.out]; rfl), HA.out.1⟩
      · obtain rfl : j = 1 := by omega
        have HE := Lib.hid (show nmTo ⟨#[105, 110]⟩ ns 1 = nameB 1 t e k p by
          rw [HR.out]
          have h2 := nmTo_yes (word := ⟨#[105, 110]⟩) (ns := ns) (fun l hl h3 => HA.out.2.2 l hl (by rw [← HN.out]; exact h3))
          rw [HN.out] at h2
          exact h2)
        go_wp2
        go_ret
        exact ⟨congrArg (fun s => Ending.returned (.string s)) HE.out, HA.out.1⟩
  by_cases h2 : kind = 2
  · subst h2
    obtain ⟨ns, hns⟩ : ∃ ns : List Int, [t] = ns := ⟨_, rfl⟩
    have HR := Lib.hid (show nameB 2 t e k p = nameTx ⟨#[99, 108, 97, 105, 109]⟩ ns by rw [← hns]; rfl)
    have HN := Lib.hid (show ns.length = 1 by rw [← hns]; rfl)
    have HS := Lib.hid (show Nums0 (w.alloc (.cells #[.int .i64 t, .int .i64 e, .int .i64 k, .int .i64 p] 2)) w.heap.size ns from ⟨by simp, fun j hj => by
      rw [World.cell?_alloc_mark]
      subst hns
      have hj2 := hj
      simp only [List.length_cons, List.length_nil] at hj2
      match j, hj2 with
      | 0, _ => rfl⟩)
    have HI := Lib.hid (show inB 2 1 6 = true by decide)
    have HW := Lib.hid (show (⟨#[99, 108, 97, 105, 109]⟩ : ByteArray).size ≤ 5 by decide)
    clear hns
    go_enter Tryz.func16, Tryz.ntmps16
    go_wp2_with (go_at_call 32; refine (l1in_any _ _ _ _).mono ?_; rw [HI.out]; rintro x w1 ⟨rfl, rfl⟩)
    have HB0 := Lib.hid (below_alloc (below_alloc (below_alloc (Below.refl w.heap.size w) (.cells #[.int .i64 t, .int .i64 e, .int .i64 k, .int .i64 p] 2)) (.cells #[.int .i64 1, .int .i64 1, .int .i64 1, .int .i64 4, .int .i64 3] 3)) (.cells #[.string ⟨#[105, 110]⟩, .string ⟨#[99, 108, 97, 105, 109]⟩, .string ⟨#[109, 97, 114, 107]⟩, .string ⟨#[111, 117, 116]⟩, .string ⟨#[114, 101, 115]⟩] 9))
    go_loopw [12, 13] (fun s i wr => ∃ j : Nat, j ≤ 1 ∧ i = .int .i64 j ∧ s = .string (nmTo ⟨#[99, 108, 97, 105, 109]⟩ ns j) ∧ Hid (Below w.heap.size w wr ∧ Nums0 wr w.heap.size ns ∧ ∀ l, (hl : l < ns.length) → l < j → inB ns[l] 0 1000000 = true)) (fun _ i _ => 1 - (intOf i).toNat)
    case atStart => exact ⟨0, Nat.zero_le _, rfl, rfl, HB0.out, HS.out.keep (below_alloc (below_alloc (Below.refl _ _) _) _), fun j hj hk => by omega⟩
    case round =>
      obtain ⟨j, hj, rfl, rfl, HA⟩ := hrel
      clear HB0 HS
      have hsz := nmTo_size2 HW.out j (by rw [HN.out]; exact hj) HA.out.2.2
      by_cases hlt : j < 1
      · have hkl : j < ns.length := by rw [HN.out]; exact hlt
        have c0 := HA.out.2.1.cell j hkl
        obtain ⟨v, hv⟩ : ∃ v, ns[j] = v := ⟨_, rfl⟩
        rw [hv] at c0
        have HV := Lib.hid hv
        have HKL := Lib.hid hkl
        clear hv
        have hi0 : (0 : Int) ≤ (j : Int) := by omega
        have hi1 : (j : Int) < (1 : Int) := by omega
        have HNX := Lib.hid (nmTo_next (word := ⟨#[99, 108, 97, 105, 109]⟩) HKL.out HV.out)
        obtain ⟨cur, hcur⟩ : ∃ cur, nmTo ⟨#[99, 108, 97, 105, 109]⟩ ns j = cur := ⟨_, rfl⟩
        rw [hcur] at hsz HNX ⊢
        clear hcur
        cases hq : inB v 0 1000000 with
        | true =>
          have HQ := Lib.hid hq
          have hv0 : 0 ≤ v ∧ v ≤ 1000000 := inB_iff.1 hq
          have hz := @decB_size v (by omega) (by omega)
          clear hq
          go_wp2_with fail
          refine (l1in_any _ _ _ _).mono ?_
          rw [HQ.out]
          rintro x w1 ⟨rfl, rfl⟩
          go_wp2_with fail
          refine (l1dec_any v (by omega) (by omega) _).mono ?_
          rintro x w2 ⟨rfl, hB⟩
          have HB := Lib.hid (below_via HA.out.1 hB)
          have HNU := Lib.hid (HA.out.2.1.keep hB)
          clear hB c0
          go_wp2
          go_roundw
          case rel =>
            refine ⟨j + 1, by omega, by go_num, congrArg Value.string HNX.out, HB.out, HNU.out, fun l hl hlj => ?_⟩
            rcases Nat.lt_or_ge l j with h1 | h1
            · exact HA.out.2.2 l hl h1
            · obtain rfl : l = j := by omega
              rw [HV.out]; exact HQ.out
          case measure => simp [intOf]; omega
        | false =>
          have HRN := Lib.hid (name_no (word := ⟨#[99, 108, 97, 105, 109]⟩) (allIn_no HKL.out (by rw [HV.out]; exact hq)))
          have HQ := Lib.hid hq
          clear hq
          go_wp2_with (go_at_call 32; refine (l1in_any _ _ _ _).mono ?_; rw [HQ.out]; rintro x w1 ⟨rfl, rfl⟩)
          go_ret
          exact ⟨congrArg (fun s => Ending.returned (.string s)) (by rw [HR.out, HRN.out]; rfl), HA.out.1⟩
      · obtain rfl : j = 1 := by omega
        have HE := Lib.hid (show nmTo ⟨#[99, 108, 97, 105, 109]⟩ ns 1 = nameB 2 t e k p by
          rw [HR.out]
          have h2 := nmTo_yes (word := ⟨#[99, 108, 97, 105, 109]⟩) (ns := ns) (fun l hl h3 => HA.out.2.2 l hl (by rw [← HN.out]; exact h3))
          rw [HN.out] at h2
          exact h2)
        go_wp2
        go_ret
        exact ⟨congrArg (fun s => Ending.returned (.string s)) HE.out, HA.out.1⟩
  by_cases h3 : kind = 3
  · subst h3
    obtain ⟨ns, hns⟩ : ∃ ns : List Int, [t] = ns := ⟨_, rfl⟩
    have HR := Lib.hid (show nameB 3 t e k p = nameTx ⟨#[109, 97, 114, 107]⟩ ns by rw [← hns]; rfl)
    have HN := Lib.hid (show ns.length = 1 by rw [← hns]; rfl)
    have HS := Lib.hid (show Nums0 (w.alloc (.cells #[.int .i64 t, .int .i64 e, .int .i64 k, .int .i64 p] 2)) w.heap.size ns from ⟨by simp, fun j hj => by
      rw [World.cell?_alloc_mark]
      subst hns
      have hj2 := hj
      simp only [List.length_cons, List.length_nil] at hj2
      match j, hj2 with
      | 0, _ => rfl⟩)
    have HI := Lib.hid (show inB 3 1 6 = true by decide)
    have HW := Lib.hid (show (⟨#[109, 97, 114, 107]⟩ : ByteArray).size ≤ 5 by decide)
    clear hns
    go_enter Tryz.func16, Tryz.ntmps16
    go_wp2_with (go_at_call 32; refine (l1in_any _ _ _ _).mono ?_; rw [HI.out]; rintro x w1 ⟨rfl, rfl⟩)
    have HB0 := Lib.hid (below_alloc (below_alloc (below_alloc (Below.refl w.heap.size w) (.cells #[.int .i64 t, .int .i64 e, .int .i64 k, .int .i64 p] 2)) (.cells #[.int .i64 1, .int .i64 1, .int .i64 1, .int .i64 4, .int .i64 3] 3)) (.cells #[.string ⟨#[105, 110]⟩, .string ⟨#[99, 108, 97, 105, 109]⟩, .string ⟨#[109, 97, 114, 107]⟩, .string ⟨#[111, 117, 116]⟩, .string ⟨#[114, 101, 115]⟩] 9))
    go_loopw [12, 13] (fun s i wr => ∃ j : Nat, j ≤ 1 ∧ i = .int .i64 j ∧ s = .string (nmTo ⟨#[109, 97, 114, 107]⟩ ns j) ∧ Hid (Below w.heap.size w wr ∧ Nums0 wr w.heap.size ns ∧ ∀ l, (hl : l < ns.length) → l < j → inB ns[l] 0 1000000 = true)) (fun _ i _ => 1 - (intOf i).toNat)
    case atStart => exact ⟨0, Nat.zero_le _, rfl, rfl, HB0.out, HS.out.keep (below_alloc (below_alloc (Below.refl _ _) _) _), fun j hj hk => by omega⟩
    case round =>
      obtain ⟨j, hj, rfl, rfl, HA⟩ := hrel
      clear HB0 HS
      have hsz := nmTo_size2 HW.out j (by rw [HN.out]; exact hj) HA.out.2.2
      by_cases hlt : j < 1
      · have hkl : j < ns.length := by rw [HN.out]; exact hlt
        have c0 := HA.out.2.1.cell j hkl
        obtain ⟨v, hv⟩ : ∃ v, ns[j] = v := ⟨_, rfl⟩
        rw [hv] at c0
        have HV := Lib.hid hv
        have HKL := Lib.hid hkl
        clear hv
        have hi0 : (0 : Int) ≤ (j : Int) := by omega
        have hi1 : (j : Int) < (1 : Int) := by omega
        have HNX := Lib.hid (nmTo_next (word := ⟨#[109, 97, 114, 107]⟩) HKL.out HV.out)
        obtain ⟨cur, hcur⟩ : ∃ cur, nmTo ⟨#[109, 97, 114, 107]⟩ ns j = cur := ⟨_, rfl⟩
        rw [hcur] at hsz HNX ⊢
        clear hcur
        cases hq : inB v 0 1000000 with
        | true =>
          have HQ := Lib.hid hq
          have hv0 : 0 ≤ v ∧ v ≤ 1000000 := inB_iff.1 hq
          have hz := @decB_size v (by omega) (by omega)
          clear hq
          go_wp2_with fail
          refine (l1in_any _ _ _ _).mono ?_
          rw [HQ.out]
          rintro x w1 ⟨rfl, rfl⟩
          go_wp2_with fail
          refine (l1dec_any v (by omega) (by omega) _).mono ?_
          rintro x w2 ⟨rfl, hB⟩
          have HB := Lib.hid (below_via HA.out.1 hB)
          have HNU := Lib.hid (HA.out.2.1.keep hB)
          clear hB c0
          go_wp2
          go_roundw
          case rel =>
            refine ⟨j + 1, by omega, by go_num, congrArg Value.string HNX.out, HB.out, HNU.out, fun l hl hlj => ?_⟩
            rcases Nat.lt_or_ge l j with h1 | h1
            · exact HA.out.2.2 l hl h1
            · obtain rfl : l = j := by omega
              rw [HV.out]; exact HQ.out
          case measure => simp [intOf]; omega
        | false =>
          have HRN := Lib.hid (name_no (word := ⟨#[109, 97, 114, 107]⟩) (allIn_no HKL.out (by rw [HV.out]; exact hq)))
          have HQ := Lib.hid hq
          clear hq
          go_wp2_with (go_at_call 32; refine (l1in_any _ _ _ _).mono ?_; rw [HQ.out]; rintro x w1 ⟨rfl, rfl⟩)
          go_ret
          exact ⟨congrArg (fun s => Ending.returned (.string s)) (by rw [HR.out, HRN.out]; rfl), HA.out.1⟩
      · obtain rfl : j = 1 := by omega
        have HE := Lib.hid (show nmTo ⟨#[109, 97, 114, 107]⟩ ns 1 = nameB 3 t e k p by
          rw [HR.out]
          have h2 := nmTo_yes (word := ⟨#[109, 97, 114, 107]⟩) (ns := ns) (fun l hl h3 => HA.out.2.2 l hl (by rw [← HN.out]; exact h3))
          rw [HN.out] at h2
          exact h2)
        go_wp2
        go_ret
        exact ⟨congrArg (fun s => Ending.returned (.string s)) HE.out, HA.out.1⟩
  by_cases h4 : kind = 4
  · subst h4
    obtain ⟨ns, hns⟩ : ∃ ns : List Int, [t, e, k, p] = ns := ⟨_, rfl⟩
    have HR := Lib.hid (show nameB 4 t e k p = nameTx ⟨#[111, 117, 116]⟩ ns by rw [← hns]; rfl)
    have HN := Lib.hid (show ns.length = 4 by rw [← hns]; rfl)
    have HS := Lib.hid (show Nums0 (w.alloc (.cells #[.int .i64 t, .int .i64 e, .int .i64 k, .int .i64 p] 2)) w.heap.size ns from ⟨by simp, fun j hj => by
      rw [World.cell?_alloc_mark]
      subst hns
      have hj2 := hj
      simp only [List.length_cons, List.length_nil] at hj2
      match j, hj2 with
      | 0, _ => rfl
      | 1, _ => rfl
      | 2, _ => rfl
      | 3, _ => rfl⟩)
    have HI := Lib.hid (show inB 4 1 6 = true by decide)
    have HW := Lib.hid (show (⟨#[111, 117, 116]⟩ : ByteArray).size ≤ 5 by decide)
    clear hns
    go_enter Tryz.func16, Tryz.ntmps16
    go_wp2_with (go_at_call 32; refine (l1in_any _ _ _ _).mono ?_; rw [HI.out]; rintro x w1 ⟨rfl, rfl⟩)
    have HB0 := Lib.hid (below_alloc (below_alloc (below_alloc (Below.refl w.heap.size w) (.cells #[.int .i64 t, .int .i64 e, .int .i64 k, .int .i64 p] 2)) (.cells #[.int .i64 1, .int .i64 1, .int .i64 1, .int .i64 4, .int .i64 3] 3)) (.cells #[.string ⟨#[105, 110]⟩, .string ⟨#[99, 108, 97, 105, 109]⟩, .string ⟨#[109, 97, 114, 107]⟩, .string ⟨#[111, 117, 116]⟩, .string ⟨#[114, 101, 115]⟩] 9))
    go_loopw [12, 13] (fun s i wr => ∃ j : Nat, j ≤ 4 ∧ i = .int .i64 j ∧ s = .string (nmTo ⟨#[111, 117, 116]⟩ ns j) ∧ Hid (Below w.heap.size w wr ∧ Nums0 wr w.heap.size ns ∧ ∀ l, (hl : l < ns.length) → l < j → inB ns[l] 0 1000000 = true)) (fun _ i _ => 4 - (intOf i).toNat)
    case atStart => exact ⟨0, Nat.zero_le _, rfl, rfl, HB0.out, HS.out.keep (below_alloc (below_alloc (Below.refl _ _) _) _), fun j hj hk => by omega⟩
    case round =>
      obtain ⟨j, hj, rfl, rfl, HA⟩ := hrel
      clear HB0 HS
      have hsz := nmTo_size2 HW.out j (by rw [HN.out]; exact hj) HA.out.2.2
      by_cases hlt : j < 4
      · have hkl : j < ns.length := by rw [HN.out]; exact hlt
        have c0 := HA.out.2.1.cell j hkl
        obtain ⟨v, hv⟩ : ∃ v, ns[j] = v := ⟨_, rfl⟩
        rw [hv] at c0
        have HV := Lib.hid hv
        have HKL := Lib.hid hkl
        clear hv
        have hi0 : (0 : Int) ≤ (j : Int) := by omega
        have hi1 : (j : Int) < (4 : Int) := by omega
        have HNX := Lib.hid (nmTo_next (word := ⟨#[111, 117, 116]⟩) HKL.out HV.out)
        obtain ⟨cur, hcur⟩ : ∃ cur, nmTo ⟨#[111, 117, 116]⟩ ns j = cur := ⟨_, rfl⟩
        rw [hcur] at hsz HNX ⊢
        clear hcur
        cases hq : inB v 0 1000000 with
        | true =>
          have HQ := Lib.hid hq
          have hv0 : 0 ≤ v ∧ v ≤ 1000000 := inB_iff.1 hq
          have hz := @decB_size v (by omega) (by omega)
          clear hq
          go_wp2_with fail
          refine (l1in_any _ _ _ _).mono ?_
          rw [HQ.out]
          rintro x w1 ⟨rfl, rfl⟩
          go_wp2_with fail
          refine (l1dec_any v (by omega) (by omega) _).mono ?_
          rintro x w2 ⟨rfl, hB⟩
          have HB := Lib.hid (below_via HA.out.1 hB)
          have HNU := Lib.hid (HA.out.2.1.keep hB)
          clear hB c0
          go_wp2
          go_roundw
          case rel =>
            refine ⟨j + 1, by omega, by go_num, congrArg Value.string HNX.out, HB.out, HNU.out, fun l hl hlj => ?_⟩
            rcases Nat.lt_or_ge l j with h1 | h1
            · exact HA.out.2.2 l hl h1
            · obtain rfl : l = j := by omega
              rw [HV.out]; exact HQ.out
          case measure => simp [intOf]; omega
        | false =>
          have HRN := Lib.hid (name_no (word := ⟨#[111, 117, 116]⟩) (allIn_no HKL.out (by rw [HV.out]; exact hq)))
          have HQ := Lib.hid hq
          clear hq
          go_wp2_with (go_at_call 32; refine (l1in_any _ _ _ _).mono ?_; rw [HQ.out]; rintro x w1 ⟨rfl, rfl⟩)
          go_ret
          exact ⟨congrArg (fun s => Ending.returned (.string s)) (by rw [HR.out, HRN.out]; rfl), HA.out.1⟩
      · obtain rfl : j = 4 := by omega
        have HE := Lib.hid (show nmTo ⟨#[111, 117, 116]⟩ ns 4 = nameB 4 t e k p by
          rw [HR.out]
          have h2 := nmTo_yes (word := ⟨#[111, 117, 116]⟩) (ns := ns) (fun l hl h3 => HA.out.2.2 l hl (by rw [← HN.out]; exact h3))
          rw [HN.out] at h2
          exact h2)
        go_wp2
        go_ret
        exact ⟨congrArg (fun s => Ending.returned (.string s)) HE.out, HA.out.1⟩
  by_cases h5 : kind = 5
  · subst h5
    obtain ⟨ns, hns⟩ : ∃ ns : List Int, [t, e, k] = ns := ⟨_, rfl⟩
    have HR := Lib.hid (show nameB 5 t e k p = nameTx ⟨#[114, 101, 115]⟩ ns by rw [← hns]; rfl)
    have HN := Lib.hid (show ns.length = 3 by rw [← hns]; rfl)
    have HS := Lib.hid (show Nums0 (w.alloc (.cells #[.int .i64 t, .int .i64 e, .int .i64 k, .int .i64 p] 2)) w.heap.size ns from ⟨by simp, fun j hj => by
      rw [World.cell?_alloc_mark]
      subst hns
      have hj2 := hj
      simp only [List.length_cons, List.length_nil] at hj2
      match j, hj2 with
      | 0, _ => rfl
      | 1, _ => rfl
      | 2, _ => rfl⟩)
    have HI := Lib.hid (show inB 5 1 6 = true by decide)
    have HW := Lib.hid (show (⟨#[114, 101, 115]⟩ : ByteArray).size ≤ 5 by decide)
    clear hns
    go_enter Tryz.func16, Tryz.ntmps16
    go_wp2_with (go_at_call 32; refine (l1in_any _ _ _ _).mono ?_; rw [HI.out]; rintro x w1 ⟨rfl, rfl⟩)
    have HB0 := Lib.hid (below_alloc (below_alloc (below_alloc (Below.refl w.heap.size w) (.cells #[.int .i64 t, .int .i64 e, .int .i64 k, .int .i64 p] 2)) (.cells #[.int .i64 1, .int .i64 1, .int .i64 1, .int .i64 4, .int .i64 3] 3)) (.cells #[.string ⟨#[105, 110]⟩, .string ⟨#[99, 108, 97, 105, 109]⟩, .string ⟨#[109, 97, 114, 107]⟩, .string ⟨#[111, 117, 116]⟩, .string ⟨#[114, 101, 115]⟩] 9))
    go_loopw [12, 13] (fun s i wr => ∃ j : Nat, j ≤ 3 ∧ i = .int .i64 j ∧ s = .string (nmTo ⟨#[114, 101, 115]⟩ ns j) ∧ Hid (Below w.heap.size w wr ∧ Nums0 wr w.heap.size ns ∧ ∀ l, (hl : l < ns.length) → l < j → inB ns[l] 0 1000000 = true)) (fun _ i _ => 3 - (intOf i).toNat)
    case atStart => exact ⟨0, Nat.zero_le _, rfl, rfl, HB0.out, HS.out.keep (below_alloc (below_alloc (Below.refl _ _) _) _), fun j hj hk => by omega⟩
    case round =>
      obtain ⟨j, hj, rfl, rfl, HA⟩ := hrel
      clear HB0 HS
      have hsz := nmTo_size2 HW.out j (by rw [HN.out]; exact hj) HA.out.2.2
      by_cases hlt : j < 3
      · have hkl : j < ns.length := by rw [HN.out]; exact hlt
        have c0 := HA.out.2.1.cell j hkl
        obtain ⟨v, hv⟩ : ∃ v, ns[j] = v := ⟨_, rfl⟩
        rw [hv] at c0
        have HV := Lib.hid hv
        have HKL := Lib.hid hkl
        clear hv
        have hi0 : (0 : Int) ≤ (j : Int) := by omega
        have hi1 : (j : Int) < (3 : Int) := by omega
        have HNX := Lib.hid (nmTo_next (word := ⟨#[114, 101, 115]⟩) HKL.out HV.out)
        obtain ⟨cur, hcur⟩ : ∃ cur, nmTo ⟨#[114, 101, 115]⟩ ns j = cur := ⟨_, rfl⟩
        rw [hcur] at hsz HNX ⊢
        clear hcur
        cases hq : inB v 0 1000000 with
        | true =>
          have HQ := Lib.hid hq
          have hv0 : 0 ≤ v ∧ v ≤ 1000000 := inB_iff.1 hq
          have hz := @decB_size v (by omega) (by omega)
          clear hq
          go_wp2_with fail
          refine (l1in_any _ _ _ _).mono ?_
          rw [HQ.out]
          rintro x w1 ⟨rfl, rfl⟩
          go_wp2_with fail
          refine (l1dec_any v (by omega) (by omega) _).mono ?_
          rintro x w2 ⟨rfl, hB⟩
          have HB := Lib.hid (below_via HA.out.1 hB)
          have HNU := Lib.hid (HA.out.2.1.keep hB)
          clear hB c0
          go_wp2
          go_roundw
          case rel =>
            refine ⟨j + 1, by omega, by go_num, congrArg Value.string HNX.out, HB.out, HNU.out, fun l hl hlj => ?_⟩
            rcases Nat.lt_or_ge l j with h1 | h1
            · exact HA.out.2.2 l hl h1
            · obtain rfl : l = j := by omega
              rw [HV.out]; exact HQ.out
          case measure => simp [intOf]; omega
        | false =>
          have HRN := Lib.hid (name_no (word := ⟨#[114, 101, 115]⟩) (allIn_no HKL.out (by rw [HV.out]; exact hq)))
          have HQ := Lib.hid hq
          clear hq
          go_wp2_with (go_at_call 32; refine (l1in_any _ _ _ _).mono ?_; rw [HQ.out]; rintro x w1 ⟨rfl, rfl⟩)
          go_ret
          exact ⟨congrArg (fun s => Ending.returned (.string s)) (by rw [HR.out, HRN.out]; rfl), HA.out.1⟩
      · obtain rfl : j = 3 := by omega
        have HE := Lib.hid (show nmTo ⟨#[114, 101, 115]⟩ ns 3 = nameB 5 t e k p by
          rw [HR.out]
          have h2 := nmTo_yes (word := ⟨#[114, 101, 115]⟩) (ns := ns) (fun l hl h3 => HA.out.2.2 l hl (by rw [← HN.out]; exact h3))
          rw [HN.out] at h2
          exact h2)
        go_wp2
        go_ret
        exact ⟨congrArg (fun s => Ending.returned (.string s)) HE.out, HA.out.1⟩
  by_cases h6 : kind = 6
  · subst h6
    have HR := Lib.hid (show nameB 6 t e k p = ⟨#[106, 111, 98]⟩ from rfl)
    have HI := Lib.hid (show inB 6 1 6 = true by decide)
    go_enter Tryz.func16, Tryz.ntmps16
    go_wp2_with (go_at_call 32; refine (l1in_any _ _ _ _).mono ?_; rw [HI.out]; rintro x w1 ⟨rfl, rfl⟩)
    go_ret
    exact ⟨congrArg (fun s => Ending.returned (.string s)) HR.out.symm, Below.refl _ _⟩
  have HR := Lib.hid (show nameB kind t e k p = ByteArray.empty by unfold nameB; rw [if_neg h1, if_neg h2, if_neg h3, if_neg h4, if_neg h5, if_neg h6])
  have HI := Lib.hid (show inB kind 1 6 = false by
    cases hq : inB kind 1 6 with
    | false => rfl
    | true => rw [inB_iff] at hq; omega)
  clear h1 h2 h3 h4 h5 h6
  go_enter Tryz.func16, Tryz.ntmps16
  go_wp2_with (go_at_call 32; refine (l1in_any _ _ _ _).mono ?_; rw [HI.out]; rintro x w1 ⟨rfl, rfl⟩)
  go_ret
  exact ⟨congrArg (fun s => Ending.returned (.string s)) HR.out.symm, Below.refl _ _⟩
end Go.Proofs.YtblpebdjbenphaaGreatDoor
namespace Go.Proofs.YtblpebdjbenphaaGreatDoor
open Go.ChangeShapes Go.WideShapes Go.ChangeAt Go.RowKit
set_option linter.unusedVariables false
set_option maxRecDepth 100000

/-- Block r is a reader over the bytes (a, len, cap), which lie in an older block. -/
structure Rdr (w : World) (r : Nat) (a : Option Addr) (len cap : Nat) : Prop where
  lt : r < w.heap.size
  code : w.cell? ⟨r, 0, none⟩ = some (.slice a len cap)
  pos : ∃ p : Nat, p ≤ len ∧ w.cell? ⟨r, 1, none⟩ = some (.int .i64 p)
  free : w.frozen? ⟨r, 1, none⟩ = false
  max : len ≤ maxLen
  src : len = 0 ∨ ∃ b off, a = some ⟨b, off, none⟩ ∧ b < r ∧ ∀ i, i < len → ∃ z : Nat, z < 256 ∧ w.cell? ⟨b, off + i, none⟩ = some (.int .u8 z)

theorem Rdr.below {w w' : World} {r : Nat} {a : Option Addr} {len cap : Nat} (h : Rdr w r a len cap) (hb : Below (r + 1) w w') : Rdr w' r a len cap where
  lt := Nat.lt_of_lt_of_le h.lt hb.size
  code := (hb.cell (p := ⟨r, 0, none⟩) (Nat.lt_succ_self _)).trans h.code
  pos := by obtain ⟨p, hp, hc⟩ := h.pos; exact ⟨p, hp, (hb.cell (p := ⟨r, 1, none⟩) (Nat.lt_succ_self _)).trans hc⟩
  free := (hb.frozen (p := ⟨r, 1, none⟩) (Nat.lt_succ_self _)).trans h.free
  max := h.max
  src := by
    rcases h.src with h0 | ⟨b, off, ha, hbr, hc⟩
    · exact .inl h0
    · exact .inr ⟨b, off, ha, hbr, fun i hi => by obtain ⟨z, hz, hcz⟩ := hc i hi; exact ⟨z, hz, (hb.cell (p := ⟨b, off + i, none⟩) (by show b < r + 1; omega)).trans hcz⟩⟩

theorem Rdr.alloc {w : World} {r : Nat} {a : Option Addr} {len cap : Nat} (h : Rdr w r a len cap) (o : Obj) : Rdr (w.alloc o) r a len cap := h.below ((Below.refl _ _).alloc h.lt o)
theorem Rdr.drew {w : World} {r : Nat} {a : Option Addr} {len cap : Nat} (h : Rdr w r a len cap) : Rdr w.drew r a len cap := h.below (Below.refl _ _).drew

theorem grown_trans {a b c : World} {row : Option Nat} (h : a.grownBy b row) (k : b.grownBy c row) : a.grownBy c row :=
  ⟨k.os.trans h.os, k.tape.trans h.tape, k.output.trans h.output, Nat.le_trans h.size k.size, fun i hi hn => (k.block i (Nat.lt_of_lt_of_le hi h.size) hn).trans (h.block i hi hn)⟩
theorem grown_alloc {a b : World} {row : Option Nat} (h : a.grownBy b row) (o : Obj) : a.grownBy (b.alloc o) row := grown_trans h (World.grownBy_alloc _ _ _)
theorem grown_drewN {a b : World} {row : Option Nat} (h : a.grownBy b row) (n : Nat) : a.grownBy (b.drewN n) row := grown_trans h ⟨rfl, rfl, rfl, Nat.le_refl _, fun _ _ _ => rfl⟩
theorem grown_setCell {a b : World} {r : Nat} (h : a.grownBy b (some r)) (j : Nat) (v : Value) : a.grownBy (b.setCell ⟨r, j, none⟩ v) (some r) :=
  grown_trans h ⟨rfl, rfl, rfl, by simp [World.setCell], fun k hk hn => Below.heap_setCell _ _ _ _ (fun e => hn (by rw [e]))⟩

/-- What a method of the reader does to the world. -/
structure Went (w : World) (r : Nat) (a : Option Addr) (len cap : Nat) (w' : World) : Prop where
  grown : w.grownBy w' (some r)
  rdr : Rdr w' r a len cap

theorem Went.refl {w : World} {r : Nat} {a : Option Addr} {len cap : Nat} (h : Rdr w r a len cap) : Went w r a len cap w := ⟨World.grownBy.refl _ _, h⟩
theorem Went.trans {w w1 w2 : World} {r : Nat} {a : Option Addr} {len cap : Nat} (h : Went w r a len cap w1) (k : Went w1 r a len cap w2) : Went w r a len cap w2 := ⟨grown_trans h.grown k.grown, k.rdr⟩
theorem Went.alloc {w w1 : World} {r : Nat} {a : Option Addr} {len cap : Nat} (h : Went w r a len cap w1) (o : Obj) : Went w r a len cap (w1.alloc o) := ⟨grown_alloc h.grown o, h.rdr.alloc o⟩
theorem Went.drewN {w w1 : World} {r : Nat} {a : Option Addr} {len cap : Nat} (h : Went w r a len cap w1) (n : Nat) : Went w r a len cap (w1.drewN n) := ⟨grown_drewN h.grown n, h.rdr.below (below_drewN (Below.refl _ _) n)⟩
theorem Went.size {w w1 : World} {r : Nat} {a : Option Addr} {len cap : Nat} (h : Went w r a len cap w1) : w.heap.size ≤ w1.heap.size := h.grown.size
/-- A block other than the reader's stays. -/
theorem Went.block {w w1 : World} {r : Nat} {a : Option Addr} {len cap : Nat} (h : Went w r a len cap w1) {k : Nat} {o : Obj} (hk : w.heap[k]? = some o) (hne : k ≠ r) : w1.heap[k]? = some o :=
  (h.grown.block k (lt_of_block hk) (by simpa using hne)).trans hk
theorem Went.cell {w w1 : World} {r : Nat} {a : Option Addr} {len cap : Nat} (h : Went w r a len cap w1) {p : Addr} {v : Value} (hk : w.cell? p = some v) (hne : p.block ≠ r) : w1.cell? p = some v :=
  h.grown.cell hk (by simpa using hne)
theorem Went.under {w w1 : World} {r : Nat} {a : Option Addr} {len cap : Nat} (h : Went w r a len cap w1) {B : Nat} {w0 : World} (hb : Below B w0 w) (hB : B ≤ r) (hs : B ≤ w.heap.size) : Below B w0 w1 :=
  hb.grown h.grown hs (fun k hk => by cases hk; exact hB)

/-- The end of a method that returns a number from lo to hi. -/
def RdInt (lo hi : Int) (w : World) (r : Nat) (a : Option Addr) (len cap : Nat) (e : Ending) (w' : World) : Prop := (∃ x : Int, lo ≤ x ∧ x ≤ hi ∧ e = .returned (.int .i64 x)) ∧ Went w r a len cap w'

theorem Rdr.step {w : World} {r : Nat} {a : Option Addr} {len cap : Nat} (h : Rdr w r a len cap) (q : Nat) (hq : q ≤ len) : Rdr (w.setCell ⟨r, 1, none⟩ (.int .i64 q)) r a len cap where
  lt := by simpa [World.setCell] using h.lt
  code := (World.cell?_setCell_other _ _ _ _ (by simp)).trans h.code
  pos := by obtain ⟨p, _, hc⟩ := h.pos; exact ⟨q, hq, World.cell?_setCell_same _ _ _ hc⟩
  free := by rw [World.frozen?_setCell]; exact h.free
  max := h.max
  src := by
    rcases h.src with h0 | ⟨b, off, ha, hbr, hc⟩
    · exact .inl h0
    · exact .inr ⟨b, off, ha, hbr, fun i hi => by obtain ⟨z, hz, hcz⟩ := hc i hi; exact ⟨z, hz, (World.cell?_setCell_other _ _ _ _ (by intro e; have := congrArg Addr.block e; simp at this; omega)).trans hcz⟩⟩

theorem Went.step {w w1 : World} {r : Nat} {a : Option Addr} {len cap : Nat} (h : Went w r a len cap w1) (q : Nat) (hq : q ≤ len) : Went w r a len cap (w1.setCell ⟨r, 1, none⟩ (.int .i64 q)) := ⟨grown_setCell h.grown _ _, h.rdr.step q hq⟩

theorem RdInt.mk {lo hi : Int} {w : World} {r : Nat} {a : Option Addr} {len cap : Nat} {w' : World} (x : Int) (h1 : lo ≤ x) (h2 : x ≤ hi) (hw : Went w r a len cap w') : RdInt lo hi w r a len cap (.returned (.int .i64 x)) w' := ⟨⟨x, h1, h2, rfl⟩, hw⟩

set_option maxHeartbeats 1000000 in
theorem rnext_any (w : World) (r : Nat) (a : Option Addr) (len cap : Nat) (h : Rdr w r a len cap) :
    Calls Tryz.prog 49 #[.pointer (some ⟨r, 0, none⟩)] w (RdInt 0 255 w r a len cap) := by
  obtain ⟨p, hp, hc1⟩ := h.pos
  have hc0 := h.code
  have hf := h.free
  have hm := h.max
  unfold maxLen at hm
  by_cases hlt : p < len
  · rcases h.src with h0 | ⟨b, off, rfl, hbr, hcell⟩
    · omega
    · obtain ⟨z, hz, hcz⟩ := hcell p hlt
      have hne : b ≠ r := by omega
      have H := Lib.hid h
      clear h hcell hbr
      go_enter Tryz.func49, Tryz.ntmps49
      go_wp2_with fail
      go_quiet (fail)
      go_wp2_with fail
      go_quiet (fail)
      go_wp2
      go_ret
      exact RdInt.mk _ (by omega) (by omega) ((((Went.refl H.out).drewN _).step (p + 1) hlt).drewN _)
  · have H := Lib.hid h
    have hpl : p = len := by omega
    subst hpl
    clear h
    go_enter Tryz.func49, Tryz.ntmps49
    go_wp2_with fail
    go_quiet (fail)
    go_wp2
    go_ret
    exact RdInt.mk _ (by omega) (by omega) ((Went.refl H.out).drewN _)

set_option maxHeartbeats 1000000 in
theorem below_any (n : Int) (w : World) (r : Nat) (a : Option Addr) (len cap : Nat) (h : Rdr w r a len cap) (h1 : 1 ≤ n) (h2 : n ≤ 4611686018427387904) :
    Calls Tryz.prog 30 #[.pointer (some ⟨r, 0, none⟩), .int .i64 n] w (RdInt 0 (n - 1) w r a len cap) := by
  have H := Lib.hid h
  clear h
  by_cases hn : n = 1
  · subst hn
    go_enter Tryz.func30, Tryz.ntmps30
    go_wp2
    go_ret
    exact RdInt.mk _ (by omega) (by omega) (Went.refl H.out)
  · by_cases hs : n ≤ 256
    · have g1 : ¬ n ≤ 1 := by omega
      have gz : (n == 0) = false := by simp; omega
      clear hn
      go_enter Tryz.func30, Tryz.ntmps30
      go_wp2_with (go_at_call 49; refine (rnext_any _ _ _ _ _ H.out).mono ?_; rintro e w1 ⟨⟨x, hx1, hx2, rfl⟩, hw⟩; have HW := Lib.hid hw; clear hw)
      have e1 := Int.emod_nonneg x (show n ≠ 0 by omega)
      have e2 := Int.emod_lt_of_pos x (show 0 < n by omega)
      go_ret
      exact RdInt.mk _ (by omega) (by omega) HW.out
    · have g1 : ¬ n ≤ 1 := by omega
      have gz : (n == 0) = false := by simp; omega
      clear hn
      go_enter Tryz.func30, Tryz.ntmps30
      have H0 := Lib.hid (Went.refl H.out)
      clear H
      go_wp2_with (go_at_call 49; refine (rnext_any _ _ _ _ _ H0.out.rdr).mono ?_; rintro e w1 ⟨⟨x, hx1, hx2, rfl⟩, hw⟩; have H1 := Lib.hid (H0.out.trans hw); clear hw H0; have H0 := H1; clear H1)
      rename_i x2 hx3 hx4
      have e1 := Int.emod_nonneg (x2 * 256 + x) (show n ≠ 0 by omega)
      have e2 := Int.emod_lt_of_pos (x2 * 256 + x) (show 0 < n by omega)
      go_ret
      exact RdInt.mk _ (by omega) (by omega) H0.out
end Go.Proofs.YtblpebdjbenphaaGreatDoor
