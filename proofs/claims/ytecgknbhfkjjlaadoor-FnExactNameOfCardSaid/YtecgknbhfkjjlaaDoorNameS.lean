
/- The names of objects: what the model writes. Only new blocks are made. -/
import Derived.Test.YtecgknbhfkjjlaaDoorName
namespace Go.Proofs.YtecgknbhfkjjlaaDoor
open Go.ChangeShapes Go.WideShapes Go.ChangeAt Go.RowKit
set_option linter.unusedVariables false
set_option maxRecDepth 100000

theorem nmTo_yes {word : ByteArray} {ns : List Int} (h : ∀ j (hj : j < ns.length), j < ns.length → inB ns[j] 0 1000000 = true) : nmTo word ns ns.length = nameTx word ns := by
  unfold nameTx; rw [if_pos (allIn_yes fun j hj => h j hj hj)]
theorem nmTo_size2 {word : ByteArray} {ns : List Int} (hw : word.size ≤ 5) : ∀ k, k ≤ ns.length → (∀ j (hj : j < ns.length), j < k → inB ns[j] 0 1000000 = true) → (nmTo word ns k).size ≤ 5 + 21 * k
  | 0, _, _ => by simpa [nmTo] using hw
  | k + 1, hk, h => by
    have ih := nmTo_size2 hw k (by omega) (fun j hj h1 => h j hj (by omega))
    have hi := in_of (h k hk (by omega))
    unfold In64 at hi
    have hz := @decB_size ns[k] hi.1 (by omega)
    have e : ns.getD k 0 = ns[k] := by rw [List.getD_eq_getElem?_getD, List.getElem?_eq_getElem (by omega)]; rfl
    rw [nmTo, e, ByteArray.size_append, ByteArray.size_append]
    show _ + 1 + _ ≤ _
    omega
theorem nmTo_next {word : ByteArray} {ns : List Int} {k : Nat} {v : Int} (h : k < ns.length) (hv : ns[k] = v) : nmTo word ns k ++ ⟨#[47]⟩ ++ decB v = nmTo word ns (k + 1) := by
  have e : ns.getD k 0 = ns[k] := by rw [List.getD_eq_getElem?_getD, List.getElem?_eq_getElem (by omega)]; rfl
  rw [nmTo, e, hv]

set_option maxHeartbeats 4000000 in
theorem snameof_any (kind t e k p : Int) (w : World) : Calls Tryd.prog 27 #[.int .i64 kind, .int .i64 t, .int .i64 e, .int .i64 k, .int .i64 p] w (MadeTx (nameB kind t e k p) w) := by
  by_cases h1 : kind = 1
  · subst h1
    obtain ⟨ns, hns⟩ : ∃ ns : List Int, [t] = ns := ⟨_, rfl⟩
    have HR := Lib.hid (show nameB 1 t e k p = nameTx ⟨#[105, 110]⟩ ns by rw [← hns]; rfl)
    have HN := Lib.hid (show ns.length = 1 by rw [← hns]; rfl)
    have HS := Lib.hid (show Nums0 (w.alloc (.cells #[.int .i64 t, .int .i64 e, .int .i64 k, .int .i64 p] 2)) w.heap.size ns from ⟨by simp, fun j hj => by
      rw [World.cell?_alloc_mark]
      subst hns
      have hj2 := hj
      simp only [List.length_cons, List.length_nil] at hj2
      match j, hj2 with
      | 0, _ => rfl⟩)
    have HI := Lib.hid (show inB 1 1 6 = true by decide)
    have HW := Lib.hid (show (⟨#[105, 110]⟩ : ByteArray).size ≤ 5 by decide)
    clear hns
    go_enter Tryd.func27, Tryd.ntmps27
    go_wp2_with (go_at_call 41; refine (l1in_any _ _ _ _).mono ?_; rw [HI.out]; rintro x w1 ⟨rfl, rfl⟩)
    have HB0 := Lib.hid (below_alloc (below_alloc (below_alloc (Below.refl w.heap.size w) (.cells #[.int .i64 t, .int .i64 e, .int .i64 k, .int .i64 p] 2)) (.cells #[.int .i64 1, .int .i64 1, .int .i64 1, .int .i64 4, .int .i64 3] 3)) (.cells #[.string ⟨#[105, 110]⟩, .string ⟨#[99, 108, 97, 105, 109]⟩, .string ⟨#[109, 97, 114, 107]⟩, .string ⟨#[111, 117, 116]⟩, .string ⟨#[114, 101, 115]⟩] 9))
    go_loopw [12, 13] (fun s i wr => ∃ j : Nat, j ≤ 1 ∧ i = .int .i64 j ∧ s = .string (nmTo ⟨#[105, 110]⟩ ns j) ∧ Hid (Below w.heap.size w wr ∧ Nums0 wr w.heap.size ns ∧ ∀ l, (hl : l < ns.length) → l < j → inB ns[l] 0 1000000 = true)) (fun _ i _ => 1 - (intOf i).toNat)
    case atStart => exact ⟨0, Nat.zero_le _, rfl, rfl, HB0.out, HS.out.keep (below_alloc (below_alloc (Below.refl _ _) _) _), fun j hj hk => by omega⟩
    case round =>
      obtain ⟨j, hj, rfl, rfl, HA⟩ := hrel
      clear HB0 HS
      have hsz := nmTo_size2 HW.out j (by rw [HN.out]; exact hj) HA.out.2.2
      by_cases hlt : j < 1
      · have hkl : j < ns.length := by rw [HN.out]; exact hlt
        have c0 := HA.out.2.1.cell j hkl
        obtain ⟨v, hv⟩ : ∃ v, ns[j] = v := ⟨_, rfl⟩
        rw [hv] at c0
        have HV := Lib.hid hv
        have HKL := Lib.hid hkl
        clear hv
        have hi0 : (0 : Int) ≤ (j : Int) := by omega
        have hi1 : (j : Int) < (1 : Int) := by omega
        have HNX := Lib.hid (nmTo_next (word := ⟨#[105, 110]⟩) HKL.out HV.out)
        obtain ⟨cur, hcur⟩ : ∃ cur, nmTo ⟨#[105, 110]⟩ ns j = cur := ⟨_, rfl⟩
        rw [hcur] at hsz HNX ⊢
        clear hcur
        cases hq : inB v 0 1000000 with
        | true =>
          have HQ := Lib.hid hq
          have hv0 : 0 ≤ v ∧ v ≤ 1000000 := inB_iff.1 hq
          have hz := @decB_size v (by omega) (by omega)
          clear hq
          go_wp2_with fail
          refine (l1in_any _ _ _ _).mono ?_
          rw [HQ.out]
          rintro x w1 ⟨rfl, rfl⟩
          go_wp2_with fail
          refine (l1dec_any v (by omega) (by omega) _).mono ?_
          rintro x w2 ⟨rfl, hB⟩
          have HB := Lib.hid (below_via HA.out.1 hB)
          have HNU := Lib.hid (HA.out.2.1.keep hB)
          clear hB c0
          go_wp2
          go_roundw
          case rel =>
            refine ⟨j + 1, by omega, by go_num, congrArg Value.string HNX.out, HB.out, HNU.out, fun l hl hlj => ?_⟩
            rcases Nat.lt_or_ge l j with h1 | h1
            · exact HA.out.2.2 l hl h1
            · obtain rfl : l = j := by omega
              rw [HV.out]; exact HQ.out
          case measure => simp [intOf]; omega
        | false =>
          have HRN := Lib.hid (name_no (word := ⟨#[105, 110]⟩) (allIn_no HKL.out (by rw [HV.out]; exact hq)))
          have HQ := Lib.hid hq
          clear hq
          go_wp2_with (go_at_call 41; refine (l1in_any _ _ _ _).mono ?_; rw [HQ.out]; rintro x w1 ⟨rfl, rfl⟩)
          go_ret
          exact ⟨congrArg (fun s => Ending.returned (.string s)) (by rw [HR.out, HRN.out]; rfl), HA.out.1⟩
      · obtain rfl : j = 1 := by omega
        have HE := Lib.hid (show nmTo ⟨#[105, 110]⟩ ns 1 = nameB 1 t e k p by
          rw [HR.out]
          have h2 := nmTo_yes (word := ⟨#[105, 110]⟩) (ns := ns) (fun l hl h3 => HA.out.2.2 l hl (by rw [← HN.out]; exact h3))
          rw [HN.out] at h2
          exact h2)
        go_wp2
        go_ret
        exact ⟨congrArg (fun s => Ending.returned (.string s)) HE.out, HA.out.1⟩
  by_cases h2 : kind = 2
  · subst h2
    obtain ⟨ns, hns⟩ : ∃ ns : List Int, [t] = ns := ⟨_, rfl⟩
    have HR := Lib.hid (show nameB 2 t e k p = nameTx ⟨#[99, 108, 97, 105, 109]⟩ ns by rw [← hns]; rfl)
    have HN := Lib.hid (show ns.length = 1 by rw [← hns]; rfl)
    have HS := Lib.hid (show Nums0 (w.alloc (.cells #[.int .i64 t, .int .i64 e, .int .i64 k, .int .i64 p] 2)) w.heap.size ns from ⟨by simp, fun j hj => by
      rw [World.cell?_alloc_mark]
      subst hns
      have hj2 := hj
      simp only [List.length_cons, List.length_nil] at hj2
      match j, hj2 with
      | 0, _ => rfl⟩)
    have HI := Lib.hid (show inB 2 1 6 = true by decide)
    have HW := Lib.hid (show (⟨#[99, 108, 97, 105, 109]⟩ : ByteArray).size ≤ 5 by decide)
    clear hns
    go_enter Tryd.func27, Tryd.ntmps27
    go_wp2_with (go_at_call 41; refine (l1in_any _ _ _ _).mono ?_; rw [HI.out]; rintro x w1 ⟨rfl, rfl⟩)
    have HB0 := Lib.hid (below_alloc (below_alloc (below_alloc (Below.refl w.heap.size w) (.cells #[.int .i64 t, .int .i64 e, .int .i64 k, .int .i64 p] 2)) (.cells #[.int .i64 1, .int .i64 1, .int .i64 1, .int .i64 4, .int .i64 3] 3)) (.cells #[.string ⟨#[105, 110]⟩, .string ⟨#[99, 108, 97, 105, 109]⟩, .string ⟨#[109, 97, 114, 107]⟩, .string ⟨#[111, 117, 116]⟩, .string ⟨#[114, 101, 115]⟩] 9))
    go_loopw [12, 13] (fun s i wr => ∃ j : Nat, j ≤ 1 ∧ i = .int .i64 j ∧ s = .string (nmTo ⟨#[99, 108, 97, 105, 109]⟩ ns j) ∧ Hid (Below w.heap.size w wr ∧ Nums0 wr w.heap.size ns ∧ ∀ l, (hl : l < ns.length) → l < j → inB ns[l] 0 1000000 = true)) (fun _ i _ => 1 - (intOf i).toNat)
    case atStart => exact ⟨0, Nat.zero_le _, rfl, rfl, HB0.out, HS.out.keep (below_alloc (below_alloc (Below.refl _ _) _) _), fun j hj hk => by omega⟩
    case round =>
      obtain ⟨j, hj, rfl, rfl, HA⟩ := hrel
      clear HB0 HS
      have hsz := nmTo_size2 HW.out j (by rw [HN.out]; exact hj) HA.out.2.2
      by_cases hlt : j < 1
      · have hkl : j < ns.length := by rw [HN.out]; exact hlt
        have c0 := HA.out.2.1.cell j hkl
        obtain ⟨v, hv⟩ : ∃ v, ns[j] = v := ⟨_, rfl⟩
        rw [hv] at c0
        have HV := Lib.hid hv
        have HKL := Lib.hid hkl
        clear hv
        have hi0 : (0 : Int) ≤ (j : Int) := by omega
        have hi1 : (j : Int) < (1 : Int) := by omega
        have HNX := Lib.hid (nmTo_next (word := ⟨#[99, 108, 97, 105, 109]⟩) HKL.out HV.out)
        obtain ⟨cur, hcur⟩ : ∃ cur, nmTo ⟨#[99, 108, 97, 105, 109]⟩ ns j = cur := ⟨_, rfl⟩
        rw [hcur] at hsz HNX ⊢
        clear hcur
        cases hq : inB v 0 1000000 with
        | true =>
          have HQ := Lib.hid hq
          have hv0 : 0 ≤ v ∧ v ≤ 1000000 := inB_iff.1 hq
          have hz := @decB_size v (by omega) (by omega)
          clear hq
          go_wp2_with fail
          refine (l1in_any _ _ _ _).mono ?_
          rw [HQ.out]
          rintro x w1 ⟨rfl, rfl⟩
          go_wp2_with fail
          refine (l1dec_any v (by omega) (by omega) _).mono ?_
          rintro x w2 ⟨rfl, hB⟩
          have HB := Lib.hid (below_via HA.out.1 hB)
          have HNU := Lib.hid (HA.out.2.1.keep hB)
          clear hB c0
          go_wp2
          go_roundw
          case rel =>
            refine ⟨j + 1, by omega, by go_num, congrArg Value.string HNX.out, HB.out, HNU.out, fun l hl hlj => ?_⟩
            rcases Nat.lt_or_ge l j with h1 | h1
            · exact HA.out.2.2 l hl h1
            · obtain rfl : l = j := by omega
              rw [HV.out]; exact HQ.out
          case measure => simp [intOf]; omega
        | false =>
          have HRN := Lib.hid (name_no (word := ⟨#[99, 108, 97, 105, 109]⟩) (allIn_no HKL.out (by rw [HV.out]; exact hq)))
          have HQ := Lib.hid hq
          clear hq
          go_wp2_with (go_at_call 41; refine (l1in_any _ _ _ _).mono ?_; rw [HQ.out]; rintro x w1 ⟨rfl, rfl⟩)
          go_ret
          exact ⟨congrArg (fun s => Ending.returned (.string s)) (by rw [HR.out, HRN.out]; rfl), HA.out.1⟩
      · obtain rfl : j = 1 := by omega
        have HE := Lib.hid (show nmTo ⟨#[99, 108, 97, 105, 109]⟩ ns 1 = nameB 2 t e k p by
          rw [HR.out]
          have h2 := nmTo_yes (word := ⟨#[99, 108, 97, 105, 109]⟩) (ns := ns) (fun l hl h3 => HA.out.2.2 l hl (by rw [← HN.out]; exact h3))
          rw [HN.out] at h2
          exact h2)
        go_wp2
        go_ret
        exact ⟨congrArg (fun s => Ending.returned (.string s)) HE.out, HA.out.1⟩
  by_cases h3 : kind = 3
  · subst h3
    obtain ⟨ns, hns⟩ : ∃ ns : List Int, [t] = ns := ⟨_, rfl⟩
    have HR := Lib.hid (show nameB 3 t e k p = nameTx ⟨#[109, 97, 114, 107]⟩ ns by rw [← hns]; rfl)
    have HN := Lib.hid (show ns.length = 1 by rw [← hns]; rfl)
    have HS := Lib.hid (show Nums0 (w.alloc (.cells #[.int .i64 t, .int .i64 e, .int .i64 k, .int .i64 p] 2)) w.heap.size ns from ⟨by simp, fun j hj => by
      rw [World.cell?_alloc_mark]
      subst hns
      have hj2 := hj
      simp only [List.length_cons, List.length_nil] at hj2
      match j, hj2 with
      | 0, _ => rfl⟩)
    have HI := Lib.hid (show inB 3 1 6 = true by decide)
    have HW := Lib.hid (show (⟨#[109, 97, 114, 107]⟩ : ByteArray).size ≤ 5 by decide)
    clear hns
    go_enter Tryd.func27, Tryd.ntmps27
    go_wp2_with (go_at_call 41; refine (l1in_any _ _ _ _).mono ?_; rw [HI.out]; rintro x w1 ⟨rfl, rfl⟩)
    have HB0 := Lib.hid (below_alloc (below_alloc (below_alloc (Below.refl w.heap.size w) (.cells #[.int .i64 t, .int .i64 e, .int .i64 k, .int .i64 p] 2)) (.cells #[.int .i64 1, .int .i64 1, .int .i64 1, .int .i64 4, .int .i64 3] 3)) (.cells #[.string ⟨#[105, 110]⟩, .string ⟨#[99, 108, 97, 105, 109]⟩, .string ⟨#[109, 97, 114, 107]⟩, .string ⟨#[111, 117, 116]⟩, .string ⟨#[114, 101, 115]⟩] 9))
    go_loopw [12, 13] (fun s i wr => ∃ j : Nat, j ≤ 1 ∧ i = .int .i64 j ∧ s = .string (nmTo ⟨#[109, 97, 114, 107]⟩ ns j) ∧ Hid (Below w.heap.size w wr ∧ Nums0 wr w.heap.size ns ∧ ∀ l, (hl : l < ns.length) → l < j → inB ns[l] 0 1000000 = true)) (fun _ i _ => 1 - (intOf i).toNat)
    case atStart => exact ⟨0, Nat.zero_le _, rfl, rfl, HB0.out, HS.out.keep (below_alloc (below_alloc (Below.refl _ _) _) _), fun j hj hk => by omega⟩
    case round =>
      obtain ⟨j, hj, rfl, rfl, HA⟩ := hrel
      clear HB0 HS
      have hsz := nmTo_size2 HW.out j (by rw [HN.out]; exact hj) HA.out.2.2
      by_cases hlt : j < 1
      · have hkl : j < ns.length := by rw [HN.out]; exact hlt
        have c0 := HA.out.2.1.cell j hkl
        obtain ⟨v, hv⟩ : ∃ v, ns[j] = v := ⟨_, rfl⟩
        rw [hv] at c0
        have HV := Lib.hid hv
        have HKL := Lib.hid hkl
        clear hv
        have hi0 : (0 : Int) ≤ (j : Int) := by omega
        have hi1 : (j : Int) < (1 : Int) := by omega
        have HNX := Lib.hid (nmTo_next (word := ⟨#[109, 97, 114, 107]⟩) HKL.out HV.out)
        obtain ⟨cur, hcur⟩ : ∃ cur, nmTo ⟨#[109, 97, 114, 107]⟩ ns j = cur := ⟨_, rfl⟩
        rw [hcur] at hsz HNX ⊢
        clear hcur
        cases hq : inB v 0 1000000 with
        | true =>
          have HQ := Lib.hid hq
          have hv0 : 0 ≤ v ∧ v ≤ 1000000 := inB_iff.1 hq
          have hz := @decB_size v (by omega) (by omega)
          clear hq
          go_wp2_with fail
          refine (l1in_any _ _ _ _).mono ?_
          rw [HQ.out]
          rintro x w1 ⟨rfl, rfl⟩
          go_wp2_with fail
          refine (l1dec_any v (by omega) (by omega) _).mono ?_
          rintro x w2 ⟨rfl, hB⟩
          have HB := Lib.hid (below_via HA.out.1 hB)
          have HNU := Lib.hid (HA.out.2.1.keep hB)
          clear hB c0
          go_wp2
          go_roundw
          case rel =>
            refine ⟨j + 1, by omega, by go_num, congrArg Value.string HNX.out, HB.out, HNU.out, fun l hl hlj => ?_⟩
            rcases Nat.lt_or_ge l j with h1 | h1
            · exact HA.out.2.2 l hl h1
            · obtain rfl : l = j := by omega
              rw [HV.out]; exact HQ.out
          case measure => simp [intOf]; omega
        | false =>
          have HRN := Lib.hid (name_no (word := ⟨#[109, 97, 114, 107]⟩) (allIn_no HKL.out (by rw [HV.out]; exact hq)))
          have HQ := Lib.hid hq
          clear hq
          go_wp2_with (go_at_call 41; refine (l1in_any _ _ _ _).mono ?_; rw [HQ.out]; rintro x w1 ⟨rfl, rfl⟩)
          go_ret
          exact ⟨congrArg (fun s => Ending.returned (.string s)) (by rw [HR.out, HRN.out]; rfl), HA.out.1⟩
      · obtain rfl : j = 1 := by omega
        have HE := Lib.hid (show nmTo ⟨#[109, 97, 114, 107]⟩ ns 1 = nameB 3 t e k p by
          rw [HR.out]
          have h2 := nmTo_yes (word := ⟨#[109, 97, 114, 107]⟩) (ns := ns) (fun l hl h3 => HA.out.2.2 l hl (by rw [← HN.out]; exact h3))
          rw [HN.out] at h2
          exact h2)
        go_wp2
        go_ret
        exact ⟨congrArg (fun s => Ending.returned (.string s)) HE.out, HA.out.1⟩
  by_cases h4 : kind = 4
  · subst h4
    obtain ⟨ns, hns⟩ : ∃ ns : List Int, [t, e, k, p] = ns := ⟨_, rfl⟩
    have HR := Lib.hid (show nameB 4 t e k p = nameTx ⟨#[111, 117, 116]⟩ ns by rw [← hns]; rfl)
    have HN := Lib.hid (show ns.length = 4 by rw [← hns]; rfl)
    have HS := Lib.hid (show Nums0 (w.alloc (.cells #[.int .i64 t, .int .i64 e, .int .i64 k, .int .i64 p] 2)) w.heap.size ns from ⟨by simp, fun j hj => by
      rw [World.cell?_alloc_mark]
      subst hns
      have hj2 := hj
      simp only [List.length_cons, List.length_nil] at hj2
      match j, hj2 with
      | 0, _ => rfl
      | 1, _ => rfl
      | 2, _ => rfl
      | 3, _ => rfl⟩)
    have HI := Lib.hid (show inB 4 1 6 = true by decide)
    have HW := Lib.hid (show (⟨#[111, 117, 116]⟩ : ByteArray).size ≤ 5 by decide)
    clear hns
    go_enter Tryd.func27, Tryd.ntmps27
    go_wp2_with (go_at_call 41; refine (l1in_any _ _ _ _).mono ?_; rw [HI.out]; rintro x w1 ⟨rfl, rfl⟩)
    have HB0 := Lib.hid (below_alloc (below_alloc (below_alloc (Below.refl w.heap.size w) (.cells #[.int .i64 t, .int .i64 e, .int .i64 k, .int .i64 p] 2)) (.cells #[.int .i64 1, .int .i64 1, .int .i64 1, .int .i64 4, .int .i64 3] 3)) (.cells #[.string ⟨#[105, 110]⟩, .string ⟨#[99, 108, 97, 105, 109]⟩, .string ⟨#[109, 97, 114, 107]⟩, .string ⟨#[111, 117, 116]⟩, .string ⟨#[114, 101, 115]⟩] 9))
    go_loopw [12, 13] (fun s i wr => ∃ j : Nat, j ≤ 4 ∧ i = .int .i64 j ∧ s = .string (nmTo ⟨#[111, 117, 116]⟩ ns j) ∧ Hid (Below w.heap.size w wr ∧ Nums0 wr w.heap.size ns ∧ ∀ l, (hl : l < ns.length) → l < j → inB ns[l] 0 1000000 = true)) (fun _ i _ => 4 - (intOf i).toNat)
    case atStart => exact ⟨0, Nat.zero_le _, rfl, rfl, HB0.out, HS.out.keep (below_alloc (below_alloc (Below.refl _ _) _) _), fun j hj hk => by omega⟩
    case round =>
      obtain ⟨j, hj, rfl, rfl, HA⟩ := hrel
      clear HB0 HS
      have hsz := nmTo_size2 HW.out j (by rw [HN.out]; exact hj) HA.out.2.2
      by_cases hlt : j < 4
      · have hkl : j < ns.length := by rw [HN.out]; exact hlt
        have c0 := HA.out.2.1.cell j hkl
        obtain ⟨v, hv⟩ : ∃ v, ns[j] = v := ⟨_, rfl⟩
        rw [hv] at c0
        have HV := Lib.hid hv
        have HKL := Lib.hid hkl
        clear hv
        have hi0 : (0 : Int) ≤ (j : Int) := by omega
        have hi1 : (j : Int) < (4 : Int) := by omega
        have HNX := Lib.hid (nmTo_next (word := ⟨#[111, 117, 116]⟩) HKL.out HV.out)
        obtain ⟨cur, hcur⟩ : ∃ cur, nmTo ⟨#[111, 117, 116]⟩ ns j = cur := ⟨_, rfl⟩
        rw [hcur] at hsz HNX ⊢
        clear hcur
        cases hq : inB v 0 1000000 with
        | true =>
          have HQ := Lib.hid hq
          have hv0 : 0 ≤ v ∧ v ≤ 1000000 := inB_iff.1 hq
          have hz := @decB_size v (by omega) (by omega)
          clear hq
          go_wp2_with fail
          refine (l1in_any _ _ _ _).mono ?_
          rw [HQ.out]
          rintro x w1 ⟨rfl, rfl⟩
          go_wp2_with fail
          refine (l1dec_any v (by omega) (by omega) _).mono ?_
          rintro x w2 ⟨rfl, hB⟩
          have HB := Lib.hid (below_via HA.out.1 hB)
          have HNU := Lib.hid (HA.out.2.1.keep hB)
          clear hB c0
          go_wp2
          go_roundw
          case rel =>
            refine ⟨j + 1, by omega, by go_num, congrArg Value.string HNX.out, HB.out, HNU.out, fun l hl hlj => ?_⟩
            rcases Nat.lt_or_ge l j with h1 | h1
            · exact HA.out.2.2 l hl h1
            · obtain rfl : l = j := by omega
              rw [HV.out]; exact HQ.out
          case measure => simp [intOf]; omega
        | false =>
          have HRN := Lib.hid (name_no (word := ⟨#[111, 117, 116]⟩) (allIn_no HKL.out (by rw [HV.out]; exact hq)))
          have HQ := Lib.hid hq
          clear hq
          go_wp2_with (go_at_call 41; refine (l1in_any _ _ _ _).mono ?_; rw [HQ.out]; rintro x w1 ⟨rfl, rfl⟩)
          go_ret
          exact ⟨congrArg (fun s => Ending.returned (.string s)) (by rw [HR.out, HRN.out]; rfl), HA.out.1⟩
      · obtain rfl : j = 4 := by omega
        have HE := Lib.hid (show nmTo ⟨#[111, 117, 116]⟩ ns 4 = nameB 4 t e k p by
          rw [HR.out]
          have h2 := nmTo_yes (word := ⟨#[111, 117, 116]⟩) (ns := ns) (fun l hl h3 => HA.out.2.2 l hl (by rw [← HN.out]; exact h3))
          rw [HN.out] at h2
          exact h2)
        go_wp2
        go_ret
        exact ⟨congrArg (fun s => Ending.returned (.string s)) HE.out, HA.out.1⟩
  by_cases h5 : kind = 5
  · subst h5
    obtain ⟨ns, hns⟩ : ∃ ns : List Int, [t, e, k] = ns := ⟨_, rfl⟩
    have HR := Lib.hid (show nameB 5 t e k p = nameTx ⟨#[114, 101, 115]⟩ ns by rw [← hns]; rfl)
    have HN := Lib.hid (show ns.length = 3 by rw [← hns]; rfl)
    have HS := Lib.hid (show Nums0 (w.alloc (.cells #[.int .i64 t, .int .i64 e, .int .i64 k, .int .i64 p] 2)) w.heap.size ns from ⟨by simp, fun j hj => by
      rw [World.cell?_alloc_mark]
      subst hns
      have hj2 := hj
      simp only [List.length_cons, List.length_nil] at hj2
      match j, hj2 with
      | 0, _ => rfl
      | 1, _ => rfl
      | 2, _ => rfl⟩)
    have HI := Lib.hid (show inB 5 1 6 = true by decide)
    have HW := Lib.hid (show (⟨#[114, 101, 115]⟩ : ByteArray).size ≤ 5 by decide)
    clear hns
    go_enter Tryd.func27, Tryd.ntmps27
    go_wp2_with (go_at_call 41; refine (l1in_any _ _ _ _).mono ?_; rw [HI.out]; rintro x w1 ⟨rfl, rfl⟩)
    have HB0 := Lib.hid (below_alloc (below_alloc (below_alloc (Below.refl w.heap.size w) (.cells #[.int .i64 t, .int .i64 e, .int .i64 k, .int .i64 p] 2)) (.cells #[.int .i64 1, .int .i64 1, .int .i64 1, .int .i64 4, .int .i64 3] 3)) (.cells #[.string ⟨#[105, 110]⟩, .string ⟨#[99, 108, 97, 105, 109]⟩, .string ⟨#[109, 97, 114, 107]⟩, .string ⟨#[111, 117, 116]⟩, .string ⟨#[114, 101, 115]⟩] 9))
    go_loopw [12, 13] (fun s i wr => ∃ j : Nat, j ≤ 3 ∧ i = .int .i64 j ∧ s = .string (nmTo ⟨#[114, 101, 115]⟩ ns j) ∧ Hid (Below w.heap.size w wr ∧ Nums0 wr w.heap.size ns ∧ ∀ l, (hl : l < ns.length) → l < j → inB ns[l] 0 1000000 = true)) (fun _ i _ => 3 - (intOf i).toNat)
    case atStart => exact ⟨0, Nat.zero_le _, rfl, rfl, HB0.out, HS.out.keep (below_alloc (below_alloc (Below.refl _ _) _) _), fun j hj hk => by omega⟩
    case round =>
      obtain ⟨j, hj, rfl, rfl, HA⟩ := hrel
      clear HB0 HS
      have hsz := nmTo_size2 HW.out j (by rw [HN.out]; exact hj) HA.out.2.2
      by_cases hlt : j < 3
      · have hkl : j < ns.length := by rw [HN.out]; exact hlt
        have c0 := HA.out.2.1.cell j hkl
        obtain ⟨v, hv⟩ : ∃ v, ns[j] = v := ⟨_, rfl⟩
        rw [hv] at c0
        have HV := Lib.hid hv
        have HKL := Lib.hid hkl
        clear hv
        have hi0 : (0 : Int) ≤ (j : Int) := by omega
        have hi1 : (j : Int) < (3 : Int) := by omega
        have HNX := Lib.hid (nmTo_next (word := ⟨#[114, 101, 115]⟩) HKL.out HV.out)
        obtain ⟨cur, hcur⟩ : ∃ cur, nmTo ⟨#[114, 101, 115]⟩ ns j = cur := ⟨_, rfl⟩
        rw [hcur] at hsz HNX ⊢
        clear hcur
        cases hq : inB v 0 1000000 with
        | true =>
          have HQ := Lib.hid hq
          have hv0 : 0 ≤ v ∧ v ≤ 1000000 := inB_iff.1 hq
          have hz := @decB_size v (by omega) (by omega)
          clear hq
          go_wp2_with fail
          refine (l1in_any _ _ _ _).mono ?_
          rw [HQ.out]
          rintro x w1 ⟨rfl, rfl⟩
          go_wp2_with fail
          refine (l1dec_any v (by omega) (by omega) _).mono ?_
          rintro x w2 ⟨rfl, hB⟩
          have HB := Lib.hid (below_via HA.out.1 hB)
          have HNU := Lib.hid (HA.out.2.1.keep hB)
          clear hB c0
          go_wp2
          go_roundw
          case rel =>
            refine ⟨j + 1, by omega, by go_num, congrArg Value.string HNX.out, HB.out, HNU.out, fun l hl hlj => ?_⟩
            rcases Nat.lt_or_ge l j with h1 | h1
            · exact HA.out.2.2 l hl h1
            · obtain rfl : l = j := by omega
              rw [HV.out]; exact HQ.out
          case measure => simp [intOf]; omega
        | false =>
          have HRN := Lib.hid (name_no (word := ⟨#[114, 101, 115]⟩) (allIn_no HKL.out (by rw [HV.out]; exact hq)))
          have HQ := Lib.hid hq
          clear hq
          go_wp2_with (go_at_call 41; refine (l1in_any _ _ _ _).mono ?_; rw [HQ.out]; rintro x w1 ⟨rfl, rfl⟩)
          go_ret
          exact ⟨congrArg (fun s => Ending.returned (.string s)) (by rw [HR.out, HRN.out]; rfl), HA.out.1⟩
      · obtain rfl : j = 3 := by omega
        have HE := Lib.hid (show nmTo ⟨#[114, 101, 115]⟩ ns 3 = nameB 5 t e k p by
          rw [HR.out]
          have h2 := nmTo_yes (word := ⟨#[114, 101, 115]⟩) (ns := ns) (fun l hl h3 => HA.out.2.2 l hl (by rw [← HN.out]; exact h3))
          rw [HN.out] at h2
          exact h2)
        go_wp2
        go_ret
        exact ⟨congrArg (fun s => Ending.returned (.string s)) HE.out, HA.out.1⟩
  by_cases h6 : kind = 6
  · subst h6
    have HR := Lib.hid (show nameB 6 t e k p = ⟨#[106, 111, 98]⟩ from rfl)
    have HI := Lib.hid (show inB 6 1 6 = true by decide)
    go_enter Tryd.func27, Tryd.ntmps27
    go_wp2_with (go_at_call 41; refine (l1in_any _ _ _ _).mono ?_; rw [HI.out]; rintro x w1 ⟨rfl, rfl⟩)
    go_ret
    exact ⟨congrArg (fun s => Ending.returned (.string s)) HR.out.symm, Below.refl _ _⟩
  have HR := Lib.hid (show nameB kind t e k p = ByteArray.empty by unfold nameB; rw [if_neg h1, if_neg h2, if_neg h3, if_neg h4, if_neg h5, if_neg h6])
  have HI := Lib.hid (show inB kind 1 6 = false by
    cases hq : inB kind 1 6 with
    | false => rfl
    | true => rw [inB_iff] at hq; omega)
  clear h1 h2 h3 h4 h5 h6
  go_enter Tryd.func27, Tryd.ntmps27
  go_wp2_with (go_at_call 41; refine (l1in_any _ _ _ _).mono ?_; rw [HI.out]; rintro x w1 ⟨rfl, rfl⟩)
  go_ret
  exact ⟨congrArg (fun s => Ending.returned (.string s)) HR.out.symm, Below.refl _ _⟩
end Go.Proofs.YtecgknbhfkjjlaaDoor
