
/- The law on a run in two parts, walked: the bytes of the two parts are the run's, and both are runs. Only new blocks are made. -/
import Derived.Test.YtonipfhigkkhnaaRoundM2
import Derived.Test.YtonipfhigkkhnaaDrawRR
import Derived.Test.YtonipfhigkkhnaaPlace
namespace Go.Proofs.Ytonipfhigkkhnaa
open Go.ChangeShapes Go.WideShapes Go.ChangeAt Go.RowKit
set_option linter.unusedVariables false
set_option maxRecDepth 100000

theorem recs_take {w : World} {q : Option Addr} {n : Nat} {l : Recs} (h : RecsAt w q n l) (k : Nat) (hk : k ≤ n) : RecsAt w q k (l.take k) := by
  have hl := h.length
  have hat : ∀ i, i < k → keyAt (l.take k) i = keyAt l i ∧ numAt (l.take k) i = numAt l i := by
    intro i hi
    unfold keyAt numAt
    rw [List.getD_eq_getElem?_getD, List.getD_eq_getElem?_getD, List.getElem?_take_of_lt hi]
    exact ⟨rfl, rfl⟩
  refine ⟨by rw [List.length_take]; omega, Nat.le_trans hk h.max, fun i hi => ?_, ?_⟩
  · rw [(hat i hi).1]; exact h.keys i (by omega)
  · rcases h.src with h0 | ⟨b, off, hq, hb, hc⟩
    · exact .inl (by omega)
    · refine .inr ⟨b, off, hq, hb, fun i hi => ?_⟩
      rw [(hat i hi).1, (hat i hi).2]
      exact hc i (by omega)
theorem recs_drop {w : World} {b off : Nat} {n : Nat} {l : Recs} (h : RecsAt w (some ⟨b, off, none⟩) n l) (k : Nat) (hk : k ≤ n) : RecsAt w (some ⟨b, off + k * 2, none⟩) (n - k) (l.drop k) := by
  have hl := h.length
  have hm := h.max
  have hat : ∀ i, keyAt (l.drop k) i = keyAt l (k + i) ∧ numAt (l.drop k) i = numAt l (k + i) := by
    intro i
    unfold keyAt numAt
    rw [List.getD_eq_getElem?_getD, List.getD_eq_getElem?_getD, List.getElem?_drop]
    exact ⟨rfl, rfl⟩
  refine ⟨by rw [List.length_drop]; omega, by omega, fun i hi => ?_, ?_⟩
  · rw [(hat i).1]; exact h.keys (k + i) (by omega)
  · rcases h.src with h0 | ⟨b', off', hq, hb, hc⟩
    · exact .inl (by omega)
    · simp only [Option.some.injEq, Addr.mk.injEq, and_true] at hq
      obtain ⟨rfl, rfl⟩ := hq
      refine .inr ⟨b, off + k * 2, rfl, hb, fun i hi => ?_⟩
      rw [(hat i).1, (hat i).2]
      have := hc (k + i) (by omega)
      rw [Nat.add_mul, ← Nat.add_assoc] at this
      exact this
theorem recs_none (w : World) (q : Option Addr) {l : Recs} (h : l.length = 0) : RecsAt w q 0 l := ⟨h, Nat.zero_le _, fun i hi => by omega, .inl rfl⟩

set_option maxHeartbeats 4000000 in
theorem fnRunFirst_walk (w : World) (a : Option Addr) (len cap : Nat) (h : Src w a len) :
    Calls Try.prog 7 #[.slice a len cap] w fun e w' => e = .returned (.bool true) ∧ Below w.heap.size w w' := by
  have S := Lib.hid h
  clear h
  by_cases hb : 1048576 < len
  · go_enter Try.func7, Try.ntmps7
    go_wp2_with (go_at_call 15; refine (big_yes _ _ _ _ hb).mono ?_; rintro e w' ⟨rfl, rfl⟩)
    go_ret
    exact ⟨rfl, Below.refl _ _⟩
  · go_enter Try.func7, Try.ntmps7
    go_wp2_with (go_at_call 15; refine (big_no _ _ _ _ hb).mono ?_; rintro e w' ⟨rfl, rfl⟩)
    refine (drawkeys_any _ _ _ _ S.out).mono ?_
    rintro e w1 ⟨q, cp, l, rfl, h6, hsh, hre, hB, hwf, hcp1, hcp2⟩
    obtain ⟨n, hn⟩ : ∃ n, l.length = n := ⟨_, rfl⟩
    rw [hn] at h6 hre hcp1 ⊢
    have HL := Lib.hid hre
    have HB := Lib.hid hB
    have HN := Lib.hid hn
    obtain ⟨T, hT⟩ : ∃ T, runBytesB l = T := ⟨_, rfl⟩
    have HT := Lib.hid hT
    obtain ⟨ok, hok⟩ : ∃ ok, runOkB l = ok := ⟨_, rfl⟩
    have HOK := Lib.hid hok
    have HCP := Lib.hid (And.intro hcp1 hcp2)
    have hcp2' : cp ≤ 9223372036854775807 := hcp2
    clear hn hT hok hre hB hsh hwf hcp2
    go_wp2_with fail
    refine (runbytes_any _ _ _ _ _ HL.out).mono ?_
    rw [HT.out]
    rintro e w2 ⟨rfl, hB⟩
    have HL := Lib.hid (HL.out.keep hB)
    have HB := Lib.hid (below_via HB.out hB)
    clear hB
    go_wp2_with fail
    refine (srunbytes_any _ _ _ _ _ HL.out).mono ?_
    rw [HT.out]
    rintro e w3 ⟨rfl, hB⟩
    have HL := Lib.hid (HL.out.keep hB)
    have HB := Lib.hid (below_via HB.out hB)
    clear hB
    go_wp2_with fail
    refine (srunok_any _ _ _ _ _ HL.out).mono ?_
    rw [HOK.out]
    rintro e w4 ⟨rfl, hB⟩
    have HL := Lib.hid (HL.out.keep hB)
    have HB := Lib.hid (below_via HB.out hB)
    clear hB
    cases ok with
    | false =>
      go_wp2_with fail
      refine (srunbytes_any _ _ _ _ _ HL.out).mono ?_
      rw [HT.out]
      rintro e w5 ⟨rfl, hB⟩
      have HL := Lib.hid (HL.out.keep hB)
      have HB := Lib.hid (below_via HB.out hB)
      clear hB
      go_wp2_with fail
      refine (runok_any _ _ _ _ _ HL.out).mono ?_
      rw [HOK.out]
      rintro e w6 ⟨rfl, hB⟩
      have HL := Lib.hid (HL.out.keep hB)
      have HB := Lib.hid (below_via HB.out hB)
      clear hB
      go_wp2_with fail
      refine (srunok_any _ _ _ _ _ HL.out).mono ?_
      rw [HOK.out]
      rintro e w7 ⟨rfl, hB⟩
      have HB := Lib.hid (below_via HB.out hB)
      clear hB
      go_wp2
      go_ret
      exact ⟨rfl, HB.out⟩
    | true =>
      go_wp2_with fail
      refine (place_any (n + 1) _ _ _ _ (S.out.below HB.out) (by omega) (by omega)).mono ?_
      rintro e w5 ⟨x, hx1, hx2, rfl, rfl⟩
      obtain ⟨k, rfl⟩ : ∃ k : Nat, x = k := ⟨x.toNat, by omega⟩
      have hkn : k ≤ n := by omega
      clear hx1 hx2
      obtain ⟨p1, p2, p3⟩ := run_parts k HOK.out
      obtain ⟨A, hA⟩ : ∃ A, runBytesB (l.take k) = A := ⟨_, rfl⟩
      obtain ⟨C, hC⟩ : ∃ C, runBytesB (l.drop k) = C := ⟨_, rfl⟩
      rw [hA, hC, HT.out] at p3
      have hAs : A.size ≤ 29400 := by rw [← hA]; exact runBytesB_size _
      have hCs : C.size ≤ 29400 := by rw [← hC]; exact runBytesB_size _
      have HA := Lib.hid hA
      have HC := Lib.hid hC
      have HP1 := Lib.hid p1
      have HP2 := Lib.hid p2
      have HTK := Lib.hid (recs_take HL.out k hkn)
      clear p1 p2 hA hC
      subst p3
      have hkc : k ≤ cp := by omega
      have hk0 : (0 : Int) ≤ (k : Int) := by omega
      have hk1 : (k : Int) ≤ (cp : Int) := by omega
      have hk2 : (k : Int) ≤ (n : Int) := by omega
      rcases HL.out.src with hz | ⟨bb, off, rfl, hb, hc⟩
      · obtain rfl : k = 0 := by omega
        subst hz
        have HDR := Lib.hid (fun (w : World) (q : Option Addr) => recs_none w q (l := l.drop 0) (by rw [List.drop_zero]; exact HN.out))
        have HTK := Lib.hid (fun (w : World) (q : Option Addr) => recs_none w q (l := l.take 0) (by rw [List.take_zero]; rfl))
        go_wp2_with fail
        refine (runbytes_any _ _ _ _ _ (HTK.out _ _)).mono ?_
        rw [HA.out]
        rintro e w6 ⟨rfl, hB⟩
        have HB := Lib.hid (below_via HB.out hB)
        clear hB
        go_wp2_with fail
        all_goals (
          refine (runbytes_any _ _ _ _ _ (HDR.out _ _)).mono ?_
          rw [HC.out]
          rintro e w7 ⟨rfl, hB⟩
          have HB := Lib.hid (below_via HB.out hB)
          clear hB
          go_wp2_with fail
          refine (runok_any _ _ _ _ _ (HTK.out _ _)).mono ?_
          rw [HP1.out]
          rintro e w8 ⟨rfl, hB⟩
          have HB := Lib.hid (below_via HB.out hB)
          clear hB
          go_wp2_with fail
          all_goals (
            refine (runok_any _ _ _ _ _ (HDR.out _ _)).mono ?_
            rw [HP2.out]
            rintro e w9 ⟨rfl, hB⟩
            have HB := Lib.hid (below_via HB.out hB)
            clear hB
            go_wp2
            go_ret
            exact ⟨rfl, HB.out⟩))
      · clear hb hc
        have HDR := Lib.hid (recs_drop HL.out k hkn)
        have HDZ := Lib.hid (fun (w : World) (q : Option Addr) (h : n ≤ k) => show RecsAt w q (n - k) (l.drop k) by
          have h0 : n - k = 0 := by omega
          rw [h0]; exact recs_none w q (by rw [List.length_drop, HN.out, h0]))
        go_wp2_with fail
        refine (runbytes_any _ _ _ _ _ HTK.out).mono ?_
        rw [HA.out]
        rintro e w6 ⟨rfl, hB⟩
        have HTK := Lib.hid (HTK.out.keep hB)
        have HDR := Lib.hid (HDR.out.keep hB)
        have HB := Lib.hid (below_via HB.out hB)
        clear hB
        go_wp2_with fail
        · have HDR := Lib.hid (HDZ.out w6 (some ⟨bb, off, none⟩) (by omega))
          refine (runbytes_any _ _ _ _ _ HDR.out).mono ?_
          rw [HC.out]
          rintro e w7 ⟨rfl, hB⟩
          have HTK := Lib.hid (HTK.out.keep hB)
          have HDR := Lib.hid (HDR.out.keep hB)
          have HB := Lib.hid (below_via HB.out hB)
          clear hB HDZ
          go_wp2_with fail
          refine (runok_any _ _ _ _ _ HTK.out).mono ?_
          rw [HP1.out]
          rintro e w8 ⟨rfl, hB⟩
          have HDR := Lib.hid (HDR.out.keep hB)
          have HB := Lib.hid (below_via HB.out hB)
          clear hB
          go_wp2_with fail
          refine (runok_any _ _ _ _ _ HDR.out).mono ?_
          rw [HP2.out]
          rintro e w9 ⟨rfl, hB⟩
          have HB := Lib.hid (below_via HB.out hB)
          clear hB
          go_wp2
          go_ret
          exact ⟨rfl, HB.out⟩
        · refine (runbytes_any _ _ _ _ _ HDR.out).mono ?_
          rw [HC.out]
          rintro e w7 ⟨rfl, hB⟩
          have HTK := Lib.hid (HTK.out.keep hB)
          have HDR := Lib.hid (HDR.out.keep hB)
          have HB := Lib.hid (below_via HB.out hB)
          clear hB HDZ
          go_wp2_with fail
          refine (runok_any _ _ _ _ _ HTK.out).mono ?_
          rw [HP1.out]
          rintro e w8 ⟨rfl, hB⟩
          have HDR := Lib.hid (HDR.out.keep hB)
          have HB := Lib.hid (below_via HB.out hB)
          clear hB
          go_wp2_with fail
          refine (runok_any _ _ _ _ _ HDR.out).mono ?_
          rw [HP2.out]
          rintro e w9 ⟨rfl, hB⟩
          have HB := Lib.hid (below_via HB.out hB)
          clear hB
          go_wp2
          go_ret
          exact ⟨rfl, HB.out⟩
end Go.Proofs.Ytonipfhigkkhnaa
