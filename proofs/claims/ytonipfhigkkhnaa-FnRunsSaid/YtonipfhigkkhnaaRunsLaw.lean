
/- The law on runs, walked: a run comes back from its bytes, and what is read is these bytes. Only new blocks are made. -/
import Derived.Test.YtonipfhigkkhnaaRoundM2
import Derived.Test.YtonipfhigkkhnaaDrawRR
import Derived.Test.YtonipfhigkkhnaaSameR
import Derived.Test.YtonipfhigkkhnaaReadRun2
namespace Go.Proofs.Ytonipfhigkkhnaa
open Go.ChangeShapes Go.WideShapes Go.ChangeAt Go.RowKit
set_option linter.unusedVariables false
set_option maxRecDepth 100000

theorem readW_few (t : ByteArray) : (readW t).length ≤ 600 ∧ ∀ i, i < (readW t).length → (keyAt (readW t) i).size ≤ 40 := by
  cases h : readB t with
  | none => rw [(read_none h).1]; exact ⟨Nat.zero_le _, fun i hi => by simp at hi⟩
  | some x => rw [(read_some h).1]; exact runOk_keys (read_bytes h).2
theorem recs_few {base n : Nat} {w : World} {q : Option Addr} {X : Recs} (h : Rs base w q X) (hn : X.length = n) (h6 : X.length ≤ 601) (hk : ∀ i, i < X.length → (keyAt X i).size ≤ 41) : RecsAt w q n X := by
  subst hn
  exact recs_of_rs h rfl (by unfold maxLen; omega) (fun i hi => by have := hk i hi; unfold maxLen; omega)
theorem read_is {t : ByteArray} (h : readK t = true) : runBytesB (readW t) = t := by
  cases hr : readB t with
  | none => rw [(read_none hr).2] at h; cases h
  | some x => rw [(read_some hr).1]; exact (read_bytes hr).1

set_option maxHeartbeats 4000000 in
theorem fnRuns_walk (w : World) (a : Option Addr) (len cap : Nat) (h : Src w a len) :
    Calls Try.prog 5 #[.slice a len cap] w fun e w' => e = .returned (.bool true) ∧ Below w.heap.size w w' := by
  have S := Lib.hid h
  clear h
  by_cases hb : 1048576 < len
  · go_enter Try.func5, Try.ntmps5
    go_wp2_with (go_at_call 15; refine (big_yes _ _ _ _ hb).mono ?_; rintro e w' ⟨rfl, rfl⟩)
    go_ret
    exact ⟨rfl, Below.refl _ _⟩
  · go_enter Try.func5, Try.ntmps5
    go_wp2_with (go_at_call 15; refine (big_no _ _ _ _ hb).mono ?_; rintro e w' ⟨rfl, rfl⟩)
    refine (drawrbytes_any _ _ _ _ S.out).mono ?_
    rintro e w1 ⟨q, cp, l, rfl, h6, hsh, hre, hB, hwf⟩
    obtain ⟨n, hn⟩ : ∃ n, l.length = n := ⟨_, rfl⟩
    rw [hn] at h6 hre ⊢
    have HL := Lib.hid hre
    have HB := Lib.hid hB
    have HN := Lib.hid hn
    obtain ⟨T, hT⟩ : ∃ T, runBytesB l = T := ⟨_, rfl⟩
    have HT := Lib.hid hT
    have hts : T.size ≤ 1048576 := by have := runBytesB_size l; rw [hT] at this; omega
    obtain ⟨ok, hok⟩ : ∃ ok, runOkB l = ok := ⟨_, rfl⟩
    have HOK := Lib.hid hok
    have HSH := Lib.hid (show ∀ i, i < l.length → (keyAt l i).size ≤ 41 from fun i hi => by
      have := hsh l[i] (List.getElem_mem hi)
      rw [at_get l i hi] at this
      exact this)
    have HBACK := Lib.hid (show ok = true → readW T = l ∧ readK T = true from fun ho => by
      rw [← hT]; exact read_some (read_back (hok.trans ho) hwf.1))
    clear hn hT hok hre hB hsh hwf
    go_wp2_with fail
    refine (runbytes_any _ _ _ _ _ HL.out).mono ?_
    rw [HT.out]
    rintro e w2 ⟨rfl, hB⟩
    have HL := Lib.hid (HL.out.keep hB)
    have HB := Lib.hid (below_via HB.out hB)
    clear hB
    go_wp2_with fail
    refine (drawreadrun_any _ _ _ _ (S.out.below HB.out)).mono ?_
    rintro e w3 ⟨t, ht, rfl, hB⟩
    have HL := Lib.hid (HL.out.keep hB)
    have HB := Lib.hid (below_via HB.out hB)
    clear hB
    have htm : t.size ≤ 1048576 := by omega
    obtain ⟨X, hX⟩ : ∃ X, readW t = X := ⟨_, rfl⟩
    obtain ⟨is, his⟩ : ∃ is, readK t = is := ⟨_, rfl⟩
    have HFEW := Lib.hid (show X.length ≤ 601 ∧ ∀ i, i < X.length → (keyAt X i).size ≤ 41 from by
      obtain ⟨h1, h2⟩ := readW_few t
      rw [hX] at h1 h2
      exact ⟨by omega, fun i hi => by have := h2 i hi; omega⟩)
    have HIS := Lib.hid (show is = true → runBytesB X = t from fun hi => by rw [← hX]; exact read_is (his.trans hi))
    have HX := Lib.hid hX
    have HK := Lib.hid his
    obtain ⟨m, hm⟩ : ∃ m, X.length = m := ⟨_, rfl⟩
    have HM := Lib.hid hm
    clear hX his hm ht
    go_wp2_with fail
    refine (readrun_any t _ htm).mono ?_
    rw [HX.out, HK.out]
    rintro e w5 ⟨q1, cp1, rfl, h1, hB⟩
    have H1 := Lib.hid (recs_few h1 HM.out HFEW.out.1 HFEW.out.2)
    have HL := Lib.hid (HL.out.keep hB)
    have HB := Lib.hid (below_via HB.out hB)
    clear h1 hB
    rw [HM.out]
    go_wp2_with fail
    refine (sreadrun_any t _ htm).mono ?_
    rw [HX.out, HK.out]
    rintro e w6 ⟨q2, cp2, rfl, h2, hB⟩
    have H2 := Lib.hid (recs_few h2 HM.out HFEW.out.1 HFEW.out.2)
    have H1 := Lib.hid (H1.out.keep hB)
    have HL := Lib.hid (HL.out.keep hB)
    have HB := Lib.hid (below_via HB.out hB)
    clear h2 hB
    rw [HM.out]
    go_wp2_with fail
    refine (srunbytes_any _ _ _ _ _ HL.out).mono ?_
    rw [HT.out]
    rintro e w7 ⟨rfl, hB⟩
    have H2 := Lib.hid (H2.out.keep hB)
    have H1 := Lib.hid (H1.out.keep hB)
    have HL := Lib.hid (HL.out.keep hB)
    have HB := Lib.hid (below_via HB.out hB)
    clear hB
    cases is with
    | false =>
      go_wp2_with fail
      refine (samerun_same _ _ _ _ _ _ _ H1.out H2.out).mono ?_
      rintro e w8 ⟨rfl, hB⟩
      have HL := Lib.hid (HL.out.keep hB)
      have HB := Lib.hid (below_via HB.out hB)
      clear hB
      go_wp2_with fail
      refine (runok_any _ _ _ _ _ HL.out).mono ?_
      rw [HOK.out]
      rintro e w9 ⟨rfl, hB⟩
      have HL := Lib.hid (HL.out.keep hB)
      have HB := Lib.hid (below_via HB.out hB)
      clear hB
      go_wp2_with fail
      refine (srunok_any _ _ _ _ _ HL.out).mono ?_
      rw [HOK.out]
      rintro e w10 ⟨rfl, hB⟩
      have HL := Lib.hid (HL.out.keep hB)
      have HB := Lib.hid (below_via HB.out hB)
      clear hB
      cases ok with
      | false =>
        go_wp2_with fail
        refine (readrun_any T _ hts).mono ?_
        rintro e w11 ⟨q3, cp3, rfl, h3, hB⟩
        have HL := Lib.hid (HL.out.keep hB)
        have HB := Lib.hid (below_via HB.out hB)
        clear h3 hB
        generalize readK T = bz
        generalize (readW T).length = nz
        go_wp2_with fail
        refine (srunok_any _ _ _ _ _ HL.out).mono ?_
        rw [HOK.out]
        rintro e w12 ⟨rfl, hB⟩
        have HB := Lib.hid (below_via HB.out hB)
        clear hB
        go_wp2
        go_ret
        exact ⟨rfl, HB.out⟩
      | true =>
        go_wp2_with fail
        refine (readrun_any T _ hts).mono ?_
        rw [(HBACK.out trivial).1, (HBACK.out trivial).2]
        rintro e w11 ⟨q3, cp3, rfl, h3, hB⟩
        have H3 := Lib.hid (recs_few h3 HN.out (by rw [HN.out]; exact h6) HSH.out)
        have HL := Lib.hid (HL.out.keep hB)
        have HB := Lib.hid (below_via HB.out hB)
        clear h3 hB
        rw [HN.out]
        go_wp2_with fail
        refine (srunok_any _ _ _ _ _ HL.out).mono ?_
        rw [HOK.out]
        rintro e w12 ⟨rfl, hB⟩
        have H3 := Lib.hid (H3.out.keep hB)
        have HL := Lib.hid (HL.out.keep hB)
        have HB := Lib.hid (below_via HB.out hB)
        clear hB
        go_wp2_with fail
        refine (samerun_same _ _ _ _ _ l _ H3.out HL.out).mono ?_
        rintro e w13 ⟨rfl, hB⟩
        have HB := Lib.hid (below_via HB.out hB)
        clear hB
        go_wp2
        go_ret
        exact ⟨rfl, HB.out⟩
    | true =>
      go_wp2_with fail
      refine (samerun_same _ _ _ _ _ _ _ H1.out H2.out).mono ?_
      rintro e w8 ⟨rfl, hB⟩
      have H1 := Lib.hid (H1.out.keep hB)
      have HL := Lib.hid (HL.out.keep hB)
      have HB := Lib.hid (below_via HB.out hB)
      clear hB
      go_wp2_with fail
      refine (runbytes_any _ _ _ _ _ H1.out).mono ?_
      rw [HIS.out trivial]
      rintro e w9 ⟨rfl, hB⟩
      have HL := Lib.hid (HL.out.keep hB)
      have HB := Lib.hid (below_via HB.out hB)
      clear hB
      go_wp2_with fail
      refine (runok_any _ _ _ _ _ HL.out).mono ?_
      rw [HOK.out]
      rintro e w9 ⟨rfl, hB⟩
      have HL := Lib.hid (HL.out.keep hB)
      have HB := Lib.hid (below_via HB.out hB)
      clear hB
      go_wp2_with fail
      refine (srunok_any _ _ _ _ _ HL.out).mono ?_
      rw [HOK.out]
      rintro e w10 ⟨rfl, hB⟩
      have HL := Lib.hid (HL.out.keep hB)
      have HB := Lib.hid (below_via HB.out hB)
      clear hB
      cases ok with
      | false =>
        go_wp2_with fail
        refine (readrun_any T _ hts).mono ?_
        rintro e w11 ⟨q3, cp3, rfl, h3, hB⟩
        have HL := Lib.hid (HL.out.keep hB)
        have HB := Lib.hid (below_via HB.out hB)
        clear h3 hB
        generalize readK T = bz
        generalize (readW T).length = nz
        go_wp2_with fail
        refine (srunok_any _ _ _ _ _ HL.out).mono ?_
        rw [HOK.out]
        rintro e w12 ⟨rfl, hB⟩
        have HB := Lib.hid (below_via HB.out hB)
        clear hB
        go_wp2
        go_ret
        exact ⟨rfl, HB.out⟩
      | true =>
        go_wp2_with fail
        refine (readrun_any T _ hts).mono ?_
        rw [(HBACK.out trivial).1, (HBACK.out trivial).2]
        rintro e w11 ⟨q3, cp3, rfl, h3, hB⟩
        have H3 := Lib.hid (recs_few h3 HN.out (by rw [HN.out]; exact h6) HSH.out)
        have HL := Lib.hid (HL.out.keep hB)
        have HB := Lib.hid (below_via HB.out hB)
        clear h3 hB
        rw [HN.out]
        go_wp2_with fail
        refine (srunok_any _ _ _ _ _ HL.out).mono ?_
        rw [HOK.out]
        rintro e w12 ⟨rfl, hB⟩
        have H3 := Lib.hid (H3.out.keep hB)
        have HL := Lib.hid (HL.out.keep hB)
        have HB := Lib.hid (below_via HB.out hB)
        clear hB
        go_wp2_with fail
        refine (samerun_same _ _ _ _ _ l _ H3.out HL.out).mono ?_
        rintro e w13 ⟨rfl, hB⟩
        have HB := Lib.hid (below_via HB.out hB)
        clear hB
        go_wp2
        go_ret
        exact ⟨rfl, HB.out⟩
end Go.Proofs.Ytonipfhigkkhnaa
