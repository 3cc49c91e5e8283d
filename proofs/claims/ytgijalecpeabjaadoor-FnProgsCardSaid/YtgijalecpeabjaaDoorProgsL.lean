
/- The drawn law on programs, walked: a valid program comes back from its text; what is read, written again, is that text. -/
import Derived.Test.YtgijalecpeabjaaDoorDrawPg4
import Derived.Test.YtgijalecpeabjaaDoorProgsM
import Derived.Test.YtgijalecpeabjaaDoorSameP
import Derived.Test.YtgijalecpeabjaaDoorReadPP
import Derived.Test.YtgijalecpeabjaaDoorReadPS
namespace Go.Proofs.YtgijalecpeabjaaDoor
open Go.ChangeShapes Go.WideShapes Go.ChangeAt Go.RowKit
set_option linter.unusedVariables false
set_option maxRecDepth 100000

theorem rp_at {o : Option Instrs} {w w' : World} {e : Ending} (h : MadeRP o w e w') (hf : (o.getD []).length ≤ 30 ∧ ∀ i, i < (o.getD []).length → (ins2 (o.getD []) i).size ≤ 1048576) :
    Below w.heap.size w w' ∧ ∃ q n cp, e = .returned (.tuple #[.slice q n cp, .bool o.isSome]) ∧ InstrsAt w' q n (o.getD []) := by
  obtain ⟨hB, q, n, cp, rfl, hn, ho⟩ := h
  refine ⟨hB, q, n, cp, rfl, own_inss ho hn (by unfold maxLen; omega) (fun i hi => ?_)⟩
  have := hf.2 i (by rw [hn]; exact hi)
  unfold maxLen; omega
theorem readP_few2 (l : List UInt8) (hl : l.length ≤ 1048576) : ((readP l).getD []).length ≤ 30 ∧ ∀ i, i < ((readP l).getD []).length → (ins2 ((readP l).getD []) i).size ≤ 1048576 := by
  cases h : readP l with
  | none => exact ⟨Nat.zero_le _, fun i hi => by simp at hi⟩
  | some p =>
    obtain ⟨rfl, hp⟩ := readP_some h
    exact ⟨prog_few hp, fun i hi => Nat.le_trans (insOf_size hi) hl⟩

set_option maxHeartbeats 16000000 in
theorem fnProgs_walk (w : World) (a : Option Addr) (len cap : Nat) (h : Src w a len) (hT : TabsRP w) :
    Calls Tryd.prog 6 #[.slice a len cap] w fun e w' => e = .returned (.bool true) ∧ Below w.heap.size w w' := by
  by_cases hbig : 1048576 < len
  · go_enter Tryd.func6, Tryd.ntmps6
    go_wp2_with fail
    refine (big_yes _ _ _ _ hbig).mono ?_
    rintro e w' ⟨rfl, rfl⟩
    go_wp2_with fail
    go_ret
    exact ⟨rfl, Below.refl _ _⟩
  have HT := Lib.hid hT
  have H := Lib.hid h
  clear hT h
  go_enter Tryd.func6, Tryd.ntmps6
  go_wp2_with fail
  refine (big_no _ _ _ _ hbig).mono ?_
  rintro e w' ⟨rfl, rfl⟩
  go_wp2_with fail
  refine (drawprogtext_any _ _ _ _ H.out).mono ?_
  rintro e w1 ⟨q, n, cp, W, rfl, hn80, hi, h6, hb⟩
  have HI := Lib.hid hi
  have H6 := Lib.hid h6
  have HB := Lib.hid hb
  have HSZ := Lib.hid (progTx_size (l := W) (by rw [hi.length]; exact h6))
  have HTR := Lib.hid (fun hp => tx_readP (W := W) hp (by rw [hi.length]; exact h6))
  clear hi h6 hb
  obtain ⟨T, hT⟩ : ∃ T, progTx W = T := ⟨_, rfl⟩
  have HTX := Lib.hid hT
  rw [hT] at HSZ HTR
  clear hT
  obtain ⟨b, hb⟩ : ∃ b, progB W = b := ⟨_, rfl⟩
  have HPB := Lib.hid hb
  rw [hb] at HTR
  clear hb
  go_wp2_with fail
  refine (progtext_any q n cp W _ HI.out H6.out (HT.out.keep HB.out).pt).mono ?_
  rw [HTX.out]
  rintro e w2 ⟨rfl, hB⟩
  have HI := Lib.hid (HI.out.keep hB)
  have HB := Lib.hid (below_via HB.out hB)
  clear hB
  go_wp2_with fail
  refine (drawreadprog_any _ _ _ _ (H.out.below HB.out)).mono ?_
  rintro e w3 ⟨t, ht, rfl, hB⟩
  have HI := Lib.hid (HI.out.keep hB)
  have HB := Lib.hid (below_via HB.out hB)
  clear hB
  have hfew := readP_few2 t.data.toList (by simp; omega)
  have hmk : ∀ l, readP t.data.toList = some l → progTx l = t ∧ ∀ i, i < l.length → In64 (ins1 l i) := fun l h => ⟨readP_tx h, by obtain ⟨rfl, _⟩ := readP_some h; exact insOf_in _⟩
  obtain ⟨o, ho⟩ : ∃ o, readP t.data.toList = o := ⟨_, rfl⟩
  have HPM := Lib.hid (fun w => sreadprog_any t w (by omega))
  have HPP := Lib.hid (fun w hT => readprog_any t w (by omega) hT)
  rw [ho] at hfew hmk HPM HPP
  have HFEW := Lib.hid hfew
  have HMK := Lib.hid hmk
  clear ho hfew hmk
  go_wp2_with fail
  refine (HPP.out _ (HT.out.keep HB.out)).mono ?_
  intro e w4 h4
  obtain ⟨hB, q1, n1, cp1, rfl, hin1⟩ := rp_at h4 HFEW.out
  have H1 := Lib.hid hin1
  have HI := Lib.hid (HI.out.keep hB)
  have HB := Lib.hid (below_via HB.out hB)
  clear hB h4 hin1
  go_wp2_with fail
  refine (HPM.out _).mono ?_
  intro e w5 h5
  obtain ⟨hB, q2, n2, cp2, rfl, hin2⟩ := rp_at h5 HFEW.out
  have H1 := Lib.hid (H1.out.keep hB)
  have H2 := Lib.hid hin2
  have HI := Lib.hid (HI.out.keep hB)
  have HB := Lib.hid (below_via HB.out hB)
  obtain rfl : n2 = n1 := by rw [← H1.out.length, ← H2.out.length]
  clear hB h5 hin2
  have q0 : (T.toList == T.toList) = true := by simp
  have hTs : T.size ≤ 1048576 := by have := HSZ.out; omega
  cases o with
  | none =>
    go_wp2_with fail
    refine (sprogtext_any q n cp W _ HI.out H6.out).mono ?_
    rw [HTX.out]
    rintro e w6 ⟨rfl, hB⟩
    have H1 := Lib.hid (H1.out.keep hB)
    have H2 := Lib.hid (H2.out.keep hB)
    have HI := Lib.hid (HI.out.keep hB)
    have HB := Lib.hid (below_via HB.out hB)
    clear hB
    go_wp2_with fail
    refine (sameprog_same q1 q2 n2 cp1 cp2 _ _ H1.out H2.out).mono ?_
    rintro e w7 ⟨rfl, hB⟩
    have H1 := Lib.hid (H1.out.keep hB)
    have HI := Lib.hid (HI.out.keep hB)
    have HB := Lib.hid (below_via HB.out hB)
    clear hB H2
    go_wp2_with fail
    cases b with
    | false =>
      refine (readprog_any T _ hTs (HT.out.keep HB.out)).mono ?_
      intro e w9 h9
      obtain ⟨hB, q3, n3, cp3, rfl, hin3⟩ := rp_at h9 (readP_few2 _ (by simp; omega))
      have H3 := Lib.hid hin3
      have HI := Lib.hid (HI.out.keep hB)
      have HB := Lib.hid (below_via HB.out hB)
      clear hB h9 hin3
      obtain ⟨y3, hy3⟩ : ∃ y, (readP T.data.toList).isSome = y := ⟨_, rfl⟩
      rw [hy3]
      clear hy3
      go_wp2_with fail
      refine (progok_any q n cp W _ HI.out (HT.out.keep HB.out).forms).mono ?_
      rw [HPB.out]
      rintro e wa ⟨rfl, hB⟩
      have H3 := Lib.hid (H3.out.keep hB)
      have HI := Lib.hid (HI.out.keep hB)
      have HB := Lib.hid (below_via HB.out hB)
      clear hB
      go_wp2_with fail
      refine (sprogok_any q n cp W _ HI.out).mono ?_
      rw [HPB.out]
      rintro e wb ⟨rfl, hB⟩
      have H3 := Lib.hid (H3.out.keep hB)
      have HI := Lib.hid (HI.out.keep hB)
      have HB := Lib.hid (below_via HB.out hB)
      clear hB
      go_wp2_with fail
      refine (sprogok_any q n cp W _ HI.out).mono ?_
      rw [HPB.out]
      rintro e wc ⟨rfl, hB⟩
      have H3 := Lib.hid (H3.out.keep hB)
      have HI := Lib.hid (HI.out.keep hB)
      have HB := Lib.hid (below_via HB.out hB)
      clear hB
      go_wp2
      go_ret
      exact ⟨rfl, HB.out⟩
    | true =>
      refine (readprog_any T _ hTs (HT.out.keep HB.out)).mono ?_
      intro e w9 h9
      obtain ⟨hB, q3, n3, cp3, rfl, hin3⟩ := rp_at h9 (readP_few2 _ (by simp; omega))
      have H3 := Lib.hid hin3
      have HI := Lib.hid (HI.out.keep hB)
      have HB := Lib.hid (below_via HB.out hB)
      clear hB h9 hin3
      rw [HTR.out rfl] at H3 ⊢
      obtain rfl : n3 = n := by rw [← H3.out.length, ← HI.out.length]; rfl
      go_wp2_with fail
      refine (progok_any q n3 cp W _ HI.out (HT.out.keep HB.out).forms).mono ?_
      rw [HPB.out]
      rintro e wa ⟨rfl, hB⟩
      have H3 := Lib.hid (H3.out.keep hB)
      have HI := Lib.hid (HI.out.keep hB)
      have HB := Lib.hid (below_via HB.out hB)
      clear hB
      go_wp2_with fail
      refine (sprogok_any q n3 cp W _ HI.out).mono ?_
      rw [HPB.out]
      rintro e wb ⟨rfl, hB⟩
      have H3 := Lib.hid (H3.out.keep hB)
      have HI := Lib.hid (HI.out.keep hB)
      have HB := Lib.hid (below_via HB.out hB)
      clear hB
      go_wp2_with fail
      refine (sprogok_any q n3 cp W _ HI.out).mono ?_
      rw [HPB.out]
      rintro e wc ⟨rfl, hB⟩
      have H3 := Lib.hid (H3.out.keep hB)
      have HI := Lib.hid (HI.out.keep hB)
      have HB := Lib.hid (below_via HB.out hB)
      clear hB
      go_wp2_with fail
      refine (sameprog_same q3 q n3 cp3 cp W _ H3.out HI.out).mono ?_
      rintro e wd ⟨rfl, hB⟩
      have HB := Lib.hid (below_via HB.out hB)
      clear hB
      go_wp2
      go_ret
      exact ⟨rfl, HB.out⟩
  | some l =>
    go_wp2_with fail
    refine (sprogtext_any q n cp W _ HI.out H6.out).mono ?_
    rw [HTX.out]
    rintro e w6 ⟨rfl, hB⟩
    have H1 := Lib.hid (H1.out.keep hB)
    have H2 := Lib.hid (H2.out.keep hB)
    have HI := Lib.hid (HI.out.keep hB)
    have HB := Lib.hid (below_via HB.out hB)
    clear hB
    go_wp2_with fail
    refine (sameprog_same q1 q2 n2 cp1 cp2 _ _ H1.out H2.out).mono ?_
    rintro e w7 ⟨rfl, hB⟩
    have H1 := Lib.hid (H1.out.keep hB)
    have HI := Lib.hid (HI.out.keep hB)
    have HB := Lib.hid (below_via HB.out hB)
    clear hB H2
    go_wp2_with fail
    have HM := Lib.hid (HMK.out l rfl)
    have qt : (t.toList == t.toList) = true := by simp
    refine (progtext_any q1 n2 cp1 l _ H1.out (by have h1 := H1.out.length; intro i hi; exact HM.out.2 i (by have h2 : l.length = n2 := h1; omega)) (HT.out.keep HB.out).pt).mono ?_
    rw [HM.out.1]
    rintro e w8 ⟨rfl, hB⟩
    have HI := Lib.hid (HI.out.keep hB)
    have HB := Lib.hid (below_via HB.out hB)
    clear hB
    go_wp2_with fail
    cases b with
    | false =>
      refine (readprog_any T _ hTs (HT.out.keep HB.out)).mono ?_
      intro e w9 h9
      obtain ⟨hB, q3, n3, cp3, rfl, hin3⟩ := rp_at h9 (readP_few2 _ (by simp; omega))
      have H3 := Lib.hid hin3
      have HI := Lib.hid (HI.out.keep hB)
      have HB := Lib.hid (below_via HB.out hB)
      clear hB h9 hin3
      obtain ⟨y3, hy3⟩ : ∃ y, (readP T.data.toList).isSome = y := ⟨_, rfl⟩
      rw [hy3]
      clear hy3
      go_wp2_with fail
      refine (progok_any q n cp W _ HI.out (HT.out.keep HB.out).forms).mono ?_
      rw [HPB.out]
      rintro e wa ⟨rfl, hB⟩
      have H3 := Lib.hid (H3.out.keep hB)
      have HI := Lib.hid (HI.out.keep hB)
      have HB := Lib.hid (below_via HB.out hB)
      clear hB
      go_wp2_with fail
      refine (sprogok_any q n cp W _ HI.out).mono ?_
      rw [HPB.out]
      rintro e wb ⟨rfl, hB⟩
      have H3 := Lib.hid (H3.out.keep hB)
      have HI := Lib.hid (HI.out.keep hB)
      have HB := Lib.hid (below_via HB.out hB)
      clear hB
      go_wp2_with fail
      refine (sprogok_any q n cp W _ HI.out).mono ?_
      rw [HPB.out]
      rintro e wc ⟨rfl, hB⟩
      have H3 := Lib.hid (H3.out.keep hB)
      have HI := Lib.hid (HI.out.keep hB)
      have HB := Lib.hid (below_via HB.out hB)
      clear hB
      go_wp2
      go_ret
      exact ⟨rfl, HB.out⟩
    | true =>
      refine (readprog_any T _ hTs (HT.out.keep HB.out)).mono ?_
      intro e w9 h9
      obtain ⟨hB, q3, n3, cp3, rfl, hin3⟩ := rp_at h9 (readP_few2 _ (by simp; omega))
      have H3 := Lib.hid hin3
      have HI := Lib.hid (HI.out.keep hB)
      have HB := Lib.hid (below_via HB.out hB)
      clear hB h9 hin3
      rw [HTR.out rfl] at H3 ⊢
      obtain rfl : n3 = n := by rw [← H3.out.length, ← HI.out.length]; rfl
      go_wp2_with fail
      refine (progok_any q n3 cp W _ HI.out (HT.out.keep HB.out).forms).mono ?_
      rw [HPB.out]
      rintro e wa ⟨rfl, hB⟩
      have H3 := Lib.hid (H3.out.keep hB)
      have HI := Lib.hid (HI.out.keep hB)
      have HB := Lib.hid (below_via HB.out hB)
      clear hB
      go_wp2_with fail
      refine (sprogok_any q n3 cp W _ HI.out).mono ?_
      rw [HPB.out]
      rintro e wb ⟨rfl, hB⟩
      have H3 := Lib.hid (H3.out.keep hB)
      have HI := Lib.hid (HI.out.keep hB)
      have HB := Lib.hid (below_via HB.out hB)
      clear hB
      go_wp2_with fail
      refine (sprogok_any q n3 cp W _ HI.out).mono ?_
      rw [HPB.out]
      rintro e wc ⟨rfl, hB⟩
      have H3 := Lib.hid (H3.out.keep hB)
      have HI := Lib.hid (HI.out.keep hB)
      have HB := Lib.hid (below_via HB.out hB)
      clear hB
      go_wp2_with fail
      refine (sameprog_same q3 q n3 cp3 cp W _ H3.out HI.out).mono ?_
      rintro e wd ⟨rfl, hB⟩
      have HB := Lib.hid (below_via HB.out hB)
      clear hB
      go_wp2
      go_ret
      exact ⟨rfl, HB.out⟩
end Go.Proofs.YtgijalecpeabjaaDoor
