
/- The law on ReadProg, walked: both sides read the same of every text, and what the program read is its own. -/
import Derived.Test.YtgijalecpeabjaaDoorReadPP
import Derived.Test.YtgijalecpeabjaaDoorReadPS
import Derived.Test.YtgijalecpeabjaaDoorInstrEq
import Derived.Test.YtgijalecpeabjaaDoorInstrHeld
namespace Go.Proofs.YtgijalecpeabjaaDoor
open Go.ChangeShapes Go.WideShapes Go.ChangeAt Go.RowKit
set_option linter.unusedVariables false
set_option maxRecDepth 100000

theorem InstrsAt.grown {w w1 : World} {a : Option Addr} {len g : Nat} {l : Instrs} (h : InstrsAt w a len l) (hg : w.grownBy w1 (some g)) (hne : ∀ b off, 0 < len → a = some ⟨b, off, none⟩ → b ≠ g) : InstrsAt w1 a len l := by
  refine ⟨h.length, h.max, h.keys, ?_⟩
  rcases h.src with h0 | ⟨b, off, ha, hb, hc⟩
  · exact .inl h0
  · by_cases h0 : len = 0
    · exact .inl h0
    have hn := hne b off (by omega) ha
    have e : ∀ o, w1.cell? ⟨b, o, none⟩ = w.cell? ⟨b, o, none⟩ := fun o => by
      simp only [World.cell?, hg.block b hb (fun x => hn (Option.some.inj x))]
    exact .inr ⟨b, off, ha, Nat.lt_of_lt_of_le hb hg.size, fun i hi => by simpa only [e] using hc i hi⟩
theorem readP_few (l : List UInt8) (hl : l.length ≤ 1048576) : ((readP l).getD []).length ≤ 30 ∧ ∀ i, i < ((readP l).getD []).length → (ins2 ((readP l).getD []) i).size ≤ 1048576 := by
  cases h : readP l with
  | none => exact ⟨Nat.zero_le _, fun i hi => by simp at hi⟩
  | some p =>
    obtain ⟨rfl, hp⟩ := readP_some h
    exact ⟨prog_few hp, fun i hi => Nat.le_trans (insOf_size hi) hl⟩

set_option maxHeartbeats 8000000 in
theorem fnExactReadProg_walk (s : ByteArray) (w : World) (hs : s.size ≤ maxLen) (hT : TabsRP w) :
    Calls Tryd.prog 5 #[.string s] w fun x w' => x = .returned (.bool true) ∧ Below w.heap.size w w' := by
  have HT := Lib.hid hT
  unfold maxLen at hs
  clear hT
  by_cases hbig : (1048576 : Int) < (s.size : Int)
  · go_enter Tryd.func5, Tryd.ntmps5
    go_wp2
    go_ret
    exact ⟨rfl, Below.refl _ _⟩
  have hs1 : s.size ≤ 1048576 := by omega
  have hfew := readP_few s.data.toList (by simpa using hs1)
  obtain ⟨o, ho⟩ : ∃ o, readP s.data.toList = o := ⟨_, rfl⟩
  obtain ⟨V, hV⟩ : ∃ V, o.getD [] = V := ⟨_, rfl⟩
  obtain ⟨z, hz⟩ : ∃ z, o.isSome = z := ⟨_, rfl⟩
  rw [ho, hV] at hfew
  have HM := Lib.hid (fun w => sreadprog_any s w hs1)
  have HI := Lib.hid (fun w hT => readprog_any s w hs1 hT)
  unfold MadeRP at HM HI
  simp only [ho, hV, hz] at HM HI
  obtain ⟨n, hn⟩ : ∃ n, V.length = n := ⟨_, rfl⟩
  rw [hn] at hfew HM HI
  have HN := Lib.hid hn
  have hn30 : n ≤ 30 := hfew.1
  have HSH := Lib.hid (show ∀ i, i < n → (ins2 V i).size ≤ maxLen from fun i hi => by have := hfew.2 i hi; unfold maxLen; omega)
  have hnm : n ≤ maxLen := by unfold maxLen; omega
  clear ho hV hz hfew hn
  go_enter Tryd.func5, Tryd.ntmps5
  go_wp2_with fail
  refine (HM.out _).mono ?_
  rintro e w1 ⟨hB, q0, n0, cp0, rfl, rfl, hown⟩
  have HX := Lib.hid (show ∀ b off, 0 < n → q0 = some ⟨b, off, none⟩ → b < w1.heap.size from fun b off h0 hq => by
    obtain ⟨g, cur, hq2, _, hr, _⟩ := own_insrow hown h0
    rw [hq2] at hq
    simp only [Option.some.injEq, Addr.mk.injEq] at hq
    rw [← hq.1]; exact hr.lt)
  have H0 := Lib.hid (own_inss hown HN.out hnm HSH.out)
  have HB := Lib.hid hB
  clear hB hown
  go_wp2_with fail
  refine (HI.out _ (HT.out.keep HB.out)).mono ?_
  rintro e w2 ⟨hB, q1, n1, cp1, rfl, rfl, hown⟩
  have HGE := Lib.hid HB.out.size
  have HO1 := Lib.hid hown
  have H1 := Lib.hid (own_inss hown HN.out hnm HSH.out)
  have H0 := Lib.hid (H0.out.keep hB)
  have HB := Lib.hid (below_via HB.out hB)
  clear hB hown
  go_wp2_with fail
  refine (eqinss_same _ _ _ _ _ _ _ H1.out H0.out).mono ?_
  rintro e w3 ⟨rfl, hB⟩
  have H0 := Lib.hid (H0.out.keep hB)
  have HO1 := Lib.hid (own_below HO1.out hB)
  have HB := Lib.hid (below_via HB.out hB)
  clear hB H1
  go_wp2_with fail
  by_cases hn0 : n = 0
  · subst hn0
    refine (markinss_none q1 cp1 1 _).mono ?_
    rintro e w4 ⟨rfl, rfl⟩
    go_wp2_with fail
    refine (heldinss_none q1 cp1 1 _).mono ?_
    rintro e w4 ⟨rfl, rfl⟩
    go_wp2_with fail
    refine (HI.out _ (HT.out.keep HB.out)).mono ?_
    rintro e w5 ⟨hB, q2, n2, cp2, rfl, rfl, hown⟩
    have H2 := Lib.hid (own_inss hown HN.out hnm HSH.out)
    have H0 := Lib.hid (H0.out.keep hB)
    have HB := Lib.hid (below_via HB.out hB)
    clear hB hown
    go_wp2_with fail
    refine (eqinss_same _ _ _ _ _ _ _ H2.out H0.out).mono ?_
    rintro e w6 ⟨rfl, hB⟩
    have HB := Lib.hid (below_via HB.out hB)
    clear hB
    go_wp2_with fail
    refine (heldinss_none q1 cp1 1 _).mono ?_
    rintro e w7 ⟨rfl, rfl⟩
    go_wp2
    go_ret
    exact ⟨rfl, HB.out⟩
  · have hpos : 0 < n := by omega
    obtain ⟨g, cur, rfl, hbg, hrow, hsz⟩ := own_insrow HO1.out hpos
    have HNE := Lib.hid (show ∀ b off, 0 < n → q0 = some ⟨b, off, none⟩ → b ≠ g from fun b off h0 hq => by have := HX.out b off h0 hq; omega)
    have HGE2 := Lib.hid (show w.heap.size ≤ g by have := HGE.out; omega)
    refine (markinss_any g n cp1 1 _ _ cur _ hrow rfl hsz (Nat.le_refl 1) (by omega)).mono ?_
    clear hrow hsz hbg
    obtain ⟨m, hm⟩ : ∃ m, 1 + 3 * n = m := ⟨_, rfl⟩
    rintro e w4 ⟨he, hg, cur1, hr1, _, hmk⟩
    rw [hm] at he
    subst he
    have H0 := Lib.hid (H0.out.grown hg HNE.out)
    have HB := Lib.hid (HB.out.grown hg HB.out.size (fun k hk => by cases hk; exact HGE2.out))
    have HR := Lib.hid hr1
    have HM2 := Lib.hid hmk
    have HMM := Lib.hid hm
    clear hg hr1 hmk hm HO1
    go_wp2_with fail
    refine (heldinss_any g n cp1 1 _ cur1 _ HR.out HM2.out (Nat.le_refl 1) (by omega)).mono ?_
    rintro e w5 ⟨he, hB⟩
    rw [HMM.out] at he
    subst he
    have H0 := Lib.hid (H0.out.keep hB)
    have HR := Lib.hid (HR.out.keep hB)
    have HB := Lib.hid (below_via HB.out hB)
    clear hB
    go_wp2_with fail
    refine (HI.out _ (HT.out.keep HB.out)).mono ?_
    rintro e w6 ⟨hB, q2, n2, cp2, rfl, rfl, hown⟩
    have H2 := Lib.hid (own_inss hown HN.out hnm HSH.out)
    have H0 := Lib.hid (H0.out.keep hB)
    have HR := Lib.hid (HR.out.keep hB)
    have HB := Lib.hid (below_via HB.out hB)
    clear hB hown
    go_wp2_with fail
    refine (eqinss_same _ _ _ _ _ _ _ H2.out H0.out).mono ?_
    rintro e w7 ⟨rfl, hB⟩
    have HR := Lib.hid (HR.out.keep hB)
    have HB := Lib.hid (below_via HB.out hB)
    clear hB
    go_wp2_with fail
    refine (heldinss_any g n cp1 1 _ cur1 _ HR.out HM2.out (Nat.le_refl 1) (by omega)).mono ?_
    rintro e w8 ⟨he, hB⟩
    rw [HMM.out] at he
    subst he
    have HB := Lib.hid (below_via HB.out hB)
    clear hB
    go_wp2
    go_ret
    exact ⟨rfl, HB.out⟩
end Go.Proofs.YtgijalecpeabjaaDoor
