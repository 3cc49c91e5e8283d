
/- The exact law on StorePlayed, walked: for every list of commands that may be read it returns true and only makes new blocks. -/
import Derived.Test.YtdjfihoempjjpaaDoorPlayX
namespace Go.Proofs.YtdjfihoempjjpaaDoor
open Go.ChangeShapes Go.WideShapes Go.ChangeAt Go.RowKit
set_option linter.unusedVariables false
set_option maxRecDepth 100000

set_option maxHeartbeats 8000000 in
theorem fnExactStorePlayed_walk (a : Option Addr) (len cap : Nat) (l : Cmds) (A : ErrA) (w : World) (h : CmdsAt w a len l) (hA : TabsEA A w) :
    Calls Tryd.prog 6 #[.slice a len cap] w fun e w' => e = .returned (.bool true) ∧ Below w.heap.size w w' := by
  have HSP := Lib.hid (stop_of_ep (playE_ep l len))
  have hcn := playE_few l len
  obtain ⟨L, hL⟩ : ∃ L, objsOf (playE l len).1 = L := ⟨_, rfl⟩
  obtain ⟨M, hM⟩ : ∃ M, gonsOf (playE l len).1 = M := ⟨_, rfl⟩
  obtain ⟨nl, hnl⟩ : ∃ n, L.length = n := ⟨_, rfl⟩
  obtain ⟨nm, hnm⟩ : ∃ n, M.length = n := ⟨_, rfl⟩
  obtain ⟨cs, hcs⟩ : ∃ c, (playE l len).2 = c := ⟨_, rfl⟩
  obtain ⟨nc, hnc⟩ : ∃ n, cs.length = n := ⟨_, rfl⟩
  rw [hL, hM] at HSP
  have hfew := HSP.out.few
  rw [hnl, hnm] at hfew
  rw [hcs, hnc] at hcn
  have H4 := Lib.hid (fun w e w' => toL4 (cs := cs) hL hM hnl hnm hnc (w := w) e w')
  have H7 := Lib.hid (fun w e w' => toL7 (cs := cs) hL hM hnl hnm hnc (w := w) e w')
  have HCS := Lib.hid hcs
  have HNC := Lib.hid hnc
  obtain ⟨K1, hK1⟩ : ∃ K, 1 + 3 * nl + 2 * nm = K := ⟨_, rfl⟩
  obtain ⟨K2, hK2⟩ : ∃ K, K1 + nc = K := ⟨_, rfl⟩
  have HK1 := Lib.hid hK1
  have HK2 := Lib.hid hK2
  have hk1 : 1 ≤ K1 := by omega
  have hk1b : K1 + nc ≤ 1099511627776 := by omega
  have hncm : nc ≤ maxLen := by unfold maxLen; omega
  clear hL hM hnl hnm hcs hnc hK1 hK2
  have HS := Lib.hid h
  have HTA := Lib.hid hA
  clear h hA
  go_enter Tryd.func6, Tryd.ntmps6
  go_wp2_with fail
  refine (szcmds_any a len cap l _ _ HS.out (by decide) (by decide)).mono ?_
  rintro e w1 ⟨x, hx0, hx1, rfl, hB, hf⟩
  have HB := Lib.hid hB
  have HF := Lib.hid hf
  clear hB hf
  by_cases hx : x < 0
  · go_wp2
    go_ret
    exact ⟨rfl, HB.out⟩
  have hlen : len ≤ 1048576 := (HF.out (by omega)).1
  clear HF
  go_wp2_with fail
  refine (tocmds_any a len cap l _ (HS.out.keep HB.out) hlen).mono ?_
  rintro e w2 ⟨rfl, hS, hB, _⟩
  have HS1 := Lib.hid hS
  have HB := Lib.hid (below_via HB.out hB)
  clear hS hB
  go_wp2_with fail
  refine ((splayed_any _ len len l _ HS1.out hlen).mono (by rw [HCS.out]; exact H4.out _)).mono ?_
  rintro e w3 ⟨q4, c4, p4, d4, x4, y4, rfl, hB, hK, hN⟩
  obtain ⟨P4, hP4⟩ : ∃ x, w3.heap.size = x := ⟨_, rfl⟩
  obtain ⟨w4, hw4⟩ : ∃ x, w3.alloc (.cells #[.slice q4 nl c4, .slice p4 nm d4] 30) = x := ⟨_, rfl⟩
  have HK4 := Lib.hid (show StoK w2.heap.size w4 q4 nl c4 p4 nm d4 L M by rw [← hw4]; exact hK.keep (below_alloc (Below.refl _ _) _))
  have HI4 := Lib.hid (show In2 0 P4 q4 p4 by rw [← hP4]; exact ⟨fun g hg => ⟨Nat.zero_le _, (hK.in2.a g hg).2⟩, fun g hg => ⟨Nat.zero_le _, (hK.in2.b g hg).2⟩⟩)
  have HN4 := Lib.hid (show NumK w2.heap.size w4 x4 cs by rw [← hw4]; exact hN.keep (below_alloc (Below.refl _ _) _))
  have HP4 := Lib.hid (show Row w4 P4 30 #[.slice q4 nl c4, .slice p4 nm d4] by rw [← hw4, ← hP4]; exact row_new _ _ _)
  have HNP := Lib.hid (show w.heap.size ≤ P4 by rw [← hP4]; exact Nat.le_trans HB.out.size hB.size)
  have HB := Lib.hid (show Below w.heap.size w w4 by rw [← hw4]; exact below_alloc (below_via HB.out hB) _)
  clear hB hK hN HS1
  go_wp2_with fail
  try rw [hw4]
  try rw [hP4]
  clear hw4 hP4
  refine (tocmds_any a len cap l _ (HS.out.keep HB.out) hlen).mono ?_
  rintro e w5 ⟨rfl, hS, hB, cB, rB, sB⟩
  obtain ⟨B2, hB2⟩ : ∃ x, w4.heap.size = x := ⟨_, rfl⟩
  rw [hB2] at hS rB ⊢
  have hPB : P4 < B2 := by rw [← hB2]; exact HP4.out.lt
  have HS2 := Lib.hid hS
  have HRB := Lib.hid rB
  have HSB := Lib.hid sB
  have HX4 := Lib.hid (show ∀ g, x4 = some ⟨g, 0, none⟩ → nc ≠ 0 → g < B2 from fun g hg hz => by
    rcases HN4.out with h0 | ⟨g', cur, hq, _, hr, _, _⟩
    · rw [HNC.out] at h0; exact absurd h0 hz
    · rw [hg] at hq
      simp only [Option.some.injEq, Addr.mk.injEq, and_true] at hq
      subst hq
      rw [← hB2]; exact hr.lt)
  have HK4 := Lib.hid (HK4.out.keep hB)
  have HN4 := Lib.hid (HN4.out.keep hB)
  have HP4 := Lib.hid (HP4.out.keep hB)
  have HB := Lib.hid (below_via HB.out hB)
  clear hS hB rB sB hB2
  go_wp2_with fail
  refine ((played_any _ len len l A _ HS2.out (HTA.out.keep HB.out) hlen).mono (by rw [HCS.out]; exact H7.out _)).mono ?_
  rintro e w6 ⟨q7, c7, p7, d7, x7, y7, mid, rfl, hB, hN, hmid, hK, hap⟩
  obtain ⟨P7, hP7⟩ : ∃ x, w6.heap.size = x := ⟨_, rfl⟩
  obtain ⟨w7, hw7⟩ : ∃ x, w6.alloc (.cells #[.slice q7 nl c7, .slice p7 nm d7] 30) = x := ⟨_, rfl⟩
  have hB5 : B2 < w5.heap.size := HRB.out.lt
  have HK7 := Lib.hid (show StoK mid w7 q7 nl c7 p7 nm d7 L M by rw [← hw7]; exact hK.keep (below_alloc (Below.refl _ _) _))
  have HI7 := Lib.hid (show In2 mid P7 q7 p7 by rw [← hP7]; exact hK.in2)
  have HN7 := Lib.hid (show NumK w5.heap.size w7 x7 cs by rw [← hw7]; exact hN.keep (below_alloc (Below.refl _ _) _))
  have HX7 := Lib.hid (show ∀ g, x7 = some ⟨g, 0, none⟩ → B2 < g ∧ g < mid from fun g hg => by have := hap g hg; omega)
  have hmidB : B2 < mid := by omega
  have HP7 := Lib.hid (show Row w7 P7 30 #[.slice q7 nl c7, .slice p7 nm d7] by rw [← hw7, ← hP7]; exact row_new _ _ _)
  have HXP := Lib.hid (show ∀ g, x7 = some ⟨g, 0, none⟩ → nc ≠ 0 → g < P7 from fun g hg hz => by
    rcases hN with h0 | ⟨g', cur, hq, _, hr, _, _⟩
    · rw [HNC.out] at h0; exact absurd h0 hz
    · rw [hg] at hq
      simp only [Option.some.injEq, Addr.mk.injEq, and_true] at hq
      subst hq
      rw [← hP7]; exact hr.lt)
  have hP7B : B2 < P7 := by rw [← hP7]; exact Nat.lt_of_lt_of_le hB5 hB.size
  have HK4 := Lib.hid (show StoK w2.heap.size w7 q4 nl c4 p4 nm d4 L M by rw [← hw7]; exact (HK4.out.keep hB).keep (below_alloc (Below.refl _ _) _))
  have HN4 := Lib.hid (show NumK w2.heap.size w7 x4 cs by rw [← hw7]; exact (HN4.out.keep hB).keep (below_alloc (Below.refl _ _) _))
  have HP4 := Lib.hid (show Row w7 P4 30 #[.slice q4 nl c4, .slice p4 nm d4] by rw [← hw7]; exact (HP4.out.keep hB).al _)
  have HS2 := Lib.hid (show CmdsAt w7 (some ⟨B2, 0, none⟩) len l by rw [← hw7]; exact (HS2.out.keep hB).keep (below_alloc (Below.refl _ _) _))
  have HRB := Lib.hid (show Row w7 B2 68 cB by rw [← hw7]; exact (HRB.out.keep hB).al _)
  have HB := Lib.hid (show Below w.heap.size w w7 by rw [← hw7]; exact below_alloc (below_via HB.out hB) _)
  clear hB hK hN hap hB5 hmid
  obtain ⟨u0, u1⟩ := row_cells2 HP4.out
  obtain ⟨v0, v1⟩ := row_cells2 HP7.out
  go_wp2_with fail
  try rw [hw7]
  try rw [hP7]
  clear u0 u1 v0 v1 hw7 hP7
  refine (eqsto_same _ _ _ _ _ _ _ _ _ _ L M _ (HK7.out.sto HSP.out) (HK4.out.sto HSP.out)).mono ?_
  rintro e w8 ⟨rfl, hB⟩
  have HK7 := Lib.hid (HK7.out.keep hB)
  have HN7 := Lib.hid (HN7.out.keep hB)
  have HP7 := Lib.hid (HP7.out.keep hB)
  have HK4 := Lib.hid (HK4.out.keep hB)
  have HN4 := Lib.hid (HN4.out.keep hB)
  have HP4 := Lib.hid (HP4.out.keep hB)
  have HS2 := Lib.hid (HS2.out.keep hB)
  have HRB := Lib.hid (HRB.out.keep hB)
  have HB := Lib.hid (below_via HB.out hB)
  clear hB
  go_wp2_with fail
  refine (eqnums_same _ _ nc _ _ cs _ (HN7.out.nums HNC.out hncm) (HN4.out.nums HNC.out hncm)).mono ?_
  rintro e w9 ⟨rfl, hB⟩
  have HK7 := Lib.hid (HK7.out.keep hB)
  have HN7 := Lib.hid (HN7.out.keep hB)
  have HP7 := Lib.hid (HP7.out.keep hB)
  have HK4 := Lib.hid (HK4.out.keep hB)
  have HN4 := Lib.hid (HN4.out.keep hB)
  have HP4 := Lib.hid (HP4.out.keep hB)
  have HS2 := Lib.hid (HS2.out.keep hB)
  have HRB := Lib.hid (HRB.out.keep hB)
  have HB := Lib.hid (below_via HB.out hB)
  clear hB
  go_wp2_with fail
  refine (tocmds_any a len cap l _ (HS.out.keep HB.out) hlen).mono ?_
  rintro e wa ⟨rfl, hS, hB, _⟩
  have HS3 := Lib.hid hS
  have HK7 := Lib.hid (HK7.out.keep hB)
  have HN7 := Lib.hid (HN7.out.keep hB)
  have HP7 := Lib.hid (HP7.out.keep hB)
  have HK4 := Lib.hid (HK4.out.keep hB)
  have HN4 := Lib.hid (HN4.out.keep hB)
  have HP4 := Lib.hid (HP4.out.keep hB)
  have HS2 := Lib.hid (HS2.out.keep hB)
  have HRB := Lib.hid (HRB.out.keep hB)
  have HB := Lib.hid (below_via HB.out hB)
  clear hS hB
  go_wp2_with fail
  refine (eqcmds_same _ _ len _ _ l _ HS2.out HS3.out).mono ?_
  rintro e wb ⟨rfl, hB⟩
  have HK7 := Lib.hid (HK7.out.keep hB)
  have HN7 := Lib.hid (HN7.out.keep hB)
  have HP7 := Lib.hid (HP7.out.keep hB)
  have HK4 := Lib.hid (HK4.out.keep hB)
  have HN4 := Lib.hid (HN4.out.keep hB)
  have HP4 := Lib.hid (HP4.out.keep hB)
  have HRB := Lib.hid (HRB.out.keep hB)
  have HB := Lib.hid (below_via HB.out hB)
  clear hB HS2 HS3
  go_wp2_with fail
  refine (markcmds_any B2 len len 1 _ _ cB _ HRB.out HSB.out (Nat.le_refl _) (Nat.le_refl 1) (by omega)).mono ?_
  obtain ⟨mr, hmr⟩ : ∃ m, 1 + 4 * len = m := ⟨_, rfl⟩
  unfold MadeMarksCmd
  rw [hmr]
  rintro e wc ⟨rfl, hg, _⟩
  have HK7 := Lib.hid (HK7.out.grownX hg (fun g hq he => by have := (HI7.out.a g hq).1; simp only [Option.some.injEq] at he; omega) (fun g hq he => by have := (HI7.out.b g hq).1; simp only [Option.some.injEq] at he; omega))
  have HN7 := Lib.hid (HN7.out.grown hg (fun g hq _ he => by have := (HX7.out g hq).1; simp only [Option.some.injEq] at he; omega))
  have HP7 := Lib.hid (HP7.out.grown hg (fun he => by simp only [Option.some.injEq] at he; omega))
  have HK4 := Lib.hid (HK4.out.grownX hg (fun g hq he => by have := (HI4.out.a g hq).2; simp only [Option.some.injEq] at he; omega) (fun g hq he => by have := (HI4.out.b g hq).2; simp only [Option.some.injEq] at he; omega))
  have HN4 := Lib.hid (show NumK w2.heap.size wc x4 cs by
    by_cases hz : nc = 0
    · exact .inl (by rw [HNC.out]; exact hz)
    · exact HN4.out.grown hg (fun g hq _ he => by have := HX4.out g hq hz; simp only [Option.some.injEq] at he; omega))
  have HP4 := Lib.hid (HP4.out.grown hg (fun he => by simp only [Option.some.injEq] at he; omega))
  have HB := Lib.hid (HB.out.grown hg HB.out.size (fun k hk => by simp only [Option.some.injEq] at hk; have := HNP.out; omega))
  have hm0 : ¬ ((mr : Int) < 0) := by omega
  clear hg HRB HSB hmr
  obtain ⟨u0, u1⟩ := row_cells2 HP4.out
  obtain ⟨v0, v1⟩ := row_cells2 HP7.out
  go_wp2_with fail
  refine (eqsto_same _ _ _ _ _ _ _ _ _ _ L M _ (HK7.out.sto HSP.out) (HK4.out.sto HSP.out)).mono ?_
  rintro e wd ⟨rfl, hB⟩
  have HK7 := Lib.hid (HK7.out.keep hB)
  have HN7 := Lib.hid (HN7.out.keep hB)
  have HP7 := Lib.hid (HP7.out.keep hB)
  have HK4 := Lib.hid (HK4.out.keep hB)
  have HN4 := Lib.hid (HN4.out.keep hB)
  have HP4 := Lib.hid (HP4.out.keep hB)
  have HB := Lib.hid (below_via HB.out hB)
  clear hB u0 u1 v0 v1 hm0
  go_wp2_with fail
  refine (eqnums_same _ _ nc _ _ cs _ (HN7.out.nums HNC.out hncm) (HN4.out.nums HNC.out hncm)).mono ?_
  rintro e we ⟨rfl, hB⟩
  have HK7 := Lib.hid (HK7.out.keep hB)
  have HN7 := Lib.hid (HN7.out.keep hB)
  have HP7 := Lib.hid (HP7.out.keep hB)
  have HK4 := Lib.hid (HK4.out.keep hB)
  have HN4 := Lib.hid (HN4.out.keep hB)
  have HP4 := Lib.hid (HP4.out.keep hB)
  have HB := Lib.hid (below_via HB.out hB)
  clear hB
  obtain ⟨v0, v1⟩ := row_cells2 HP7.out
  go_wp2_with fail
  refine (markk_any _ nl c7 nm d7 q7 p7 L M _ HK7.out (by omega) (by omega)).mono ?_
  unfold MadeMK
  rw [HK1.out]
  rintro e wf ⟨rfl, hU, hmo, hmg⟩
  have hHN : w.heap.size ≤ B2 := by have := HNP.out; omega
  have HB := Lib.hid (hU.belowI HB.out HI7.out (by omega))
  have HP4 := Lib.hid (hU.rowI HP4.out HI7.out (.inl (by omega)))
  have HP7 := Lib.hid (hU.rowI HP7.out HI7.out (.inr (Nat.le_refl _)))
  have HK4 := Lib.hid (HK4.out.butK hU HI4.out HI7.out (.inl (by omega)))
  have HN7 := Lib.hid (HN7.out.butK hU HI7.out (fun g hq _ => .inl (HX7.out g hq).2))
  have HN4 := Lib.hid (show NumK w2.heap.size wf x4 cs by
    by_cases hz : nc = 0
    · exact .inl (by rw [HNC.out]; exact hz)
    · exact HN4.out.butK hU HI7.out (fun g hq _ => .inl (by have := HX4.out g hq hz; omega)))
  have HMO := Lib.hid hmo
  have HMG := Lib.hid hmg
  clear hU hmo hmg v0 v1 HK7
  go_wp2_with fail
  refine (markn_k nc y7 K1 HN7.out HNC.out hk1 hk1b).mono ?_
  rw [HK2.out]
  rintro e wg ⟨rfl, hmn, row, hg, hrow⟩
  have HMN := Lib.hid hmn
  have hrw : ∀ g, row = some g → B2 < g ∧ g < mid := fun g hr => HX7.out g (hrow g hr).1
  have HB := Lib.hid (HB.out.grown hg HB.out.size (fun k hk => by have := hrw k hk; omega))
  have HP4 := Lib.hid (HP4.out.grown hg (fun he => by have := hrw _ he; omega))
  have HP7 := Lib.hid (HP7.out.grown hg (fun he => by have := HXP.out _ (hrow _ he).1 (hrow _ he).2.2; omega))
  have HK4 := Lib.hid (HK4.out.grownX hg (fun g hq he => by have := (HI4.out.a g hq).2; have := hrw _ he; omega) (fun g hq he => by have := (HI4.out.b g hq).2; have := hrw _ he; omega))
  have HN4 := Lib.hid (show NumK w2.heap.size wg x4 cs by
    by_cases hz : nc = 0
    · exact .inl (by rw [HNC.out]; exact hz)
    · exact HN4.out.grown hg (fun g hq _ he => by have := HX4.out g hq hz; have := hrw _ he; omega))
  have HMO := Lib.hid (HMO.out.grownX hg (fun g hq he => by have := (HI7.out.a g hq).1; have := hrw _ he; omega))
  have HMG := Lib.hid (HMG.out.grownX hg (fun g hq he => by have := (HI7.out.b g hq).1; have := hrw _ he; omega))
  clear hg hrow hrw hmn HN7
  obtain ⟨v0, v1⟩ := row_cells2 HP7.out
  have hK10 : ¬ ((K1 : Int) < 0) := by omega
  have hK20 : ¬ ((K2 : Int) < 0) := by omega
  go_wp2_with fail
  refine (heldk_any nl c7 nm d7 q7 p7 _ HMO.out HMG.out (by omega) (by omega)).mono ?_
  unfold HeldMK
  rw [HK1.out]
  rintro e wh ⟨rfl, hB⟩
  have HMO := Lib.hid (HMO.out.keep hB)
  have HMG := Lib.hid (HMG.out.keep hB)
  have HMN := Lib.hid (HMN.out.keep hB)
  have HP7 := Lib.hid (HP7.out.keep hB)
  have HK4 := Lib.hid (HK4.out.keep hB)
  have HN4 := Lib.hid (HN4.out.keep hB)
  have HP4 := Lib.hid (HP4.out.keep hB)
  have HB := Lib.hid (below_via HB.out hB)
  clear hB v0 v1
  go_wp2_with fail
  refine (heldn_k nc y7 K1 HMN.out hk1 hk1b).mono ?_
  unfold HeldN
  rw [HK2.out]
  rintro e wi ⟨rfl, hB⟩
  have HMO := Lib.hid (HMO.out.keep hB)
  have HMG := Lib.hid (HMG.out.keep hB)
  have HMN := Lib.hid (HMN.out.keep hB)
  have HP7 := Lib.hid (HP7.out.keep hB)
  have HK4 := Lib.hid (HK4.out.keep hB)
  have HN4 := Lib.hid (HN4.out.keep hB)
  have HP4 := Lib.hid (HP4.out.keep hB)
  have HB := Lib.hid (below_via HB.out hB)
  clear hB
  go_wp2_with fail
  refine (tocmds_any a len cap l _ (HS.out.keep HB.out) hlen).mono ?_
  rintro e wj ⟨rfl, hS, hB, _⟩
  have HS3 := Lib.hid hS
  have HMO := Lib.hid (HMO.out.keep hB)
  have HMG := Lib.hid (HMG.out.keep hB)
  have HMN := Lib.hid (HMN.out.keep hB)
  have HP7 := Lib.hid (HP7.out.keep hB)
  have HK4 := Lib.hid (HK4.out.keep hB)
  have HN4 := Lib.hid (HN4.out.keep hB)
  have HP4 := Lib.hid (HP4.out.keep hB)
  have HB := Lib.hid (below_via HB.out hB)
  clear hS hB
  go_wp2_with fail
  refine ((played_any _ len len l A _ HS3.out (HTA.out.keep HB.out) hlen).mono (by rw [HCS.out]; exact H7.out _)).mono ?_
  rintro e wk ⟨q9, c9, p9, d9, x9, y9, mid9, rfl, hB, hN, hmid, hK, hap⟩
  obtain ⟨P9, hP9⟩ : ∃ x, wk.heap.size = x := ⟨_, rfl⟩
  obtain ⟨wl, hwl⟩ : ∃ x, wk.alloc (.cells #[.slice q9 nl c9, .slice p9 nm d9] 30) = x := ⟨_, rfl⟩
  have HK9 := Lib.hid (show StoK mid9 wl q9 nl c9 p9 nm d9 L M by rw [← hwl]; exact hK.keep (below_alloc (Below.refl _ _) _))
  have HN9 := Lib.hid (show NumK wj.heap.size wl x9 cs by rw [← hwl]; exact hN.keep (below_alloc (Below.refl _ _) _))
  have HP9 := Lib.hid (show Row wl P9 30 #[.slice q9 nl c9, .slice p9 nm d9] by rw [← hwl, ← hP9]; exact row_new _ _ _)
  have al := below_alloc (below_via (Below.refl wj.heap.size wj) hB) (.cells #[.slice q9 nl c9, .slice p9 nm d9] 30)
  rw [hwl] at al
  have HMO := Lib.hid (HMO.out.keep al)
  have HMG := Lib.hid (HMG.out.keep al)
  have HMN := Lib.hid (HMN.out.keep al)
  have HP7 := Lib.hid (HP7.out.keep al)
  have HK4 := Lib.hid (HK4.out.keep al)
  have HN4 := Lib.hid (HN4.out.keep al)
  have HP4 := Lib.hid (HP4.out.keep al)
  have HB := Lib.hid (below_via HB.out al)
  clear hB hN hmid hK hap al
  obtain ⟨u0, u1⟩ := row_cells2 HP4.out
  obtain ⟨v0, v1⟩ := row_cells2 HP9.out
  go_wp2_with fail
  try rw [hwl]
  try rw [hP9]
  clear u0 u1 v0 v1 hwl hP9
  refine (eqsto_same _ _ _ _ _ _ _ _ _ _ L M _ (HK9.out.sto HSP.out) (HK4.out.sto HSP.out)).mono ?_
  rintro e wm ⟨rfl, hB⟩
  have HMO := Lib.hid (HMO.out.keep hB)
  have HMG := Lib.hid (HMG.out.keep hB)
  have HMN := Lib.hid (HMN.out.keep hB)
  have HP7 := Lib.hid (HP7.out.keep hB)
  have HN9 := Lib.hid (HN9.out.keep hB)
  have HN4 := Lib.hid (HN4.out.keep hB)
  have HB := Lib.hid (below_via HB.out hB)
  clear hB HK9 HK4 HP4 HP9
  go_wp2_with fail
  refine (eqnums_same _ _ nc _ _ cs _ (HN9.out.nums HNC.out hncm) (HN4.out.nums HNC.out hncm)).mono ?_
  rintro e wn ⟨rfl, hB⟩
  have HMO := Lib.hid (HMO.out.keep hB)
  have HMG := Lib.hid (HMG.out.keep hB)
  have HMN := Lib.hid (HMN.out.keep hB)
  have HP7 := Lib.hid (HP7.out.keep hB)
  have HB := Lib.hid (below_via HB.out hB)
  clear hB HN9 HN4
  obtain ⟨v0, v1⟩ := row_cells2 HP7.out
  go_wp2_with fail
  refine (heldk_any nl c7 nm d7 q7 p7 _ HMO.out HMG.out (by omega) (by omega)).mono ?_
  unfold HeldMK
  rw [HK1.out]
  rintro e wo ⟨rfl, hB⟩
  have HMN := Lib.hid (HMN.out.keep hB)
  have HB := Lib.hid (below_via HB.out hB)
  clear hB v0 v1
  go_wp2_with fail
  refine (heldn_k nc y7 K1 HMN.out hk1 hk1b).mono ?_
  unfold HeldN
  rw [HK2.out]
  rintro e wp ⟨rfl, hB⟩
  have HB := Lib.hid (below_via HB.out hB)
  clear hB
  go_wp2
  go_ret
  exact ⟨rfl, HB.out⟩
end Go.Proofs.YtdjfihoempjjpaaDoor
