/- The exact law on KeysOf, walked: for every slice of records that may be read it returns true and only makes new blocks. -/
import Derived.Test.YtlemnjphinppbaaKeys3
namespace Go.Proofs.Ytlemnjphinppbaa
open Go.ChangeShapes Go.WideShapes Go.ChangeAt Go.RowKit
set_option linter.unusedVariables false

def MadeKs (W : Strs) (w : World) (e : Ending) (w' : World) : Prop := ∃ q cp, e = .returned (.slice q W.length cp) ∧ Ks w.heap.size w' q W ∧ Below w.heap.size w w'
theorem made_ks {W : Strs} {w : World} {e : Ending} {w' : World} (h : MadeKeys W w e w') : MadeKs W w e w' := by
  obtain ⟨v, he, hown, hb⟩ := h
  obtain ⟨q, cp, rfl⟩ := own_form hown
  exact ⟨q, cp, he, ks_of_own hown, hb⟩
theorem skeys_ks (a : Option Addr) (len cap : Nat) (l : Recs) (w : World) (h : RecsAt w a len l) (hfew : len ≤ 1048576) : Calls Try.prog 26 #[.slice a len cap] w (MadeKs (keysB l) w) := (skeys_any a len cap l w h hfew).mono fun _ _ h => made_ks h
theorem keys_ks (a : Option Addr) (len cap : Nat) (l : Recs) (w : World) (h : RecsAt w a len l) (hfew : len ≤ 1048576) : Calls Try.prog 22 #[.slice a len cap] w (MadeKs (keysB l) w) := (keys_any a len cap l w h hfew).mono fun _ _ h => made_ks h

set_option maxHeartbeats 4000000 in
theorem fnExactKeysOf_walk (a : Option Addr) (len cap : Nat) (l : Recs) (w : World) (h : RecsAt w a len l) :
    Calls Try.prog 9 #[.slice a len cap] w fun e w' => e = .returned (.bool true) ∧ Below w.heap.size w w' := by
  have HR := Lib.hid h
  obtain ⟨W, hW⟩ : ∃ W, keysB l = W := ⟨_, rfl⟩
  obtain ⟨hsh, hwl⟩ := keysB_short h
  rw [hW] at hsh hwl
  obtain ⟨n, hn⟩ : ∃ n, W.length = n := ⟨_, rfl⟩
  rw [hn] at hwl
  have HW := Lib.hid hW
  have HN := Lib.hid hn
  have HSH := Lib.hid hsh
  clear h hW hn hsh
  go_enter Try.func9, Try.ntmps9
  go_wp2_with (go_at_call 29; refine (szrecs_any _ _ _ _ _ _ HR.out (by decide) (by decide)).mono ?_; rintro e w1 ⟨x, hx1, hx2, rfl, hB, hz⟩; have HZ := Lib.hid hz; have HB := Lib.hid hB; clear hB hz)
  · go_ret
    exact ⟨rfl, HB.out⟩
  · have hfew := (HZ.out (by omega)).1
    have hnm : n ≤ maxLen := by unfold maxLen; omega
    have hn40 : 1 + n ≤ 1099511627776 := by omega
    refine (torecs_any _ _ _ _ _ (HR.out.keep HB.out) hfew).mono ?_
    rintro e w2 ⟨rfl, hG, hB, _⟩
    have HG := Lib.hid hG
    have HB := Lib.hid (below_via HB.out hB)
    clear hG hB
    go_wp2_with fail
    refine (skeys_ks _ _ _ _ _ HG.out hfew).mono ?_
    rw [HW.out]
    rintro e w3 ⟨q0, cp0, rfl, h0, hB⟩
    have H0 := Lib.hid h0
    have HB := Lib.hid (below_via HB.out hB)
    have HLT0 := Lib.hid (show 0 < n → ∀ g, q0 = some ⟨g, 0, none⟩ → g < w3.heap.size from fun hp g hg => (ks_lt h0 (by rw [HN.out]; exact hp) g hg).2)
    clear h0 hB HG
    rw [HN.out]
    go_wp2_with fail
    refine (torecs_any _ _ _ _ _ (HR.out.keep HB.out) hfew).mono ?_
    rintro e w4 ⟨rfl, hG, hB, cur, hrow, hcs⟩
    obtain ⟨B, hBx⟩ : ∃ B, w3.heap.size = B := ⟨_, rfl⟩
    rw [hBx] at hG hrow HLT0 ⊢
    have HGE := Lib.hid (show w.heap.size ≤ B by rw [← hBx]; exact HB.out.size)
    have HX := Lib.hid hG
    have HXR := Lib.hid hrow
    have HCS := Lib.hid hcs
    have H0 := Lib.hid (ks_keep H0.out hB)
    have HB := Lib.hid (below_via HB.out hB)
    have HB4 := Lib.hid (hrow.lt)
    clear hG hB hrow hcs hBx
    go_wp2_with fail
    refine (keys_ks _ _ _ _ _ HX.out hfew).mono ?_
    rw [HW.out]
    rintro e w5 ⟨q1, cp1, rfl, h1, hB⟩
    have H1 := Lib.hid h1
    have HGT1 := Lib.hid (show 0 < n → ∀ g, q1 = some ⟨g, 0, none⟩ → B < g from fun hp g hg => Nat.lt_of_lt_of_le HB4.out (ks_lt h1 (by rw [HN.out]; exact hp) g hg).1)
    have H0 := Lib.hid (ks_keep H0.out hB)
    have HX := Lib.hid (HX.out.keep hB)
    have HXR := Lib.hid (HXR.out.keep hB)
    have HB := Lib.hid (below_via HB.out hB)
    clear h1 hB
    rw [HN.out]
    go_wp2_with fail
    refine (eqstrs_same _ _ _ _ _ _ _ (strs_of_ks H1.out HN.out hnm HSH.out) (strs_of_ks H0.out HN.out hnm HSH.out)).mono ?_
    rintro e w6 ⟨rfl, hB⟩
    have H1 := Lib.hid (ks_keep H1.out hB)
    have H0 := Lib.hid (ks_keep H0.out hB)
    have HX := Lib.hid (HX.out.keep hB)
    have HXR := Lib.hid (HXR.out.keep hB)
    have HB := Lib.hid (below_via HB.out hB)
    clear hB
    go_wp2_with fail
    refine (torecs_any _ _ _ _ _ (HR.out.keep HB.out) hfew).mono ?_
    rintro e w7 ⟨rfl, hG, hB, _⟩
    have HY := Lib.hid hG
    have H1 := Lib.hid (ks_keep H1.out hB)
    have H0 := Lib.hid (ks_keep H0.out hB)
    have HX := Lib.hid (HX.out.keep hB)
    have HXR := Lib.hid (HXR.out.keep hB)
    have HB := Lib.hid (below_via HB.out hB)
    clear hG hB
    go_wp2_with fail
    refine (eqrecs_same _ _ _ _ _ _ _ HX.out HY.out).mono ?_
    rintro e w8 ⟨rfl, hB⟩
    have H1 := Lib.hid (ks_keep H1.out hB)
    have H0 := Lib.hid (ks_keep H0.out hB)
    have HXR := Lib.hid (HXR.out.keep hB)
    have HB := Lib.hid (below_via HB.out hB)
    clear hB HX HY
    go_wp2_with fail
    refine (markrecs_any B len len 1 _ cur _ HXR.out HCS.out (Nat.le_refl 1) (by omega)).mono ?_
    obtain ⟨r, hr⟩ : ∃ r, 1 + 2 * len = r := ⟨_, rfl⟩
    rintro e w9 ⟨he, hg⟩
    rw [hr] at he
    subst he
    have HNE0 := Lib.hid (show 0 < n → ∀ g', q0 = some ⟨g', 0, none⟩ → g' ≠ B from fun hp g' hg' => Nat.ne_of_lt (HLT0.out hp g' hg'))
    have HNE1 := Lib.hid (show 0 < n → ∀ g', q1 = some ⟨g', 0, none⟩ → g' ≠ B from fun hp g' hg' => Nat.ne_of_gt (HGT1.out hp g' hg'))
    have H0 := Lib.hid (ks_grown H0.out hg (by rw [HN.out]; exact HNE0.out))
    have H1 := Lib.hid (ks_grown H1.out hg (by rw [HN.out]; exact HNE1.out))
    have HB := Lib.hid (HB.out.grown hg HB.out.size (fun k hk => by cases hk; exact HGE.out))
    clear hg hr
    go_wp2_with fail
    refine (eqstrs_same _ _ _ _ _ _ _ (strs_of_ks H1.out HN.out hnm HSH.out) (strs_of_ks H0.out HN.out hnm HSH.out)).mono ?_
    rintro e wa ⟨rfl, hB⟩
    have H1 := Lib.hid (ks_keep H1.out hB)
    have H0 := Lib.hid (ks_keep H0.out hB)
    have HB := Lib.hid (below_via HB.out hB)
    clear hB
    go_wp2_with fail
    by_cases hn0 : n = 0
    · subst hn0
      refine (mark_none q1 cp1 1 _).mono ?_
      rintro e wb ⟨rfl, rfl⟩
      go_wp2_with fail
      refine (held_none q1 cp1 1 _).mono ?_
      rintro e wb ⟨rfl, rfl⟩
      go_wp2_with fail
      refine (torecs_any _ _ _ _ _ (HR.out.keep HB.out) hfew).mono ?_
      rintro e wb ⟨rfl, hG, hB, _⟩
      have HG := Lib.hid hG
      have H0 := Lib.hid (ks_keep H0.out hB)
      have HB := Lib.hid (below_via HB.out hB)
      clear hG hB
      go_wp2_with fail
      refine (keys_ks _ _ _ _ _ HG.out hfew).mono ?_
      rw [HW.out]
      rintro e wc ⟨q2, cp2, rfl, h2, hB⟩
      have H2 := Lib.hid h2
      have H0 := Lib.hid (ks_keep H0.out hB)
      have HB := Lib.hid (below_via HB.out hB)
      clear h2 hB HG
      rw [HN.out]
      go_wp2_with fail
      refine (eqstrs_same _ _ _ _ _ _ _ (strs_of_ks H2.out HN.out hnm HSH.out) (strs_of_ks H0.out HN.out hnm HSH.out)).mono ?_
      rintro e wd ⟨rfl, hB⟩
      have HB := Lib.hid (below_via HB.out hB)
      clear hB
      go_wp2_with fail
      refine (held_none q1 cp1 1 _).mono ?_
      rintro e we ⟨rfl, rfl⟩
      go_wp2
      go_ret
      exact ⟨rfl, HB.out⟩
    · have hpos : 0 < n := by omega
      obtain ⟨g, gc, rfl, hrow, hsz⟩ : ∃ g gc, q1 = some ⟨g, 0, none⟩ ∧ Row wa g 9 gc ∧ n ≤ gc.size := by
        rcases H1.out with h0 | ⟨g, gc, hq, _, hr, h1, _⟩
        · rw [HN.out] at h0; omega
        · exact ⟨g, gc, hq, hr, by rw [← HN.out]; exact h1⟩
      have hBg : B < g := HGT1.out hpos g rfl
      have HNE := Lib.hid (show 0 < n → ∀ g', q0 = some ⟨g', 0, none⟩ → g' ≠ g from fun hp g' hg' => by have := HLT0.out hp g' hg'; omega)
      have HGG := Lib.hid (show w.heap.size ≤ g by have := HGE.out; omega)
      refine (markstrs_any g n cp1 1 _ _ gc _ hrow rfl hsz (Nat.le_refl 1) hn40).mono ?_
      clear hrow hsz hBg
      obtain ⟨m, hm⟩ : ∃ m, 1 + n = m := ⟨_, rfl⟩
      rintro e wb ⟨he, hg, gc1, hr1, _, hmk⟩
      rw [hm] at he
      subst he
      have H0 := Lib.hid (ks_grown H0.out hg (by rw [HN.out]; exact HNE.out))
      have HB := Lib.hid (HB.out.grown hg HB.out.size (fun k hk => by cases hk; exact HGG.out))
      have HRW := Lib.hid hr1
      have HM := Lib.hid hmk
      have HMM := Lib.hid hm
      clear hg hr1 hmk hm
      go_wp2_with fail
      refine (heldstrs_any g n cp1 1 _ gc1 _ HRW.out HM.out (Nat.le_refl 1) hn40).mono ?_
      rintro e wc ⟨he, hB⟩
      rw [HMM.out] at he
      subst he
      have H0 := Lib.hid (ks_keep H0.out hB)
      have HRW := Lib.hid (HRW.out.keep hB)
      have HB := Lib.hid (below_via HB.out hB)
      clear hB
      go_wp2_with fail
      refine (torecs_any _ _ _ _ _ (HR.out.keep HB.out) hfew).mono ?_
      rintro e wd ⟨rfl, hG, hB, _⟩
      have HG := Lib.hid hG
      have H0 := Lib.hid (ks_keep H0.out hB)
      have HRW := Lib.hid (HRW.out.keep hB)
      have HB := Lib.hid (below_via HB.out hB)
      clear hG hB
      go_wp2_with fail
      refine (keys_ks _ _ _ _ _ HG.out hfew).mono ?_
      rw [HW.out]
      rintro e we ⟨q2, cp2, rfl, h2, hB⟩
      have H2 := Lib.hid h2
      have H0 := Lib.hid (ks_keep H0.out hB)
      have HRW := Lib.hid (HRW.out.keep hB)
      have HB := Lib.hid (below_via HB.out hB)
      clear h2 hB HG
      rw [HN.out]
      go_wp2_with fail
      refine (eqstrs_same _ _ _ _ _ _ _ (strs_of_ks H2.out HN.out hnm HSH.out) (strs_of_ks H0.out HN.out hnm HSH.out)).mono ?_
      rintro e wf ⟨rfl, hB⟩
      have HRW := Lib.hid (HRW.out.keep hB)
      have HB := Lib.hid (below_via HB.out hB)
      clear hB
      go_wp2_with fail
      refine (heldstrs_any g n cp1 1 _ gc1 _ HRW.out HM.out (Nat.le_refl 1) hn40).mono ?_
      rintro e wg ⟨he, hB⟩
      rw [HMM.out] at he
      subst he
      have HB := Lib.hid (below_via HB.out hB)
      clear hB
      go_wp2
      go_ret
      exact ⟨rfl, HB.out⟩
end Go.Proofs.Ytlemnjphinppbaa
