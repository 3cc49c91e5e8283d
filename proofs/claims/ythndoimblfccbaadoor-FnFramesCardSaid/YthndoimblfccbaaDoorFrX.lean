
/- The exact law on TakeFrames, walked: for every text it returns true and only makes new blocks. -/
import Derived.Test.YthndoimblfccbaaDoorFrS
import Derived.Test.YthndoimblfccbaaDoorKs
import Derived.Test.YthndoimblfccbaaDoorStrs3
namespace Go.Proofs.YthndoimblfccbaaDoor
open Go.ChangeShapes Go.WideShapes Go.ChangeAt Go.RowKit
set_option linter.unusedVariables false
set_option maxRecDepth 100000

theorem range_frames (s : ByteArray) : (List.range (frL s).length).map (strK s) = (frL s).map Value.string := by
  apply List.ext_getElem (by simp)
  intro k h1 h2
  have hk : k < (frL s).length := by simpa using h1
  simp only [List.getElem_map, List.getElem_range, strK, frAt]
  rw [List.getD_eq_getElem?_getD, List.getElem?_eq_getElem hk]
  rfl
theorem frames_short (s : ByteArray) : ∀ x ∈ frL s, x.size ≤ maxLen := by
  intro x hx
  obtain ⟨k, hk, rfl⟩ := List.getElem_of_mem hx
  have h := frA_some (frL_next hk)
  unfold maxLen
  omega
/-- The end of TakeFrames, as a slice that holds the frames. -/
def MadeTK (s : ByteArray) (w : World) (e : Ending) (w' : World) : Prop :=
  ∃ q cp, e = .returned (.tuple #[.slice q (frL s).length cp, .int .i64 ((endK s (frL s).length : Nat) : Int)]) ∧ Ks w.heap.size w' q (frL s) ∧ Below w.heap.size w w'
theorem tk_of {s : ByteArray} {w w' : World} {e : Ending} (h : MadeTF s w e w') : MadeTK s w e w' := by
  obtain ⟨v, rfl, ho, hB⟩ := h
  obtain ⟨q, cp, rfl⟩ := own_form ho
  rw [range_frames] at ho
  exact ⟨q, cp, rfl, ks_of_own ho, hB⟩
theorem stakek_any (s : ByteArray) (w : World) (hsz : s.size ≤ 1048576) : Calls Tryd.prog 8 #[.string s] w (MadeTK s w) := (stakeframes_any s w hsz).mono fun _ _ => tk_of
theorem takek_any (s : ByteArray) (w : World) (hsz : s.size ≤ 1048576) (hT : TabsC w) : Calls Tryd.prog 9 #[.string s] w (MadeTK s w) := (takeframes_any s w hsz hT).mono fun _ _ => tk_of

set_option maxHeartbeats 8000000 in
theorem fnExactTakeFrames_walk (s : ByteArray) (w : World) (hs : s.size ≤ maxLen) (hT : TabsC w) :
    Calls Tryd.prog 4 #[.string s] w fun e w' => e = .returned (.bool true) ∧ Below w.heap.size w w' := by
  have HT := Lib.hid hT
  unfold maxLen at hs
  by_cases hbig : (1048576 : Int) < (s.size : Int)
  · go_enter Tryd.func4, Tryd.ntmps4
    go_wp2
    go_ret
    exact ⟨rfl, Below.refl _ _⟩
  have hsz : s.size ≤ 1048576 := by omega
  obtain ⟨n, hn⟩ : ∃ n, (frL s).length = n := ⟨_, rfl⟩
  have hfew : n ≤ 131072 := by have := frL_few s; omega
  have hnm : n ≤ maxLen := by unfold maxLen; omega
  have hn40 : 1 + n ≤ 1099511627776 := by omega
  have HN := Lib.hid hn
  have HSH := Lib.hid (frames_short s)
  obtain ⟨W, hW⟩ : ∃ W, frL s = W := ⟨_, rfl⟩
  rw [hW] at HN HSH
  obtain ⟨z, hz⟩ : ∃ z : Int, ((endK s n : Nat) : Int) = z := ⟨_, rfl⟩
  have HZ := Lib.hid hz
  have HL := Lib.hid hn
  have HW := Lib.hid hW
  have HTK := Lib.hid (fun wx => stakek_any s wx hsz)
  have HTI := Lib.hid (fun wx (hb : Below w.heap.size w wx) => takek_any s wx hsz (HT.out.keep hb))
  unfold MadeTK at HTK HTI
  rw [hn, hz, hW] at HTK HTI
  clear hT hn hW hz hsz
  go_enter Tryd.func4, Tryd.ntmps4
  go_wp2_with fail
  refine (HTK.out _).mono ?_
  rintro e w3 ⟨q0, cp0, rfl, h0, hB⟩
  have H0 := Lib.hid h0
  have HB := Lib.hid hB
  have HLT0 := Lib.hid (show 0 < n → ∀ g, q0 = some ⟨g, 0, none⟩ → g < w3.heap.size from fun hp g hg => (ks_lt h0 (by rw [HN.out]; exact hp) g hg).2)
  clear h0 hB
  go_wp2_with fail
  refine (HTI.out _ HB.out).mono ?_
  rintro e w5 ⟨q1, cp1, rfl, h1, hB⟩
  have H1 := Lib.hid h1
  have HGT1 := Lib.hid (show 0 < n → ∀ g, q1 = some ⟨g, 0, none⟩ → w3.heap.size ≤ g from fun hp g hg => (ks_lt h1 (by rw [HN.out]; exact hp) g hg).1)
  have H0 := Lib.hid (ks_keep H0.out hB)
  have HZ3 := Lib.hid HB.out.size
  have HB := Lib.hid (below_via HB.out hB)
  clear h1 hB
  go_wp2_with fail
  refine (eqstrs_same _ _ _ _ _ _ _ (strs_of_ks H1.out HN.out hnm HSH.out) (strs_of_ks H0.out HN.out hnm HSH.out)).mono ?_
  rintro e w6 ⟨rfl, hB⟩
  have H1 := Lib.hid (ks_keep H1.out hB)
  have H0 := Lib.hid (ks_keep H0.out hB)
  have HB := Lib.hid (below_via HB.out hB)
  clear hB
  go_wp2_with fail
  by_cases hn0 : n = 0
  · subst hn0
    refine (mark_none q1 cp1 1 _).mono ?_
    rintro e wb ⟨rfl, rfl⟩
    go_wp2_with fail
    refine (held_none q1 cp1 1 _).mono ?_
    rintro e wb ⟨rfl, rfl⟩
    go_wp2_with fail
    refine (HTI.out _ HB.out).mono ?_
    rintro e wc ⟨q2, cp2, rfl, h2, hB⟩
    have H2 := Lib.hid h2
    have H0 := Lib.hid (ks_keep H0.out hB)
    have HB := Lib.hid (below_via HB.out hB)
    clear h2 hB
    go_wp2_with fail
    refine (eqstrs_same _ _ _ _ _ _ _ (strs_of_ks H2.out HN.out hnm HSH.out) (strs_of_ks H0.out HN.out hnm HSH.out)).mono ?_
    rintro e wd ⟨rfl, hB⟩
    have HB := Lib.hid (below_via HB.out hB)
    clear hB
    go_wp2_with fail
    refine (held_none q1 cp1 1 _).mono ?_
    rintro e we ⟨rfl, rfl⟩
    go_wp2
    go_ret
    exact ⟨rfl, HB.out⟩
  · have hpos : 0 < n := by omega
    obtain ⟨gb, gc, rfl, hrow, hsz⟩ : ∃ g gc, q1 = some ⟨g, 0, none⟩ ∧ Row w6 g 9 gc ∧ n ≤ gc.size := by
      rcases H1.out with h0 | ⟨g, gc, hq, _, hr, h1, _⟩
      · rw [HN.out] at h0; omega
      · exact ⟨g, gc, hq, hr, by rw [← HN.out]; exact h1⟩
    have hBg : w3.heap.size ≤ gb := HGT1.out hpos gb rfl
    have HNE := Lib.hid (show 0 < n → ∀ g', q0 = some ⟨g', 0, none⟩ → g' ≠ gb from fun hp g' hg' => by have := HLT0.out hp g' hg'; omega)
    have HGG := Lib.hid (show w.heap.size ≤ gb by have := HZ3.out; omega)
    refine (markstrs_any gb n cp1 1 _ _ gc _ hrow rfl hsz (Nat.le_refl 1) hn40).mono ?_
    clear hrow hsz hBg
    obtain ⟨mm, hm⟩ : ∃ m, 1 + n = m := ⟨_, rfl⟩
    rintro e wb ⟨he, hg, gc1, hr1, _, hmk⟩
    rw [hm] at he
    subst he
    have H0 := Lib.hid (ks_grown H0.out hg (by rw [HN.out]; exact HNE.out))
    have HB := Lib.hid (HB.out.grown hg HB.out.size (fun k hk => by cases hk; exact HGG.out))
    have HRW := Lib.hid hr1
    have HM := Lib.hid hmk
    have HMM := Lib.hid hm
    clear hg hr1 hmk hm
    go_wp2_with fail
    refine (heldstrs_any gb n cp1 1 _ gc1 _ HRW.out HM.out (Nat.le_refl 1) hn40).mono ?_
    rintro e wc ⟨he, hB⟩
    rw [HMM.out] at he
    subst he
    have H0 := Lib.hid (ks_keep H0.out hB)
    have HRW := Lib.hid (HRW.out.keep hB)
    have HB := Lib.hid (below_via HB.out hB)
    clear hB
    go_wp2_with fail
    refine (HTI.out _ HB.out).mono ?_
    rintro e we ⟨q2, cp2, rfl, h2, hB⟩
    have H2 := Lib.hid h2
    have H0 := Lib.hid (ks_keep H0.out hB)
    have HRW := Lib.hid (HRW.out.keep hB)
    have HB := Lib.hid (below_via HB.out hB)
    clear h2 hB
    go_wp2_with fail
    refine (eqstrs_same _ _ _ _ _ _ _ (strs_of_ks H2.out HN.out hnm HSH.out) (strs_of_ks H0.out HN.out hnm HSH.out)).mono ?_
    rintro e wf ⟨rfl, hB⟩
    have HRW := Lib.hid (HRW.out.keep hB)
    have HB := Lib.hid (below_via HB.out hB)
    clear hB
    go_wp2_with fail
    refine (heldstrs_any gb n cp1 1 _ gc1 _ HRW.out HM.out (Nat.le_refl 1) hn40).mono ?_
    rintro e wg ⟨he, hB⟩
    rw [HMM.out] at he
    subst he
    have HB := Lib.hid (below_via HB.out hB)
    clear hB
    go_wp2
    go_ret
    exact ⟨rfl, HB.out⟩
end Go.Proofs.YthndoimblfccbaaDoor
