
/- Drawn texts of commands, and what the law on commands wants of texts. -/
import Derived.Test.YtcmbaclkfnecbaaDoorDrawCm4
namespace Go.Proofs.YtcmbaclkfnecbaaDoor
open Go.ChangeShapes Go.WideShapes Go.ChangeAt Go.RowKit
set_option linter.unusedVariables false
set_option maxRecDepth 100000

theorem grown_belowC {w a b : World} {row : Option Nat} (hg : w.grownBy a row) (hB : Below a.heap.size a b) : w.grownBy b row :=
  ⟨hB.os.trans hg.os, hB.tape.trans hg.tape, hB.output.trans hg.output, Nat.le_trans hg.size hB.size, fun i hi hne => (hB.block i (Nat.lt_of_lt_of_le hi hg.size)).trans (hg.block i hi hne)⟩
theorem cmdTx_size (k : Int) (b : ByteArray) (v : Int) (d : ByteArray) : (cmdTx k b v d).size ≤ 70000 := by
  cases hc : cmdB k b v d with
  | false => unfold cmdTx; rw [hc]; exact Nat.zero_le _
  | true =>
    have h1 := rcmd_to hc rfl
    have e : cmdTx k b v d = cmdTo k b v d := by unfold cmdTx; rw [if_pos hc]
    rw [e]
    rcases Nat.lt_or_ge 70000 (cmdTo k b v d).size with h | h
    · rw [rcmd_long h] at h1; cases h1
    · exact h
theorem cmdTx_back {s : ByteArray} {k v : Int} {b d : List UInt8} (h : rcmd s.data.toList = some (k, b, v, d)) : cmdTx k (ba b) v (ba d) = s := by
  unfold rcmd at h
  split at h
  · rename_i k' b' v' d' hp
    split at h
    · rename_i hc
      simp only [Option.some.injEq, Prod.mk.injEq] at h
      obtain ⟨rfl, rfl, rfl, rfl⟩ := h
      unfold cmdTx
      rw [if_pos hc]
      exact ba_eq (pieces_to hp)
    · cases h
  · cases h
theorem cmdTx_way (k : Int) (b : ByteArray) (v : Int) (d : ByteArray) : (cmdB k b v d = false ∧ rcmd (cmdTx k b v d).data.toList = none) ∨ (cmdB k b v d = true ∧ rcmd (cmdTx k b v d).data.toList = some (k, b.data.toList, v, d.data.toList)) := by
  cases hc : cmdB k b v d with
  | false =>
    left
    refine ⟨rfl, ?_⟩
    unfold cmdTx
    rw [hc]
    rfl
  | true =>
    right
    refine ⟨rfl, ?_⟩
    have e : cmdTx k b v d = cmdTo k b v d := by unfold cmdTx; rw [if_pos hc]
    rw [e]
    exact rcmd_to hc rfl

def DrewCt (m : Nat) (w : World) (e : Ending) (w' : World) : Prop := ∃ s : ByteArray, s.size ≤ m ∧ e = .returned (.string s) ∧ Below w.heap.size w w'
set_option maxHeartbeats 2000000 in
theorem drawreadcmd_any (w : World) (a : Option Addr) (len cap : Nat) (h : Src w a len) :
    Calls Tryd.prog 24 #[.slice a len cap] w (DrewCt 70001 w) := by
  have H := Lib.hid h
  clear h
  go_enter Tryd.func24, Tryd.ntmps24
  go_wp2_with fail
  refine (open_any _ _ _ _ H.out).mono ?_
  rintro e w1 ⟨rfl, hb, hr⟩
  have HB := Lib.hid hb
  have HR := Lib.hid hr
  clear hb hr
  go_wp2_with fail
  refine (drawcmd_any _ _ _ _ _ HR.out).mono ?_
  rintro e w2 ⟨k, b, v, d, hb, hd, rfl, hw⟩
  have HW := Lib.hid hw
  have HS := Lib.hid (And.intro hb hd)
  clear hb hd hw
  go_wp2_with fail
  refine (scmdtext_any k b v d _ (by have := HS.out.1; unfold maxLen; omega) (by have := HS.out.2; unfold maxLen; omega)).mono ?_
  rintro e w3 ⟨rfl, hb⟩
  have HW := Lib.hid (show Went w1 w.heap.size a len cap w3 from ⟨grown_belowC HW.out.grown hb, HW.out.rdr.below (hb.mono (Nat.succ_le_of_lt HW.out.rdr.lt))⟩)
  have HZ := Lib.hid (cmdTx_size k b v d)
  generalize cmdTx k b v d = s at HZ ⊢
  clear hb
  by_cases hl : (2000 : Int) < (s.size : Int)
  · go_wp2
    go_ret
    exact ⟨s, Nat.le_trans HZ.out (by decide), rfl, HW.out.under HB.out (Nat.le_refl _) HB.out.size⟩
  have HL := Lib.hid (show s.size ≤ 2000 by omega)
  go_wp2_with fail
  refine (below_any _ _ _ _ _ _ HW.out.rdr (by decide) (by decide)).mono ?_
  rintro e w4 ⟨⟨x, hx1, hx2, rfl⟩, hw⟩
  have HW := Lib.hid (HW.out.trans hw)
  clear hw
  by_cases e0 : x = 0
  · subst e0
    go_wp2_with fail
    refine (hurt_any s 2000 _ _ _ _ _ HW.out.rdr HL.out (by decide)).mono ?_
    rintro e w5 ⟨⟨t, ht, rfl⟩, hw⟩
    have HW := Lib.hid (HW.out.trans hw)
    have HT := Lib.hid ht
    clear hw ht
    go_wp2_with fail
    go_ret
    exact ⟨t, Nat.le_trans HT.out (by decide), rfl, HW.out.under HB.out (Nat.le_refl _) HB.out.size⟩
  by_cases e1 : x = 1
  · subst e1
    go_wp2_with fail
    refine (below_any _ _ _ _ _ _ (HW.out.rdr.alloc _) (by decide) (by decide)).mono ?_
    rintro e w5 ⟨⟨j, hj1, hj2, rfl⟩, hw⟩
    obtain ⟨t, ht, hct⟩ := tab_cell (m := 20) (hw.block (k := w4.heap.size) (heap_alloc_new _ _) (Nat.ne_of_gt HW.out.rdr.lt)) (by decide) j hj1 (by show j < 10; omega)
    have HW := Lib.hid ((HW.out.alloc _).trans hw)
    have HT := Lib.hid ht
    clear hw ht
    go_wp2_with fail
    go_ret
    exact ⟨t, Nat.le_trans HT.out (by decide), rfl, HW.out.under HB.out (Nat.le_refl _) HB.out.size⟩
  · have n0 : (x == 0) = false := by rw [beq_eq_false_iff_ne]; exact e0
    have n1 : (x == 1) = false := by rw [beq_eq_false_iff_ne]; exact e1
    go_wp2
    go_ret
    exact ⟨s, Nat.le_trans HZ.out (by decide), rfl, HW.out.under HB.out (Nat.le_refl _) HB.out.size⟩
end Go.Proofs.YtcmbaclkfnecbaaDoor
