
/- What is drawn for the law FnFrames: a text that begins with frames, and a text. Only new blocks are made. -/
import Derived.Test.YthndoimblfccbaaDoorFrD
import Derived.Test.YthndoimblfccbaaDoorFrJ
import Derived.Test.YthndoimblfccbaaDoorCat
namespace Go.Proofs.YthndoimblfccbaaDoor
open Go.ChangeShapes Go.WideShapes Go.ChangeAt Go.RowKit
set_option linter.unusedVariables false
set_option maxRecDepth 100000

/-- A text of at most m bytes is drawn. -/
def DrewTx (m : Nat) (w : World) (e : Ending) (w' : World) : Prop := ∃ s : ByteArray, s.size ≤ m ∧ e = .returned (.string s) ∧ Below w.heap.size w w'

set_option maxHeartbeats 4000000 in
theorem drawfr_any (w : World) (a : Option Addr) (len cap : Nat) (h : Src w a len) : Calls Tryd.prog 16 #[.slice a len cap] w (DrewTx 1003 w) := by
  have H := Lib.hid h
  clear h
  go_enter Tryd.func16, Tryd.ntmps16
  go_wp2_with fail
  refine (open_any _ _ _ _ H.out).mono ?_
  rintro e w1 ⟨rfl, hb, hr⟩
  have HB := Lib.hid hb
  have HR := Lib.hid hr
  clear hb hr
  go_wp2_with fail
  refine (rdtext_any _ _ _ _ _ HR.out).mono ?_
  rintro e w2 ⟨⟨s, hs, rfl⟩, hw⟩
  have HW := Lib.hid hw
  clear hw
  go_wp2_with fail
  refine (rdbytes_any 5 _ _ _ _ _ HW.out.rdr (by decide) (by decide)).mono ?_
  rintro e w3 ⟨⟨t, ht, rfl⟩, hw⟩
  have HW2 := Lib.hid (HW.out.trans hw)
  clear hw
  have hc : ∀ w, (Op.stringOp .add s t).run Tryd.prog w = .ok (.string (s ++ t)) w := fun w => cat_runp _ _ 200000 (by omega) (by omega)
  go_wp2
  go_ret
  exact ⟨_, by rw [ByteArray.size_append]; omega, rfl, HW2.out.under HB.out (Nat.le_refl _) HB.out.size⟩

set_option maxHeartbeats 4000000 in
theorem drawtf_any (w : World) (a : Option Addr) (len cap : Nat) (h : Src w a len) : Calls Tryd.prog 14 #[.slice a len cap] w (DrewTx 34 w) := by
  have H := Lib.hid h
  clear h
  go_enter Tryd.func14, Tryd.ntmps14
  go_wp2_with fail
  refine (open_any _ _ _ _ H.out).mono ?_
  rintro e w1 ⟨rfl, hb, hr⟩
  have HB := Lib.hid hb
  have HR := Lib.hid hr
  have HRL := Lib.hid hr.lt
  clear hb hr
  go_wp2_with fail
  refine (below_any _ _ _ _ _ _ HR.out (by decide) (by decide)).mono ?_
  rintro e w2 ⟨⟨x, hx1, hx2, rfl⟩, hw⟩
  have HW := Lib.hid hw
  clear hw
  go_wp2_with fail
  go_loopw [4, 5] (fun v i wr => ∃ (k : Nat) (T : ByteArray), i = .int .i64 k ∧ v = .string T ∧ T.size + 11 * k ≤ 33 ∧ Hid (Went w1 w.heap.size a len cap wr)) (fun _ i _ => (intOf i).toNat)
  case atStart => exact ⟨x.toNat, _, by rw [Int.toNat_of_nonneg hx1], rfl, by show 0 + _ ≤ _; omega, HW.out⟩
  case round =>
    obtain ⟨k, T, rfl, rfl, hk3, HS⟩ := hrel
    clear HW
    by_cases hk : 0 < k
    · go_wp2_with fail
      refine (rdtext_any _ _ _ _ _ HS.out.rdr).mono ?_
      rintro e w3 ⟨⟨d, hd, rfl⟩, hw⟩
      have HS2 := Lib.hid (HS.out.trans hw)
      clear hw HS
      go_wp2_with fail
      refine (sframeof_any d _ (by unfold maxLen; omega)).mono ?_
      rintro e w4 ⟨rfl, hB⟩
      have HS3 := Lib.hid (HS2.out.more (belowGrow hB none) HRL.out (fun k hk => by cases hk))
      have hfl := frTx_len (d := d) (by omega)
      obtain ⟨F, hF⟩ : ∃ F, frTx d = F := ⟨_, rfl⟩
      rw [hF] at hfl ⊢
      clear hB HS2 hF
      have hc : ∀ w, (Op.stringOp .add T F).run Tryd.prog w = .ok (.string (T ++ F)) w := fun w => cat_runp _ _ 200000 (by omega) (by omega)
      go_wp2
      go_roundw
      case rel => exact ⟨k - 1, T ++ F, by go_num, rfl, by rw [ByteArray.size_append]; omega, HS3⟩
      case measure => simp [intOf]; omega
    · obtain rfl : k = 0 := by omega
      go_wp2_with fail
      refine (hurt_any T 33 _ _ _ _ _ HS.out.rdr (by omega) (by omega)).mono ?_
      rintro e w3 ⟨⟨d, hd, rfl⟩, hw⟩
      have HS2 := Lib.hid (HS.out.trans hw)
      clear hw HS
      go_wp2
      go_ret
      exact ⟨_, hd, rfl, HS2.out.under HB.out (Nat.le_refl _) HB.out.size⟩
end Go.Proofs.YthndoimblfccbaaDoor
