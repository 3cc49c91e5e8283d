
/- A drawn text for HashOf, and a byte of a drawing code: only new blocks are made. -/
import Derived.Test.YthnlllbanfemaaaGreatDoorMg7
namespace Go.Proofs.YthnlllbanfemaaaGreatDoor
open Go.ChangeShapes Go.WideShapes Go.ChangeAt Go.RowKit
set_option linter.unusedVariables false
set_option maxRecDepth 100000

/-- What is drawn: a text of at most m bytes. -/
def DrewStr (m : Nat) (w : World) (e : Ending) (w' : World) : Prop := ∃ s : ByteArray, s.size ≤ m ∧ e = .returned (.string s) ∧ Below w.heap.size w w'

set_option maxHeartbeats 1000000 in
theorem drawhash_any (w : World) (a : Option Addr) (len cap : Nat) (h : Src w a len) :
    Calls Tryz.prog 34 #[.slice a len cap] w (DrewStr 6 w) := by
  have H := Lib.hid h
  clear h
  go_enter Tryz.func34, Tryz.ntmps34
  go_wp2_with (first | (go_at_call 47; refine (open_any _ _ _ _ H.out).mono ?_; rintro e w1 ⟨rfl, hb, hr⟩; have HB := Lib.hid hb; have HR := Lib.hid hr; clear hb hr) | (go_at_call 51; refine (word1_any _ _ _ _ _ HR.out).mono ?_; rintro e w2 ⟨⟨s, hs, rfl⟩, hw⟩; have HS := Lib.hid hs; have HW := Lib.hid hw; clear hs hw) | (go_at_call 59; refine (hurt_any _ 5 _ _ _ _ _ HW.out.rdr HS.out (by decide)).mono ?_; rintro e w3 ⟨⟨u, hu, rfl⟩, hw⟩; have HU := Lib.hid hu; have HW2 := Lib.hid (HW.out.trans hw); clear hu hw))
  go_ret
  exact ⟨u, HU.out, rfl, HW2.out.under HB.out (Nat.le_refl _) HB.out.size⟩

/-- The end of a function that returns a number from lo to hi and does nothing else. -/
def PureInt (lo hi : Int) (w : World) (e : Ending) (w' : World) : Prop := ∃ x : Int, lo ≤ x ∧ x ≤ hi ∧ e = .returned (.int .i64 x) ∧ w = w'

end Go.Proofs.YthnlllbanfemaaaGreatDoor
