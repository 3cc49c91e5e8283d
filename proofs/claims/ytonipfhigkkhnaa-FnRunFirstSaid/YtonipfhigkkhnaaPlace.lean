
/- A place below n, from the bytes of a drawing code. Nothing is written. -/
import Derived.Test.YtonipfhigkkhnaaDraw2
namespace Go.Proofs.Ytonipfhigkkhnaa
open Go.ChangeShapes Go.WideShapes Go.ChangeAt Go.RowKit
set_option linter.unusedVariables false
set_option maxRecDepth 100000

set_option maxHeartbeats 1000000 in
theorem place_any (n : Nat) (w : World) (a : Option Addr) (len cap : Nat) (h : Src w a len) (h1 : 1 ≤ n) (h2 : n ≤ 1048576) :
    Calls Try.prog 43 #[.int .i64 n, .slice a len cap] w (PureInt 0 ((n : Int) - 1) w) := by
  have S := Lib.hid h
  clear h
  have gz : ((n : Int) == 0) = false := by simp; omega
  go_enter Try.func43, Try.ntmps43
  go_wp2_with fail
  refine (byteof_any _ _ _ _ _ S.out (by decide) (by decide)).mono ?_
  rintro e w1 ⟨x, hx1, hx2, rfl, rfl⟩
  go_wp2_with fail
  refine (byteof_any _ _ _ _ _ S.out (by decide) (by decide)).mono ?_
  rintro e w1 ⟨y, hy1, hy2, rfl, rfl⟩
  go_wp2
  have e1 := Int.emod_nonneg (x * 256 + y) (show (n : Int) ≠ 0 by omega)
  have e2 := Int.emod_lt_of_pos (x * 256 + y) (show (0 : Int) < (n : Int) by omega)
  go_ret
  exact ⟨_, e1, by omega, rfl, rfl⟩
end Go.Proofs.Ytonipfhigkkhnaa
