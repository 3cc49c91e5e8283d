
/- A drawn text for HashOf, and a byte of a drawing code: only new blocks are made. -/
import Derived.Test.YtldjahemgkkpbaaDraw1
namespace Go.Proofs.Ytldjahemgkkpbaa
open Go.ChangeShapes Go.WideShapes Go.ChangeAt Go.RowKit
set_option linter.unusedVariables false
set_option maxRecDepth 100000

/-- What is drawn: a text of at most m bytes. -/
def DrewStr (m : Nat) (w : World) (e : Ending) (w' : World) : Prop := ∃ s : ByteArray, s.size ≤ m ∧ e = .returned (.string s) ∧ Below w.heap.size w w'

/-- The end of a function that returns a number from lo to hi and does nothing else. -/
def PureInt (lo hi : Int) (w : World) (e : Ending) (w' : World) : Prop := ∃ x : Int, lo ≤ x ∧ x ≤ hi ∧ e = .returned (.int .i64 x) ∧ w = w'

set_option maxHeartbeats 1000000 in
theorem byteof_any (i : Int) (w : World) (a : Option Addr) (len cap : Nat) (h : Src w a len) (h1 : 0 ≤ i) (h2 : i ≤ 1048576) :
    Calls Try.prog 15 #[.slice a len cap, .int .i64 i] w (PureInt 0 255 w) := by
  obtain ⟨hm, hsrc⟩ := h
  unfold maxLen at hm
  rcases hsrc with h0 | ⟨b, off, rfl, hb, hc⟩
  · subst h0
    go_enter Try.func15, Try.ntmps15
    go_wp2
    go_ret
    exact ⟨_, by omega, by omega, rfl, rfl⟩
  · by_cases h0 : len = 0
    · subst h0
      go_enter Try.func15, Try.ntmps15
      go_wp2
      go_ret
      exact ⟨_, by omega, by omega, rfl, rfl⟩
    · obtain ⟨k, hk⟩ : ∃ k : Nat, i % (len : Int) = k := ⟨(i % (len : Int)).toNat, (Int.toNat_of_nonneg (Int.emod_nonneg _ (by omega))).symm⟩
      have hkl : k < len := by have := Int.emod_lt_of_pos i (show (0 : Int) < len by omega); omega
      obtain ⟨z, hz1, hz2⟩ := hc k hkl
      have gz : ((len : Int) == 0) = false := by simp; omega
      clear hc hb h0
      go_enter Try.func15, Try.ntmps15
      go_wp2
      go_ret
      exact ⟨_, by omega, by omega, rfl, rfl⟩
end Go.Proofs.Ytldjahemgkkpbaa
