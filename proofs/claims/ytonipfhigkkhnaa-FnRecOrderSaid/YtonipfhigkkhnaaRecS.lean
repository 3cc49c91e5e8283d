
/- RecLess of the model: exact answer; only new blocks are made. -/
import Derived.Test.YtonipfhigkkhnaaRec
namespace Go.Proofs.Ytonipfhigkkhnaa
open Go.ChangeShapes Go.WideShapes Go.ChangeAt Go.RowKit
set_option linter.unusedVariables false
set_option maxRecDepth 100000

set_option maxHeartbeats 1000000 in
theorem srecless_any (s : ByteArray) (n : Int) (u : ByteArray) (m : Int) (w : World) : Calls Try.prog 25 #[.agg #[.string s, .int .i64 n], .agg #[.string u, .int .i64 m]] w (MadeBool (okB s && okB u && lessB s n u m) w) := by
  by_cases h1 : s.size ≤ 40
  · have k1 := okB_yes h1
    clear h1
    by_cases h2 : u.size ≤ 40
    · have k2 := okB_yes h2
      clear h2
      go_enter Try.func25, Try.ntmps25
      go_wp2_with (first | (go_at_call 27; (with_reducible refine (srecok_any s n _).mono ?_); rintro e w1 ⟨rfl, hB⟩; have hc1 := bcell hB; have hz1 : w.heap.size + 1 < w1.heap.size := (by have := hB.size; simp at this; omega); have hz0 : w.heap.size < w1.heap.size := (by omega); have HB1 := Lib.hid (below_via (below_alloc (below_alloc (Below.refl _ _) _) _) hB); clear hB) | (go_at_call 27; (with_reducible refine (srecok_any u m _).mono ?_); rintro e w2 ⟨rfl, hB⟩; have hc2 := bcell hB; have HB2 := Lib.hid (below_via HB1.out hB); clear hB) | (go_at_call 69; refine (l2less_any s n u m _).mono ?_; rintro e w3 ⟨rfl, hB⟩; have HB3 := Lib.hid (below_via HB2.out hB); clear hB))
      go_ret
      exact ⟨ret_bool (by rw [k1, k2]; rfl), HB3.out⟩
    · have k2 := okB_no h2
      clear h2
      go_enter Try.func25, Try.ntmps25
      go_wp2_with (first | (go_at_call 27; (with_reducible refine (srecok_any s n _).mono ?_); rintro e w1 ⟨rfl, hB⟩; have hc1 := bcell hB; have hz1 : w.heap.size + 1 < w1.heap.size := (by have := hB.size; simp at this; omega); have hz0 : w.heap.size < w1.heap.size := (by omega); have HB1 := Lib.hid (below_via (below_alloc (below_alloc (Below.refl _ _) _) _) hB); clear hB) | (go_at_call 27; (with_reducible refine (srecok_any u m _).mono ?_); rintro e w2 ⟨rfl, hB⟩; have hc2 := bcell hB; have HB2 := Lib.hid (below_via HB1.out hB); clear hB) | (go_at_call 69; refine (l2less_any s n u m _).mono ?_; rintro e w3 ⟨rfl, hB⟩; have HB3 := Lib.hid (below_via HB2.out hB); clear hB))
      go_ret
      exact ⟨ret_bool (by rw [k1, k2]; rfl), HB2.out⟩
  · have k1 := okB_no h1
    clear h1
    go_enter Try.func25, Try.ntmps25
    go_wp2_with (go_at_call 27; refine (srecok_any _ _ _).mono ?_; rintro e w1 ⟨rfl, hB⟩; have HB := Lib.hid hB; clear hB)
    go_ret
    exact ⟨ret_bool (by rw [k1]; rfl), below_via (below_alloc (below_alloc (Below.refl _ _) _) _) HB.out⟩
end Go.Proofs.Ytonipfhigkkhnaa
