/- The exact laws on RecOk and RecLess, walked: for every record (every two records) whose key is a text that may be read they return true and only make new blocks. -/
import Derived.Test.YtbcdinjlpgfoiaaRec
namespace Go.Proofs.Ytbcdinjlpgfoiaa
open Go.ChangeShapes Go.WideShapes Go.ChangeAt Go.RowKit
set_option linter.unusedVariables false

set_option maxHeartbeats 1000000 in
theorem fnExactRecOk_walk (s : ByteArray) (n : Int) (w : World) (hs : s.size ≤ maxLen) :
    Calls Try.prog 13 #[.agg #[.string s, .int .i64 n]] w fun e w' => e = .returned (.bool true) ∧ Below w.heap.size w w' := by
  by_cases h : (1048576 : Int) < s.size
  · have k : sz1 1048576 s = -1 := if_pos h
    clear h
    go_enter Try.func13, Try.ntmps13
    go_wp2_with (go_at_call 43; refine (szrec_any _ _ _ _ hs (by decide) (by decide)).mono ?_; rw [k]; rintro e w1 ⟨rfl, hB⟩; have HB1 := Lib.hid (below_via (below_alloc (Below.refl _ _) _) hB); clear hB)
    go_ret
    exact ⟨rfl, HB1.out⟩
  · have k : sz1 1048576 s = 1048576 - s.size := if_neg h
    have g : ¬ (1048576 : Int) - s.size < 0 := by omega
    have g2 : ¬ (1048576 : Int) < s.size := h
    clear h
    have HB := Lib.hid (below_alloc (Below.refl w.heap.size w) (.cells #[.string s, .int .i64 n] 50))
    have HX := Lib.hid (Box2.new w (.string s) (.int .i64 n) 50)
    go_enter Try.func13, Try.ntmps13
    go_wp2_with (first | (go_at_call 43; refine (szrec_any _ _ _ _ hs (by decide) (by decide)).mono ?_; rw [k]; rintro e w1 ⟨rfl, hB⟩; have HB := Lib.hid (below_via HB.out hB); have HX := Lib.hid (HX.out.keep hB); have c0 := HX.out.c0; have c1 := HX.out.c1; clear hB) | (go_at_call 44; refine (torec_any _ _ _).mono ?_; rintro e w1 ⟨rfl, hB⟩; have HB := Lib.hid (below_via HB.out hB); have HX := Lib.hid (HX.out.keep hB); have c0 := HX.out.c0; have c1 := HX.out.c1; clear hB) | (go_at_call 37; refine (srecok_any _ _ _).mono ?_; rintro e w1 ⟨rfl, hB⟩; have HB := Lib.hid (below_via HB.out hB); have HX := Lib.hid (HX.out.keep hB); have c0 := HX.out.c0; have c1 := HX.out.c1; clear hB) | (go_at_call 36; refine (recok_any _ _ _).mono ?_; rintro e w1 ⟨rfl, hB⟩; have HB := Lib.hid (below_via HB.out hB); have HX := Lib.hid (HX.out.keep hB); have c0 := HX.out.c0; have c1 := HX.out.c1; clear hB))
    go_ret
    exact ⟨rfl, HB.out⟩

set_option maxHeartbeats 1000000 in
theorem fnExactRecLess_walk (s : ByteArray) (n : Int) (u : ByteArray) (m : Int) (w : World) (hs : s.size ≤ maxLen) (hu : u.size ≤ maxLen) :
    Calls Try.prog 14 #[.agg #[.string s, .int .i64 n], .agg #[.string u, .int .i64 m]] w fun e w' => e = .returned (.bool true) ∧ Below w.heap.size w w' := by
  have HB := Lib.hid (below_alloc (below_alloc (Below.refl w.heap.size w) (.cells #[.string s, .int .i64 n] 50)) (.cells #[.string u, .int .i64 m] 50))
  have HX := Lib.hid ((Box2.new w (.string s) (.int .i64 n) 50).alloc (.cells #[.string u, .int .i64 m] 50))
  have HY := Lib.hid (Box2.new1 w (.cells #[.string s, .int .i64 n] 50) (.string u) (.int .i64 m) 50)
  by_cases h : (1048576 : Int) < s.size
  · have k : sz1 1048576 s = -1 := if_pos h
    clear h
    go_enter Try.func14, Try.ntmps14
    go_wp2_with (go_at_call 43; refine (szrec_any _ _ _ _ hs (by decide) (by decide)).mono ?_; rw [k]; rintro e w1 ⟨rfl, hB⟩; have HB := Lib.hid (below_via HB.out hB); clear hB)
    go_ret
    exact ⟨rfl, HB.out⟩
  · have k : sz1 1048576 s = 1048576 - s.size := if_neg h
    have g : ¬ (1048576 : Int) - s.size < 0 := by omega
    have g0 : 0 ≤ (1048576 : Int) - s.size := by omega
    have g1 : (1048576 : Int) - s.size ≤ 1048576 := by omega
    clear h
    by_cases h2 : (1048576 : Int) - s.size < u.size
    · have k2 : sz1 (1048576 - s.size) u = -1 := if_pos h2
      clear h2
      go_enter Try.func14, Try.ntmps14
      go_wp2_with (first | (go_at_call 43; (with_reducible refine (szrec_any s n 1048576 _ hs (by decide) (by decide)).mono ?_); rw [k]; rintro e w1 ⟨rfl, hB⟩; have HB := Lib.hid (below_via HB.out hB); have HX := Lib.hid (HX.out.keep hB); have HY := Lib.hid (HY.out.keep hB); have c0 := HX.out.c0; have c1 := HX.out.c1; have d0 := HY.out.c0; have d1 := HY.out.c1; clear hB) | (go_at_call 43; (with_reducible refine (szrec_any u m (1048576 - s.size) _ hu g0 g1).mono ?_); rw [k2]; rintro e w1 ⟨rfl, hB⟩; have HB := Lib.hid (below_via HB.out hB); have HX := Lib.hid (HX.out.keep hB); have HY := Lib.hid (HY.out.keep hB); have c0 := HX.out.c0; have c1 := HX.out.c1; have d0 := HY.out.c0; have d1 := HY.out.c1; clear hB))
      go_ret
      exact ⟨rfl, HB.out⟩
    · have k2 : sz1 (1048576 - s.size) u = 1048576 - s.size - u.size := if_neg h2
      have g2 : ¬ (1048576 : Int) - s.size - u.size < 0 := by omega
      clear h2
      go_enter Try.func14, Try.ntmps14
      go_wp2_with (first | (go_at_call 43; (with_reducible refine (szrec_any s n 1048576 _ hs (by decide) (by decide)).mono ?_); rw [k]; rintro e w1 ⟨rfl, hB⟩; have HB := Lib.hid (below_via HB.out hB); have HX := Lib.hid (HX.out.keep hB); have HY := Lib.hid (HY.out.keep hB); have c0 := HX.out.c0; have c1 := HX.out.c1; have d0 := HY.out.c0; have d1 := HY.out.c1; clear hB) | (go_at_call 43; (with_reducible refine (szrec_any u m (1048576 - s.size) _ hu g0 g1).mono ?_); rw [k2]; rintro e w1 ⟨rfl, hB⟩; have HB := Lib.hid (below_via HB.out hB); have HX := Lib.hid (HX.out.keep hB); have HY := Lib.hid (HY.out.keep hB); have c0 := HX.out.c0; have c1 := HX.out.c1; have d0 := HY.out.c0; have d1 := HY.out.c1; clear hB))
      have HB := Lib.hid HB.out.drew
      have HX := Lib.hid (HX.out.keep (Below.refl _ _).drew)
      have HY := Lib.hid (HY.out.keep (Below.refl _ _).drew)
      go_region_held3 (fun w' => Hid (Below w.heap.size w w') ∧ w'.cell? ⟨w.heap.size, 0, none⟩ = some (.string s) ∧ w'.cell? ⟨w.heap.size, 1, none⟩ = some (.int .i64 n) ∧ w'.cell? ⟨w.heap.size + 1, 0, none⟩ = some (.string u) ∧ w'.cell? ⟨w.heap.size + 1, 1, none⟩ = some (.int .i64 m))
        (first | exact ⟨HB, c0, c1, d0, d1⟩ | exact ⟨Lib.hid HB.out.drew, c0, c1, d0, d1⟩)
        (first | (go_at_call 44; (with_reducible refine (torec_any s n _).mono ?_); rintro e w1 ⟨rfl, hB⟩; have HB := Lib.hid (below_via HB.out hB); have HX := Lib.hid (HX.out.keep hB); have HY := Lib.hid (HY.out.keep hB); have c0 := HX.out.c0; have c1 := HX.out.c1; have d0 := HY.out.c0; have d1 := HY.out.c1; clear hB) | (go_at_call 44; (with_reducible refine (torec_any u m _).mono ?_); rintro e w1 ⟨rfl, hB⟩; have HB := Lib.hid (below_via HB.out hB); have HX := Lib.hid (HX.out.keep hB); have HY := Lib.hid (HY.out.keep hB); have c0 := HX.out.c0; have c1 := HX.out.c1; have d0 := HY.out.c0; have d1 := HY.out.c1; clear hB) | (go_at_call 35; refine (srecless_any s n u m _).mono ?_; rintro e w1 ⟨rfl, hB⟩; have HB := Lib.hid (below_via HB.out hB); have HX := Lib.hid (HX.out.keep hB); have HY := Lib.hid (HY.out.keep hB); have c0 := HX.out.c0; have c1 := HX.out.c1; have d0 := HY.out.c0; have d1 := HY.out.c1; clear hB))
      go_wp2_with fail
      have HB := Lib.hid HB.out.drew
      have HX := Lib.hid (HX.out.keep (Below.refl _ _).drew)
      have HY := Lib.hid (HY.out.keep (Below.refl _ _).drew)
      go_region_held3 (fun w' => Hid (Below w.heap.size w w') ∧ w'.cell? ⟨w.heap.size, 0, none⟩ = some (.string s) ∧ w'.cell? ⟨w.heap.size, 1, none⟩ = some (.int .i64 n) ∧ w'.cell? ⟨w.heap.size + 1, 0, none⟩ = some (.string u) ∧ w'.cell? ⟨w.heap.size + 1, 1, none⟩ = some (.int .i64 m))
        (first | exact ⟨HB, c0, c1, d0, d1⟩ | exact ⟨Lib.hid HB.out.drew, c0, c1, d0, d1⟩)
        (first | (go_at_call 44; (with_reducible refine (torec_any s n _).mono ?_); rintro e w1 ⟨rfl, hB⟩; have HB := Lib.hid (below_via HB.out hB); have HX := Lib.hid (HX.out.keep hB); have HY := Lib.hid (HY.out.keep hB); have c0 := HX.out.c0; have c1 := HX.out.c1; have d0 := HY.out.c0; have d1 := HY.out.c1; clear hB) | (go_at_call 44; (with_reducible refine (torec_any u m _).mono ?_); rintro e w1 ⟨rfl, hB⟩; have HB := Lib.hid (below_via HB.out hB); have HX := Lib.hid (HX.out.keep hB); have HY := Lib.hid (HY.out.keep hB); have c0 := HX.out.c0; have c1 := HX.out.c1; have d0 := HY.out.c0; have d1 := HY.out.c1; clear hB) | (go_at_call 34; refine (recless_any s n u m _).mono ?_; rintro e w1 ⟨rfl, hB⟩; have HB := Lib.hid (below_via HB.out hB); have HX := Lib.hid (HX.out.keep hB); have HY := Lib.hid (HY.out.keep hB); have c0 := HX.out.c0; have c1 := HX.out.c1; have d0 := HY.out.c0; have d1 := HY.out.c1; clear hB))
      go_wp2
      go_ret
      exact ⟨rfl, HB.out⟩
end Go.Proofs.Ytbcdinjlpgfoiaa
