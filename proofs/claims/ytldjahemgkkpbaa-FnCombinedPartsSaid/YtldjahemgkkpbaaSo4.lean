
/- The library's choice of a pivot over such a row: a place in the range; only a counter of its own turns. -/
import Derived.Test.YtldjahemgkkpbaaSo0
namespace Go.Proofs.Ytldjahemgkkpbaa
open Go.ChangeShapes Go.WideShapes Go.ChangeAt Go.RowKit Go.Lib
set_option linter.unusedVariables false
set_option maxRecDepth 100000
variable {R : RA → World → Prop} {ra : Option Addr} {rl rc n B : Nat}

/-- Block c holds a count of at most K. -/
def Cnt (c K : Nat) (w : World) : Prop := ∃ s : Nat, s ≤ K ∧ w.cell? ⟨c, 0, none⟩ = some (.int .i64 s) ∧ w.frozen? ⟨c, 0, none⟩ = false
theorem Cnt.keep {c K B : Nat} {w w' : World} (h : Cnt c K w) (hB : B ≤ c) (k : KeepB B w w') : Cnt c K w' := by
  obtain ⟨s, hs, hc, hf⟩ := h
  have hl : c < w.heap.size := World.block_lt_of_cell? _ _ hc
  exact ⟨s, hs, (k.2 c 0 hB hl).1.trans hc, (k.2 c 0 hB hl).2.trans hf⟩
def Two (R : RA → World → Prop) (V : RA) (c K lo up : Nat) (e : Ending) (w' : World) : Prop :=
  ∃ x y : Nat, e = .returned (.tuple #[.int .i64 x, .int .i64 y]) ∧ lo ≤ x ∧ x < up ∧ lo ≤ y ∧ y < up ∧ R V w' ∧ Cnt c K w'
def One (R : RA → World → Prop) (V : RA) (c K lo up : Nat) (e : Ending) (w' : World) : Prop :=
  ∃ x : Nat, e = .returned (.int .i64 x) ∧ lo ≤ x ∧ x < up ∧ R V w' ∧ Cnt c K w'

set_option maxHeartbeats 1000000 in
theorem order2_any (S : SortRow R ra rl rc n B) (c K lo up i j : Nat) (V : RA) (w : World) (h : R V w) (hc : Cnt c K w) (hB : B ≤ c) (hi0 : lo ≤ i) (hi : i < up) (hj0 : lo ≤ j) (hj : j < up) (hup : up ≤ n) (hn : n < 4611686018427387904) (hK : K < 4611686018427387904) :
    Calls Try.prog 74 #[.iface 51 (.slice ra rl rc), .int .i64 i, .int .i64 j, .pointer (some ⟨c, 0, none⟩)] w (Two R V c (K + 1) lo up) := by
  have m1 := method_less ra rl rc
  have hl := (S.less j i h (by omega) (by omega)).mono (R' := fun e w' => e = .returned (.bool (ltR V[j]! V[i]!)) ∧ R V w' ∧ Cnt c K w') (fun _ _ ⟨he, hR, hk⟩ => ⟨he, hR, hc.keep hB hk⟩)
  clear hc h
  cases hlv : ltR V[j]! V[i]! with
  | true =>
    rw [hlv] at hl
    clear hlv
    go_enter Try.func74, Try.ntmps74
    go_wp2_with fail
    refine hl.mono ?_
    rintro e w' ⟨rfl, hR, s, hs, hc, hf⟩
    have HR := Lib.hid hR
    have hsb : s < 4611686018427387904 := by omega
    clear hR hl
    go_wp2
    go_ret2
    refine ⟨j, i, rfl, hj0, hj, hi0, hi, S.set _ _ _ (HR.out) hB, s + 1, by omega, ?_, ?_⟩
    · rw [World.cell?_setCell_same _ _ _ (by simpa using hc)]; go_num
    · simpa using hf
  | false =>
    rw [hlv] at hl
    clear hlv
    go_enter Try.func74, Try.ntmps74
    go_wp2_with fail
    refine hl.mono ?_
    rintro e w' ⟨rfl, hR, hc⟩
    have HR := Lib.hid hR
    have HC := Lib.hid hc
    clear hR hl hc
    go_wp2
    go_ret2
    obtain ⟨s, hs, h1, h2⟩ := HC.out
    exact ⟨i, j, rfl, hi0, hi, hj0, hj, HR.out, s, by omega, h1, h2⟩

set_option maxHeartbeats 1000000 in
theorem median_any (S : SortRow R ra rl rc n B) (c K lo up x y z : Nat) (V : RA) (w : World) (h : R V w) (hc : Cnt c K w) (hB : B ≤ c) (hx0 : lo ≤ x) (hx : x < up) (hy0 : lo ≤ y) (hy : y < up) (hz0 : lo ≤ z) (hz : z < up) (hup : up ≤ n) (hn : n < 4611686018427387904) (hK : K < 4611686018427387900) :
    Calls Try.prog 72 #[.iface 51 (.slice ra rl rc), .int .i64 x, .int .i64 y, .int .i64 z, .pointer (some ⟨c, 0, none⟩)] w (One R V c (K + 3) lo up) := by
  have hcall := order2_any S c K lo up x y V w h hc hB hx0 hx hy0 hy hup hn (by omega)
  clear h hc
  go_enter Try.func72, Try.ntmps72
  go_wp2_with fail
  refine hcall.mono ?_
  rintro e w1 ⟨x1, y1, rfl, hx10, hx1, hy10, hy1, hR, hC⟩
  have hcall := order2_any S c (K + 1) lo up y1 z V w1 hR hC hB hy10 hy1 hz0 hz hup hn (by omega)
  clear hR hC
  go_wp2_with fail
  refine hcall.mono ?_
  rintro e w2 ⟨y2, z2, rfl, hy20, hy2, hz20, hz2, hR, hC⟩
  have hcall := order2_any S c (K + 1 + 1) lo up x1 y2 V w2 hR hC hB hx10 hx1 hy20 hy2 hup hn (by omega)
  clear hR hC
  go_wp2_with fail
  refine hcall.mono ?_
  rintro e w3 ⟨x3, y3, rfl, hx30, hx3, hy30, hy3, hR, hC⟩
  have HR := Lib.hid hR
  have HC := Lib.hid hC
  clear hR hC hcall
  go_wp2
  go_ret
  exact ⟨y3, rfl, hy30, hy3, HR.out, HC.out⟩

set_option maxHeartbeats 1000000 in
theorem medadj_any (S : SortRow R ra rl rc n B) (c K lo up x : Nat) (V : RA) (w : World) (h : R V w) (hc : Cnt c K w) (hB : B ≤ c) (hx0 : lo + 1 ≤ x) (hx : x + 1 < up) (hup : up ≤ n) (hn : n < 4611686018427387904) (hK : K < 4611686018427387900) :
    Calls Try.prog 71 #[.iface 51 (.slice ra rl rc), .int .i64 x, .pointer (some ⟨c, 0, none⟩)] w (One R V c (K + 3) lo up) := by
  have hcall := median_any S c K lo up (x - 1) x (x + 1) V w h hc hB (by omega) (by omega) (by omega) (by omega) (by omega) hx hup hn hK
  rw [show ((x - 1 : Nat) : Int) = (x : Int) - 1 by omega, show ((x + 1 : Nat) : Int) = (x : Int) + 1 by omega] at hcall
  clear h hc
  go_enter Try.func71, Try.ntmps71
  go_wp2_with fail
  refine hcall.mono ?_
  rintro e w1 ⟨x1, rfl, hx10, hx1, hR, hC⟩
  have HR := Lib.hid hR
  have HC := Lib.hid hC
  clear hR hC hcall
  go_wp2
  go_ret
  exact ⟨x1, rfl, hx10, hx1, HR.out, HC.out⟩

/-- A pivot in the range, and a hint. -/
def Pivot (R : RA → World → Prop) (V : RA) (lo up : Nat) (e : Ending) (w' : World) : Prop :=
  ∃ (p : Nat) (h : Nat), e = .returned (.tuple #[.int .i64 p, .int .i64 h]) ∧ lo ≤ p ∧ p < up ∧ h ≤ 2 ∧ R V w'

set_option maxHeartbeats 2000000 in
theorem pivot_any (S : SortRow R ra rl rc n B) (a b : Nat) (V : RA) (w : World) (h : R V w) (hab : a < b) (hb : b ≤ n) (hn : n < 4611686018427387904) :
    Calls Try.prog 60 #[.iface 51 (.slice ra rl rc), .int .i64 a, .int .i64 b] w (Pivot R V a b) := by
  obtain ⟨c, hcz⟩ : ∃ c, w.heap.size = c := ⟨_, rfl⟩
  have hB : B ≤ c := hcz ▸ S.room h
  have HR := Lib.hid (S.alloc (.cells #[.int .i64 0] 3) h)
  have HC := Lib.hid (show Cnt c 0 (w.alloc (.cells #[.int .i64 0] 3)) from ⟨0, Nat.le_refl _, by subst hcz; rw [World.cell?_alloc_at _ _ _ _ rfl]; rfl, by subst hcz; rw [World.frozen?_alloc_at _ _ _ _ rfl]⟩)
  obtain ⟨I, hI⟩ : ∃ I : Nat, I = a + (b - a) / 4 * 1 := ⟨_, rfl⟩
  obtain ⟨J, hJ⟩ : ∃ J : Nat, J = a + (b - a) / 4 * 2 := ⟨_, rfl⟩
  obtain ⟨K, hK⟩ : ∃ K : Nat, K = a + (b - a) / 4 * 3 := ⟨_, rfl⟩
  have eI : ((a : Int) + ((b : Int) - (a : Int)) / 4) = (I : Int) := by omega
  have eJ : ((a : Int) + ((b : Int) - (a : Int)) / 4 * 2) = (J : Int) := by omega
  have eK : ((a : Int) + ((b : Int) - (a : Int)) / 4 * 3) = (K : Int) := by omega
  have hI0 : a ≤ I ∧ I < b := by omega
  have hJ0 : a ≤ J ∧ J < b := by omega
  have hK0 : a ≤ K ∧ K < b := by omega
  have HZ := Lib.hid hcz
  by_cases h8 : 8 ≤ b - a
  · have h8z : (8 : Int) ≤ (b : Int) - (a : Int) := by omega
    by_cases h50 : 50 ≤ b - a
    · have h50z : (50 : Int) ≤ (b : Int) - (a : Int) := by omega
      have hI1 : a + 1 ≤ I ∧ I + 1 < b := by omega
      have hJ1 : a + 1 ≤ J ∧ J + 1 < b := by omega
      have hK1 : a + 1 ≤ K ∧ K + 1 < b := by omega
      have hc1 := medadj_any S c 0 a b I V _ HR.out HC.out hB hI1.1 hI1.2 hb hn (by omega)
      rw [← hcz] at hc1
      clear hI hJ hK h hcz
      go_enter Try.func60, Try.ntmps60
      go_wp2_with fail
      refine hc1.mono ?_
      rintro e w1 ⟨i1, rfl, hi10, hi1, hR, hC⟩
      rw [HZ.out] at hC
      have hc2 := medadj_any S c (0 + 3) a b J V w1 hR hC hB hJ1.1 hJ1.2 hb hn (by omega)
      rw [← HZ.out] at hc2
      clear hR hC hc1
      go_wp2_with fail
      refine hc2.mono ?_
      rintro e w2 ⟨j1, rfl, hj10, hj1, hR, hC⟩
      rw [HZ.out] at hC
      have hc3 := medadj_any S c (0 + 3 + 3) a b K V w2 hR hC hB hK1.1 hK1.2 hb hn (by omega)
      rw [← HZ.out] at hc3
      clear hR hC hc2
      go_wp2_with fail
      refine hc3.mono ?_
      rintro e w3 ⟨k1, rfl, hk10, hk1, hR, hC⟩
      rw [HZ.out] at hC
      have hc4 := median_any S c (0 + 3 + 3 + 3) a b i1 j1 k1 V w3 hR hC hB hi10 hi1 hj10 hj1 hk10 hk1 hb hn (by omega)
      rw [← HZ.out] at hc4
      clear hR hC hc3
      go_wp2_with fail
      refine hc4.mono ?_
      rintro e w4 ⟨p, rfl, hp0, hp1, hR, s, hs, hC, hF⟩
      have HR := Lib.hid hR
      clear hR hc4
      go_wp2
      all_goals
        go_ret2
        first
          | exact ⟨p, 0, rfl, hp0, hp1, by omega, HR.out⟩
          | exact ⟨p, 1, rfl, hp0, hp1, by omega, HR.out⟩
          | exact ⟨p, 2, rfl, hp0, hp1, by omega, HR.out⟩
    · have h50z : ¬ (50 : Int) ≤ (b : Int) - (a : Int) := by omega
      have hc4 := median_any S c 0 a b I J K V _ HR.out HC.out hB hI0.1 hI0.2 hJ0.1 hJ0.2 hK0.1 hK0.2 hb hn (by omega)
      rw [← hcz] at hc4
      clear hI hJ hK h hcz
      go_enter Try.func60, Try.ntmps60
      go_wp2_with fail
      refine hc4.mono ?_
      rintro e w4 ⟨p, rfl, hp0, hp1, hR, s, hs, hC, hF⟩
      have HR := Lib.hid hR
      clear hR hc4
      go_wp2
      all_goals
        go_ret2
        first
          | exact ⟨p, 0, rfl, hp0, hp1, by omega, HR.out⟩
          | exact ⟨p, 1, rfl, hp0, hp1, by omega, HR.out⟩
          | exact ⟨p, 2, rfl, hp0, hp1, by omega, HR.out⟩
  · have h8z : ¬ (8 : Int) ≤ (b : Int) - (a : Int) := by omega
    clear hI hJ hK h hcz
    go_enter Try.func60, Try.ntmps60
    go_wp2
    all_goals
      go_ret2
      first
        | exact ⟨J, 0, rfl, hJ0.1, hJ0.2, by omega, HR.out⟩
        | exact ⟨J, 1, rfl, hJ0.1, hJ0.2, by omega, HR.out⟩
        | exact ⟨J, 2, rfl, hJ0.1, hJ0.2, by omega, HR.out⟩
end Go.Proofs.Ytldjahemgkkpbaa
