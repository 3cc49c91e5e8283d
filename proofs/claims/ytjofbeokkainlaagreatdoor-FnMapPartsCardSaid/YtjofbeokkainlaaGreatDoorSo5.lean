
/- The library's breaking of patterns over such a row: the records of the range in some order. -/
import Derived.Test.YtjofbeokkainlaaGreatDoorMg28
import Derived.Test.YtjofbeokkainlaaGreatDoorShelf
import Derived.Sort.LotD1
namespace Go.Proofs.YtjofbeokkainlaaGreatDoor
open Go.ChangeShapes Go.WideShapes Go.ChangeAt Go.RowKit Go.Lib
open Go.Sort hiding Below
set_option linter.unusedVariables false
set_option maxRecDepth 100000
variable {R : RA → World → Prop} {ra : Option Addr} {rl rc n B : Nat}

/-- The end of a step that leaves the records of a range in some order. -/
def Mixed (R : RA → World → Prop) (a b : Nat) (V : RA) (e : Ending) (w' : World) : Prop := e = .returned (.tuple #[]) ∧ ∃ V', R V' w' ∧ PermIn a b V V'

def Rnd (c : Nat) (w : World) : Prop := ∃ r : Nat, r < 18446744073709551616 ∧ w.cell? ⟨c, 0, none⟩ = some (.int .u64 r) ∧ w.frozen? ⟨c, 0, none⟩ = false
theorem Rnd.keep {c B : Nat} {w w' : World} (h : Rnd c w) (hB : B ≤ c) (k : KeepB B w w') : Rnd c w' := by
  obtain ⟨s, hs, hc, hf⟩ := h
  have hl : c < w.heap.size := World.block_lt_of_cell? _ _ hc
  exact ⟨s, hs, (k.2 c 0 hB hl).1.trans hc, (k.2 c 0 hB hl).2.trans hf⟩
def NextEnd (R : RA → World → Prop) (V : RA) (c : Nat) (e : Ending) (w' : World) : Prop := ∃ r : Nat, r < 18446744073709551616 ∧ e = .returned (.int .u64 r) ∧ R V w' ∧ Rnd c w'
theorem next_any (S : SortRow R ra rl rc n B) (c : Nat) (V : RA) (w : World) (h : R V w) (hB : B ≤ c) (hc : Rnd c w) :
    Calls Tryz.prog 118 #[.pointer (some ⟨c, 0, none⟩)] w (NextEnd R V c) := by
  obtain ⟨r, hr, h1, h2⟩ := hc
  refine (Tryz.xorshift_Next c 0 r hr w h1 h2).mono ?_
  rintro e w' ⟨rfl, rfl⟩
  refine ⟨_, xorNextN_lt r hr, rfl, S.drewN 3 (S.set _ _ _ h hB), _, xorNextN_lt r hr, ?_, ?_⟩
  · rw [World.cell?_drewN]; exact World.cell?_setCell_same _ _ _ h1
  · rw [World.frozen?_drewN]; simpa using h2

set_option maxHeartbeats 4000000 in
theorem brk_go (S : SortRow R ra rl rc n B) (a L : Nat) (V : RA) (w : World) (h : R V w) (hb : a + L ≤ n) (h8 : 8 ≤ L) (hn : n < 4611686018427387904) :
    Calls Tryz.prog 95 #[.iface 78 (.slice ra rl rc), .int .i64 a, .int .i64 ((a + L : Nat) : Int)] w (Mixed R a (a + L) V) := by
  have m2 := method_swap ra rl rc
  obtain ⟨M, hM⟩ : ∃ M : Nat, 1 <<< bitsLen L = M := ⟨_, rfl⟩
  have hM1 : 1 ≤ M := by rw [← hM, Nat.one_shiftLeft]; exact Nat.two_pow_pos _
  have hM2 : M ≤ 2 * L := by rw [← hM, Nat.one_shiftLeft]; exact two_pow_bitsLen_le (by omega)
  have hNP : Calls Tryz.prog 117 #[.int .i64 (L : Int)] (w.alloc (.cells #[.int .u64 L] 160)) fun e w' => e = .returned (.int .u64 (M : Int)) ∧ w' = w.alloc (.cells #[.int .u64 L] 160) := by
    rw [← hM]; exact Tryz.nextPowerOfTwo L (by omega) _
  clear hM
  obtain ⟨c, hcz⟩ : ∃ c, w.heap.size = c := ⟨_, rfl⟩
  have hB : B ≤ c := hcz ▸ S.room h
  have HR := Lib.hid (S.alloc (.cells #[.int .u64 L] 160) h)
  have HC := Lib.hid (show Rnd c (w.alloc (.cells #[.int .u64 L] 160)) from ⟨L, by omega, by subst hcz; rw [World.cell?_alloc_at _ _ _ _ rfl]; rfl, by subst hcz; rw [World.frozen?_alloc_at _ _ _ _ rfl]⟩)
  have HZ := Lib.hid hcz
  have HV := Lib.hid (S.size h)
  have hLz : ((a : Int) + (L : Int) - (a : Int)) = (L : Int) := by omega
  have h8z : (8 : Int) ≤ (L : Int) := by omega
  clear h hcz
  go_enter Tryz.func95, Tryz.ntmps95
  go_wp2_with (go_at_call 117; refine hNP.mono ?_; rintro e w' ⟨rfl, rfl⟩; clear hNP)
  go_loopw [9] (fun vi wr => ∃ (t : Nat) (dk : RA), vi = .int .i64 ((a : Int) + (L : Int) / 4 * 2 - 1 + (t : Int)) ∧ t ≤ 3 ∧ Hid (R dk wr ∧ PermIn a (a + L) V dk ∧ Rnd c wr)) (fun vi _ => ((a : Int) + (L : Int) / 4 * 2 + 2 - intOf vi).toNat)
  case atStart => exact ⟨0, V, by simp, by omega, HR.out, permIn_refl _ _ _, HC.out⟩
  case round =>
    clear HR HC
    obtain ⟨t, dk, rfl, ht, HO⟩ := hrel
    by_cases ht3 : t < 3
    · have hle : (a : Int) + (L : Int) / 4 * 2 - 1 + (t : Int) ≤ (a : Int) + (L : Int) / 4 * 2 + 1 := by omega
      have hnx := next_any S c dk wr HO.out.1 hB HO.out.2.2
      rw [← HZ.out] at hnx
      go_wp2_with fail
      refine hnx.mono ?_
      rintro e w2 ⟨r, hr, rfl, hR, hC⟩
      rw [HZ.out] at hC
      obtain ⟨O, hO⟩ : ∃ O : Nat, r &&& (M - 1) = O := ⟨_, rfl⟩
      have lO : O ≤ M - 1 := by rw [← hO]; exact Nat.and_le_right
      have eAnd : bits .and .u64 (r : Int) ((M : Int) - 1) = (O : Int) := by
        rw [show ((M : Int) - 1) = ((M - 1 : Nat) : Int) by omega, bits_and_u64_nat _ _ hr (by omega), hO]
      clear hO hnx
      obtain ⟨P, hP⟩ : ∃ P : Nat, (if L ≤ O then O - L else O) = P := ⟨_, rfl⟩
      have hPL : P < L := by rw [← hP]; split <;> omega
      have hsw := (S.swap (a + L / 4 * 2 - 1 + t) (a + P) hR (by omega) (by omega)).mono (R' := fun e w' => e = .returned (.tuple #[]) ∧ R (swp dk (a + L / 4 * 2 - 1 + t) (a + P)) w' ∧ Rnd c w') (fun _ _ ⟨he, hR, hk⟩ => ⟨he, hR, hC.keep hB hk⟩)
      rw [show ((a + L / 4 * 2 - 1 + t : Nat) : Int) = (a : Int) + (L : Int) / 4 * 2 - 1 + (t : Int) by omega] at hsw
      have HP := Lib.hid (permIn_trans _ _ _ a (a + L) HO.out.2.1 (swp_permIn dk a (a + L) (a + L / 4 * 2 - 1 + t) (a + P) (by omega) (by omega) (by omega) (by omega) (by rw [HO.out.2.1.1, HV.out]; exact hb)))
      clear hR hC
      by_cases hLO : L ≤ O
      · have hLOz : (L : Int) ≤ (O : Int) := by omega
        rw [if_pos hLO] at hP
        rw [show ((a + P : Nat) : Int) = (a : Int) + ((O : Int) - (L : Int)) by omega] at hsw
        clear hP
        go_wp2_with fail
        refine hsw.mono ?_
        rintro e w3 ⟨rfl, hR, hC⟩
        have HR := Lib.hid hR
        have HC := Lib.hid hC
        clear hR hC hsw
        go_wp2
        go_roundw
        case rel => exact ⟨t + 1, _, by congr 1; push_cast; omega, by omega, HR.out, HP.out, HC.out⟩
        case measure => simp [intOf]; omega
      · have hLOz : ¬ (L : Int) ≤ (O : Int) := by omega
        rw [if_neg hLO] at hP
        rw [show ((a + P : Nat) : Int) = (a : Int) + (O : Int) by omega] at hsw
        clear hP
        go_wp2_with fail
        refine hsw.mono ?_
        rintro e w3 ⟨rfl, hR, hC⟩
        have HR := Lib.hid hR
        have HC := Lib.hid hC
        clear hR hC hsw
        go_wp2
        go_roundw
        case rel => exact ⟨t + 1, _, by congr 1; push_cast; omega, by omega, HR.out, HP.out, HC.out⟩
        case measure => simp [intOf]; omega
    · have hle : ¬ (a : Int) + (L : Int) / 4 * 2 - 1 + (t : Int) ≤ (a : Int) + (L : Int) / 4 * 2 + 1 := by omega
      go_wp2
      go_end0
      exact ⟨rfl, dk, HO.out.1, HO.out.2.1⟩

set_option maxHeartbeats 1000000 in
theorem brk_any (S : SortRow R ra rl rc n B) (a b : Nat) (V : RA) (w : World) (h : R V w) (hab : a ≤ b) (hb : b ≤ n) (hn : n < 4611686018427387904) :
    Calls Tryz.prog 95 #[.iface 78 (.slice ra rl rc), .int .i64 a, .int .i64 b] w (Mixed R a b V) := by
  obtain ⟨L, rfl⟩ : ∃ L, b = a + L := ⟨b - a, by omega⟩
  by_cases h8 : 8 ≤ L
  · exact brk_go S a L V w h hb h8 hn
  · have hLz : ((a : Int) + (L : Int) - (a : Int)) = (L : Int) := by omega
    have h8z : ¬ (8 : Int) ≤ (L : Int) := by omega
    have HR := Lib.hid h
    clear h
    go_enter Tryz.func95, Tryz.ntmps95
    go_wp2
    go_end0
    exact ⟨rfl, V, HR.out, permIn_refl _ _ _⟩
end Go.Proofs.YtjofbeokkainlaaGreatDoor
