
/- What RunOk computes in the program: whether a list is a run, by recsOk and the library's IsSorted. Only new blocks are made. -/
import Derived.Test.YtldjahemgkkpbaaRuns3
namespace Go.Proofs.Ytldjahemgkkpbaa
open Go.ChangeShapes Go.WideShapes Go.ChangeAt Go.RowKit
set_option linter.unusedVariables false
set_option maxRecDepth 100000

def recsOkB (l : Recs) : Bool := decide (l.length ≤ 600) && (List.range l.length).all fun i => okAt l i
theorem recsOk_long {l : Recs} (h : ¬ l.length ≤ 600) : recsOkB l = false := by
  unfold recsOkB; rw [decide_eq_false h]; rfl
theorem recsOk_inv {l : Recs} {i : Nat} (hi : i < l.length) (h : okAt l i = false) : recsOkB l = false := by
  unfold recsOkB
  rw [Bool.and_eq_false_iff]
  refine .inr (List.all_eq_false.2 ⟨i, List.mem_range.2 hi, ?_⟩)
  rw [h]; simp
theorem recsOk_good {l : Recs} (h0 : l.length ≤ 600) (h : ∀ i, i < l.length → okAt l i = true) : recsOkB l = true := by
  unfold recsOkB
  rw [decide_eq_true h0, Bool.true_and, List.all_eq_true]
  exact fun i hi => h i (List.mem_range.1 hi)
theorem recsOk_parts {l : Recs} (h : recsOkB l = true) : l.length ≤ 600 ∧ ∀ i, i < l.length → okAt l i = true := by
  unfold recsOkB at h
  rw [Bool.and_eq_true, List.all_eq_true] at h
  exact ⟨of_decide_eq_true h.1, fun i hi => h.2 i (List.mem_range.2 hi)⟩
theorem recsOk_not {l : Recs} (h : recsOkB l = false) : runOkB l = false := by
  cases hr : runOkB l with
  | false => rfl
  | true =>
    unfold runOkB at hr
    rw [Bool.and_eq_true, List.all_eq_true] at hr
    have := recsOk_good (of_decide_eq_true hr.1) (fun i hi => by have := hr.2 i (List.mem_range.2 hi); rw [Bool.and_eq_true] at this; exact this.1)
    rw [this] at h; cases h

set_option maxHeartbeats 1000000 in
theorem recsok_any (a : Option Addr) (len cap : Nat) (l : Recs) (w : World) (h : RecsAt w a len l) :
    Calls Try.prog 29 #[.slice a len cap] w (MadeBool (recsOkB l) w) := by
  have hm := h.max
  unfold maxLen at hm
  have HR := Lib.hid h
  have HL := Lib.hid h.length
  clear h
  by_cases hlong : 600 < len
  · have HQ := Lib.hid (recsOk_long (l := l) (by rw [HL.out]; omega))
    have hd : (600 : Int) < (len : Int) := by omega
    go_enter Try.func29, Try.ntmps29
    go_wp2
    go_ret
    exact ⟨ret_bool HQ.out.symm, Below.refl _ _⟩
  · have hd : ¬ (600 : Int) < (len : Int) := by omega
    go_enter Try.func29, Try.ntmps29
    go_wp2
    go_loopw [10] (fun i wr => ∃ k : Nat, k ≤ len ∧ i = .int .i64 k ∧ Hid (Below w.heap.size w wr ∧ ∀ j, j < k → okAt l j = true)) (fun i _ => len - (intOf i).toNat)
    case atStart => exact ⟨0, Nat.zero_le _, rfl, Below.refl _ _, fun j hj => by omega⟩
    case round =>
      obtain ⟨k, hk, rfl, HW⟩ := hrel
      by_cases hlt : k < len
      · rcases HR.out.src with hz | ⟨b, off, rfl, hb, hc⟩
        · omega
        · have c0 := (HW.out.1.cell (p := ⟨b, off + k * 2, none⟩) hb).trans (hc k hlt).1
          have c1 := (HW.out.1.cell (p := ⟨b, off + k * 2 + 1, none⟩) hb).trans (hc k hlt).2
          cases hok : okB (keyAt l k) with
          | false =>
            have HQ := Lib.hid (recsOk_inv (l := l) (i := k) (by rw [HL.out]; exact hlt) hok)
            clear hc hb
            go_wp2_with (go_at_call 46; refine (recok_any _ _ _).mono ?_; rw [hok]; rintro e w2 ⟨rfl, hB⟩; have HB := Lib.hid (below_via (below_alloc HW.out.1 _) hB); clear hB)
            go_ret
            exact ⟨ret_bool HQ.out.symm, HB.out⟩
          | true =>
            have HK := Lib.hid (show okAt l k = true from hok)
            clear hc hb
            go_wp2_with (go_at_call 46; refine (recok_any _ _ _).mono ?_; rw [hok]; rintro e w2 ⟨rfl, hB⟩; have HB := Lib.hid (below_via (below_alloc HW.out.1 _) hB); clear hB)
            go_roundw
            case rel => exact ⟨k + 1, by omega, by go_num, HB.out, fun j hj => by
              rcases Nat.lt_or_ge j k with h | h
              · exact HW.out.2 j h
              · obtain rfl : j = k := by omega
                exact HK.out⟩
            case measure => simp [intOf]; omega
      · obtain rfl : k = len := by omega
        have HQ := Lib.hid (recsOk_good (l := l) (by rw [HL.out]; omega) (by rw [HL.out]; exact HW.out.2))
        go_wp2
        go_ret
        exact ⟨ret_bool HQ.out.symm, HW.out.1⟩

set_option maxHeartbeats 1000000 in
theorem lessm_any (a : Option Addr) (len cap : Nat) (l : Recs) (i j : Nat) (w : World) (h : RecsAt w a len l) (hi : i < len) (hj : j < len) :
    Calls Try.prog 92 #[.slice a len cap, .int .i64 i, .int .i64 j] w (MadeBool (okAt l i && okAt l j && lessAt l i j) w) := by
  have hm := h.max
  unfold maxLen at hm
  rcases h.src with hz | ⟨b, off, rfl, hb, hc⟩
  · omega
  · have c0 := (hc i hi).1
    have c1 := (hc i hi).2
    have d0 := (hc j hj).1
    have d1 := (hc j hj).2
    have HB := Lib.hid ((Below.refl w.heap.size w).drew)
    clear hc hb h
    go_enter Try.func92, Try.ntmps92
    go_wp2_with fail
    go_region_held3 (fun w' => Hid (Below w.heap.size w w') ∧ w'.cell? ⟨b, off + i * 2, none⟩ = some (.string (keyAt l i)) ∧ w'.cell? ⟨b, off + i * 2 + 1, none⟩ = some (.int .i64 (numAt l i)) ∧ w'.cell? ⟨b, off + j * 2, none⟩ = some (.string (keyAt l j)) ∧ w'.cell? ⟨b, off + j * 2 + 1, none⟩ = some (.int .i64 (numAt l j)))
      (first | exact ⟨HB, c0, c1, d0, d1⟩ | exact ⟨HB, e0, e1, f0, f1⟩)
      (first | (go_at_call 36; refine (recless_any _ _ _ _ _).mono ?_; rintro e w2 ⟨rfl, hB⟩; have e0 := (hB.cell (p := ⟨b, off + i * 2, none⟩) (World.block_lt_of_cell? _ _ c0)).trans c0; have e1 := (hB.cell (p := ⟨b, off + i * 2 + 1, none⟩) (World.block_lt_of_cell? _ _ c1)).trans c1; have f0 := (hB.cell (p := ⟨b, off + j * 2, none⟩) (World.block_lt_of_cell? _ _ d0)).trans d0; have f1 := (hB.cell (p := ⟨b, off + j * 2 + 1, none⟩) (World.block_lt_of_cell? _ _ d1)).trans d1; have HB := Lib.hid (below_via HB.out hB); clear hB))
    go_wp2
    go_ret
    exact ⟨rfl, HB.out⟩

theorem lenm_any (a : Option Addr) (len cap : Nat) (w : World) : Calls Try.prog 91 #[.slice a len cap] w fun e w' => e = .returned (.int .i64 len) ∧ w = w' := by
  go_enter Try.func91, Try.ntmps91
  go_wp2
  go_ret
  exact ⟨rfl, rfl⟩
end Go.Proofs.Ytldjahemgkkpbaa
