
/- What RunOk computes in the model: whether a list is a run. Only new blocks are made. -/
import Derived.Test.YtjfbmjeekihdaaaDoorRuns2
import Derived.Test.YtjfbmjeekihdaaaDoorHand
namespace Go.Proofs.YtjfbmjeekihdaaaDoor
open Go.ChangeShapes Go.WideShapes Go.ChangeAt Go.RowKit
set_option linter.unusedVariables false
set_option maxRecDepth 100000

def lessAt (l : Recs) (i j : Nat) : Bool := lessB (keyAt l i) (numAt l i) (keyAt l j) (numAt l j)
def badAt (l : Recs) (i : Nat) : Bool := decide (0 < i) && lessAt l i (i - 1)
def okAt (l : Recs) (i : Nat) : Bool := okB (keyAt l i)
/-- Whether l is a run: few, valid, in order. -/
def runOkB (l : Recs) : Bool := decide (l.length ≤ 600) && (List.range l.length).all fun i => okAt l i && !badAt l i

theorem runOk_long {l : Recs} (h : ¬ l.length ≤ 600) : runOkB l = false := by
  unfold runOkB; rw [decide_eq_false h]; rfl
theorem runOk_inv {l : Recs} {i : Nat} (hi : i < l.length) (h : okAt l i = false) : runOkB l = false := by
  unfold runOkB
  rw [Bool.and_eq_false_iff]
  refine .inr (List.all_eq_false.2 ⟨i, List.mem_range.2 hi, ?_⟩)
  rw [h]; simp
theorem runOk_bad {l : Recs} {i : Nat} (hi : i < l.length) (h : badAt l i = true) : runOkB l = false := by
  unfold runOkB
  rw [Bool.and_eq_false_iff]
  refine .inr (List.all_eq_false.2 ⟨i, List.mem_range.2 hi, ?_⟩)
  rw [h]; simp
theorem runOk_good {l : Recs} (h0 : l.length ≤ 600) (h : ∀ i, i < l.length → okAt l i = true ∧ badAt l i = false) : runOkB l = true := by
  unfold runOkB
  rw [decide_eq_true h0, Bool.true_and, List.all_eq_true]
  intro i hi
  obtain ⟨h1, h2⟩ := h i (List.mem_range.1 hi)
  rw [h1, h2]; rfl
theorem runOk_end {l : Recs} {len : Nat} (hl : l.length = len) (h : ∀ i, i < len → okAt l i = true ∧ badAt l i = false) : decide ((len : Int) ≤ 600) = runOkB l := by
  subst hl
  by_cases h0 : l.length ≤ 600
  · rw [runOk_good h0 h]; simp; omega
  · rw [runOk_long h0]; simp; omega

set_option maxHeartbeats 2000000 in
theorem srunok_any (a : Option Addr) (len cap : Nat) (l : Recs) (w : World) (h : RecsAt w a len l) :
    Calls Tryd.prog 121 #[.slice a len cap] w (MadeBool (runOkB l) w) := by
  have hm := h.max
  unfold maxLen at hm
  have HR := Lib.hid h
  clear h
  go_enter Tryd.func121, Tryd.ntmps121
  go_wp2
  go_loopw [3] (fun i wr => ∃ k : Nat, k ≤ len ∧ i = .int .i64 k ∧ Hid (Below w.heap.size w wr ∧ ∀ j, j < k → okAt l j = true ∧ badAt l j = false)) (fun i _ => len - (intOf i).toNat)
  case atStart => exact ⟨0, Nat.zero_le _, rfl, Below.refl _ _, fun j hj => by omega⟩
  case round =>
    obtain ⟨k, hk, rfl, HW⟩ := hrel
    by_cases hlt : k < len
    · rcases HR.out.src with hz | ⟨b, off, rfl, hb, hc⟩
      · omega
      · have c0 := (HW.out.1.cell (p := ⟨b, off + k * 2, none⟩) hb).trans (hc k hlt).1
        have c1 := (HW.out.1.cell (p := ⟨b, off + k * 2 + 1, none⟩) hb).trans (hc k hlt).2
        have HB := Lib.hid HW.out.1.drew
        cases hok : okB (keyAt l k) with
        | false =>
          have HQ := Lib.hid (runOk_inv (l := l) (i := k) (by rw [HR.out.length]; exact hlt) hok)
          clear hc hb
          go_wp2_with fail
          refine wp_region_noPanic ?_
          refine wp_region_any (by kernel_rfl) ?_
          change wpAny _ _ _ _ _ _ _ (World.drew _)
          refine hand_take (i := 0) (d := 10) (v := .slice (some ⟨b, off, none⟩) len cap) rfl rfl (by kernel_rfl) (by kernel_rfl) (by kernel_rfl) (by kernel_rfl) (fun wx => by go_simp) ?_
          refine hand_take (i := 1) (d := 11) (v := .int .i64 k) rfl rfl (by kernel_rfl) (by kernel_rfl) (by kernel_rfl) (by kernel_rfl) (fun wx => by go_simp) ?_
          refine hand_take (i := 2) (d := 12) (v := .pointer (some ⟨b, off + k * 2, none⟩)) rfl rfl (by kernel_rfl) (by kernel_rfl) (by kernel_rfl) (by kernel_rfl) (fun wx => by go_simp) ?_
          refine wpAny_ready (rs := [3]) (by kernel_rfl) (by simp) (AllReady.cons rfl (fun K hK => ?_) AllReady.nil)
          go_simp
          refine hK _ _ ?_
          clear hK K
          refine wpAny_ready (rs := [4]) (by kernel_rfl) (by simp) (AllReady.cons rfl (fun K hK => ?_) AllReady.nil)
          go_simp
          refine (srecok_any _ _ _).mono ?_
          rw [hok]
          rintro e w2 ⟨rfl, hB⟩
          have HB := Lib.hid (below_via HB.out hB)
          clear hB
          refine hK _ _ ?_
          clear hK K
          refine hand_take (i := 5) (d := 15) (v := .bool true) rfl rfl (by kernel_rfl) (by kernel_rfl) (by kernel_rfl) (by kernel_rfl) (fun wx => by go_simp) ?_
          refine hand_take (i := 6) (d := 16) (v := .bool true) rfl rfl (by kernel_rfl) (by kernel_rfl) (by kernel_rfl) (by kernel_rfl) (fun wx => by go_simp) ?_
          refine hand_skip (i := 7) (d := 17) rfl rfl (by kernel_rfl) (by kernel_rfl) (by kernel_rfl) (by kernel_rfl) ?_
          refine hand_skip (i := 8) (d := 18) rfl rfl (by kernel_rfl) (by kernel_rfl) (by kernel_rfl) (by kernel_rfl) ?_
          refine hand_skip (i := 9) (d := 19) rfl rfl (by kernel_rfl) (by kernel_rfl) (by kernel_rfl) (by kernel_rfl) ?_
          refine hand_skip (i := 10) (d := 20) rfl rfl (by kernel_rfl) (by kernel_rfl) (by kernel_rfl) (by kernel_rfl) ?_
          refine hand_skip (i := 11) (d := 21) rfl rfl (by kernel_rfl) (by kernel_rfl) (by kernel_rfl) (by kernel_rfl) ?_
          refine hand_skip (i := 12) (d := 22) rfl rfl (by kernel_rfl) (by kernel_rfl) (by kernel_rfl) (by kernel_rfl) ?_
          refine hand_skip (i := 13) (d := 23) rfl rfl (by kernel_rfl) (by kernel_rfl) (by kernel_rfl) (by kernel_rfl) ?_
          refine hand_skip (i := 14) (d := 24) rfl rfl (by kernel_rfl) (by kernel_rfl) (by kernel_rfl) (by kernel_rfl) ?_
          refine hand_skip (i := 15) (d := 25) rfl rfl (by kernel_rfl) (by kernel_rfl) (by kernel_rfl) (by kernel_rfl) ?_
          refine hand_skip (i := 16) (d := 26) rfl rfl (by kernel_rfl) (by kernel_rfl) (by kernel_rfl) (by kernel_rfl) ?_
          refine hand_skip (i := 17) (d := 27) rfl rfl (by kernel_rfl) (by kernel_rfl) (by kernel_rfl) (by kernel_rfl) ?_
          refine hand_skip (i := 18) (d := 28) rfl rfl (by kernel_rfl) (by kernel_rfl) (by kernel_rfl) (by kernel_rfl) ?_
          refine hand_skip (i := 19) (d := 29) rfl rfl (by kernel_rfl) (by kernel_rfl) (by kernel_rfl) (by kernel_rfl) ?_
          refine hand_skip (i := 20) (d := 30) rfl rfl (by kernel_rfl) (by kernel_rfl) (by kernel_rfl) (by kernel_rfl) ?_
          refine hand_take (i := 21) (d := 31) (v := .bool true) rfl rfl (by kernel_rfl) (by kernel_rfl) (by kernel_rfl) (by kernel_rfl) (fun wx => by go_simp) ?_
          refine wpAny_done (by kernel_rfl) (NoPanic.normal ?_) _
          simp only [List.setIfInBounds_toArray, List.set_cons_zero, List.set_cons_succ]
          go_wp2
          go_ret
          exact ⟨ret_bool HQ.out.symm, HB.out⟩
        | true =>
          by_cases hk0 : 0 < k
          · obtain ⟨m, hm1, hm2⟩ : ∃ m : Nat, (k : Int) - 1 = (m : Int) ∧ m + 1 = k := ⟨k - 1, by omega, by omega⟩
            have hml : m < len := by omega
            have d0 := (HW.out.1.cell (p := ⟨b, off + m * 2, none⟩) hb).trans (hc m hml).1
            have d1 := (HW.out.1.cell (p := ⟨b, off + m * 2 + 1, none⟩) hb).trans (hc m hml).2
            have hbad : badAt l k = lessB (keyAt l k) (numAt l k) (keyAt l m) (numAt l m) := by
              unfold badAt lessAt
              rw [decide_eq_true hk0, show k - 1 = m by omega]; rfl
            cases hls : lessB (keyAt l k) (numAt l k) (keyAt l m) (numAt l m) with
            | true =>
              have HQ := Lib.hid (runOk_bad (l := l) (i := k) (by rw [HR.out.length]; exact hlt) (hbad.trans hls))
              clear hc hb hbad hm2
              go_wp2_with fail
              have hw1 : IntKind.i64.wrap (m : Int) = (m : Int) := IntWalk.i64_in _ (by omega)
              refine wp_region_noPanic ?_
              refine wp_region_any (by kernel_rfl) ?_
              change wpAny _ _ _ _ _ _ _ (World.drew _)
              refine hand_take (i := 0) (d := 10) (v := .slice (some ⟨b, off, none⟩) len cap) rfl rfl (by kernel_rfl) (by kernel_rfl) (by kernel_rfl) (by kernel_rfl) (fun wx => by go_simp) ?_
              refine hand_take (i := 1) (d := 11) (v := .int .i64 k) rfl rfl (by kernel_rfl) (by kernel_rfl) (by kernel_rfl) (by kernel_rfl) (fun wx => by go_simp) ?_
              refine hand_take (i := 2) (d := 12) (v := .pointer (some ⟨b, off + k * 2, none⟩)) rfl rfl (by kernel_rfl) (by kernel_rfl) (by kernel_rfl) (by kernel_rfl) (fun wx => by go_simp) ?_
              refine wpAny_ready (rs := [3]) (by kernel_rfl) (by simp) (AllReady.cons rfl (fun K hK => ?_) AllReady.nil)
              go_simp
              refine hK _ _ ?_
              clear hK K
              refine wpAny_ready (rs := [4]) (by kernel_rfl) (by simp) (AllReady.cons rfl (fun K hK => ?_) AllReady.nil)
              go_simp
              refine (srecok_any _ _ _).mono ?_
              rw [hok]
              rintro e w2 ⟨rfl, hB⟩
              have e0 := (hB.cell (p := ⟨b, off + k * 2, none⟩) (World.block_lt_of_cell? _ _ c0)).trans c0; have e1 := (hB.cell (p := ⟨b, off + k * 2 + 1, none⟩) (World.block_lt_of_cell? _ _ c1)).trans c1; have f0 := (hB.cell (p := ⟨b, off + m * 2, none⟩) (World.block_lt_of_cell? _ _ d0)).trans d0; have f1 := (hB.cell (p := ⟨b, off + m * 2 + 1, none⟩) (World.block_lt_of_cell? _ _ d1)).trans d1
              have HB := Lib.hid (below_via HB.out hB)
              clear hB
              refine hK _ _ ?_
              clear hK K
              refine hand_take (i := 5) (d := 15) (v := .bool false) rfl rfl (by kernel_rfl) (by kernel_rfl) (by kernel_rfl) (by kernel_rfl) (fun wx => by go_simp) ?_
              refine hand_take (i := 6) (d := 16) (v := .bool false) rfl rfl (by kernel_rfl) (by kernel_rfl) (by kernel_rfl) (by kernel_rfl) (fun wx => by go_simp) ?_
              refine hand_take (i := 7) (d := 17) (v := .int .i64 k) rfl rfl (by kernel_rfl) (by kernel_rfl) (by kernel_rfl) (by kernel_rfl) (fun wx => by go_simp) ?_
              refine hand_take (i := 8) (d := 18) (v := .bool true) rfl rfl (by kernel_rfl) (by kernel_rfl) (by kernel_rfl) (by kernel_rfl) (fun wx => by go_simp) ?_
              refine hand_take (i := 9) (d := 19) (v := .bool true) rfl rfl (by kernel_rfl) (by kernel_rfl) (by kernel_rfl) (by kernel_rfl) (fun wx => by go_simp) ?_
              refine hand_take (i := 10) (d := 20) (v := .slice (some ⟨b, off, none⟩) len cap) rfl rfl (by kernel_rfl) (by kernel_rfl) (by kernel_rfl) (by kernel_rfl) (fun wx => by go_simp) ?_
              refine hand_take (i := 11) (d := 21) (v := .int .i64 k) rfl rfl (by kernel_rfl) (by kernel_rfl) (by kernel_rfl) (by kernel_rfl) (fun wx => by go_simp) ?_
              refine hand_take (i := 12) (d := 22) (v := .pointer (some ⟨b, off + k * 2, none⟩)) rfl rfl (by kernel_rfl) (by kernel_rfl) (by kernel_rfl) (by kernel_rfl) (fun wx => by go_simp) ?_
              refine hand_take (i := 14) (d := 24) (v := .slice (some ⟨b, off, none⟩) len cap) rfl rfl (by kernel_rfl) (by kernel_rfl) (by kernel_rfl) (by kernel_rfl) (fun wx => by go_simp) ?_
              refine hand_take (i := 15) (d := 25) (v := .int .i64 k) rfl rfl (by kernel_rfl) (by kernel_rfl) (by kernel_rfl) (by kernel_rfl) (fun wx => by go_simp) ?_
              refine hand_take (i := 16) (d := 26) (v := .int .i64 m) rfl rfl (by kernel_rfl) (by kernel_rfl) (by kernel_rfl) (by kernel_rfl) (fun wx => by go_simp) ?_
              refine hand_take (i := 17) (d := 27) (v := .pointer (some ⟨b, off + m * 2, none⟩)) rfl rfl (by kernel_rfl) (by kernel_rfl) (by kernel_rfl) (by kernel_rfl) (fun wx => by go_simp) ?_
              refine wpAny_ready (rs := [13, 18]) (by kernel_rfl) (by simp) (AllReady.cons rfl (fun K hK => ?_) (AllReady.cons rfl (fun K hK => ?_) AllReady.nil))
              · go_simp
                refine hK _ _ ?_
                clear hK K
                refine wpAny_ready (rs := [18]) (by kernel_rfl) (by simp) (AllReady.cons rfl (fun K hK => ?_) AllReady.nil)
                go_simp
                refine hK _ _ ?_
                clear hK K
                refine wpAny_ready (rs := [19]) (by kernel_rfl) (by simp) (AllReady.cons rfl (fun K hK => ?_) AllReady.nil)
                go_simp
                refine (l2less_any _ _ _ _ _).mono ?_
                rw [hls]
                rintro e w3 ⟨rfl, hB⟩
                have HB := Lib.hid (below_via HB.out hB)
                clear hB
                refine hK _ _ ?_
                clear hK K
                refine hand_take (i := 20) (d := 30) (v := .bool true) rfl rfl (by kernel_rfl) (by kernel_rfl) (by kernel_rfl) (by kernel_rfl) (fun wx => by go_simp) ?_
                refine hand_take (i := 21) (d := 31) (v := .bool true) rfl rfl (by kernel_rfl) (by kernel_rfl) (by kernel_rfl) (by kernel_rfl) (fun wx => by go_simp) ?_
                refine wpAny_done (by kernel_rfl) (NoPanic.normal ?_) _
                simp only [List.setIfInBounds_toArray, List.set_cons_zero, List.set_cons_succ]
                clear hw1
                go_wp2
                go_ret
                exact ⟨ret_bool HQ.out.symm, HB.out⟩
              · go_simp
                refine hK _ _ ?_
                clear hK K
                refine wpAny_ready (rs := [13]) (by kernel_rfl) (by simp) (AllReady.cons rfl (fun K hK => ?_) AllReady.nil)
                go_simp
                refine hK _ _ ?_
                clear hK K
                refine wpAny_ready (rs := [19]) (by kernel_rfl) (by simp) (AllReady.cons rfl (fun K hK => ?_) AllReady.nil)
                go_simp
                refine (l2less_any _ _ _ _ _).mono ?_
                rw [hls]
                rintro e w3 ⟨rfl, hB⟩
                have HB := Lib.hid (below_via HB.out hB)
                clear hB
                refine hK _ _ ?_
                clear hK K
                refine hand_take (i := 20) (d := 30) (v := .bool true) rfl rfl (by kernel_rfl) (by kernel_rfl) (by kernel_rfl) (by kernel_rfl) (fun wx => by go_simp) ?_
                refine hand_take (i := 21) (d := 31) (v := .bool true) rfl rfl (by kernel_rfl) (by kernel_rfl) (by kernel_rfl) (by kernel_rfl) (fun wx => by go_simp) ?_
                refine wpAny_done (by kernel_rfl) (NoPanic.normal ?_) _
                simp only [List.setIfInBounds_toArray, List.set_cons_zero, List.set_cons_succ]
                clear hw1
                go_wp2
                go_ret
                exact ⟨ret_bool HQ.out.symm, HB.out⟩
            | false =>
              have HK := Lib.hid (And.intro (show okAt l k = true from hok) (hbad.trans hls))
              clear hc hb hbad hm2
              go_wp2_with fail
              have hw1 : IntKind.i64.wrap (m : Int) = (m : Int) := IntWalk.i64_in _ (by omega)
              refine wp_region_noPanic ?_
              refine wp_region_any (by kernel_rfl) ?_
              change wpAny _ _ _ _ _ _ _ (World.drew _)
              refine hand_take (i := 0) (d := 10) (v := .slice (some ⟨b, off, none⟩) len cap) rfl rfl (by kernel_rfl) (by kernel_rfl) (by kernel_rfl) (by kernel_rfl) (fun wx => by go_simp) ?_
              refine hand_take (i := 1) (d := 11) (v := .int .i64 k) rfl rfl (by kernel_rfl) (by kernel_rfl) (by kernel_rfl) (by kernel_rfl) (fun wx => by go_simp) ?_
              refine hand_take (i := 2) (d := 12) (v := .pointer (some ⟨b, off + k * 2, none⟩)) rfl rfl (by kernel_rfl) (by kernel_rfl) (by kernel_rfl) (by kernel_rfl) (fun wx => by go_simp) ?_
              refine wpAny_ready (rs := [3]) (by kernel_rfl) (by simp) (AllReady.cons rfl (fun K hK => ?_) AllReady.nil)
              go_simp
              refine hK _ _ ?_
              clear hK K
              refine wpAny_ready (rs := [4]) (by kernel_rfl) (by simp) (AllReady.cons rfl (fun K hK => ?_) AllReady.nil)
              go_simp
              refine (srecok_any _ _ _).mono ?_
              rw [hok]
              rintro e w2 ⟨rfl, hB⟩
              have e0 := (hB.cell (p := ⟨b, off + k * 2, none⟩) (World.block_lt_of_cell? _ _ c0)).trans c0; have e1 := (hB.cell (p := ⟨b, off + k * 2 + 1, none⟩) (World.block_lt_of_cell? _ _ c1)).trans c1; have f0 := (hB.cell (p := ⟨b, off + m * 2, none⟩) (World.block_lt_of_cell? _ _ d0)).trans d0; have f1 := (hB.cell (p := ⟨b, off + m * 2 + 1, none⟩) (World.block_lt_of_cell? _ _ d1)).trans d1
              have HB := Lib.hid (below_via HB.out hB)
              clear hB
              refine hK _ _ ?_
              clear hK K
              refine hand_take (i := 5) (d := 15) (v := .bool false) rfl rfl (by kernel_rfl) (by kernel_rfl) (by kernel_rfl) (by kernel_rfl) (fun wx => by go_simp) ?_
              refine hand_take (i := 6) (d := 16) (v := .bool false) rfl rfl (by kernel_rfl) (by kernel_rfl) (by kernel_rfl) (by kernel_rfl) (fun wx => by go_simp) ?_
              refine hand_take (i := 7) (d := 17) (v := .int .i64 k) rfl rfl (by kernel_rfl) (by kernel_rfl) (by kernel_rfl) (by kernel_rfl) (fun wx => by go_simp) ?_
              refine hand_take (i := 8) (d := 18) (v := .bool true) rfl rfl (by kernel_rfl) (by kernel_rfl) (by kernel_rfl) (by kernel_rfl) (fun wx => by go_simp) ?_
              refine hand_take (i := 9) (d := 19) (v := .bool true) rfl rfl (by kernel_rfl) (by kernel_rfl) (by kernel_rfl) (by kernel_rfl) (fun wx => by go_simp) ?_
              refine hand_take (i := 10) (d := 20) (v := .slice (some ⟨b, off, none⟩) len cap) rfl rfl (by kernel_rfl) (by kernel_rfl) (by kernel_rfl) (by kernel_rfl) (fun wx => by go_simp) ?_
              refine hand_take (i := 11) (d := 21) (v := .int .i64 k) rfl rfl (by kernel_rfl) (by kernel_rfl) (by kernel_rfl) (by kernel_rfl) (fun wx => by go_simp) ?_
              refine hand_take (i := 12) (d := 22) (v := .pointer (some ⟨b, off + k * 2, none⟩)) rfl rfl (by kernel_rfl) (by kernel_rfl) (by kernel_rfl) (by kernel_rfl) (fun wx => by go_simp) ?_
              refine hand_take (i := 14) (d := 24) (v := .slice (some ⟨b, off, none⟩) len cap) rfl rfl (by kernel_rfl) (by kernel_rfl) (by kernel_rfl) (by kernel_rfl) (fun wx => by go_simp) ?_
              refine hand_take (i := 15) (d := 25) (v := .int .i64 k) rfl rfl (by kernel_rfl) (by kernel_rfl) (by kernel_rfl) (by kernel_rfl) (fun wx => by go_simp) ?_
              refine hand_take (i := 16) (d := 26) (v := .int .i64 m) rfl rfl (by kernel_rfl) (by kernel_rfl) (by kernel_rfl) (by kernel_rfl) (fun wx => by go_simp) ?_
              refine hand_take (i := 17) (d := 27) (v := .pointer (some ⟨b, off + m * 2, none⟩)) rfl rfl (by kernel_rfl) (by kernel_rfl) (by kernel_rfl) (by kernel_rfl) (fun wx => by go_simp) ?_
              refine wpAny_ready (rs := [13, 18]) (by kernel_rfl) (by simp) (AllReady.cons rfl (fun K hK => ?_) (AllReady.cons rfl (fun K hK => ?_) AllReady.nil))
              · go_simp
                refine hK _ _ ?_
                clear hK K
                refine wpAny_ready (rs := [18]) (by kernel_rfl) (by simp) (AllReady.cons rfl (fun K hK => ?_) AllReady.nil)
                go_simp
                refine hK _ _ ?_
                clear hK K
                refine wpAny_ready (rs := [19]) (by kernel_rfl) (by simp) (AllReady.cons rfl (fun K hK => ?_) AllReady.nil)
                go_simp
                refine (l2less_any _ _ _ _ _).mono ?_
                rw [hls]
                rintro e w3 ⟨rfl, hB⟩
                have HB := Lib.hid (below_via HB.out hB)
                clear hB
                refine hK _ _ ?_
                clear hK K
                refine hand_take (i := 20) (d := 30) (v := .bool false) rfl rfl (by kernel_rfl) (by kernel_rfl) (by kernel_rfl) (by kernel_rfl) (fun wx => by go_simp) ?_
                refine hand_take (i := 21) (d := 31) (v := .bool false) rfl rfl (by kernel_rfl) (by kernel_rfl) (by kernel_rfl) (by kernel_rfl) (fun wx => by go_simp) ?_
                refine wpAny_done (by kernel_rfl) (NoPanic.normal ?_) _
                simp only [List.setIfInBounds_toArray, List.set_cons_zero, List.set_cons_succ]
                clear hw1
                go_wp2
                go_roundw
                case rel => exact ⟨k + 1, by omega, by go_num, HB.out, fun j hj => by
                  rcases Nat.lt_or_ge j k with h | h
                  · exact HW.out.2 j h
                  · obtain rfl : j = k := by omega
                    exact HK.out⟩
                case measure => simp [intOf]; omega
              · go_simp
                refine hK _ _ ?_
                clear hK K
                refine wpAny_ready (rs := [13]) (by kernel_rfl) (by simp) (AllReady.cons rfl (fun K hK => ?_) AllReady.nil)
                go_simp
                refine hK _ _ ?_
                clear hK K
                refine wpAny_ready (rs := [19]) (by kernel_rfl) (by simp) (AllReady.cons rfl (fun K hK => ?_) AllReady.nil)
                go_simp
                refine (l2less_any _ _ _ _ _).mono ?_
                rw [hls]
                rintro e w3 ⟨rfl, hB⟩
                have HB := Lib.hid (below_via HB.out hB)
                clear hB
                refine hK _ _ ?_
                clear hK K
                refine hand_take (i := 20) (d := 30) (v := .bool false) rfl rfl (by kernel_rfl) (by kernel_rfl) (by kernel_rfl) (by kernel_rfl) (fun wx => by go_simp) ?_
                refine hand_take (i := 21) (d := 31) (v := .bool false) rfl rfl (by kernel_rfl) (by kernel_rfl) (by kernel_rfl) (by kernel_rfl) (fun wx => by go_simp) ?_
                refine wpAny_done (by kernel_rfl) (NoPanic.normal ?_) _
                simp only [List.setIfInBounds_toArray, List.set_cons_zero, List.set_cons_succ]
                clear hw1
                go_wp2
                go_roundw
                case rel => exact ⟨k + 1, by omega, by go_num, HB.out, fun j hj => by
                  rcases Nat.lt_or_ge j k with h | h
                  · exact HW.out.2 j h
                  · obtain rfl : j = k := by omega
                    exact HK.out⟩
                case measure => simp [intOf]; omega
          · have hg : decide (0 < k) = false := by simp; omega
            have hbad : badAt l k = false := by unfold badAt; rw [hg]; rfl
            have HK := Lib.hid (And.intro (show okAt l k = true from hok) hbad)
            clear hc hb hbad
            go_wp2_with fail
            refine wp_region_noPanic ?_
            refine wp_region_any (by kernel_rfl) ?_
            change wpAny _ _ _ _ _ _ _ (World.drew _)
            refine hand_take (i := 0) (d := 10) (v := .slice (some ⟨b, off, none⟩) len cap) rfl rfl (by kernel_rfl) (by kernel_rfl) (by kernel_rfl) (by kernel_rfl) (fun wx => by go_simp) ?_
            refine hand_take (i := 1) (d := 11) (v := .int .i64 k) rfl rfl (by kernel_rfl) (by kernel_rfl) (by kernel_rfl) (by kernel_rfl) (fun wx => by go_simp) ?_
            refine hand_take (i := 2) (d := 12) (v := .pointer (some ⟨b, off + k * 2, none⟩)) rfl rfl (by kernel_rfl) (by kernel_rfl) (by kernel_rfl) (by kernel_rfl) (fun wx => by go_simp) ?_
            refine wpAny_ready (rs := [3]) (by kernel_rfl) (by simp) (AllReady.cons rfl (fun K hK => ?_) AllReady.nil)
            go_simp
            refine hK _ _ ?_
            clear hK K
            refine wpAny_ready (rs := [4]) (by kernel_rfl) (by simp) (AllReady.cons rfl (fun K hK => ?_) AllReady.nil)
            go_simp
            refine (srecok_any _ _ _).mono ?_
            rw [hok]
            rintro e w2 ⟨rfl, hB⟩
            have HB := Lib.hid (below_via HB.out hB)
            clear hB
            refine hK _ _ ?_
            clear hK K
            refine hand_take (i := 5) (d := 15) (v := .bool false) rfl rfl (by kernel_rfl) (by kernel_rfl) (by kernel_rfl) (by kernel_rfl) (fun wx => by go_simp) ?_
            refine hand_take (i := 6) (d := 16) (v := .bool false) rfl rfl (by kernel_rfl) (by kernel_rfl) (by kernel_rfl) (by kernel_rfl) (fun wx => by go_simp) ?_
            refine hand_take (i := 7) (d := 17) (v := .int .i64 k) rfl rfl (by kernel_rfl) (by kernel_rfl) (by kernel_rfl) (by kernel_rfl) (fun wx => by go_simp) ?_
            refine hand_take (i := 8) (d := 18) (v := .bool false) rfl rfl (by kernel_rfl) (by kernel_rfl) (by kernel_rfl) (by kernel_rfl) (fun wx => by go_simp) ?_
            refine hand_take (i := 9) (d := 19) (v := .bool false) rfl rfl (by kernel_rfl) (by kernel_rfl) (by kernel_rfl) (by kernel_rfl) (fun wx => by go_simp) ?_
            refine hand_skip (i := 10) (d := 20) rfl rfl (by kernel_rfl) (by kernel_rfl) (by kernel_rfl) (by kernel_rfl) ?_
            refine hand_skip (i := 11) (d := 21) rfl rfl (by kernel_rfl) (by kernel_rfl) (by kernel_rfl) (by kernel_rfl) ?_
            refine hand_skip (i := 12) (d := 22) rfl rfl (by kernel_rfl) (by kernel_rfl) (by kernel_rfl) (by kernel_rfl) ?_
            refine hand_skip (i := 13) (d := 23) rfl rfl (by kernel_rfl) (by kernel_rfl) (by kernel_rfl) (by kernel_rfl) ?_
            refine hand_skip (i := 14) (d := 24) rfl rfl (by kernel_rfl) (by kernel_rfl) (by kernel_rfl) (by kernel_rfl) ?_
            refine hand_skip (i := 15) (d := 25) rfl rfl (by kernel_rfl) (by kernel_rfl) (by kernel_rfl) (by kernel_rfl) ?_
            refine hand_skip (i := 16) (d := 26) rfl rfl (by kernel_rfl) (by kernel_rfl) (by kernel_rfl) (by kernel_rfl) ?_
            refine hand_skip (i := 17) (d := 27) rfl rfl (by kernel_rfl) (by kernel_rfl) (by kernel_rfl) (by kernel_rfl) ?_
            refine hand_skip (i := 18) (d := 28) rfl rfl (by kernel_rfl) (by kernel_rfl) (by kernel_rfl) (by kernel_rfl) ?_
            refine hand_skip (i := 19) (d := 29) rfl rfl (by kernel_rfl) (by kernel_rfl) (by kernel_rfl) (by kernel_rfl) ?_
            refine hand_take (i := 20) (d := 30) (v := .bool false) rfl rfl (by kernel_rfl) (by kernel_rfl) (by kernel_rfl) (by kernel_rfl) (fun wx => by go_simp) ?_
            refine hand_take (i := 21) (d := 31) (v := .bool false) rfl rfl (by kernel_rfl) (by kernel_rfl) (by kernel_rfl) (by kernel_rfl) (fun wx => by go_simp) ?_
            refine wpAny_done (by kernel_rfl) (NoPanic.normal ?_) _
            simp only [List.setIfInBounds_toArray, List.set_cons_zero, List.set_cons_succ]
            go_wp2
            go_roundw
            case rel => exact ⟨k + 1, by omega, by go_num, HB.out, fun j hj => by
              rcases Nat.lt_or_ge j k with h | h
              · exact HW.out.2 j h
              · obtain rfl : j = k := by omega
                exact HK.out⟩
            case measure => simp [intOf]; omega
    · go_wp2
      go_ret
      obtain rfl : k = len := by omega
      exact ⟨ret_bool (runOk_end HR.out.length HW.out.2), HW.out.1⟩
end Go.Proofs.YtjfbmjeekihdaaaDoor
