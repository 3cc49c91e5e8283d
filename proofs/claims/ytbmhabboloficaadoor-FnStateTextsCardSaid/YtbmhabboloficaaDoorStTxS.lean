
/- The text of a state of a board: what the model writes. Only new blocks are made. -/
import Derived.Test.YtbmhabboloficaaDoorStTx
import Derived.Test.YtbmhabboloficaaDoorHeld
namespace Go.Proofs.YtbmhabboloficaaDoor
open Go.ChangeShapes Go.WideShapes Go.ChangeAt Go.RowKit
set_option linter.unusedVariables false
set_option maxRecDepth 100000

theorem stW_size (k : Int) : (stW k).size ≤ 6 := by
  unfold stW
  split
  · decide
  · split
    · decide
    · split <;> decide
theorem more3 {w w0 : World} {B A : Nat} {E T : TypeId} {cur tab : Array Value} (h : Hid (Below w.heap.size w (w0.alloc (.cells tab T (0, 0))) ∧ Row (w0.alloc (.cells tab T (0, 0))) B E cur)) (hA : w0.heap.size = A) :
    Hid (Below w.heap.size w (w0.alloc (.cells tab T (0, 0))) ∧ Row (w0.alloc (.cells tab T (0, 0))) B E cur ∧ Row (w0.alloc (.cells tab T (0, 0))) A T tab) := by
  subst hA
  exact Lib.hid ⟨h.out.1, h.out.2, Row.new _ _ _⟩
theorem more3d {w w0 : World} {B A : Nat} {E T : TypeId} {cur tab : Array Value} (h : Hid (Below w.heap.size w (w0.alloc (.cells tab T (0, 0))).drew ∧ Row (w0.alloc (.cells tab T (0, 0))).drew B E cur)) (hA : w0.heap.size = A) :
    Hid (Below w.heap.size w (w0.alloc (.cells tab T (0, 0))).drew ∧ Row (w0.alloc (.cells tab T (0, 0))).drew B E cur ∧ Row (w0.alloc (.cells tab T (0, 0))).drew A T tab) := by
  subst hA
  exact Lib.hid ⟨h.out.1, h.out.2, (Row.new _ _ _).keep (Below.refl _ _).drew⟩
theorem tab_row {w : World} {B : Nat} {k : Int} (h : Row w B 9 #[.string ⟨#[102, 114, 101, 101]⟩, .string ⟨#[116, 97, 107, 101, 110]⟩, .string ⟨#[100, 111, 110, 101]⟩, .string ⟨#[102, 97, 105, 108, 101, 100]⟩]) (h1 : 1 ≤ k) (h4 : k ≤ 4) : w.cell? ⟨B, k.toNat - 1, none⟩ = some (.string (stW k)) := by
  unfold Row at h
  have hk : k = 1 ∨ k = 2 ∨ k = 3 ∨ k = 4 := by omega
  rcases hk with rfl | rfl | rfl | rfl <;> · simp [World.cell?, h, stW]

set_option maxHeartbeats 8000000 in
theorem sstatetext_n (k e v : Int) (w : World) (hk1 : 1 ≤ k) (hk4 : k ≤ 4) (he : In64 e) (hv : In64 v) : Calls Tryd.prog 30 #[.agg #[.int .i64 k, .int .i64 e, .int .i64 v]] w (MadeTx (stateTx k e v) w) := by
  have HK := Lib.hid (show inB k 1 4 = true from inB_iff.2 ⟨hk1, hk4⟩)
  have ze := @decB_size e he.1 (by have := he.2; omega)
  have zv := @decB_size v hv.1 (by have := hv.2; omega)
  have HE := Lib.hid (And.intro he.1 (show e < 9223372036854775808 by have := he.2; omega))
  have HV := Lib.hid (And.intro hv.1 (show v < 9223372036854775808 by have := hv.2; omega))
  have zw := stW_size k
  have HB := Lib.hid (below_alloc (Below.refl w.heap.size w) (.cells #[.int .i64 k, .int .i64 e, .int .i64 v] 45))
  have HX := Lib.hid (Row.new w 45 #[.int .i64 k, .int .i64 e, .int .i64 v])
  have i0 : (0 : Int) ≤ k - 1 := by omega
  have i1 : k - 1 < 4 := by omega
  have i2 : IntKind.i64.wrap (k - 1) = k - 1 := IntWalk.i64_in _ (by omega)
  have k0 : ∀ w, (Op.stringOp .add (stW k) (⟨#[32]⟩ : ByteArray)).run Tryd.prog w = .ok (.string (stW k ++ ⟨#[32]⟩)) w := fun w => cat_run _ _ 6 zw (by decide)
  have k1 : ∀ w, (Op.stringOp .add (stW k ++ ⟨#[32]⟩) (decB e)).run Tryd.prog w = .ok (.string (stW k ++ ⟨#[32]⟩ ++ decB e)) w := fun w => cat_run _ _ 20 (by rw [ByteArray.size_append]; show _ + 1 ≤ 20; omega) ze
  have k2 : ∀ w, (Op.stringOp .add (stW k ++ ⟨#[32]⟩ ++ decB e) ⟨#[32]⟩).run Tryd.prog w = .ok (.string (stW k ++ ⟨#[32]⟩ ++ decB e ++ ⟨#[32]⟩)) w := fun w => cat_run _ _ 27 (app_le (m := 7) (n := 20) (app_le (m := 6) (n := 1) zw (by decide)) ze) (by decide)
  have k3 : ∀ w, (Op.stringOp .add (stW k ++ ⟨#[32]⟩ ++ decB e ++ ⟨#[32]⟩) (decB v)).run Tryd.prog w = .ok (.string (stW k ++ ⟨#[32]⟩ ++ decB e ++ ⟨#[32]⟩ ++ decB v)) w := fun w => cat_run _ _ 28 (app_le (m := 27) (n := 1) (app_le (m := 7) (n := 20) (app_le (m := 6) (n := 1) zw (by decide)) ze) (by decide)) (by omega)
  by_cases h1 : k = 1
  · have HR := Lib.hid (show stW k ++ ⟨#[32]⟩ ++ decB e = stateTx k e v by unfold stateTx; rw [HK.out, if_pos rfl, if_pos h1])
    have h1b : (k != 1) = false := by rw [h1]; rfl
    clear he hv zv ze zw h1
    go_enter Tryd.func30, Tryd.ntmps30
    go_wp2_with (go_at_call 70; refine (l1in_any _ _ _ _).mono ?_; rw [HK.out]; rintro x w1 ⟨rfl, rfl⟩)
    refine wp_region_noPanic ?_
    refine wp_region_held_drew (S := (fun w' => Hid (Below w.heap.size w w' ∧ Row w' w.heap.size 45 #[.int .i64 k, .int .i64 e, .int .i64 v]))) (by kernel_rfl) (Lib.hid ⟨HB.out.drew, HX.out.keep (Below.refl _ _).drew⟩) (fun HS => ?_)
    refine held_take (i := 1) (d := 9) (v := .pointer (some ⟨w.heap.size, 0, none⟩)) rfl rfl (by kernel_rfl) (by kernel_rfl) (by kernel_rfl) (by kernel_rfl) (fun wx hS => by go_simp) HS ?_
    refine held_take (i := 2) (d := 10) (v := .int .i64 k) rfl rfl (by kernel_rfl) (by kernel_rfl) (by kernel_rfl) (by kernel_rfl) (fun wx hS => by have k0 := hS.out.2.cell (j := 0) (by simp); simp at k0; go_simp) HS ?_
    refine held_take (i := 3) (d := 11) (v := .int .i64 (k - 1)) rfl rfl (by kernel_rfl) (by kernel_rfl) (by kernel_rfl) (by kernel_rfl) (fun wx hS => by go_simp) HS ?_
    refine held_take (i := 7) (d := 15) (v := .pointer (some ⟨w.heap.size, 1, none⟩)) rfl rfl (by kernel_rfl) (by kernel_rfl) (by kernel_rfl) (by kernel_rfl) (fun wx hS => by go_simp) HS ?_
    refine held_take (i := 8) (d := 16) (v := .int .i64 e) rfl rfl (by kernel_rfl) (by kernel_rfl) (by kernel_rfl) (by kernel_rfl) (fun wx hS => by have k0 := hS.out.2.cell (j := 1) (by simp); simp at k0; go_simp) HS ?_
    refine wpAnyH_ready (rs := [0, 9]) (by kernel_rfl) (by simp) (AllReadyH.cons rfl (fun K hK => ?_) (AllReadyH.cons rfl (fun K hK => ?_) AllReadyH.nil))
    · go_simp
      refine hK.out _ _ (Lib.hid ⟨(below_alloc HS.out.1 _), HS.out.2.alloc _⟩) (fun HS => ?_)
      clear hK K
      refine held_mono (S' := (fun w' => Hid (Below w.heap.size w w' ∧ Row w' w.heap.size 45 #[.int .i64 k, .int .i64 e, .int .i64 v] ∧ Row w' (w.heap.size + 1) 9 #[.string ⟨#[102, 114, 101, 101]⟩, .string ⟨#[116, 97, 107, 101, 110]⟩, .string ⟨#[100, 111, 110, 101]⟩, .string ⟨#[102, 97, 105, 108, 101, 100]⟩]))) (fun w' h => Lib.hid ⟨h.out.1, h.out.2.1⟩) ?_
      have HS := more3d (A := w.heap.size + 1) HS (by simp)
      refine held_take (i := 4) (d := 12) (v := .pointer (some ⟨w.heap.size + 1, k.toNat - 1, none⟩)) rfl rfl (by kernel_rfl) (by kernel_rfl) (by kernel_rfl) (by kernel_rfl) (fun wx hS => by go_simp) HS ?_
      refine held_take (i := 5) (d := 13) (v := .string (stW k)) rfl rfl (by kernel_rfl) (by kernel_rfl) (by kernel_rfl) (by kernel_rfl) (fun wx hS => by have k0 := tab_row hS.out.2.2 hk1 hk4; go_simp) HS ?_
      refine held_take (i := 6) (d := 14) (v := .string (stW k ++ ⟨#[32]⟩)) rfl rfl (by kernel_rfl) (by kernel_rfl) (by kernel_rfl) (by kernel_rfl) (fun wx hS => by go_simp) HS ?_
      refine wpAnyH_ready (rs := [9]) (by kernel_rfl) (by simp) (AllReadyH.cons rfl (fun K hK => ?_) AllReadyH.nil)
      go_simp
      refine (l1dec_any _ HE.out.1 HE.out.2 _).mono ?_
      rintro x w2 ⟨rfl, hB⟩
      refine hK.out _ _ (Lib.hid ⟨below_via HS.out.1 hB, HS.out.2.1.keep hB, HS.out.2.2.keep hB⟩) (fun HS => ?_)
      clear hK K
      refine held_take (i := 10) (d := 18) (v := .string (stW k ++ ⟨#[32]⟩ ++ decB e)) rfl rfl (by kernel_rfl) (by kernel_rfl) (by kernel_rfl) (by kernel_rfl) (fun wx hS => by go_simp) HS ?_
      refine held_take (i := 11) (d := 3) (v := .string (stW k ++ ⟨#[32]⟩ ++ decB e)) rfl rfl (by kernel_rfl) (by kernel_rfl) (by kernel_rfl) (by kernel_rfl) (fun wx hS => by go_simp) HS ?_
      refine wpAnyH_done (by kernel_rfl) (NoPanic.normal ?_) _
      simp only [List.setIfInBounds_toArray, List.set_cons_zero, List.set_cons_succ]
      have y0 := HS.out.2.1.cell (j := 0) (by simp)
      simp at y0
      go_wp2
      go_ret
      exact ⟨congrArg (fun s => Ending.returned (.string s)) HR.out, HS.out.1⟩
    · go_simp
      refine (l1dec_any _ HE.out.1 HE.out.2 _).mono ?_
      rintro x w2 ⟨rfl, hB⟩
      refine hK.out _ _ (Lib.hid ⟨below_via HS.out.1 hB, HS.out.2.keep hB⟩) (fun HS => ?_)
      clear hK K
      refine wpAnyH_ready (rs := [0]) (by kernel_rfl) (by simp) (AllReadyH.cons rfl (fun K hK => ?_) AllReadyH.nil)
      go_simp
      refine hK.out _ _ (Lib.hid ⟨(below_alloc HS.out.1 _), HS.out.2.alloc _⟩) (fun HS => ?_)
      clear hK K
      refine held_mono (S' := (fun w' => Hid (Below w.heap.size w w' ∧ Row w' w.heap.size 45 #[.int .i64 k, .int .i64 e, .int .i64 v] ∧ Row w' (w2.heap.size) 9 #[.string ⟨#[102, 114, 101, 101]⟩, .string ⟨#[116, 97, 107, 101, 110]⟩, .string ⟨#[100, 111, 110, 101]⟩, .string ⟨#[102, 97, 105, 108, 101, 100]⟩]))) (fun w' h => Lib.hid ⟨h.out.1, h.out.2.1⟩) ?_
      have HS := more3 (A := w2.heap.size) HS rfl
      refine held_take (i := 4) (d := 12) (v := .pointer (some ⟨w2.heap.size, k.toNat - 1, none⟩)) rfl rfl (by kernel_rfl) (by kernel_rfl) (by kernel_rfl) (by kernel_rfl) (fun wx hS => by go_simp) HS ?_
      refine held_take (i := 5) (d := 13) (v := .string (stW k)) rfl rfl (by kernel_rfl) (by kernel_rfl) (by kernel_rfl) (by kernel_rfl) (fun wx hS => by have k0 := tab_row hS.out.2.2 hk1 hk4; go_simp) HS ?_
      refine held_take (i := 6) (d := 14) (v := .string (stW k ++ ⟨#[32]⟩)) rfl rfl (by kernel_rfl) (by kernel_rfl) (by kernel_rfl) (by kernel_rfl) (fun wx hS => by go_simp) HS ?_
      refine held_take (i := 10) (d := 18) (v := .string (stW k ++ ⟨#[32]⟩ ++ decB e)) rfl rfl (by kernel_rfl) (by kernel_rfl) (by kernel_rfl) (by kernel_rfl) (fun wx hS => by go_simp) HS ?_
      refine held_take (i := 11) (d := 3) (v := .string (stW k ++ ⟨#[32]⟩ ++ decB e)) rfl rfl (by kernel_rfl) (by kernel_rfl) (by kernel_rfl) (by kernel_rfl) (fun wx hS => by go_simp) HS ?_
      refine wpAnyH_done (by kernel_rfl) (NoPanic.normal ?_) _
      simp only [List.setIfInBounds_toArray, List.set_cons_zero, List.set_cons_succ]
      have y0 := HS.out.2.1.cell (j := 0) (by simp)
      simp at y0
      go_wp2
      go_ret
      exact ⟨congrArg (fun s => Ending.returned (.string s)) HR.out, HS.out.1⟩
  · have HR := Lib.hid (show stW k ++ ⟨#[32]⟩ ++ decB e ++ ⟨#[32]⟩ ++ decB v = stateTx k e v by unfold stateTx; rw [HK.out, if_pos rfl, if_neg h1])
    have h1b : (k != 1) = true := by rw [bne_iff_ne]; exact h1
    clear he hv zv ze zw h1
    go_enter Tryd.func30, Tryd.ntmps30
    go_wp2_with (go_at_call 70; refine (l1in_any _ _ _ _).mono ?_; rw [HK.out]; rintro x w1 ⟨rfl, rfl⟩)
    refine wp_region_noPanic ?_
    refine wp_region_held_drew (S := (fun w' => Hid (Below w.heap.size w w' ∧ Row w' w.heap.size 45 #[.int .i64 k, .int .i64 e, .int .i64 v]))) (by kernel_rfl) (Lib.hid ⟨HB.out.drew, HX.out.keep (Below.refl _ _).drew⟩) (fun HS => ?_)
    refine held_take (i := 1) (d := 9) (v := .pointer (some ⟨w.heap.size, 0, none⟩)) rfl rfl (by kernel_rfl) (by kernel_rfl) (by kernel_rfl) (by kernel_rfl) (fun wx hS => by go_simp) HS ?_
    refine held_take (i := 2) (d := 10) (v := .int .i64 k) rfl rfl (by kernel_rfl) (by kernel_rfl) (by kernel_rfl) (by kernel_rfl) (fun wx hS => by have k0 := hS.out.2.cell (j := 0) (by simp); simp at k0; go_simp) HS ?_
    refine held_take (i := 3) (d := 11) (v := .int .i64 (k - 1)) rfl rfl (by kernel_rfl) (by kernel_rfl) (by kernel_rfl) (by kernel_rfl) (fun wx hS => by go_simp) HS ?_
    refine held_take (i := 7) (d := 15) (v := .pointer (some ⟨w.heap.size, 1, none⟩)) rfl rfl (by kernel_rfl) (by kernel_rfl) (by kernel_rfl) (by kernel_rfl) (fun wx hS => by go_simp) HS ?_
    refine held_take (i := 8) (d := 16) (v := .int .i64 e) rfl rfl (by kernel_rfl) (by kernel_rfl) (by kernel_rfl) (by kernel_rfl) (fun wx hS => by have k0 := hS.out.2.cell (j := 1) (by simp); simp at k0; go_simp) HS ?_
    refine wpAnyH_ready (rs := [0, 9]) (by kernel_rfl) (by simp) (AllReadyH.cons rfl (fun K hK => ?_) (AllReadyH.cons rfl (fun K hK => ?_) AllReadyH.nil))
    · go_simp
      refine hK.out _ _ (Lib.hid ⟨(below_alloc HS.out.1 _), HS.out.2.alloc _⟩) (fun HS => ?_)
      clear hK K
      refine held_mono (S' := (fun w' => Hid (Below w.heap.size w w' ∧ Row w' w.heap.size 45 #[.int .i64 k, .int .i64 e, .int .i64 v] ∧ Row w' (w.heap.size + 1) 9 #[.string ⟨#[102, 114, 101, 101]⟩, .string ⟨#[116, 97, 107, 101, 110]⟩, .string ⟨#[100, 111, 110, 101]⟩, .string ⟨#[102, 97, 105, 108, 101, 100]⟩]))) (fun w' h => Lib.hid ⟨h.out.1, h.out.2.1⟩) ?_
      have HS := more3d (A := w.heap.size + 1) HS (by simp)
      refine held_take (i := 4) (d := 12) (v := .pointer (some ⟨w.heap.size + 1, k.toNat - 1, none⟩)) rfl rfl (by kernel_rfl) (by kernel_rfl) (by kernel_rfl) (by kernel_rfl) (fun wx hS => by go_simp) HS ?_
      refine held_take (i := 5) (d := 13) (v := .string (stW k)) rfl rfl (by kernel_rfl) (by kernel_rfl) (by kernel_rfl) (by kernel_rfl) (fun wx hS => by have k0 := tab_row hS.out.2.2 hk1 hk4; go_simp) HS ?_
      refine held_take (i := 6) (d := 14) (v := .string (stW k ++ ⟨#[32]⟩)) rfl rfl (by kernel_rfl) (by kernel_rfl) (by kernel_rfl) (by kernel_rfl) (fun wx hS => by go_simp) HS ?_
      refine wpAnyH_ready (rs := [9]) (by kernel_rfl) (by simp) (AllReadyH.cons rfl (fun K hK => ?_) AllReadyH.nil)
      go_simp
      refine (l1dec_any _ HE.out.1 HE.out.2 _).mono ?_
      rintro x w2 ⟨rfl, hB⟩
      refine hK.out _ _ (Lib.hid ⟨below_via HS.out.1 hB, HS.out.2.1.keep hB, HS.out.2.2.keep hB⟩) (fun HS => ?_)
      clear hK K
      refine held_take (i := 10) (d := 18) (v := .string (stW k ++ ⟨#[32]⟩ ++ decB e)) rfl rfl (by kernel_rfl) (by kernel_rfl) (by kernel_rfl) (by kernel_rfl) (fun wx hS => by go_simp) HS ?_
      refine held_take (i := 11) (d := 3) (v := .string (stW k ++ ⟨#[32]⟩ ++ decB e)) rfl rfl (by kernel_rfl) (by kernel_rfl) (by kernel_rfl) (by kernel_rfl) (fun wx hS => by go_simp) HS ?_
      refine wpAnyH_done (by kernel_rfl) (NoPanic.normal ?_) _
      simp only [List.setIfInBounds_toArray, List.set_cons_zero, List.set_cons_succ]
      have y0 := HS.out.2.1.cell (j := 0) (by simp)
      have y2 := HS.out.2.1.cell (j := 2) (by simp)
      simp at y0 y2
      have HB9 := Lib.hid HS.out.1
      go_wp2_with (go_at_call 57; refine (l1dec_any _ HV.out.1 HV.out.2 _).mono ?_; rintro x w3 ⟨rfl, hB⟩; have HB9 := Lib.hid (below_via HB9.out hB); clear hB)
      go_ret
      exact ⟨congrArg (fun s => Ending.returned (.string s)) HR.out, HB9.out⟩
    · go_simp
      refine (l1dec_any _ HE.out.1 HE.out.2 _).mono ?_
      rintro x w2 ⟨rfl, hB⟩
      refine hK.out _ _ (Lib.hid ⟨below_via HS.out.1 hB, HS.out.2.keep hB⟩) (fun HS => ?_)
      clear hK K
      refine wpAnyH_ready (rs := [0]) (by kernel_rfl) (by simp) (AllReadyH.cons rfl (fun K hK => ?_) AllReadyH.nil)
      go_simp
      refine hK.out _ _ (Lib.hid ⟨(below_alloc HS.out.1 _), HS.out.2.alloc _⟩) (fun HS => ?_)
      clear hK K
      refine held_mono (S' := (fun w' => Hid (Below w.heap.size w w' ∧ Row w' w.heap.size 45 #[.int .i64 k, .int .i64 e, .int .i64 v] ∧ Row w' (w2.heap.size) 9 #[.string ⟨#[102, 114, 101, 101]⟩, .string ⟨#[116, 97, 107, 101, 110]⟩, .string ⟨#[100, 111, 110, 101]⟩, .string ⟨#[102, 97, 105, 108, 101, 100]⟩]))) (fun w' h => Lib.hid ⟨h.out.1, h.out.2.1⟩) ?_
      have HS := more3 (A := w2.heap.size) HS rfl
      refine held_take (i := 4) (d := 12) (v := .pointer (some ⟨w2.heap.size, k.toNat - 1, none⟩)) rfl rfl (by kernel_rfl) (by kernel_rfl) (by kernel_rfl) (by kernel_rfl) (fun wx hS => by go_simp) HS ?_
      refine held_take (i := 5) (d := 13) (v := .string (stW k)) rfl rfl (by kernel_rfl) (by kernel_rfl) (by kernel_rfl) (by kernel_rfl) (fun wx hS => by have k0 := tab_row hS.out.2.2 hk1 hk4; go_simp) HS ?_
      refine held_take (i := 6) (d := 14) (v := .string (stW k ++ ⟨#[32]⟩)) rfl rfl (by kernel_rfl) (by kernel_rfl) (by kernel_rfl) (by kernel_rfl) (fun wx hS => by go_simp) HS ?_
      refine held_take (i := 10) (d := 18) (v := .string (stW k ++ ⟨#[32]⟩ ++ decB e)) rfl rfl (by kernel_rfl) (by kernel_rfl) (by kernel_rfl) (by kernel_rfl) (fun wx hS => by go_simp) HS ?_
      refine held_take (i := 11) (d := 3) (v := .string (stW k ++ ⟨#[32]⟩ ++ decB e)) rfl rfl (by kernel_rfl) (by kernel_rfl) (by kernel_rfl) (by kernel_rfl) (fun wx hS => by go_simp) HS ?_
      refine wpAnyH_done (by kernel_rfl) (NoPanic.normal ?_) _
      simp only [List.setIfInBounds_toArray, List.set_cons_zero, List.set_cons_succ]
      have y0 := HS.out.2.1.cell (j := 0) (by simp)
      have y2 := HS.out.2.1.cell (j := 2) (by simp)
      simp at y0 y2
      have HB9 := Lib.hid HS.out.1
      go_wp2_with (go_at_call 57; refine (l1dec_any _ HV.out.1 HV.out.2 _).mono ?_; rintro x w3 ⟨rfl, hB⟩; have HB9 := Lib.hid (below_via HB9.out hB); clear hB)
      go_ret
      exact ⟨congrArg (fun s => Ending.returned (.string s)) HR.out, HB9.out⟩
end Go.Proofs.YtbmhabboloficaaDoor
