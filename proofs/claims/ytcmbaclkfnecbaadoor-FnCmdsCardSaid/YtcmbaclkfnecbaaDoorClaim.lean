
/- The text of a claim: what the program and its model write. Only new blocks are made. -/
import Derived.Test.YtcmbaclkfnecbaaDoorDecs
import Derived.Test.YtcmbaclkfnecbaaDoorMg2
namespace Go.Proofs.YtcmbaclkfnecbaaDoor
open Go.ChangeShapes Go.WideShapes Go.ChangeAt Go.RowKit
set_option linter.unusedVariables false
set_option maxRecDepth 100000

theorem l8who_any (n : Int) (w : World) : Calls Tryd.prog 44 #[.int .i64 n] w (SameBool (inB n 0 3) w) := by
  go_enter Tryd.func44, Tryd.ntmps44
  go_wp2_with (go_at_call 46; refine (l1in_any _ _ _ _).mono ?_; rintro e w' ⟨rfl, rfl⟩)
  go_ret
  exact ⟨rfl, rfl⟩
theorem workerok_any (n : Int) (w : World) : Calls Tryd.prog 63 #[.int .i64 n] w (SameBool (inB n 0 3) w) := by
  go_enter Tryd.func63, Tryd.ntmps63
  go_wp2_with (go_at_call 64; refine (within_any _ _ _ _).mono ?_; rintro e w' ⟨rfl, rfl⟩)
  go_ret
  exact ⟨rfl, rfl⟩

def claimB (a e u : Int) : Bool := inB a 0 3 && (inB e 1 1000000 && inB u 0 1000000)
theorem claimB_iff {a e u : Int} : claimB a e u = true ↔ (0 ≤ a ∧ a ≤ 3) ∧ (1 ≤ e ∧ e ≤ 1000000) ∧ (0 ≤ u ∧ u ≤ 1000000) := by
  unfold claimB
  simp only [Bool.and_eq_true, inB_iff]

set_option maxHeartbeats 1000000 in
theorem claimok_any (a e u : Int) (w : World) : Calls Tryd.prog 37 #[.agg #[.int .i64 a, .int .i64 e, .int .i64 u]] w (MadeBool (claimB a e u) w) := by
  obtain ⟨q, hq⟩ : ∃ q, claimB a e u = q := ⟨_, rfl⟩
  have HQ := Lib.hid hq
  rw [hq]
  unfold claimB at hq
  clear hq
  obtain ⟨q1, h1⟩ : ∃ q, inB a 0 3 = q := ⟨_, rfl⟩
  obtain ⟨q2, h2⟩ : ∃ q, inB e 1 1000000 = q := ⟨_, rfl⟩
  obtain ⟨q3, h3⟩ : ∃ q, inB u 0 1000000 = q := ⟨_, rfl⟩
  have H1 := Lib.hid h1
  have H2 := Lib.hid h2
  have H3 := Lib.hid h3
  have HE := Lib.hid (show (q1 && (q2 && q3)) = q by rw [← h1, ← h2, ← h3, ← HQ.out]; rfl)
  clear h1 h2 h3
  cases q1 <;> cases q2 <;> cases q3
  all_goals
    go_enter Tryd.func37, Tryd.ntmps37
    go_wp2_with (first | (go_at_call 63; refine (workerok_any _ _).mono ?_; rw [H1.out]; rintro e w1 ⟨rfl, rfl⟩) | (go_at_call 59; refine (verok_any _ _).mono ?_; rw [H2.out]; rintro e w1 ⟨rfl, rfl⟩) | (go_at_call 64; refine (within_any _ _ _ _).mono ?_; rw [H3.out]; rintro e w1 ⟨rfl, rfl⟩))
    go_ret
    exact ⟨ret_bool HE.out, below_alloc (Below.refl _ _) _⟩

def cat3 (a b c : ByteArray) : ByteArray := (((a ++ ⟨#[32]⟩) ++ b) ++ ⟨#[32]⟩) ++ c
def claimTx (a e u : Int) : ByteArray := if claimB a e u then cat3 (decB a) (decB e) (decB u) else ByteArray.empty
theorem cat_run {P : Program} {w : World} (a b : ByteArray) (n : Nat) (ha : a.size ≤ n) (hb : b.size ≤ n) (hn : n ≤ 4611686018427387903 := by decide) : (Op.stringOp .add a b).run P w = .ok (.string (a ++ b)) w :=
  run_string_add_sum w a b (by omega)
theorem join3 (a e u : Int) : joinB ⟨#[32]⟩ [a, e, u] = cat3 (decB a) (decB e) (decB u) := by
  apply ba_eq
  simp [joinB, cat3, Lib.join, List.intercalate, decB]

theorem nums_new (w : World) (t : TypeId) (ns : List Int) (h : ∀ n ∈ ns, In64 n) : Nums (w.alloc (.cells (ns.map fun n => Value.int .i64 n).toArray t)) w.heap.size ns :=
  ⟨by simp, fun j hj => by
    have := heap_alloc_new w (.cells (ns.map fun n => Value.int .i64 n).toArray t)
    unfold World.cell?
    rw [this]
    simp [hj], h⟩

set_option maxHeartbeats 2000000 in
theorem claimtext_any (a e u : Int) (w : World) (hT : Tabs w) : Calls Tryd.prog 11 #[.agg #[.int .i64 a, .int .i64 e, .int .i64 u]] w (MadeTx (claimTx a e u) w) := by
  have HT := Lib.hid hT
  clear hT
  cases hq : claimB a e u with
  | false =>
    have HQ := Lib.hid hq
    have HR := Lib.hid (show claimTx a e u = ByteArray.empty by unfold claimTx; rw [hq]; rfl)
    clear hq
    go_enter Tryd.func11, Tryd.ntmps11
    go_wp2_with (go_at_call 37; refine (claimok_any _ _ _ _).mono ?_; rw [HQ.out]; rintro x w1 ⟨rfl, hB⟩)
    go_ret
    exact ⟨congrArg (fun s => Ending.returned (.string s)) HR.out.symm, below_via (below_alloc (Below.refl _ _) _) hB⟩
  | true =>
    have hb := claimB_iff.1 hq
    have HQ := Lib.hid hq
    have HR := Lib.hid (show claimTx a e u = joinB ⟨#[32]⟩ [a, e, u] by unfold claimTx; rw [hq, join3]; rfl)
    have HI := Lib.hid (show ∀ n ∈ [a, e, u], In64 n by
      intro n hn
      simp only [List.mem_cons, List.mem_nil_iff, or_false] at hn
      unfold In64
      rcases hn with rfl | rfl | rfl <;> omega)
    clear hq hb
    go_enter Tryd.func11, Tryd.ntmps11
    go_wp2_with fail
    refine (claimok_any _ _ _ _).mono ?_
    rw [HQ.out]
    rintro x w1 ⟨rfl, hB⟩
    have y0 := (hB.cell (p := ⟨w.heap.size, 0, none⟩) (by simp)).trans (World.cell?_alloc_mark w #[.int .i64 a, .int .i64 e, .int .i64 u] 25 (0, 0) 0)
    have y1 := (hB.cell (p := ⟨w.heap.size, 1, none⟩) (by simp)).trans (World.cell?_alloc_mark w #[.int .i64 a, .int .i64 e, .int .i64 u] 25 (0, 0) 1)
    have y2 := (hB.cell (p := ⟨w.heap.size, 2, none⟩) (by simp)).trans (World.cell?_alloc_mark w #[.int .i64 a, .int .i64 e, .int .i64 u] 25 (0, 0) 2)
    simp at y0 y1 y2
    have HB := Lib.hid (below_via (below_alloc (Below.refl w.heap.size w) _) hB)
    clear hB
    go_wp2_with fail
    have hd := decimals_any ⟨#[32]⟩ w1.heap.size 3 [a, e, u] (w1.alloc (.cells #[.int .i64 a, .int .i64 e, .int .i64 u] 2)) (by decide) (by simp) (by simp) (nums_new w1 2 [a, e, u] HI.out) (HT.out.keep (below_alloc HB.out _))
    refine (hd).mono ?_
    rintro x w2 ⟨rfl, hB⟩
    have HB2 := Lib.hid (below_via (below_alloc HB.out _) hB)
    clear hB hd
    go_wp2
    go_ret
    exact ⟨congrArg (fun s => Ending.returned (.string s)) HR.out.symm, HB2.out⟩

set_option maxHeartbeats 2000000 in
theorem sclaimtext_any (a e u : Int) (w : World) : Calls Tryd.prog 15 #[.agg #[.int .i64 a, .int .i64 e, .int .i64 u]] w (MadeTx (claimTx a e u) w) := by
  obtain ⟨q1, h1⟩ : ∃ q, inB a 0 3 = q := ⟨_, rfl⟩
  obtain ⟨q2, h2⟩ : ∃ q, inB e 1 1000000 = q := ⟨_, rfl⟩
  obtain ⟨q3, h3⟩ : ∃ q, inB u 0 1000000 = q := ⟨_, rfl⟩
  have H1 := Lib.hid h1
  have H2 := Lib.hid h2
  have H3 := Lib.hid h3
  have hq : claimB a e u = (q1 && (q2 && q3)) := by rw [← h1, ← h2, ← h3]; rfl
  clear h1 h2 h3
  by_cases hall : (q1 && (q2 && q3)) = true
  · rw [hall] at hq
    have hb := claimB_iff.1 hq
    obtain ⟨⟨a0, a1⟩, ⟨b0, b1⟩, c0, c1⟩ := hb
    have HR := Lib.hid (show claimTx a e u = cat3 (decB a) (decB e) (decB u) by unfold claimTx; rw [hq]; rfl)
    have za := @decB_size a (by omega) (by omega)
    have ze := @decB_size e (by omega) (by omega)
    have zu := @decB_size u (by omega) (by omega)
    simp only [Bool.and_eq_true] at hall
    obtain ⟨rfl, rfl, rfl⟩ := hall
    clear hq
    have k1 : ∀ w, (Op.stringOp .add (decB a) ⟨#[32]⟩).run Tryd.prog w = .ok (.string (decB a ++ ⟨#[32]⟩)) w := fun w => cat_run _ _ 20 za (by decide)
    have k2 : ∀ w, (Op.stringOp .add (decB a ++ ⟨#[32]⟩) (decB e)).run Tryd.prog w = .ok (.string (decB a ++ ⟨#[32]⟩ ++ decB e)) w := fun w => cat_run _ _ 40 (by rw [ByteArray.size_append]; show (decB a).size + 1 ≤ 40; omega) (by omega)
    have k3 : ∀ w, (Op.stringOp .add (decB a ++ ⟨#[32]⟩ ++ decB e) ⟨#[32]⟩).run Tryd.prog w = .ok (.string (decB a ++ ⟨#[32]⟩ ++ decB e ++ ⟨#[32]⟩)) w := fun w => cat_run _ _ 60 (by rw [ByteArray.size_append, ByteArray.size_append]; show (decB a).size + 1 + (decB e).size ≤ 60; omega) (by decide)
    have k4 : ∀ w, (Op.stringOp .add (decB a ++ ⟨#[32]⟩ ++ decB e ++ ⟨#[32]⟩) (decB u)).run Tryd.prog w = .ok (.string (decB a ++ ⟨#[32]⟩ ++ decB e ++ ⟨#[32]⟩ ++ decB u)) w := fun w => cat_run _ _ 60 (by rw [ByteArray.size_append, ByteArray.size_append, ByteArray.size_append]; show (decB a).size + 1 + (decB e).size + 1 ≤ 60; omega) (by omega)
    go_enter Tryd.func15, Tryd.ntmps15
    go_wp2_with (first | (go_at_call 44; refine (l8who_any _ _).mono ?_; rw [H1.out]; rintro e w1 ⟨rfl, rfl⟩) | (go_at_call 45; refine (l7ver_any _ _).mono ?_; rw [H2.out]; rintro e w1 ⟨rfl, rfl⟩) | (go_at_call 46; refine (l1in_any _ _ _ _).mono ?_; rw [H3.out]; rintro e w1 ⟨rfl, rfl⟩))
    have y0 : (w.alloc (.cells #[.int .i64 a, .int .i64 e, .int .i64 u] 25)).drew.cell? ⟨w.heap.size, 0, none⟩ = some (.int .i64 a) := by simp
    have y1 : (w.alloc (.cells #[.int .i64 a, .int .i64 e, .int .i64 u] 25)).drew.cell? ⟨w.heap.size, 1, none⟩ = some (.int .i64 e) := by simp
    have y2 : (w.alloc (.cells #[.int .i64 a, .int .i64 e, .int .i64 u] 25)).drew.cell? ⟨w.heap.size, 2, none⟩ = some (.int .i64 u) := by simp
    have HB := Lib.hid (below_alloc (Below.refl w.heap.size w) (.cells #[.int .i64 a, .int .i64 e, .int .i64 u] 25)).drew
    go_region_held3 (fun w' => Hid (Below w.heap.size w w') ∧ w'.cell? ⟨w.heap.size, 0, none⟩ = some (.int .i64 a) ∧ w'.cell? ⟨w.heap.size, 1, none⟩ = some (.int .i64 e) ∧ w'.cell? ⟨w.heap.size, 2, none⟩ = some (.int .i64 u))
      (exact ⟨HB, y0, y1, y2⟩)
      ((go_at_call 47; refine (l1dec_any _ (by omega) (by omega) _).mono ?_; rintro e w6 ⟨rfl, hB⟩; have y0 := (hB.cell (p := ⟨w.heap.size, 0, none⟩) (World.block_lt_of_cell? _ _ y0)).trans y0; have y1 := (hB.cell (p := ⟨w.heap.size, 1, none⟩) (World.block_lt_of_cell? _ _ y1)).trans y1; have y2 := (hB.cell (p := ⟨w.heap.size, 2, none⟩) (World.block_lt_of_cell? _ _ y2)).trans y2; have HB := Lib.hid (below_via HB.out hB); clear hB))
    go_wp2
    go_ret
    exact ⟨congrArg (fun s => Ending.returned (.string s)) HR.out.symm, HB.out⟩
  · have hq2 : claimB a e u = false := by rw [hq]; simpa using hall
    have HR := Lib.hid (show claimTx a e u = ByteArray.empty by unfold claimTx; rw [hq2]; rfl)
    clear hq hq2
    cases q1 <;> cases q2 <;> cases q3 <;> simp at hall
    all_goals
      go_enter Tryd.func15, Tryd.ntmps15
      go_wp2_with (first | (go_at_call 44; refine (l8who_any _ _).mono ?_; rw [H1.out]; rintro e w1 ⟨rfl, rfl⟩) | (go_at_call 45; refine (l7ver_any _ _).mono ?_; rw [H2.out]; rintro e w1 ⟨rfl, rfl⟩) | (go_at_call 46; refine (l1in_any _ _ _ _).mono ?_; rw [H3.out]; rintro e w1 ⟨rfl, rfl⟩))
      go_ret
      exact ⟨congrArg (fun s => Ending.returned (.string s)) HR.out.symm, below_alloc (Below.refl _ _) _⟩
end Go.Proofs.YtcmbaclkfnecbaaDoor
