
/- The text of a mark of a task: what the program and its model write. Only new blocks are made. -/
import Derived.Test.YtcmbaclkfnecbaaDoorClaim
namespace Go.Proofs.YtcmbaclkfnecbaaDoor
open Go.ChangeShapes Go.WideShapes Go.ChangeAt Go.RowKit
set_option linter.unusedVariables false
set_option maxRecDepth 100000

def markB (e k : Int) : Bool := inB e 1 1000000 && inB k 0 3
theorem markB_iff {e k : Int} : markB e k = true ↔ (1 ≤ e ∧ e ≤ 1000000) ∧ (0 ≤ k ∧ k ≤ 3) := by
  unfold markB
  simp only [Bool.and_eq_true, inB_iff]
def okTx : ByteArray := ⟨#[111, 107, 32]⟩
def failTx : ByteArray := ⟨#[102, 97, 105, 108, 101, 100, 32]⟩
def markTx (ok : Bool) (e k : Int) : ByteArray := if markB e k then (if ok then okTx else failTx) ++ decB e ++ ⟨#[32]⟩ ++ decB k else ByteArray.empty

set_option maxHeartbeats 1000000 in
theorem markok_any (ok : Bool) (e k : Int) (w : World) : Calls Tryd.prog 48 #[.agg #[.bool ok, .int .i64 e, .int .i64 k]] w (MadeBool (markB e k) w) := by
  obtain ⟨q, hq⟩ : ∃ q, markB e k = q := ⟨_, rfl⟩
  rw [hq]
  obtain ⟨q1, h1⟩ : ∃ q, inB e 1 1000000 = q := ⟨_, rfl⟩
  obtain ⟨q2, h2⟩ : ∃ q, inB k 0 3 = q := ⟨_, rfl⟩
  have H1 := Lib.hid h1
  have H2 := Lib.hid h2
  have HE := Lib.hid (show (q1 && q2) = q by rw [← h1, ← h2, ← hq]; rfl)
  clear h1 h2 hq
  cases q1 <;> cases q2
  all_goals
    go_enter Tryd.func48, Tryd.ntmps48
    go_wp2_with (first | (go_at_call 63; refine (workerok_any _ _).mono ?_; rw [H2.out]; rintro e w1 ⟨rfl, rfl⟩) | (go_at_call 59; refine (verok_any _ _).mono ?_; rw [H1.out]; rintro e w1 ⟨rfl, rfl⟩))
    go_ret
    exact ⟨ret_bool HE.out, below_alloc (Below.refl _ _) _⟩

theorem app_le {a b : ByteArray} {m n : Nat} (ha : a.size ≤ m) (hb : b.size ≤ n) : (a ++ b).size ≤ m + n := by rw [ByteArray.size_append]; omega
theorem join2 (e k : Int) : joinB ⟨#[32]⟩ [e, k] = decB e ++ ⟨#[32]⟩ ++ decB k := by
  apply ba_eq
  simp [joinB, Lib.join, List.intercalate, decB]
theorem join2_size {e k : Int} (ze : (decB e).size ≤ 20) (zk : (decB k).size ≤ 20) : (joinB ⟨#[32]⟩ [e, k]).size ≤ 41 := by
  rw [join2, ByteArray.size_append, ByteArray.size_append]
  show (decB e).size + 1 + (decB k).size ≤ 41
  omega
theorem mark_ok {e k : Int} (h : markB e k = true) : (⟨#[111, 107]⟩ ++ ⟨#[32]⟩ ++ joinB ⟨#[32]⟩ [e, k] : ByteArray) = markTx true e k := by
  unfold markTx
  rw [if_pos h, if_pos rfl, join2]
  apply ba_eq
  simp [okTx]
theorem mark_fail {e k : Int} (h : markB e k = true) : (⟨#[102, 97, 105, 108, 101, 100]⟩ ++ ⟨#[32]⟩ ++ joinB ⟨#[32]⟩ [e, k] : ByteArray) = markTx false e k := by
  unfold markTx
  rw [if_pos h, if_neg (by simp), join2]
  apply ba_eq
  simp [failTx]

set_option maxHeartbeats 2000000 in
theorem marktxt_any (ok : Bool) (e k : Int) (w : World) (hT : Tabs w) : Calls Tryd.prog 17 #[.agg #[.bool ok, .int .i64 e, .int .i64 k]] w (MadeTx (markTx ok e k) w) := by
  have HT := Lib.hid hT
  clear hT
  cases hq : markB e k with
  | false =>
    have HQ := Lib.hid hq
    have HR := Lib.hid (show markTx ok e k = ByteArray.empty by unfold markTx; rw [hq]; rfl)
    clear hq
    go_enter Tryd.func17, Tryd.ntmps17
    go_wp2_with (go_at_call 48; refine (markok_any _ _ _ _).mono ?_; rw [HQ.out]; rintro x w1 ⟨rfl, hB⟩)
    go_ret
    exact ⟨congrArg (fun s => Ending.returned (.string s)) HR.out.symm, below_via (below_alloc (Below.refl _ _) _) hB⟩
  | true =>
    have hb := markB_iff.1 hq
    have HQ := Lib.hid hq
    have ze := @decB_size e (by omega) (by omega)
    have zk := @decB_size k (by omega) (by omega)
    have zj := join2_size ze zk
    have HI := Lib.hid (show ∀ n ∈ [e, k], In64 n by
      intro n hn
      simp only [List.mem_cons, List.mem_nil_iff, or_false] at hn
      unfold In64
      rcases hn with rfl | rfl <;> omega)
    have HR1 := Lib.hid (mark_ok hq)
    have HR2 := Lib.hid (mark_fail hq)
    clear hq hb ze zk
    cases ok
    all_goals
      go_enter Tryd.func17, Tryd.ntmps17
      go_wp2_with fail
      refine (markok_any _ _ _ _).mono ?_
      rw [HQ.out]
      rintro x w1 ⟨rfl, hB⟩
      have y0 := (hB.cell (p := ⟨w.heap.size, 0, none⟩) (by simp)).trans (World.cell?_alloc_mark w _ 32 (0, 0) 0)
      have y1 := (hB.cell (p := ⟨w.heap.size, 1, none⟩) (by simp)).trans (World.cell?_alloc_mark w _ 32 (0, 0) 1)
      have y2 := (hB.cell (p := ⟨w.heap.size, 2, none⟩) (by simp)).trans (World.cell?_alloc_mark w _ 32 (0, 0) 2)
      simp at y0 y1 y2
      have HB := Lib.hid (below_via (below_alloc (Below.refl w.heap.size w) _) hB)
      clear hB
      go_wp2_with fail
      have hd := decimals_any ⟨#[32]⟩ w1.heap.size 2 [e, k] (w1.alloc (.cells #[.int .i64 e, .int .i64 k] 2)) (by decide) (by simp) (by simp) (nums_new w1 2 [e, k] HI.out) (HT.out.keep (below_alloc HB.out _))
      refine (hd).mono ?_
      rintro x w2 ⟨rfl, hB⟩
      have HB2 := Lib.hid (below_via (below_alloc HB.out _) hB)
      clear hB hd
      go_wp2
      go_ret
      first | exact ⟨congrArg (fun s => Ending.returned (.string s)) HR1.out, HB2.out⟩ | exact ⟨congrArg (fun s => Ending.returned (.string s)) HR2.out, HB2.out⟩

set_option maxHeartbeats 2000000 in
theorem smarktxt_any (ok : Bool) (e k : Int) (w : World) : Calls Tryd.prog 21 #[.agg #[.bool ok, .int .i64 e, .int .i64 k]] w (MadeTx (markTx ok e k) w) := by
  obtain ⟨q1, h1⟩ : ∃ q, inB e 1 1000000 = q := ⟨_, rfl⟩
  obtain ⟨q2, h2⟩ : ∃ q, inB k 0 3 = q := ⟨_, rfl⟩
  have H1 := Lib.hid h1
  have H2 := Lib.hid h2
  have hq : markB e k = (q1 && q2) := by rw [← h1, ← h2]; rfl
  clear h1 h2
  by_cases hall : (q1 && q2) = true
  · rw [hall] at hq
    have hb := markB_iff.1 hq
    obtain ⟨⟨b0, b1⟩, c0, c1⟩ := hb
    have ze := @decB_size e (by omega) (by omega)
    have zk := @decB_size k (by omega) (by omega)
    simp only [Bool.and_eq_true] at hall
    obtain ⟨rfl, rfl⟩ := hall
    have HR1 := Lib.hid (show markTx true e k = ⟨#[111, 107, 32]⟩ ++ decB e ++ ⟨#[32]⟩ ++ decB k by unfold markTx; rw [hq]; rfl)
    have HR2 := Lib.hid (show markTx false e k = ⟨#[102, 97, 105, 108, 101, 100, 32]⟩ ++ decB e ++ ⟨#[32]⟩ ++ decB k by unfold markTx; rw [hq]; rfl)
    clear hq
    have k1 : ∀ w, (Op.stringOp .add ⟨#[111, 107, 32]⟩ (decB e)).run Tryd.prog w = .ok (.string (⟨#[111, 107, 32]⟩ ++ decB e)) w := fun w => cat_run _ _ 20 (by decide) ze
    have k2 : ∀ w, (Op.stringOp .add (⟨#[111, 107, 32]⟩ ++ decB e) ⟨#[32]⟩).run Tryd.prog w = .ok (.string (⟨#[111, 107, 32]⟩ ++ decB e ++ ⟨#[32]⟩)) w := fun w => cat_run _ _ 27 (app_le (m := 7) (n := 20) (by decide) ze) (by decide)
    have k3 : ∀ w, (Op.stringOp .add (⟨#[111, 107, 32]⟩ ++ decB e ++ ⟨#[32]⟩) (decB k)).run Tryd.prog w = .ok (.string (⟨#[111, 107, 32]⟩ ++ decB e ++ ⟨#[32]⟩ ++ decB k)) w := fun w => cat_run _ _ 28 (app_le (m := 27) (n := 1) (app_le (m := 7) (n := 20) (by decide) ze) (by decide)) (by omega)
    have j1 : ∀ w, (Op.stringOp .add ⟨#[102, 97, 105, 108, 101, 100, 32]⟩ (decB e)).run Tryd.prog w = .ok (.string (⟨#[102, 97, 105, 108, 101, 100, 32]⟩ ++ decB e)) w := fun w => cat_run _ _ 20 (by decide) ze
    have j2 : ∀ w, (Op.stringOp .add (⟨#[102, 97, 105, 108, 101, 100, 32]⟩ ++ decB e) ⟨#[32]⟩).run Tryd.prog w = .ok (.string (⟨#[102, 97, 105, 108, 101, 100, 32]⟩ ++ decB e ++ ⟨#[32]⟩)) w := fun w => cat_run _ _ 27 (app_le (m := 7) (n := 20) (by decide) ze) (by decide)
    have j3 : ∀ w, (Op.stringOp .add (⟨#[102, 97, 105, 108, 101, 100, 32]⟩ ++ decB e ++ ⟨#[32]⟩) (decB k)).run Tryd.prog w = .ok (.string (⟨#[102, 97, 105, 108, 101, 100, 32]⟩ ++ decB e ++ ⟨#[32]⟩ ++ decB k)) w := fun w => cat_run _ _ 28 (app_le (m := 27) (n := 1) (app_le (m := 7) (n := 20) (by decide) ze) (by decide)) (by omega)
    have y0 : (w.alloc (.cells #[.bool ok, .int .i64 e, .int .i64 k] 32)).drew.cell? ⟨w.heap.size, 0, none⟩ = some (.bool ok) := by simp
    have y1 : (w.alloc (.cells #[.bool ok, .int .i64 e, .int .i64 k] 32)).drew.cell? ⟨w.heap.size, 1, none⟩ = some (.int .i64 e) := by simp
    have y2 : (w.alloc (.cells #[.bool ok, .int .i64 e, .int .i64 k] 32)).drew.cell? ⟨w.heap.size, 2, none⟩ = some (.int .i64 k) := by simp
    have HB := Lib.hid (below_alloc (Below.refl w.heap.size w) (.cells #[.bool ok, .int .i64 e, .int .i64 k] 32)).drew
    cases ok
    all_goals
      go_enter Tryd.func21, Tryd.ntmps21
      go_wp2_with (first | (go_at_call 44; refine (l8who_any _ _).mono ?_; rw [H2.out]; rintro e w1 ⟨rfl, rfl⟩) | (go_at_call 45; refine (l7ver_any _ _).mono ?_; rw [H1.out]; rintro e w1 ⟨rfl, rfl⟩))
      go_region_held3 (fun w' => Hid (Below w.heap.size w w') ∧ w'.cell? ⟨w.heap.size, 1, none⟩ = some (.int .i64 e) ∧ w'.cell? ⟨w.heap.size, 2, none⟩ = some (.int .i64 k))
        (exact ⟨HB, y1, y2⟩)
        ((go_at_call 47; refine (l1dec_any _ (by omega) (by omega) _).mono ?_; rintro e w6 ⟨rfl, hB⟩; have y1 := (hB.cell (p := ⟨w.heap.size, 1, none⟩) (World.block_lt_of_cell? _ _ y1)).trans y1; have y2 := (hB.cell (p := ⟨w.heap.size, 2, none⟩) (World.block_lt_of_cell? _ _ y2)).trans y2; have HB := Lib.hid (below_via HB.out hB); clear hB))
      go_wp2
      go_ret
      first | exact ⟨congrArg (fun s => Ending.returned (.string s)) HR1.out.symm, HB.out⟩ | exact ⟨congrArg (fun s => Ending.returned (.string s)) HR2.out.symm, HB.out⟩
  · have hq2 : markB e k = false := by rw [hq]; simpa using hall
    have HR := Lib.hid (show markTx ok e k = ByteArray.empty by unfold markTx; rw [hq2]; rfl)
    clear hq hq2
    cases q1 <;> cases q2 <;> simp at hall
    all_goals
      go_enter Tryd.func21, Tryd.ntmps21
      go_wp2_with (first | (go_at_call 44; refine (l8who_any _ _).mono ?_; rw [H2.out]; rintro e w1 ⟨rfl, rfl⟩) | (go_at_call 45; refine (l7ver_any _ _).mono ?_; rw [H1.out]; rintro e w1 ⟨rfl, rfl⟩))
      go_ret
      exact ⟨congrArg (fun s => Ending.returned (.string s)) HR.out.symm, below_alloc (Below.refl _ _) _⟩
end Go.Proofs.YtcmbaclkfnecbaaDoor
