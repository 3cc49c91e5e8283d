
/- The text of an event: what the program and its model write. Only new blocks are made. -/
import Derived.Test.YtbmhabboloficaaDoorEvM
namespace Go.Proofs.YtbmhabboloficaaDoor
open Go.ChangeShapes Go.WideShapes Go.ChangeAt Go.RowKit
set_option linter.unusedVariables false
set_option maxRecDepth 100000

set_option maxHeartbeats 4000000 in
theorem eventtext_1 (v : Int) (w : World) (hv : evB 1 v 4 = true) (hT : TabsEv w) : Calls Tryd.prog 17 #[.agg #[.int .i64 1, .int .i64 v]] w (MadeTx (evTx 1 v) w) := by
  have HQ := Lib.hid hv
  have hb := evB_iff.1 hv
  have zv := @decB_size v (by omega) (by omega)
  have HI : Hid (∀ n ∈ [v], In64 n) := Lib.hid (by intro n hn; simp at hn; subst hn; unfold In64; omega)
  have HR : Hid ((⟨#[115, 116, 101, 112]⟩ ++ ⟨#[32]⟩ ++ joinB ⟨#[32]⟩ [v] : ByteArray) = evTx 1 v) := Lib.hid (by rw [join1, evTx_12 hv (by decide)]; rfl)
  have zj : (joinB ⟨#[32]⟩ [v]).size ≤ 20 := by rw [join1]; exact zv
  have k1 : ∀ w, (Op.stringOp .add ((⟨#[115, 116, 101, 112]⟩ : ByteArray) ++ ⟨#[32]⟩) (joinB ⟨#[32]⟩ [v])).run Tryd.prog w = .ok (.string (⟨#[115, 116, 101, 112]⟩ ++ ⟨#[32]⟩ ++ joinB ⟨#[32]⟩ [v])) w := fun w => cat_run _ _ 20 (by decide) zj
  have HT := Lib.hid hT
  clear hv hb zv zj hT
  go_enter Tryd.func17, Tryd.ntmps17
  go_wp2_with fail
  refine (eventok_any 1 v 4 _).mono ?_
  rw [HQ.out]
  rintro x w1 ⟨rfl, hB⟩
  have y0 : w1.cell? ⟨w.heap.size, 0, none⟩ = some (.int .i64 1) := cell_keep hB (by simp)
  have y1 : w1.cell? ⟨w.heap.size, 1, none⟩ = some (.int .i64 v) := cell_keep hB (by simp)
  have HB := Lib.hid (below_via (below_alloc (Below.refl w.heap.size w) _) hB)
  have HT := Lib.hid (HT.out.keep HB.out)
  have t0 : w1.cell? ⟨0, 1, none⟩ = some (.string ⟨#[115, 116, 101, 112]⟩) := HT.out.words.cell 1 (by decide)
  have HB1 := Lib.hid (below_alloc HB.out (.cells #[.int .i64 v] 2)).drew
  have HT1 := Lib.hid (HT.out.keep (below_alloc (Below.refl _ _) (.cells #[.int .i64 v] 2)).drew)
  have HN := Lib.hid (nums_drew (w := w1) (B := w1.heap.size) 2 HI.out rfl)
  have HB0 := Lib.hid HB.out.drew
  clear hB
  go_wp2_with fail
  go_region_held3 (fun w' => Hid (Below w.heap.size w w') ∧ w'.cell? ⟨w.heap.size, 0, none⟩ = some (.int .i64 1) ∧ w'.cell? ⟨w.heap.size, 1, none⟩ = some (.int .i64 v) ∧ w'.cell? ⟨0, 1, none⟩ = some (.string ⟨#[115, 116, 101, 112]⟩))
    (first | exact ⟨HB0, y0, y1, t0⟩ | exact ⟨HB1, cell_alloc _ y0, cell_alloc _ y1, cell_alloc _ t0⟩ | exact ⟨HB2, z0, z1, u0⟩)
    ((go_at_call 59; refine (decimals_any ⟨#[32]⟩ _ 1 [v] _ (by decide) (by simp) (by simp) HN.out HT1.out.pow).mono ?_; rintro x w2 ⟨rfl, hB⟩; have HB2 := Lib.hid (below_via HB1.out hB); have z0 := cell_keep hB (cell_alloc _ y0); have z1 := cell_keep hB (cell_alloc _ y1); have u0 := cell_keep hB (cell_alloc _ t0); clear hB))
  go_wp2
  go_ret
  exact ⟨congrArg (fun s => Ending.returned (.string s)) HR.out, HB2.out⟩

set_option maxHeartbeats 4000000 in
theorem seventtext_1 (v : Int) (w : World) (hv : evB 1 v 4 = true) : Calls Tryd.prog 15 #[.agg #[.int .i64 1, .int .i64 v]] w (MadeTx (evTx 1 v) w) := by
  have HQ := Lib.hid hv
  have hb := evB_iff.1 hv
  have zv := @decB_size v (by omega) (by omega)
  have HR : Hid ((⟨#[115, 116, 101, 112, 32]⟩ ++ decB v : ByteArray) = evTx 1 v) := Lib.hid (by rw [evTx_12 hv (by decide)]; rfl)
  have HV : Hid (-9223372036854775808 ≤ v ∧ v < 9223372036854775808) := Lib.hid (by omega)
  have k1 : ∀ w, (Op.stringOp .add (⟨#[115, 116, 101, 112, 32]⟩ : ByteArray) (decB v)).run Tryd.prog w = .ok (.string (⟨#[115, 116, 101, 112, 32]⟩ ++ decB v)) w := fun w => cat_run _ _ 20 (by decide) zv
  clear hv hb zv
  go_enter Tryd.func15, Tryd.ntmps15
  go_wp2_with fail
  refine (seventok_any 1 v 4 _).mono ?_
  rw [HQ.out]
  rintro x w1 ⟨rfl, hB⟩
  have y0 : w1.cell? ⟨w.heap.size, 0, none⟩ = some (.int .i64 1) := cell_keep hB (by simp)
  have y1 : w1.cell? ⟨w.heap.size, 1, none⟩ = some (.int .i64 v) := cell_keep hB (by simp)
  have HB := Lib.hid (below_via (below_alloc (Below.refl w.heap.size w) _) hB)
  clear hB
  go_wp2_with fail
  refine (l1dec_any v HV.out.1 HV.out.2 _).mono ?_
  rintro x w2 ⟨rfl, hB⟩
  have HB := Lib.hid (below_via HB.out hB)
  clear hB
  go_wp2
  go_ret
  exact ⟨congrArg (fun s => Ending.returned (.string s)) HR.out, HB.out⟩

set_option maxHeartbeats 4000000 in
theorem eventtext_2 (v : Int) (w : World) (hv : evB 2 v 4 = true) (hT : TabsEv w) : Calls Tryd.prog 17 #[.agg #[.int .i64 2, .int .i64 v]] w (MadeTx (evTx 2 v) w) := by
  have HQ := Lib.hid hv
  have hb := evB_iff.1 hv
  have zv := @decB_size v (by omega) (by omega)
  have HI : Hid (∀ n ∈ [v], In64 n) := Lib.hid (by intro n hn; simp at hn; subst hn; unfold In64; omega)
  have HR : Hid ((⟨#[99, 114, 97, 115, 104]⟩ ++ ⟨#[32]⟩ ++ joinB ⟨#[32]⟩ [v] : ByteArray) = evTx 2 v) := Lib.hid (by rw [join1, evTx_12 hv (by decide)]; rfl)
  have zj : (joinB ⟨#[32]⟩ [v]).size ≤ 20 := by rw [join1]; exact zv
  have k1 : ∀ w, (Op.stringOp .add ((⟨#[99, 114, 97, 115, 104]⟩ : ByteArray) ++ ⟨#[32]⟩) (joinB ⟨#[32]⟩ [v])).run Tryd.prog w = .ok (.string (⟨#[99, 114, 97, 115, 104]⟩ ++ ⟨#[32]⟩ ++ joinB ⟨#[32]⟩ [v])) w := fun w => cat_run _ _ 20 (by decide) zj
  have HT := Lib.hid hT
  clear hv hb zv zj hT
  go_enter Tryd.func17, Tryd.ntmps17
  go_wp2_with fail
  refine (eventok_any 2 v 4 _).mono ?_
  rw [HQ.out]
  rintro x w1 ⟨rfl, hB⟩
  have y0 : w1.cell? ⟨w.heap.size, 0, none⟩ = some (.int .i64 2) := cell_keep hB (by simp)
  have y1 : w1.cell? ⟨w.heap.size, 1, none⟩ = some (.int .i64 v) := cell_keep hB (by simp)
  have HB := Lib.hid (below_via (below_alloc (Below.refl w.heap.size w) _) hB)
  have HT := Lib.hid (HT.out.keep HB.out)
  have t0 : w1.cell? ⟨0, 2, none⟩ = some (.string ⟨#[99, 114, 97, 115, 104]⟩) := HT.out.words.cell 2 (by decide)
  have HB1 := Lib.hid (below_alloc HB.out (.cells #[.int .i64 v] 2)).drew
  have HT1 := Lib.hid (HT.out.keep (below_alloc (Below.refl _ _) (.cells #[.int .i64 v] 2)).drew)
  have HN := Lib.hid (nums_drew (w := w1) (B := w1.heap.size) 2 HI.out rfl)
  have HB0 := Lib.hid HB.out.drew
  clear hB
  go_wp2_with fail
  go_region_held3 (fun w' => Hid (Below w.heap.size w w') ∧ w'.cell? ⟨w.heap.size, 0, none⟩ = some (.int .i64 2) ∧ w'.cell? ⟨w.heap.size, 1, none⟩ = some (.int .i64 v) ∧ w'.cell? ⟨0, 2, none⟩ = some (.string ⟨#[99, 114, 97, 115, 104]⟩))
    (first | exact ⟨HB0, y0, y1, t0⟩ | exact ⟨HB1, cell_alloc _ y0, cell_alloc _ y1, cell_alloc _ t0⟩ | exact ⟨HB2, z0, z1, u0⟩)
    ((go_at_call 59; refine (decimals_any ⟨#[32]⟩ _ 1 [v] _ (by decide) (by simp) (by simp) HN.out HT1.out.pow).mono ?_; rintro x w2 ⟨rfl, hB⟩; have HB2 := Lib.hid (below_via HB1.out hB); have z0 := cell_keep hB (cell_alloc _ y0); have z1 := cell_keep hB (cell_alloc _ y1); have u0 := cell_keep hB (cell_alloc _ t0); clear hB))
  go_wp2
  go_ret
  exact ⟨congrArg (fun s => Ending.returned (.string s)) HR.out, HB2.out⟩

set_option maxHeartbeats 4000000 in
theorem seventtext_2 (v : Int) (w : World) (hv : evB 2 v 4 = true) : Calls Tryd.prog 15 #[.agg #[.int .i64 2, .int .i64 v]] w (MadeTx (evTx 2 v) w) := by
  have HQ := Lib.hid hv
  have hb := evB_iff.1 hv
  have zv := @decB_size v (by omega) (by omega)
  have HR : Hid ((⟨#[99, 114, 97, 115, 104, 32]⟩ ++ decB v : ByteArray) = evTx 2 v) := Lib.hid (by rw [evTx_12 hv (by decide)]; rfl)
  have HV : Hid (-9223372036854775808 ≤ v ∧ v < 9223372036854775808) := Lib.hid (by omega)
  have k1 : ∀ w, (Op.stringOp .add (⟨#[99, 114, 97, 115, 104, 32]⟩ : ByteArray) (decB v)).run Tryd.prog w = .ok (.string (⟨#[99, 114, 97, 115, 104, 32]⟩ ++ decB v)) w := fun w => cat_run _ _ 20 (by decide) zv
  clear hv hb zv
  go_enter Tryd.func15, Tryd.ntmps15
  go_wp2_with fail
  refine (seventok_any 2 v 4 _).mono ?_
  rw [HQ.out]
  rintro x w1 ⟨rfl, hB⟩
  have y0 : w1.cell? ⟨w.heap.size, 0, none⟩ = some (.int .i64 2) := cell_keep hB (by simp)
  have y1 : w1.cell? ⟨w.heap.size, 1, none⟩ = some (.int .i64 v) := cell_keep hB (by simp)
  have HB := Lib.hid (below_via (below_alloc (Below.refl w.heap.size w) _) hB)
  clear hB
  go_wp2_with fail
  refine (l1dec_any v HV.out.1 HV.out.2 _).mono ?_
  rintro x w2 ⟨rfl, hB⟩
  have HB := Lib.hid (below_via HB.out hB)
  clear hB
  go_wp2
  go_ret
  exact ⟨congrArg (fun s => Ending.returned (.string s)) HR.out, HB.out⟩

set_option maxHeartbeats 1000000 in
theorem eventtext_any (k v : Int) (w : World) (hT : TabsEv w) : Calls Tryd.prog 17 #[.agg #[.int .i64 k, .int .i64 v]] w (MadeTx (evTx k v) w) := by
  cases hq : evB k v 4 with
  | false =>
    have HQ := Lib.hid hq
    have HR := Lib.hid (evTx_no hq)
    clear hq hT
    go_enter Tryd.func17, Tryd.ntmps17
    go_wp2_with (go_at_call 58; refine (eventok_any k v 4 _).mono ?_; rw [HQ.out]; rintro x w1 ⟨rfl, hB⟩; have HB := Lib.hid (below_via (below_alloc (Below.refl w.heap.size w) _) hB); clear hB)
    go_ret
    exact ⟨congrArg (fun s => Ending.returned (.string s)) HR.out.symm, HB.out⟩
  | true =>
    have hb := evB_iff.1 hq
    have hk : k = 1 ∨ k = 2 ∨ k = 3 := by omega
    rcases hk with rfl | rfl | rfl
    · exact eventtext_1 v w hq hT
    · exact eventtext_2 v w hq hT
    · obtain rfl : v = 0 := by omega
      have HQ := Lib.hid hq
      have HR := Lib.hid evTx_3
      clear hq hb hT
      go_enter Tryd.func17, Tryd.ntmps17
      go_wp2_with fail
      refine (eventok_any 3 0 4 _).mono ?_
      rw [HQ.out]
      rintro x w1 ⟨rfl, hB⟩
      have y0 : w1.cell? ⟨w.heap.size, 0, none⟩ = some (.int .i64 3) := cell_keep hB (by simp)
      have HB := Lib.hid (below_via (below_alloc (Below.refl w.heap.size w) _) hB)
      clear hB
      go_wp2
      go_ret
      exact ⟨congrArg (fun s => Ending.returned (.string s)) HR.out.symm, HB.out⟩
set_option maxHeartbeats 1000000 in
theorem seventtext_any (k v : Int) (w : World) : Calls Tryd.prog 15 #[.agg #[.int .i64 k, .int .i64 v]] w (MadeTx (evTx k v) w) := by
  cases hq : evB k v 4 with
  | false =>
    have HQ := Lib.hid hq
    have HR := Lib.hid (evTx_no hq)
    clear hq
    go_enter Tryd.func15, Tryd.ntmps15
    go_wp2_with (go_at_call 56; refine (seventok_any k v 4 _).mono ?_; rw [HQ.out]; rintro x w1 ⟨rfl, hB⟩; have HB := Lib.hid (below_via (below_alloc (Below.refl w.heap.size w) _) hB); clear hB)
    go_ret
    exact ⟨congrArg (fun s => Ending.returned (.string s)) HR.out.symm, HB.out⟩
  | true =>
    have hb := evB_iff.1 hq
    have hk : k = 1 ∨ k = 2 ∨ k = 3 := by omega
    rcases hk with rfl | rfl | rfl
    · exact seventtext_1 v w hq
    · exact seventtext_2 v w hq
    · obtain rfl : v = 0 := by omega
      have HQ := Lib.hid hq
      have HR := Lib.hid evTx_3
      clear hq hb
      go_enter Tryd.func15, Tryd.ntmps15
      go_wp2_with fail
      refine (seventok_any 3 0 4 _).mono ?_
      rw [HQ.out]
      rintro x w1 ⟨rfl, hB⟩
      have y0 : w1.cell? ⟨w.heap.size, 0, none⟩ = some (.int .i64 3) := cell_keep hB (by simp)
      have HB := Lib.hid (below_via (below_alloc (Below.refl w.heap.size w) _) hB)
      clear hB
      go_wp2
      go_ret
      exact ⟨congrArg (fun s => Ending.returned (.string s)) HR.out.symm, HB.out⟩

set_option maxHeartbeats 4000000 in
theorem fnExactEventText_walk (k v : Int) (w : World) (hT : TabsEv w) :
    Calls Tryd.prog 3 #[.agg #[.int .i64 k, .int .i64 v]] w fun x w' => x = .returned (.bool true) ∧ Below w.heap.size w w' := by
  obtain ⟨q, hq⟩ : ∃ q, evTx k v = q := ⟨_, rfl⟩
  have HQ := Lib.hid hq
  have HT := Lib.hid hT
  clear hq hT
  have HX := Lib.hid (Row.new w 23 #[.int .i64 k, .int .i64 v])
  have HB := Lib.hid (below_alloc (Below.refl w.heap.size w) (.cells #[.int .i64 k, .int .i64 v] 23))
  go_enter Tryd.func3, Tryd.ntmps3
  go_wp2_with fail
  refine (toevent_any k v _).mono ?_
  rintro x w1 ⟨rfl, hB⟩
  have HX := Lib.hid (HX.out.keep hB)
  have HB := Lib.hid (below_via HB.out hB)
  clear hB
  go_wp2_with fail
  refine (seventtext_any k v _).mono ?_
  rw [HQ.out]
  rintro x w2 ⟨rfl, hB⟩
  have HX := Lib.hid (HX.out.keep hB)
  have HB := Lib.hid (below_via HB.out hB)
  have y0 := HX.out.cell (j := 0) (by simp)
  have y1 := HX.out.cell (j := 1) (by simp)
  simp at y0 y1
  clear hB
  go_wp2_with fail
  refine (toevent_any k v _).mono ?_
  rintro x w3 ⟨rfl, hB⟩
  have HB := Lib.hid (below_via HB.out hB)
  clear hB y0 y1 HX
  go_wp2_with fail
  refine (eventtext_any k v _ (HT.out.keep HB.out)).mono ?_
  rw [HQ.out]
  rintro x w4 ⟨rfl, hB⟩
  have HB := Lib.hid (below_via HB.out hB)
  clear hB HQ
  go_wp2
  go_ret
  exact ⟨rfl, HB.out⟩
end Go.Proofs.YtbmhabboloficaaDoor
