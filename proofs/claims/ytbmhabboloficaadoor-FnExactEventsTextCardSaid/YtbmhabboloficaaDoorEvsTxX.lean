
/- Texts of lists of events: what the model writes; the exact law on EventsText, walked. Only new blocks are made. -/
import Derived.Test.YtbmhabboloficaaDoorEvsTx
namespace Go.Proofs.YtbmhabboloficaaDoor
open Go.ChangeShapes Go.WideShapes Go.ChangeAt Go.RowKit
set_option linter.unusedVariables false
set_option maxRecDepth 100000

set_option maxHeartbeats 8000000 in
theorem seventstext_any (a : Option Addr) (len cap : Nat) (l : Events) (w : World) (h : EventsAt w a len l) (hsm : len ≤ 1048576) :
    Calls Tryd.prog 22 #[.slice a len cap] w (MadeTx (evsTx l) w) := by
  have HL := Lib.hid h.length
  have HR := Lib.hid h
  clear h
  go_enter Tryd.func22, Tryd.ntmps22
  go_wp2
  go_loopw [3, 4, 5] (fun s c i wr => ∃ k : Nat, k ≤ len ∧ i = .int .i64 k ∧ s = .string (evFold l k).1 ∧ c = .int .i64 ((evFold l k).2 : Nat) ∧ Hid (Below w.heap.size w wr ∧ ∀ j, j < k → len ≤ 1000 ∧ evB (ev0 l j) (ev1 l j) 4 = true)) (fun _ _ i _ => len - (intOf i).toNat)
  case atStart => exact ⟨0, Nat.zero_le _, rfl, rfl, rfl, Below.refl _ _, fun j hj => by omega⟩
  case round =>
    obtain ⟨k, hk, rfl, rfl, rfl, HWA⟩ := hrel
    obtain ⟨t, n, hf⟩ : ∃ t n, evFold l k = (t, n) := ⟨_, _, rfl⟩
    have HF := Lib.hid hf
    rw [hf]
    clear hf
    by_cases hlt : k < len
    · rcases (HR.out.keep HWA.out.1).src with hz | ⟨b, off, rfl, hb, hc⟩
      · omega
      obtain ⟨c0, c1⟩ := hc k hlt
      have hi0 : (0 : Int) ≤ (k : Int) := by omega
      have hi1 : (k : Int) < (len : Int) := by omega
      obtain ⟨q, hq⟩ : ∃ q, evB (ev0 l k) (ev1 l k) 4 = q := ⟨_, rfl⟩
      have HQ := Lib.hid hq
      have HC := Lib.hid hc
      have HBO := Lib.hid hb
      clear hc hb hq
      go_wp2_with fail
      refine (seventok_any _ _ 4 _).mono ?_
      rw [HQ.out]
      rintro e w3 ⟨rfl, hB⟩
      have c0 := cell_keep hB c0
      have c1 := cell_keep hB c1
      have HD := Lib.hid (fun (he : k + 1 < len) => show w3.cell? ⟨b, off + (k + 1) * 2, none⟩ = some (.int .i64 (ev0 l (k + 1))) ∧ w3.cell? ⟨b, off + (k + 1) * 2 + 1, none⟩ = some (.int .i64 (ev1 l (k + 1))) from ⟨cell_keep hB (HC.out (k + 1) he).1, cell_keep hB (HC.out (k + 1) he).2⟩)
      have HW := Lib.hid (below_via HWA.out.1 hB)
      clear hB
      cases q
      · have HR1 := Lib.hid (evsTx_no (evs_bad (by rw [HL.out]; exact hlt) HQ.out))
        go_wp2
        go_ret
        exact ⟨congrArg (fun s => Ending.returned (.string s)) HR1.out.symm, HW.out⟩
      by_cases hmany : (1000 : Int) < (len : Int)
      · have HR1 := Lib.hid (evsTx_no (l := l) (evs_many (by rw [HL.out]; omega)))
        go_wp2
        go_ret
        exact ⟨congrArg (fun s => Ending.returned (.string s)) HR1.out.symm, HW.out⟩
      have HOK := Lib.hid (show ∀ j, j < k + 1 → len ≤ 1000 ∧ evB (ev0 l j) (ev1 l j) 4 = true from fun j hj => by
        rcases Nat.lt_or_ge j k with h | h
        · exact HWA.out.2 j h
        · obtain rfl : j = k := by omega
          exact ⟨by omega, HQ.out⟩)
      have hnk : n ≤ k := by have := evFold_count l k; rw [HF.out] at this; exact this
      have htk : t.size ≤ 30 * k := by have := evFold_size l k (by omega); rw [HF.out] at this; exact this
      have s1 : IntKind.i64.wrap ((n : Int) + 1) = (n : Int) + 1 := IntWalk.i64_in _ (by omega)
      have s2 : IntKind.i64.wrap ((k : Int) + 1) = (k : Int) + 1 := IntWalk.i64_in _ (by omega)
      have hj0 : (0 : Int) ≤ (k : Int) + 1 := by omega
      have hn0 : (0 : Int) ≤ (n : Int) + 1 := by omega
      have hn1 : (n : Int) + 1 ≤ 2000 := by omega
      have s3 : ((k : Int) + 1).toNat = k + 1 := by omega
      have HN1 := Lib.hid (show -9223372036854775808 ≤ (n : Int) + 1 ∧ (n : Int) + 1 < 9223372036854775808 by omega)
      have ze := @decB_size ((n : Int) + 1) (by omega) (by omega)
      have zt := evTx_le (ev0 l k) (ev1 l k)
      have q1 : ∀ w, (Op.stringOp .add t (decB ((n : Int) + 1))).run Tryd.prog w = .ok (.string (t ++ decB ((n : Int) + 1))) w := fun w => cat_run _ _ 40000 (by omega) (by omega)
      have q2 : ∀ w, (Op.stringOp .add (t ++ decB ((n : Int) + 1)) (⟨#[32]⟩ : ByteArray)).run Tryd.prog w = .ok (.string (t ++ decB ((n : Int) + 1) ++ ⟨#[32]⟩)) w := fun w => cat_run _ _ 40000 (by rw [ByteArray.size_append]; omega) (by decide)
      have q3 : ∀ w, (Op.stringOp .add (t ++ decB ((n : Int) + 1) ++ ⟨#[32]⟩) (evTx (ev0 l k) (ev1 l k))).run Tryd.prog w = .ok (.string (t ++ decB ((n : Int) + 1) ++ ⟨#[32]⟩ ++ evTx (ev0 l k) (ev1 l k))) w := fun w => cat_run _ _ 40000 (by rw [ByteArray.size_append, ByteArray.size_append]; show _ + 1 ≤ 40000; omega) (by omega)
      have q4 : ∀ w, (Op.stringOp .add (t ++ decB ((n : Int) + 1) ++ ⟨#[32]⟩ ++ evTx (ev0 l k) (ev1 l k)) (⟨#[10]⟩ : ByteArray)).run Tryd.prog w = .ok (.string (t ++ decB ((n : Int) + 1) ++ ⟨#[32]⟩ ++ evTx (ev0 l k) (ev1 l k) ++ ⟨#[10]⟩)) w := fun w => cat_run _ _ 40000 (by rw [ByteArray.size_append, ByteArray.size_append, ByteArray.size_append]; show _ + 1 + _ ≤ 40000; omega) (by decide)

      clear ze zt
      by_cases hend : k + 1 = len
      · have hq1 : ((k : Int) + 1 == (len : Int)) = true := by rw [beq_iff_eq]; omega
        have HEND := Lib.hid hend
        clear hend
        have HF1 := Lib.hid (show evFold l (k + 1) = (t ++ decB ((n : Int) + 1) ++ ⟨#[32]⟩ ++ evTx (ev0 l k) (ev1 l k) ++ ⟨#[10]⟩, 0) by
          rw [evFold_end HF.out (.inl (HEND.out.trans HL.out.symm))]
          refine Prod.ext ?_ rfl
          apply ba_eq
          simp [seqTx])
        go_wp2_with fail
        go_quiet (fail)
        go_wp2_with fail
        refine wp_region_noPanic ?_
        refine wp_region_held_drew (S := (fun w' => Hid (Below w.heap.size w w' ∧ w'.cell? ⟨b, off + k * 2, none⟩ = some (.int .i64 (ev0 l k)) ∧ w'.cell? ⟨b, off + k * 2 + 1, none⟩ = some (.int .i64 (ev1 l k))))) (by kernel_rfl) (by exact Lib.hid ⟨(below_drewN HW.out _).drew, c0, c1⟩) (fun HS => ?_)
        refine held_take (i := 0) (d := 42) (v := .string t) rfl rfl (by kernel_rfl) (by kernel_rfl) (by kernel_rfl) (by kernel_rfl) (fun wx hS => by go_simp) HS ?_
        refine held_take (i := 1) (d := 43) (v := .int .i64 ((n : Int) + 1)) rfl rfl (by kernel_rfl) (by kernel_rfl) (by kernel_rfl) (by kernel_rfl) (fun wx hS => by go_simp) HS ?_
        refine held_take (i := 5) (d := 47) (v := .slice (some ⟨b, off, none⟩) len cap) rfl rfl (by kernel_rfl) (by kernel_rfl) (by kernel_rfl) (by kernel_rfl) (fun wx hS => by go_simp) HS ?_
        refine held_take (i := 6) (d := 48) (v := .int .i64 k) rfl rfl (by kernel_rfl) (by kernel_rfl) (by kernel_rfl) (by kernel_rfl) (fun wx hS => by go_simp) HS ?_
        refine held_take (i := 7) (d := 49) (v := .pointer (some ⟨b, off + k * 2, none⟩)) rfl rfl (by kernel_rfl) (by kernel_rfl) (by kernel_rfl) (by kernel_rfl) (fun wx hS => by go_simp) HS ?_
        refine held_take (i := 8) (d := 50) (v := .agg #[.int .i64 (ev0 l k), .int .i64 (ev1 l k)]) rfl rfl (by kernel_rfl) (by kernel_rfl) (by kernel_rfl) (by kernel_rfl) (fun wx hS => by have k0 := hS.out.2.1; have k1 := hS.out.2.2; go_simp) HS ?_
        refine wpAnyH_ready (rs := [2]) (by kernel_rfl) (by simp) (AllReadyH.cons rfl (fun K hK => ?_) AllReadyH.nil)
        go_simp
        refine (l1dec_any _ HN1.out.1 HN1.out.2 _).mono ?_
        rintro x w2 ⟨rfl, hB⟩
        refine hK.out _ _ (Lib.hid ⟨below_via HS.out.1 hB, cell_keep hB HS.out.2.1, cell_keep hB HS.out.2.2⟩) (fun HS => ?_)
        clear hK K
        refine held_take (i := 3) (d := 45) (v := .string (t ++ decB ((n : Int) + 1))) rfl rfl (by kernel_rfl) (by kernel_rfl) (by kernel_rfl) (by kernel_rfl) (fun wx hS => by go_simp) HS ?_
        refine held_take (i := 4) (d := 46) (v := .string (t ++ decB ((n : Int) + 1) ++ ⟨#[32]⟩)) rfl rfl (by kernel_rfl) (by kernel_rfl) (by kernel_rfl) (by kernel_rfl) (fun wx hS => by go_simp) HS ?_
        refine wpAnyH_ready (rs := [9]) (by kernel_rfl) (by simp) (AllReadyH.cons rfl (fun K hK => ?_) AllReadyH.nil)
        go_simp
        refine (seventtext_any _ _ _).mono ?_
        rintro x w2 ⟨rfl, hB⟩
        refine hK.out _ _ (Lib.hid ⟨below_via HS.out.1 hB, cell_keep hB HS.out.2.1, cell_keep hB HS.out.2.2⟩) (fun HS => ?_)
        clear hK K
        refine held_take (i := 10) (d := 52) (v := .string (t ++ decB ((n : Int) + 1) ++ ⟨#[32]⟩ ++ evTx (ev0 l k) (ev1 l k))) rfl rfl (by kernel_rfl) (by kernel_rfl) (by kernel_rfl) (by kernel_rfl) (fun wx hS => by go_simp) HS ?_
        refine held_take (i := 11) (d := 53) (v := .string (t ++ decB ((n : Int) + 1) ++ ⟨#[32]⟩ ++ evTx (ev0 l k) (ev1 l k) ++ ⟨#[10]⟩)) rfl rfl (by kernel_rfl) (by kernel_rfl) (by kernel_rfl) (by kernel_rfl) (fun wx hS => by go_simp) HS ?_
        refine held_take (i := 12) (d := 3) (v := .string (t ++ decB ((n : Int) + 1) ++ ⟨#[32]⟩ ++ evTx (ev0 l k) (ev1 l k) ++ ⟨#[10]⟩)) rfl rfl (by kernel_rfl) (by kernel_rfl) (by kernel_rfl) (by kernel_rfl) (fun wx hS => by go_simp) HS ?_
        refine wpAnyH_done (by kernel_rfl) (NoPanic.normal ?_) _
        simp only [List.setIfInBounds_toArray, List.set_cons_zero, List.set_cons_succ]
        have HBe := Lib.hid HS.out.1
        go_wp2
        go_roundw
        case rel => exact ⟨k + 1, by omega, by go_num, by rw [HF1.out], by rw [HF1.out]; rfl, HBe.out, HOK.out⟩
        case measure => simp [intOf]; omega
      have hq1 : ((k : Int) + 1 == (len : Int)) = false := by rw [beq_eq_false_iff_ne]; omega
      have hj1 : (k : Int) + 1 < (len : Int) := by omega
      obtain ⟨d0, d1⟩ := HD.out (by omega)
      have HNE := Lib.hid hend
      clear hend
      by_cases e0 : ev0 l (k + 1) = ev0 l k
      · by_cases e1 : ev1 l (k + 1) = ev1 l k
        · have HF1 := Lib.hid (evFold_on HF.out (fun h => by rcases h with h | h; exact HNE.out (h.trans HL.out); exact h (Prod.ext e0 e1)))
          rw [e0] at d0
          rw [e1] at d1
          clear e0 e1
          go_wp2_with fail
          go_quiet (fail)
          go_wp2
          go_roundw
          case rel => exact ⟨k + 1, by omega, by go_num, by rw [HF1.out], by rw [HF1.out]; go_num, below_drewN HW.out _, HOK.out⟩
          case measure => simp [intOf]; omega
        · have HX := Lib.hid (show evAt l (k + 1) ≠ evAt l k from fun h => e1 (congrArg Prod.snd h))
          rw [e0] at d0
          have e2 : (ev1 l (k + 1) == ev1 l k) = false := by rw [beq_eq_false_iff_ne]; exact e1
          clear e0
          have HF1 := Lib.hid (show evFold l (k + 1) = (t ++ decB ((n : Int) + 1) ++ ⟨#[32]⟩ ++ evTx (ev0 l k) (ev1 l k) ++ ⟨#[10]⟩, 0) by
            rw [evFold_end HF.out (.inr HX.out)]
            refine Prod.ext ?_ rfl
            apply ba_eq
            simp [seqTx])
          go_wp2_with fail
          go_quiet (fail)
          go_wp2_with fail
          refine wp_region_noPanic ?_
          refine wp_region_held_drew (S := (fun w' => Hid (Below w.heap.size w w' ∧ w'.cell? ⟨b, off + k * 2, none⟩ = some (.int .i64 (ev0 l k)) ∧ w'.cell? ⟨b, off + k * 2 + 1, none⟩ = some (.int .i64 (ev1 l k))))) (by kernel_rfl) (by exact Lib.hid ⟨(below_drewN HW.out _).drew, c0, c1⟩) (fun HS => ?_)
          refine held_take (i := 0) (d := 42) (v := .string t) rfl rfl (by kernel_rfl) (by kernel_rfl) (by kernel_rfl) (by kernel_rfl) (fun wx hS => by go_simp) HS ?_
          refine held_take (i := 1) (d := 43) (v := .int .i64 ((n : Int) + 1)) rfl rfl (by kernel_rfl) (by kernel_rfl) (by kernel_rfl) (by kernel_rfl) (fun wx hS => by go_simp) HS ?_
          refine held_take (i := 5) (d := 47) (v := .slice (some ⟨b, off, none⟩) len cap) rfl rfl (by kernel_rfl) (by kernel_rfl) (by kernel_rfl) (by kernel_rfl) (fun wx hS => by go_simp) HS ?_
          refine held_take (i := 6) (d := 48) (v := .int .i64 k) rfl rfl (by kernel_rfl) (by kernel_rfl) (by kernel_rfl) (by kernel_rfl) (fun wx hS => by go_simp) HS ?_
          refine held_take (i := 7) (d := 49) (v := .pointer (some ⟨b, off + k * 2, none⟩)) rfl rfl (by kernel_rfl) (by kernel_rfl) (by kernel_rfl) (by kernel_rfl) (fun wx hS => by go_simp) HS ?_
          refine held_take (i := 8) (d := 50) (v := .agg #[.int .i64 (ev0 l k), .int .i64 (ev1 l k)]) rfl rfl (by kernel_rfl) (by kernel_rfl) (by kernel_rfl) (by kernel_rfl) (fun wx hS => by have k0 := hS.out.2.1; have k1 := hS.out.2.2; go_simp) HS ?_
          refine wpAnyH_ready (rs := [2]) (by kernel_rfl) (by simp) (AllReadyH.cons rfl (fun K hK => ?_) AllReadyH.nil)
          go_simp
          refine (l1dec_any _ HN1.out.1 HN1.out.2 _).mono ?_
          rintro x w2 ⟨rfl, hB⟩
          refine hK.out _ _ (Lib.hid ⟨below_via HS.out.1 hB, cell_keep hB HS.out.2.1, cell_keep hB HS.out.2.2⟩) (fun HS => ?_)
          clear hK K
          refine held_take (i := 3) (d := 45) (v := .string (t ++ decB ((n : Int) + 1))) rfl rfl (by kernel_rfl) (by kernel_rfl) (by kernel_rfl) (by kernel_rfl) (fun wx hS => by go_simp) HS ?_
          refine held_take (i := 4) (d := 46) (v := .string (t ++ decB ((n : Int) + 1) ++ ⟨#[32]⟩)) rfl rfl (by kernel_rfl) (by kernel_rfl) (by kernel_rfl) (by kernel_rfl) (fun wx hS => by go_simp) HS ?_
          refine wpAnyH_ready (rs := [9]) (by kernel_rfl) (by simp) (AllReadyH.cons rfl (fun K hK => ?_) AllReadyH.nil)
          go_simp
          refine (seventtext_any _ _ _).mono ?_
          rintro x w2 ⟨rfl, hB⟩
          refine hK.out _ _ (Lib.hid ⟨below_via HS.out.1 hB, cell_keep hB HS.out.2.1, cell_keep hB HS.out.2.2⟩) (fun HS => ?_)
          clear hK K
          refine held_take (i := 10) (d := 52) (v := .string (t ++ decB ((n : Int) + 1) ++ ⟨#[32]⟩ ++ evTx (ev0 l k) (ev1 l k))) rfl rfl (by kernel_rfl) (by kernel_rfl) (by kernel_rfl) (by kernel_rfl) (fun wx hS => by go_simp) HS ?_
          refine held_take (i := 11) (d := 53) (v := .string (t ++ decB ((n : Int) + 1) ++ ⟨#[32]⟩ ++ evTx (ev0 l k) (ev1 l k) ++ ⟨#[10]⟩)) rfl rfl (by kernel_rfl) (by kernel_rfl) (by kernel_rfl) (by kernel_rfl) (fun wx hS => by go_simp) HS ?_
          refine held_take (i := 12) (d := 3) (v := .string (t ++ decB ((n : Int) + 1) ++ ⟨#[32]⟩ ++ evTx (ev0 l k) (ev1 l k) ++ ⟨#[10]⟩)) rfl rfl (by kernel_rfl) (by kernel_rfl) (by kernel_rfl) (by kernel_rfl) (fun wx hS => by go_simp) HS ?_
          refine wpAnyH_done (by kernel_rfl) (NoPanic.normal ?_) _
          simp only [List.setIfInBounds_toArray, List.set_cons_zero, List.set_cons_succ]
          have HBe := Lib.hid HS.out.1
          go_wp2
          go_roundw
          case rel => exact ⟨k + 1, by omega, by go_num, by rw [HF1.out], by rw [HF1.out]; rfl, HBe.out, HOK.out⟩
          case measure => simp [intOf]; omega
      · have HX := Lib.hid (show evAt l (k + 1) ≠ evAt l k from fun h => e0 (congrArg Prod.fst h))
        have e2 : (ev0 l (k + 1) == ev0 l k) = false := by rw [beq_eq_false_iff_ne]; exact e0
        have HF1 := Lib.hid (show evFold l (k + 1) = (t ++ decB ((n : Int) + 1) ++ ⟨#[32]⟩ ++ evTx (ev0 l k) (ev1 l k) ++ ⟨#[10]⟩, 0) by
          rw [evFold_end HF.out (.inr HX.out)]
          refine Prod.ext ?_ rfl
          apply ba_eq
          simp [seqTx])
        go_wp2_with fail
        go_quiet (fail)
        go_wp2_with fail
        refine wp_region_noPanic ?_
        refine wp_region_held_drew (S := (fun w' => Hid (Below w.heap.size w w' ∧ w'.cell? ⟨b, off + k * 2, none⟩ = some (.int .i64 (ev0 l k)) ∧ w'.cell? ⟨b, off + k * 2 + 1, none⟩ = some (.int .i64 (ev1 l k))))) (by kernel_rfl) (by exact Lib.hid ⟨(below_drewN HW.out _).drew, c0, c1⟩) (fun HS => ?_)
        refine held_take (i := 0) (d := 42) (v := .string t) rfl rfl (by kernel_rfl) (by kernel_rfl) (by kernel_rfl) (by kernel_rfl) (fun wx hS => by go_simp) HS ?_
        refine held_take (i := 1) (d := 43) (v := .int .i64 ((n : Int) + 1)) rfl rfl (by kernel_rfl) (by kernel_rfl) (by kernel_rfl) (by kernel_rfl) (fun wx hS => by go_simp) HS ?_
        refine held_take (i := 5) (d := 47) (v := .slice (some ⟨b, off, none⟩) len cap) rfl rfl (by kernel_rfl) (by kernel_rfl) (by kernel_rfl) (by kernel_rfl) (fun wx hS => by go_simp) HS ?_
        refine held_take (i := 6) (d := 48) (v := .int .i64 k) rfl rfl (by kernel_rfl) (by kernel_rfl) (by kernel_rfl) (by kernel_rfl) (fun wx hS => by go_simp) HS ?_
        refine held_take (i := 7) (d := 49) (v := .pointer (some ⟨b, off + k * 2, none⟩)) rfl rfl (by kernel_rfl) (by kernel_rfl) (by kernel_rfl) (by kernel_rfl) (fun wx hS => by go_simp) HS ?_
        refine held_take (i := 8) (d := 50) (v := .agg #[.int .i64 (ev0 l k), .int .i64 (ev1 l k)]) rfl rfl (by kernel_rfl) (by kernel_rfl) (by kernel_rfl) (by kernel_rfl) (fun wx hS => by have k0 := hS.out.2.1; have k1 := hS.out.2.2; go_simp) HS ?_
        refine wpAnyH_ready (rs := [2]) (by kernel_rfl) (by simp) (AllReadyH.cons rfl (fun K hK => ?_) AllReadyH.nil)
        go_simp
        refine (l1dec_any _ HN1.out.1 HN1.out.2 _).mono ?_
        rintro x w2 ⟨rfl, hB⟩
        refine hK.out _ _ (Lib.hid ⟨below_via HS.out.1 hB, cell_keep hB HS.out.2.1, cell_keep hB HS.out.2.2⟩) (fun HS => ?_)
        clear hK K
        refine held_take (i := 3) (d := 45) (v := .string (t ++ decB ((n : Int) + 1))) rfl rfl (by kernel_rfl) (by kernel_rfl) (by kernel_rfl) (by kernel_rfl) (fun wx hS => by go_simp) HS ?_
        refine held_take (i := 4) (d := 46) (v := .string (t ++ decB ((n : Int) + 1) ++ ⟨#[32]⟩)) rfl rfl (by kernel_rfl) (by kernel_rfl) (by kernel_rfl) (by kernel_rfl) (fun wx hS => by go_simp) HS ?_
        refine wpAnyH_ready (rs := [9]) (by kernel_rfl) (by simp) (AllReadyH.cons rfl (fun K hK => ?_) AllReadyH.nil)
        go_simp
        refine (seventtext_any _ _ _).mono ?_
        rintro x w2 ⟨rfl, hB⟩
        refine hK.out _ _ (Lib.hid ⟨below_via HS.out.1 hB, cell_keep hB HS.out.2.1, cell_keep hB HS.out.2.2⟩) (fun HS => ?_)
        clear hK K
        refine held_take (i := 10) (d := 52) (v := .string (t ++ decB ((n : Int) + 1) ++ ⟨#[32]⟩ ++ evTx (ev0 l k) (ev1 l k))) rfl rfl (by kernel_rfl) (by kernel_rfl) (by kernel_rfl) (by kernel_rfl) (fun wx hS => by go_simp) HS ?_
        refine held_take (i := 11) (d := 53) (v := .string (t ++ decB ((n : Int) + 1) ++ ⟨#[32]⟩ ++ evTx (ev0 l k) (ev1 l k) ++ ⟨#[10]⟩)) rfl rfl (by kernel_rfl) (by kernel_rfl) (by kernel_rfl) (by kernel_rfl) (fun wx hS => by go_simp) HS ?_
        refine held_take (i := 12) (d := 3) (v := .string (t ++ decB ((n : Int) + 1) ++ ⟨#[32]⟩ ++ evTx (ev0 l k) (ev1 l k) ++ ⟨#[10]⟩)) rfl rfl (by kernel_rfl) (by kernel_rfl) (by kernel_rfl) (by kernel_rfl) (fun wx hS => by go_simp) HS ?_
        refine wpAnyH_done (by kernel_rfl) (NoPanic.normal ?_) _
        simp only [List.setIfInBounds_toArray, List.set_cons_zero, List.set_cons_succ]
        have HBe := Lib.hid HS.out.1
        go_wp2
        go_roundw
        case rel => exact ⟨k + 1, by omega, by go_num, by rw [HF1.out], by rw [HF1.out]; rfl, HBe.out, HOK.out⟩
        case measure => simp [intOf]; omega
    · have hkl : k = len := by omega
      have HC := Lib.hid (show evsTx l = t from by
        by_cases h0 : k = 0
        · have hl0 : l = [] := List.eq_nil_of_length_eq_zero (by rw [HL.out]; omega)
          have := HF.out
          rw [h0] at this
          rw [hl0]
          exact congrArg Prod.fst this
        · exact evsTx_yes (evsB_iff.2 ⟨by rw [HL.out]; exact (HWA.out.2 0 (by omega)).1, fun i hi => (HWA.out.2 i (by rw [HL.out] at hi; omega)).2⟩) (n := n) (by rw [HL.out, ← hkl]; exact HF.out))
      clear hkl
      go_wp2
      go_ret
      exact ⟨congrArg (fun s => Ending.returned (.string s)) HC.out.symm, HWA.out.1⟩

set_option maxHeartbeats 4000000 in
theorem fnExactEventsText_walk (a : Option Addr) (len cap : Nat) (l : Events) (w : World) (h : EventsAt w a len l) (hT : TabsEv w) :
    Calls Tryd.prog 5 #[.slice a len cap] w fun x w' => x = .returned (.bool true) ∧ Below w.heap.size w w' := by
  obtain ⟨q, hq⟩ : ∃ q, evsTx l = q := ⟨_, rfl⟩
  have HQ := Lib.hid hq
  have HR := Lib.hid h
  have HT := Lib.hid hT
  clear hq h hT
  go_enter Tryd.func5, Tryd.ntmps5
  go_wp2_with fail
  refine (szevs_any _ _ _ _ _ _ HR.out (by omega) (by omega)).mono ?_
  rintro e w1 ⟨x, hx0, hx1, rfl, hB, hfew⟩
  have HB := Lib.hid hB
  have HFEW := Lib.hid hfew
  clear hB hfew
  by_cases hneg : x < 0
  · go_wp2
    go_ret
    exact ⟨rfl, HB.out⟩
  have hlen : len ≤ 1048576 := (HFEW.out (by omega)).1
  clear hx0 hx1
  go_wp2_with fail
  refine (toevs_any _ _ _ _ _ (HR.out.keep HB.out) hlen).mono ?_
  rintro e w2 ⟨rfl, hS, hB, _⟩
  have HS := Lib.hid hS
  have HB := Lib.hid (below_via HB.out hB)
  clear hB hS
  go_wp2_with fail
  refine (seventstext_any _ _ _ _ _ HS.out hlen).mono ?_
  rw [HQ.out]
  rintro e w3 ⟨rfl, hB⟩
  have HB := Lib.hid (below_via HB.out hB)
  clear hB HS
  go_wp2_with fail
  refine (toevs_any _ _ _ _ _ (HR.out.keep HB.out) hlen).mono ?_
  rintro e w4 ⟨rfl, hS, hB, _⟩
  have HS := Lib.hid hS
  have HB := Lib.hid (below_via HB.out hB)
  clear hB hS
  go_wp2_with fail
  refine (eventstext_any _ _ _ _ _ HS.out (HT.out.keep HB.out)).mono ?_
  rw [HQ.out]
  rintro e w5 ⟨rfl, hB⟩
  have HS := Lib.hid (HS.out.keep hB)
  have HB := Lib.hid (below_via HB.out hB)
  clear hB
  go_wp2_with fail
  refine (toevs_any _ _ _ _ _ (HR.out.keep HB.out) hlen).mono ?_
  rintro e w6 ⟨rfl, hS2, hB, _⟩
  have HS := Lib.hid (HS.out.keep hB)
  have HS2 := Lib.hid hS2
  have HB := Lib.hid (below_via HB.out hB)
  clear hB hS2
  go_wp2_with fail
  refine (eqevs_same _ _ _ _ _ _ _ HS.out HS2.out).mono ?_
  rintro e w7 ⟨rfl, hB⟩
  have HB := Lib.hid (below_via HB.out hB)
  clear hB
  go_wp2
  go_ret
  exact ⟨rfl, HB.out⟩
end Go.Proofs.YtbmhabboloficaaDoor
