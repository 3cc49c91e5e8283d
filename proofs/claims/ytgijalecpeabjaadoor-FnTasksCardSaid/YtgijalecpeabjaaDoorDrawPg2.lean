
/- A drawn program. Only new blocks are made, and the reader's place. -/
import Derived.Test.YtgijalecpeabjaaDoorDrawPg1
namespace Go.Proofs.YtgijalecpeabjaaDoor
open Go.ChangeShapes Go.WideShapes Go.ChangeAt Go.RowKit
set_option linter.unusedVariables false
set_option maxRecDepth 100000

set_option maxHeartbeats 8000000 in
theorem rprog_any (w : World) (r : Nat) (a : Option Addr) (len cap : Nat) (h : Rdr w r a len cap) :
    Calls Tryd.prog 53 #[.pointer (some ⟨r, 0, none⟩)] w (RdIns 0 26 w r a len cap) := by
  obtain ⟨i0, hi, hz0, hz1, hz2⟩ := info_parts infoInstr
  have HRL := Lib.hid h.lt
  have H0 := Lib.hid (show DrawnI w (w.alloc (.cells #[] 55)) r a len cap (.slice (some ⟨w.heap.size, 0, none⟩) 0 0) 0 [] from ⟨World.ownsRow_lit w #[] 0 (Nat.le_refl _) (Nat.zero_le _) rfl, rfl, (Went.refl h).alloc _, fine_nil⟩)
  clear h
  go_enter Tryd.func53, Tryd.ntmps53
  go_wp2_with fail
  refine (below_any _ _ _ _ _ _ H0.out.went.rdr (by decide) (by decide)).mono ?_
  rintro e w1 ⟨⟨x, hx1, hx2, rfl⟩, hw⟩
  have HD := Lib.hid (H0.out.trans HRL.out hw)
  clear hw H0
  go_wp2_with fail
  go_loopw [3, 4] (fun v i wr => ∃ (k n : Nat) (q : Option Addr) (cp : Nat) (W : Instrs), i = .int .i64 k ∧ v = .slice q n cp ∧ n + 13 * k ≤ 26 ∧ Hid (DrawnI w wr r a len cap (.slice q n cp) n W)) (fun _ i _ => (intOf i).toNat)
  case atStart => exact ⟨(1 + x).toNat, 0, _, _, [], by rw [Int.toNat_of_nonneg (by omega)], rfl, by omega, HD⟩
  case round =>
    obtain ⟨k, n, q, cp, W, rfl, rfl, hk, HS⟩ := hrel
    clear HD
    by_cases hk0 : 0 < k
    · obtain ⟨m, rfl⟩ : ∃ m, k = m + 1 := ⟨k - 1, by omega⟩
      go_wp2_with fail
      refine (textof_any _ _ _ _ _ HS.out.went.rdr).mono ?_
      rintro e wa ⟨qa, na, ca, La, rfl, hla, hha, hd⟩
      have HF := Lib.hid hd.fine
      have HZ := Lib.hid hd.size
      obtain ⟨ga, rfl, hga, hce⟩ := own_src hd.own (by omega) hd.size
      have HCE := Lib.hid hce
      have HS := Lib.hid (HS.out.trans HRL.out hd.went)
      have HO := Lib.hid HS.out.own
      clear hd hce hga
      go_wp2_with (at_builtin; (refine wpList_append_own _ rfl _ _ 25 rfl w.heap.size 55 i0 _ 3 32 Tryd.underlying25 hi hz0 hz1 hz2 rfl (by decide) _ _ _ rfl HO.out ⟨ga, 0, none⟩ na ca (cellsI La) rfl (by rw [cellsI_len, HZ.out]) HCE.out (cellsI_one _) (by unfold maxLen; omega) (by omega) HS.out.went.size ?_); intro v' w3 hown1 hgrow hnil; have HO1 := Lib.hid hown1; have HG := Lib.hid hgrow; clear hown1 hgrow hnil)
      obtain ⟨q1, cp1, rfl⟩ := own_form HO1.out
      have HS := Lib.hid (HS.out.add HRL.out HF.out HZ.out HO1.out HG.out)
      clear HO HO1 HG HCE HF HZ
      go_wp2_with fail
      refine (numof_any _ _ _ _ _ HS.out.went.rdr).mono ?_
      rintro e wb ⟨qb, nb, cb, Lb, rfl, hlb, hhb, hd⟩
      have HF := Lib.hid hd.fine
      have HZ := Lib.hid hd.size
      obtain ⟨gb, rfl, hga, hce⟩ := own_src hd.own (by omega) hd.size
      have HCE := Lib.hid hce
      have HS := Lib.hid (HS.out.trans HRL.out hd.went)
      have HO := Lib.hid HS.out.own
      clear hd hce hga
      go_wp2_with (at_builtin; (refine wpList_append_own _ rfl _ _ 25 rfl w.heap.size 55 i0 _ 3 32 Tryd.underlying25 hi hz0 hz1 hz2 rfl (by decide) _ _ _ rfl HO.out ⟨gb, 0, none⟩ nb cb (cellsI Lb) rfl (by rw [cellsI_len, HZ.out]) HCE.out (cellsI_one _) (by unfold maxLen; omega) (by omega) HS.out.went.size ?_); intro v' w3 hown1 hgrow hnil; have HO1 := Lib.hid hown1; have HG := Lib.hid hgrow; clear hown1 hgrow hnil)
      obtain ⟨q1, cp1, rfl⟩ := own_form HO1.out
      have HS := Lib.hid (HS.out.add HRL.out HF.out HZ.out HO1.out HG.out)
      clear HO HO1 HG HCE HF HZ
      go_wp2_with fail
      refine (once_any _ _ _ _ _ _ HS.out.went.rdr (by decide) (by decide)).mono ?_
      rintro e w5 ⟨⟨y, rfl⟩, hw⟩
      have HS := Lib.hid (HS.out.trans HRL.out hw)
      clear hw
      cases y
      · have HO := Lib.hid HS.out.own
        go_wp2_with (at_builtin; (refine wpList_append_own _ rfl _ _ 25 rfl w.heap.size 55 i0 _ 3 32 Tryd.underlying25 hi hz0 hz1 hz2 rfl (by decide) _ _ _ rfl (HO.out.alloc _) ⟨w5.heap.size, 0, none⟩ 1 1 [.int .i64 13, .int .i64 0, .string ⟨#[]⟩] rfl rfl (three_new _ _ _ _ _) (three_cells _ _ _) (by unfold maxLen; omega) (by omega) (Nat.le_trans HS.out.went.size (by simp)) ?_); intro v' w3 hown1 hgrow hnil; have HO1 := Lib.hid hown1; have HG := Lib.hid hgrow; clear hown1 hgrow hnil)
        obtain ⟨q1, cp1, rfl⟩ := own_form HO1.out
        have HS := Lib.hid ((HS.out.alloc _).add (L := [(13, 0, ByteArray.empty)]) HRL.out (fine_num (in_small (by decide) (by decide)) fine_nil) rfl HO1.out HG.out)
        clear HO HO1 HG
        go_roundw
        case rel => exact ⟨m, _, q1, cp1, _, by go_num, rfl, by omega, HS⟩
        case measure => simp [intOf]
      · go_wp2_with fail
        refine (numof_any _ _ _ _ _ HS.out.went.rdr).mono ?_
        rintro e wc ⟨qc, nc, cc, Lc, rfl, hlc, hhc, hd⟩
        have HF := Lib.hid hd.fine
        have HZ := Lib.hid hd.size
        obtain ⟨gc, rfl, hga, hce⟩ := own_src hd.own (by omega) hd.size
        have HCE := Lib.hid hce
        have HS := Lib.hid (HS.out.trans HRL.out hd.went)
        have HO := Lib.hid HS.out.own
        clear hd hce hga
        go_wp2_with (first | (at_builtin; (refine wpList_append_own _ rfl _ _ 25 rfl w.heap.size 55 i0 _ 3 32 Tryd.underlying25 hi hz0 hz1 hz2 rfl (by decide) _ _ _ rfl HO.out ⟨gc, 0, none⟩ nc cc (cellsI Lc) rfl (by rw [cellsI_len, HZ.out]) HCE.out (cellsI_one _) (by unfold maxLen; omega) (by omega) HS.out.went.size ?_); intro v' w3 hown1 hgrow hnil; obtain ⟨q1, cp1, rfl⟩ := own_form hown1; have HS2 := Lib.hid (HS.out.add HRL.out HF.out HZ.out hown1 hgrow); have HO2 := Lib.hid HS2.out.own; clear hown1 hgrow hnil) | (at_builtin; (refine wpList_append_own _ rfl _ _ 25 rfl w.heap.size 55 i0 _ 3 32 Tryd.underlying25 hi hz0 hz1 hz2 rfl (by decide) _ _ _ rfl (HO2.out.alloc _) ⟨w3.heap.size, 0, none⟩ 1 1 [.int .i64 14, .int .i64 0, .string ⟨#[]⟩] rfl rfl (three_new _ _ _ _ _) (three_cells _ _ _) (by unfold maxLen; omega) (by omega) (Nat.le_trans HS2.out.went.size (by simp)) ?_); intro v' w4 hown1 hgrow hnil; have HO1 := Lib.hid hown1; have HG := Lib.hid hgrow; clear hown1 hgrow hnil))
        obtain ⟨q1, cp1, rfl⟩ := own_form HO1.out
        have HS := Lib.hid ((HS2.out.alloc _).add (L := [(14, 0, ByteArray.empty)]) HRL.out (fine_num (in_small (by decide) (by decide)) fine_nil) rfl HO1.out HG.out)
        clear HO HO1 HG HO2 HS2 HF HZ HCE
        go_roundw
        case rel => exact ⟨m, _, q1, cp1, _, by go_num, rfl, by omega, HS⟩
        case measure => simp [intOf]
    · obtain rfl : k = 0 := by omega
      go_wp2
      go_ret
      exact ⟨q, n, cp, W, rfl, Nat.zero_le _, by omega, HS.out⟩
end Go.Proofs.YtgijalecpeabjaaDoor
