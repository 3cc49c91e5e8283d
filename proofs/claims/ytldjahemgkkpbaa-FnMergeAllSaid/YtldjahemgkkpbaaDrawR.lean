
/- Drawn records and runs: at most 601 records whose keys have at most 41 bytes; only the reader's position and new blocks change. -/
import Derived.Test.YtldjahemgkkpbaaRd4
import Derived.Test.YtldjahemgkkpbaaSorted
import Derived.Deep.Onto
namespace Go.Proofs.Ytldjahemgkkpbaa
open Go.ChangeShapes Go.WideShapes Go.ChangeAt Go.RowKit
set_option linter.unusedVariables false
set_option maxRecDepth 100000

theorem Went.on {w w1 w2 : World} {r : Nat} {a : Option Addr} {len cap : Nat} (h : Went w r a len cap w1) (hB : Below w1.heap.size w1 w2) : Went w r a len cap w2 :=
  ⟨growB h.grown hB, h.rdr.below (hB.mono h.rdr.lt)⟩
theorem Went.row {w w1 w2 : World} {r : Nat} {a : Option Addr} {len cap : Nat} {row : Option Nat} (h : Went w r a len cap w1) (hg : w1.grownBy w2 row) (hr : r < w.heap.size) (hrow : ∀ k, row = some k → w.heap.size ≤ k) : Went w r a len cap w2 :=
  ⟨growO h.grown hg hrow, h.rdr.below ⟨hg.os, hg.tape, hg.output, hg.size, fun k hk => hg.block k (by have := h.rdr.lt; omega) (fun e => by have := hrow k e.symm; omega)⟩⟩

set_option maxHeartbeats 1000000 in
theorem size_any (w : World) (r : Nat) (a : Option Addr) (len cap : Nat) (h : Rdr w r a len cap) :
    Calls Try.prog 52 #[.pointer (some ⟨r, 0, none⟩), .int .i64 8, .int .i64 24] w (RdInt 1 24 w r a len cap) := by
  have hcode := h.code
  have hlm := h.max
  unfold maxLen at hlm
  have H := Lib.hid h
  clear h
  have hq0 : 0 ≤ (len : Int) / 8 := by omega
  have hq1 : (len : Int) / 8 ≤ (len : Int) := by omega
  by_cases hb : 24 < 1 + (len : Int) / 8
  · go_enter Try.func52, Try.ntmps52
    go_wp2_with (go_at_call 32; refine (below_any _ _ _ _ _ _ H.out (by decide) (by decide)).mono ?_; rintro e w1 ⟨⟨x, hx1, hx2, rfl⟩, hw⟩; have HW := Lib.hid hw; clear hw)
    go_ret
    exact RdInt.mk _ (by omega) (by omega) HW.out
  · have hb' : ¬ (24 < 1 + (len : Int) / 8) := hb
    obtain ⟨z, hz⟩ : ∃ z : Int, 1 + (len : Int) / 8 = z := ⟨_, rfl⟩
    have hz1 : 1 ≤ z := by omega
    have hz2 : z ≤ 24 := by omega
    have HZ := Lib.hid hz
    clear hz
    go_enter Try.func52, Try.ntmps52
    go_wp2_with (go_at_call 32; refine (below_any _ _ _ _ _ _ H.out (by omega) (by omega)).mono ?_; rintro e w1 ⟨⟨x, hx1, hx2, rfl⟩, hw⟩; have HW := Lib.hid hw; clear hw)
    go_ret
    have := HZ.out
    exact RdInt.mk _ (by omega) (by omega) HW.out

theorem made_recs (n : Nat) : (madeCells (Value.agg #[.string ByteArray.empty, .int .i64 0]).cells (n * 2)).toList = cellsL (List.replicate n (ByteArray.empty, 0)) := by
  refine List.ext_getElem? fun i => ?_
  by_cases hi : i < n * 2
  · obtain ⟨e1, e2⟩ := cellsL_get (List.replicate n (ByteArray.empty, 0)) (i / 2) (by simp; omega)
    have k1 : keyAt (List.replicate n (ByteArray.empty, 0)) (i / 2) = ByteArray.empty := by
      unfold keyAt; rw [List.getD_eq_getElem?_getD, List.getElem?_replicate, if_pos (by omega)]; rfl
    have k2 : numAt (List.replicate n (ByteArray.empty, 0)) (i / 2) = 0 := by
      unfold numAt; rw [List.getD_eq_getElem?_getD, List.getElem?_replicate, if_pos (by omega)]; rfl
    rw [k1] at e1
    rw [k2] at e2
    rcases Nat.mod_two_eq_zero_or_one i with hm | hm
    · have e : i / 2 * 2 = i := by omega
      rw [e] at e1
      rw [e1]
      simp [madeCells, Value.cells, hi, hm]
    · have e : i / 2 * 2 + 1 = i := by omega
      rw [e] at e2
      rw [e2]
      simp [madeCells, Value.cells, hi, hm]
  · rw [List.getElem?_eq_none (by simp [madeCells]; omega), List.getElem?_eq_none (by rw [cellsL_len]; simp; omega)]

/-- Records in a row of the call's own, drawn by reader r. -/
structure DrawnR (w wr : World) (r : Nat) (a : Option Addr) (len cap : Nat) (v : Value) (W : Recs) : Prop where
  own : wr.ownsRow w.heap.size 30 2 v W.length (cellsL W)
  went : Went w r a len cap wr
  short : ∀ x ∈ W, x.1.size ≤ 41
  wf : ∀ x ∈ W, (Lit.int .i64 x.2).wf = true

theorem own_wentR {w w1 : World} {base r : Nat} {a : Option Addr} {len cap : Nat} {e : TypeId} {size : Nat} {v : Value} {n : Nat} {xs : List Value} (h : w.ownsRow base e size v n xs) (hw : Went w r a len cap w1) (hr : r < base) : w1.ownsRow base e size v n xs :=
  h.kept hw.grown (by
    by_cases hv : v.ownBlock = none
    · exact .inl hv
    · refine .inr fun he => ?_
      have := (h.lt r he).1
      omega)
theorem DrawnR.trans {w wr w1 : World} {r : Nat} {a : Option Addr} {len cap : Nat} {v : Value} {W : Recs} (h : DrawnR w wr r a len cap v W) (hr : r < w.heap.size) (hw : Went wr r a len cap w1) : DrawnR w w1 r a len cap v W :=
  ⟨own_wentR h.own hw hr, h.went.trans hw, h.short, h.wf⟩
theorem DrawnR.add {w wr w1 : World} {r : Nat} {a : Option Addr} {len cap : Nat} {v v' : Value} {W : Recs} {s : ByteArray} {n : Int} {o : Obj} (h : DrawnR w wr r a len cap v W) (hr : r < w.heap.size) (hs : s.size ≤ 41) (hn : (Lit.int .i64 n).wf = true)
    (hown : w1.ownsRow w.heap.size 30 2 v' (W.length + 1) (cellsL W ++ [.string s, .int .i64 n])) (hg : (wr.alloc o).grownBy w1 v.ownBlock) : DrawnR w w1 r a len cap v' (W ++ [(s, n)]) :=
  ⟨by rw [cellsL_snoc]; simpa using hown, (h.went.alloc o).row hg hr (fun k hk => (h.own.lt k hk).1), fun x hx => by
    rcases List.mem_append.1 hx with hx | hx
    · exact h.short x hx
    · simp at hx; subst hx; exact hs, fun x hx => by
    rcases List.mem_append.1 hx with hx | hx
    · exact h.wf x hx
    · simp at hx; subst hx; exact hn⟩

/-- The end of a method that draws records into a row of its own. -/
def RdRecs (w : World) (r : Nat) (a : Option Addr) (len cap : Nat) (e : Ending) (w' : World) : Prop :=
  ∃ (q : Option Addr) (cp : Nat) (W : Recs), e = .returned (.slice q W.length cp) ∧ W.length ≤ 601 ∧ DrawnR w w' r a len cap (.slice q W.length cp) W

set_option maxHeartbeats 4000000 in
theorem rrecs_any (w : World) (r : Nat) (a : Option Addr) (len cap : Nat) (h : Rdr w r a len cap) :
    Calls Try.prog 38 #[.pointer (some ⟨r, 0, none⟩)] w (RdRecs w r a len cap) := by
  obtain ⟨i0, hi, hz0, hz1, hz2⟩ := info_parts infoRec
  have HRL := Lib.hid h.lt
  have H0 := Lib.hid (show DrawnR w (w.alloc (.cells #[] 30)) r a len cap (.slice (some ⟨w.heap.size, 0, none⟩) 0 0) [] from ⟨World.ownsRow_lit w #[] 0 (Nat.le_refl _) (Nat.zero_le _) rfl, (Went.refl h).alloc _, by simp, by simp⟩)
  clear h
  go_enter Try.func38, Try.ntmps38
  go_wp2_with fail
  refine (size_any _ _ _ _ _ H0.out.went.rdr).mono ?_
  rintro e w1 ⟨⟨x, hx1, hx2, rfl⟩, hw⟩
  have HD := Lib.hid (H0.out.trans HRL.out hw)
  clear hw H0
  go_wp2_with fail
  go_loopw [3, 4] (fun v i wr => ∃ (k : Nat) (q : Option Addr) (cp : Nat) (W : Recs), i = .int .i64 k ∧ v = .slice q W.length cp ∧ W.length + k ≤ 24 ∧ Hid (DrawnR w wr r a len cap v W)) (fun _ i _ => (intOf i).toNat)
  case atStart => exact ⟨x.toNat, _, _, [], by rw [Int.toNat_of_nonneg (by omega)], rfl, by simp; omega, HD.out⟩
  case round =>
    obtain ⟨k, q, cp, W, rfl, rfl, hk4, HS⟩ := hrel
    clear HD
    obtain ⟨wl, hwl⟩ : ∃ wl, W.length = wl := ⟨_, rfl⟩
    rw [hwl] at HS hk4 ⊢
    have HWL := Lib.hid hwl
    clear hwl
    by_cases hk : 0 < k
    · go_wp2_with fail
      refine (rec_any _ _ _ _ _ HS.out.went.rdr).mono ?_
      rintro e w2 ⟨⟨u, m0, hu, hm0, rfl⟩, hw⟩
      have HS2 := Lib.hid (HS.out.trans HRL.out hw)
      have HU := Lib.hid hu
      have HO := Lib.hid (show w2.ownsRow w.heap.size 30 2 (.slice q wl cp) wl (cellsL W) from HWL.out ▸ HS2.out.own)
      have HM0 := Lib.hid hm0
      clear hw hu HS hm0
      obtain ⟨m, rfl⟩ : ∃ m, k = m + 1 := ⟨k - 1, by omega⟩
      unfold recV
      go_wp2_with (at_builtin; (refine wpList_append_own _ rfl _ _ 24 rfl w.heap.size 30 i0 _ 2 24 Try.underlying24 hi hz0 hz1 hz2 rfl (by decide) _ _ _ rfl (HO.out.alloc _) ⟨w2.heap.size, 0, none⟩ 1 1 [.string u, .int .i64 m0] rfl rfl (two_new _ _ _ _) (two_cells _ _) (by unfold maxLen; omega) (by omega) (Nat.le_trans HS2.out.went.size (below_alloc (Below.refl _ _) _).size) ?_); intro v' w3 hown1 hgrow hnil; have HO1 := Lib.hid hown1; have HG := Lib.hid hgrow; clear hown1 hgrow hnil)
      obtain ⟨q1, cp1, rfl⟩ := own_form HO1.out
      go_roundw
      case rel =>
        have ho := HO1.out
        rw [← HWL.out] at ho
        have hnew := HS2.out.add HRL.out HU.out HM0.out ho HG.out
        rw [HWL.out] at hnew
        exact ⟨m, q1, cp1, W ++ [(u, m0)], by go_num, by rw [← HWL.out]; simp, by rw [List.length_append, HWL.out]; simp; omega, hnew⟩
      case measure => simp [intOf]
    · obtain rfl : k = 0 := by omega
      go_wp2_with fail
      refine (once_any _ _ _ _ _ _ HS.out.went.rdr (by decide) (by decide)).mono ?_
      rintro e w2 ⟨⟨y, rfl⟩, hw⟩
      have HS := Lib.hid (HS.out.trans HRL.out hw)
      clear hw
      go_wp2_with fail
      · refine (below_any _ _ _ _ _ _ HS.out.went.rdr (by decide) (by decide)).mono ?_
        rintro e w3 ⟨⟨z, hz3, hz4, rfl⟩, hw⟩
        have HS := Lib.hid (HS.out.trans HRL.out hw)
        clear hw
        obtain ⟨n, hn⟩ : ∃ n : Nat, 599 + z = (n : Int) := ⟨(599 + z).toNat, by omega⟩
        have hn49 : n ≤ 601 := by omega
        go_wp2_with (at_make; (refine wpList_make_full _ rfl _ _ 24 rfl w3.heap.size 30 i0 _ 2 Try.underlying24 hi hz0 hz1 .i64 .i64 _ _ n rfl rfl rfl rfl (by rw [hz2]; omega) (by unfold maxLen; omega) (Nat.le_refl _) ?_); intro w4 hown hgrow; have HN := Lib.hid hown; have HG := Lib.hid hgrow; clear hown hgrow)
        have hnew : DrawnR w w4 r a len cap (.slice (some ⟨w3.heap.size, 0, none⟩) n n) (List.replicate n (ByteArray.empty, 0)) := by
          refine ⟨?_, HS.out.went.row HG.out HRL.out (fun k hk => by cases hk), fun x hx => by rw [List.eq_of_mem_replicate hx]; exact Nat.zero_le _, fun x hx => by rw [List.eq_of_mem_replicate hx]; decide⟩
          rw [← made_recs, List.length_replicate]
          exact HN.out.mono HS.out.went.size
        have HNEW := Lib.hid hnew
        clear hnew
        go_ret
        exact ⟨_, n, List.replicate n (ByteArray.empty, 0), by rw [List.length_replicate]; rfl, by rw [List.length_replicate]; exact hn49, by rw [List.length_replicate]; exact HNEW.out⟩
      · go_ret
        exact ⟨q, cp, W, by rw [HWL.out]; rfl, by rw [HWL.out]; omega, by rw [HWL.out]; exact HS.out⟩
end Go.Proofs.Ytldjahemgkkpbaa
