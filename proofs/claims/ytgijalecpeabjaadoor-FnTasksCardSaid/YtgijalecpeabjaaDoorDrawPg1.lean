
/- Drawn instructions: a text's and a number's. Only new blocks are made, and the reader's place. -/
import Derived.Test.YtgijalecpeabjaaDoorDrawPgM
namespace Go.Proofs.YtgijalecpeabjaaDoor
open Go.ChangeShapes Go.WideShapes Go.ChangeAt Go.RowKit
set_option linter.unusedVariables false
set_option maxRecDepth 100000

theorem in_small {n : Int} (h0 : -1000 ≤ n) (h1 : n ≤ 1000) : In64 n := ⟨by omega, by omega⟩
set_option maxHeartbeats 4000000 in
theorem textof_any (w : World) (r : Nat) (a : Option Addr) (len cap : Nat) (h : Rdr w r a len cap) :
    Calls Tryd.prog 83 #[.pointer (some ⟨r, 0, none⟩)] w (RdIns 1 4 w r a len cap) := by
  have HG := Lib.hid (Went.refl h)
  clear h
  go_enter Tryd.func83, Tryd.ntmps83
  go_wp2_with fail
  refine (below_any _ _ _ _ _ _ HG.out.rdr (by decide) (by decide)).mono ?_
  rintro e w1 ⟨⟨x, hx1, hx2, rfl⟩, hw⟩
  have HG := Lib.hid (HG.out.trans hw)
  clear hw
  by_cases h0 : x = 0
  · subst h0
    go_wp2_with fail
    refine (word1_any _ _ _ _ _ HG.out.rdr).mono ?_
    rintro e w2 ⟨⟨s, hs, rfl⟩, hw⟩
    have HG := Lib.hid (HG.out.trans hw)
    have HS := Lib.hid hs
    clear hw hs
    go_wp2
    go_ret
    exact RdIns.lit HG.out _ 1 [(2, 0, s)] (by decide) (by decide) (by decide) rfl rfl (fine_txt (Nat.le_trans HS.out (by decide)) fine_nil)
  have e0 : ((x : Int) == 0) = false := by rw [beq_eq_false_iff_ne]; exact h0
  by_cases h1 : x = 1
  · subst h1
    clear e0 h0
    go_wp2_with fail
    refine (below_any _ _ _ _ _ _ HG.out.rdr (by decide) (by decide)).mono ?_
    rintro e w2 ⟨⟨y, hy1, hy2, rfl⟩, hw⟩
    have HG := Lib.hid (HG.out.trans hw)
    have HY := Lib.hid (in_small (n := y) (by omega) (by omega))
    clear hw
    go_wp2
    go_ret
    exact RdIns.lit HG.out _ 3 [(2, 0, ⟨#[107]⟩), (1, y, ByteArray.empty), (4, 0, ByteArray.empty)] (by decide) (by decide) (by decide) rfl rfl (fine_txt (by decide) (fine_num HY.out (fine_num (in_small (by decide) (by decide)) fine_nil)))
  have e1 : ((x : Int) == 1) = false := by rw [beq_eq_false_iff_ne]; exact h1
  by_cases h2 : x = 2
  · subst h2
    clear e0 h0 e1 h1
    go_wp2_with fail
    refine (below_any _ _ _ _ _ _ HG.out.rdr (by decide) (by decide)).mono ?_
    rintro e w2 ⟨⟨y, hy1, hy2, rfl⟩, hw⟩
    have HG := Lib.hid (HG.out.trans hw)
    have HY := Lib.hid (in_small (n := y) (by omega) (by omega))
    clear hw
    go_wp2
    go_ret
    exact RdIns.lit HG.out _ 3 [(1, y, ByteArray.empty), (5, 0, ByteArray.empty), (7, 0, ByteArray.empty)] (by decide) (by decide) (by decide) rfl rfl (fine_num HY.out (fine_num (in_small (by decide) (by decide)) (fine_num (in_small (by decide) (by decide)) fine_nil)))
  have e2 : ((x : Int) == 2) = false := by rw [beq_eq_false_iff_ne]; exact h2
  clear h0 h1 h2
  go_wp2_with fail
  refine (below_any _ _ _ _ _ _ HG.out.rdr (by decide) (by decide)).mono ?_
  rintro e w2 ⟨⟨y, hy1, hy2, rfl⟩, hw⟩
  have HG := Lib.hid (HG.out.trans hw)
  have HY := Lib.hid (in_small (n := y) (by omega) (by omega))
  clear hw
  go_wp2
  go_ret
  exact RdIns.lit HG.out _ 1 [(1, y, ByteArray.empty)] (by decide) (by decide) (by decide) rfl rfl (fine_num HY.out fine_nil)

set_option maxHeartbeats 4000000 in
theorem numof_any (w : World) (r : Nat) (a : Option Addr) (len cap : Nat) (h : Rdr w r a len cap) :
    Calls Tryd.prog 84 #[.pointer (some ⟨r, 0, none⟩)] w (RdIns 1 4 w r a len cap) := by
  have HG := Lib.hid (Went.refl h)
  clear h
  go_enter Tryd.func84, Tryd.ntmps84
  go_wp2_with fail
  refine (below_any _ _ _ _ _ _ HG.out.rdr (by decide) (by decide)).mono ?_
  rintro e w1 ⟨⟨x, hx1, hx2, rfl⟩, hw⟩
  have HG := Lib.hid (HG.out.trans hw)
  clear hw
  by_cases h0 : x = 0
  · subst h0
    go_wp2_with fail
    refine (num_any _ _ _ _ _ HG.out.rdr).mono ?_
    rintro e w2 ⟨⟨y, hy, rfl⟩, hw⟩
    have HG := Lib.hid (HG.out.trans hw)
    have HY := Lib.hid (wf_in64 hy)
    clear hw hy
    go_wp2
    go_ret
    exact RdIns.lit HG.out _ 1 [(3, y, ByteArray.empty)] (by decide) (by decide) (by decide) rfl rfl (fine_num HY.out fine_nil)
  have e0 : ((x : Int) == 0) = false := by rw [beq_eq_false_iff_ne]; exact h0
  by_cases h1 : x = 1
  · subst h1
    clear e0 h0
    go_wp2_with fail
    refine (num_any _ _ _ _ _ HG.out.rdr).mono ?_
    rintro e w2 ⟨⟨y, hy, rfl⟩, hw⟩
    have HG := Lib.hid (HG.out.trans hw)
    have HY := Lib.hid (wf_in64 hy)
    clear hw hy
    go_wp2
    go_ret
    exact RdIns.lit HG.out _ 1 [(3, y, ByteArray.empty)] (by decide) (by decide) (by decide) rfl rfl (fine_num HY.out fine_nil)
  have e1 : ((x : Int) == 1) = false := by rw [beq_eq_false_iff_ne]; exact h1
  by_cases h2 : x = 2
  · subst h2
    clear e0 h0 e1 h1
    go_wp2_with fail
    refine (below_any _ _ _ _ _ _ HG.out.rdr (by decide) (by decide)).mono ?_
    rintro e w2 ⟨⟨y, hy1, hy2, rfl⟩, hw⟩
    have HG := Lib.hid (HG.out.trans hw)
    have HY := Lib.hid (in_small (n := y) (by omega) (by omega))
    clear hw
    go_wp2
    go_ret
    exact RdIns.lit HG.out _ 2 [(1, y, ByteArray.empty), (6, 0, ByteArray.empty)] (by decide) (by decide) (by decide) rfl rfl (fine_num HY.out (fine_num (in_small (by decide) (by decide)) fine_nil))
  have e2 : ((x : Int) == 2) = false := by rw [beq_eq_false_iff_ne]; exact h2
  by_cases h3 : x = 3
  · subst h3
    clear e0 h0 e1 h1 e2 h2
    go_wp2_with fail
    refine (below_any _ _ _ _ _ _ HG.out.rdr (by decide) (by decide)).mono ?_
    rintro e w2 ⟨⟨y, hy1, hy2, rfl⟩, hw⟩
    have HG := Lib.hid (HG.out.trans hw)
    have HY := Lib.hid (in_small (n := y) (by omega) (by omega))
    clear hw
    go_wp2_with fail
    refine (below_any _ _ _ _ _ _ HG.out.rdr (by decide) (by decide)).mono ?_
    rintro e w3 ⟨⟨z, hz1, hz2, rfl⟩, hw⟩
    have HG := Lib.hid (HG.out.trans hw)
    clear hw
    go_wp2
    go_ret
    exact RdIns.lit HG.out _ 4 [(1, 1, ByteArray.empty), (6, 0, ByteArray.empty), (3, y, ByteArray.empty), (8 + z, 0, ByteArray.empty)] (by decide) (by decide) (by decide) rfl rfl (fine_num (in_small (by decide) (by decide)) (fine_num (in_small (by decide) (by decide)) (fine_num HY.out (fine_num (in_small (by decide) (by decide)) fine_nil))))
  have e3 : ((x : Int) == 3) = false := by rw [beq_eq_false_iff_ne]; exact h3
  by_cases h4 : x = 4
  · subst h4
    clear e0 h0 e1 h1 e2 h2 e3 h3
    go_wp2
    go_ret
    exact RdIns.lit HG.out _ 3 [(1, 0, ByteArray.empty), (1, 1, ByteArray.empty), (12, 0, ByteArray.empty)] (by decide) (by decide) (by decide) rfl rfl (fine_num (in_small (by decide) (by decide)) (fine_num (in_small (by decide) (by decide)) (fine_num (in_small (by decide) (by decide)) fine_nil)))
  have e4 : ((x : Int) == 4) = false := by rw [beq_eq_false_iff_ne]; exact h4
  by_cases h5 : x = 5
  · subst h5
    clear e0 h0 e1 h1 e2 h2 e3 h3 e4 h4
    go_wp2
    go_ret
    exact RdIns.lit HG.out _ 2 [(1, 0, ByteArray.empty), (5, 0, ByteArray.empty)] (by decide) (by decide) (by decide) rfl rfl (fine_num (in_small (by decide) (by decide)) (fine_num (in_small (by decide) (by decide)) fine_nil))
  have e5 : ((x : Int) == 5) = false := by rw [beq_eq_false_iff_ne]; exact h5
  clear h0 h1 h2 h3 h4 h5
  go_wp2
  go_ret
  exact RdIns.lit HG.out _ 1 [(3, 1, ByteArray.empty)] (by decide) (by decide) (by decide) rfl rfl (fine_num (in_small (by decide) (by decide)) fine_nil)
end Go.Proofs.YtgijalecpeabjaaDoor
