
/- Drawn lists of commands for the laws on what they come to; equal lists of numbers. -/
import Derived.Test.YtblpebdjbenphaaDoorMg16
import Derived.Test.YtblpebdjbenphaaDoorDrawOb
namespace Go.Proofs.YtblpebdjbenphaaDoor
open Go.ChangeShapes Go.WideShapes Go.ChangeAt Go.RowKit
set_option linter.unusedVariables false
set_option maxRecDepth 100000

theorem own_nilA' {w : World} {base : Nat} {e : TypeId} {size : Nat} {q : Option Addr} {n c : Nat} {xs : List Value} (h : w.ownsRow base e size (.slice q n c) n xs) : q = none → c = 0 := by
  intro hq
  rcases h.2 with ⟨h1, _⟩ | ⟨g, cap, cur, hv, _⟩
  · simp only [Value.slice.injEq] at h1; exact h1.2.2
  · simp only [Value.slice.injEq] at hv; rw [hv.1] at hq; cases hq
theorem made_cmds (n : Nat) : (madeCells (Value.agg #[.int .i64 0, .string ByteArray.empty, .int .i64 0, .string ByteArray.empty]).cells (n * 4)).toList = cellsCmd (List.replicate n (0, ByteArray.empty, 0, ByteArray.empty)) := by
  refine List.ext_getElem? fun i => ?_
  by_cases hi : i < n * 4
  · have h := cellsCmd_get (List.replicate n (0, ByteArray.empty, 0, ByteArray.empty)) (i / 4) (by simp; omega)
    have hc : cmd0 (List.replicate n (0, ByteArray.empty, 0, ByteArray.empty)) (i / 4) = 0 ∧ cmd1 (List.replicate n (0, ByteArray.empty, 0, ByteArray.empty)) (i / 4) = ByteArray.empty ∧ cmd2 (List.replicate n (0, ByteArray.empty, 0, ByteArray.empty)) (i / 4) = 0 ∧ cmd3 (List.replicate n (0, ByteArray.empty, 0, ByteArray.empty)) (i / 4) = ByteArray.empty := by
      have : i / 4 < n := by omega
      simp [cmd0, cmd1, cmd2, cmd3, this]
    rw [hc.1, hc.2.1, hc.2.2.1, hc.2.2.2] at h
    obtain ⟨h0, h1, h2, h3⟩ := h
    rcases (by omega : i % 4 = 0 ∨ i % 4 = 1 ∨ i % 4 = 2 ∨ i % 4 = 3) with hm | hm | hm | hm
    · have e : i / 4 * 4 = i := by omega
      rw [e] at h0
      rw [h0]
      simp [madeCells, Value.cells, hi, hm]
    · have e : i / 4 * 4 + 1 = i := by omega
      rw [e] at h1
      rw [h1]
      simp [madeCells, Value.cells, hi, hm]
    · have e : i / 4 * 4 + 2 = i := by omega
      rw [e] at h2
      rw [h2]
      simp [madeCells, Value.cells, hi, hm]
    · have e : i / 4 * 4 + 3 = i := by omega
      rw [e] at h3
      rw [h3]
      simp [madeCells, Value.cells, hi, hm]
  · rw [List.getElem?_eq_none (by simp [madeCells]; omega), List.getElem?_eq_none (by rw [cellsCmd_len]; simp; omega)]

def DrewCmds (w : World) (e : Ending) (w' : World) : Prop :=
  ∃ (q : Option Addr) (k cc : Nat) (L : Cmds), e = .returned (.slice q k cc) ∧ k ≤ 201 ∧ k ≤ cc ∧ (q = none → cc = 0) ∧ ShortC L ∧ CmdsAt w' q k L ∧ Below w.heap.size w w'

set_option maxHeartbeats 4000000 in
theorem drawstp_any (w : World) (a : Option Addr) (len cap : Nat) (h : Src w a len) :
    Calls Tryd.prog 19 #[.slice a len cap] w (DrewCmds w) := by
  obtain ⟨j0, hj, hy0, hyy1, hyy2⟩ := info_parts infoCmd
  have H := Lib.hid h
  clear h
  go_enter Tryd.func19, Tryd.ntmps19
  go_wp2_with fail
  refine (open_any _ _ _ _ H.out).mono ?_
  rintro e w1 ⟨rfl, hb, hr⟩
  have HB := Lib.hid hb
  have HR := Lib.hid hr
  clear hb hr
  go_wp2_with fail
  refine (once_any _ _ _ _ _ _ HR.out (by decide) (by decide)).mono ?_
  rintro e w2 ⟨⟨o, rfl⟩, hw⟩
  have HW := Lib.hid hw
  clear hw
  cases o
  · go_wp2_with fail
    refine (drawcmds_any _ _ _ _ _ _ HW.out.rdr (by decide) (by decide)).mono ?_
    rintro e w3 ⟨q, k, cc, L, hk, rfl, hl, hs, hown, hw⟩
    have HF := Lib.hid (HW.out.trans hw)
    have hcap := (atB_own hown).2.1
    have hnil := own_nilA' hown
    have HC := Lib.hid (cmds_of_drawn hown hl hs (by omega))
    have HS := Lib.hid hs
    clear hw hown hs
    go_wp2
    go_ret
    exact ⟨q, k, cc, L, rfl, by omega, hcap, hnil, HS.out, HC.out, HF.out.under HB.out (Nat.le_refl _) HB.out.size⟩
  · go_wp2_with fail
    refine (below_any _ _ _ _ _ _ HW.out.rdr (by decide) (by decide)).mono ?_
    rintro e w3 ⟨⟨x, hx1, hx2, rfl⟩, hw⟩
    have HF := Lib.hid (HW.out.trans hw)
    clear hw
    obtain ⟨N, hN⟩ : ∃ N : Nat, 200 + x = (N : Int) := ⟨(200 + x).toNat, by omega⟩
    have hN2 : N ≤ 201 := by omega
    go_wp2_with (at_make; go_loud (refine wpList_make_full _ rfl _ _ 42 rfl w3.heap.size 49 j0 _ 4 Tryd.underlying42 hj hy0 hyy1 .i64 .i64 _ _ N rfl rfl rfl rfl (by rw [hyy2]; omega) (by unfold maxLen; omega) (Nat.le_refl _) ?_); intro w4 hown hgrow; have HO := Lib.hid (by rw [made_cmds] at hown; exact hown); have HG := Lib.hid hgrow; clear hown hgrow)
    have HSH : Hid (ShortC (List.replicate N (0, ByteArray.empty, 0, ByteArray.empty))) := Lib.hid (fun c hc => by
      have := List.eq_of_mem_replicate hc
      subst this
      exact ⟨by decide, by decide⟩)
    have HC := Lib.hid (cmds_of_drawn HO.out (by simp) HSH.out (by omega))
    have hcap := (atB_own HO.out).2.1
    have hnil := own_nilA' HO.out
    go_ret
    exact ⟨_, N, N, _, rfl, hN2, hcap, hnil, HSH.out, HC.out, below_via (HF.out.under HB.out (Nat.le_refl _) HB.out.size) ⟨HG.out.os, HG.out.tape, HG.out.output, HG.out.size, fun k hk => HG.out.block k hk (by simp)⟩⟩

set_option maxHeartbeats 2000000 in
theorem sameints_same (a1 a2 : Option Addr) (len cap1 cap2 : Nat) (l : List Int) (w : World) (h1 : NumsAt w a1 len l) (h2 : NumsAt w a2 len l) :
    Calls Tryd.prog 22 #[.slice a1 len cap1, .slice a2 len cap2] w (MadeBool true w) := by
  have hm := h1.max
  unfold maxLen at hm
  have H1 := Lib.hid h1
  have H2 := Lib.hid h2
  clear h1 h2
  go_enter Tryd.func22, Tryd.ntmps22
  go_wp2
  go_loopw [5] (fun i wr => ∃ k : Nat, k ≤ len ∧ i = .int .i64 k ∧ Hid (Below w.heap.size w wr)) (fun i _ => len - (intOf i).toNat)
  case atStart => exact ⟨0, Nat.zero_le _, rfl, Below.refl _ _⟩
  case round =>
    obtain ⟨k, hk, rfl, HW⟩ := hrel
    by_cases hlt : k < len
    · rcases H1.out.src with hz | ⟨b, off, rfl, hb, hc⟩
      · omega
      rcases H2.out.src with hz | ⟨b', off', rfl, hb', hc'⟩
      · omega
      have c1 := (HW.out.cell (p := ⟨b, off + k, none⟩) hb).trans (hc k hlt)
      have c2 := (HW.out.cell (p := ⟨b', off' + k, none⟩) hb').trans (hc' k hlt)
      have hi0 : (0 : Int) ≤ (k : Int) := by omega
      have hi1 : (k : Int) < (len : Int) := by omega
      clear hb hc hb' hc'
      go_wp2_with fail
      go_quiet (fail)
      clear c1 c2
      go_wp2
      go_roundw
      case rel => exact ⟨k + 1, by omega, by go_num, below_drewN HW.out _⟩
      case measure => simp [intOf]; omega
    · obtain rfl : k = len := by omega
      go_wp2
      go_ret
      exact ⟨rfl, HW.out⟩
end Go.Proofs.YtblpebdjbenphaaDoor
