
/- What ReadRun computes in the model: the records of a text, if they are a run, in a row of its own. Only new blocks are made. -/
import Derived.Test.YtonipfhigkkhnaaReadRun
namespace Go.Proofs.Ytonipfhigkkhnaa
open Go.ChangeShapes Go.WideShapes Go.ChangeAt Go.RowKit
set_option linter.unusedVariables false
set_option maxRecDepth 100000

/-- The records so far, in the model. -/
structure ReadSt2 (s : ByteArray) (w wr : World) (v : Value) (k at0 : Nat) : Prop where
  pos : posK s k = some at0
  own : wr.ownsRow w.heap.size 33 2 v k (cellsL (recsK s k))
  below : Below w.heap.size w wr

theorem ReadSt2.keep {s : ByteArray} {w wr w1 : World} {v : Value} {k at0 : Nat} (h : ReadSt2 s w wr v k at0) (hB : Below wr.heap.size wr w1) : ReadSt2 s w w1 v k at0 :=
  ⟨h.pos, own_below h.own hB, below_via h.below hB⟩

theorem read_end2 {s : ByteArray} {w wr : World} {q : Option Addr} {cp k at0 : Nat} (h : ReadSt2 s w wr (.slice q k cp) k at0) (ha : at0 = s.size) (hr : runOkB (recsK s k) = true) :
    MadeRsB (readW s) (readK s) w (.returned (.tuple #[.slice q k cp, .bool true])) wr := by
  have hk : k ≤ 600 := by
    have : (recsK s k).length ≤ 600 := by
      unfold runOkB at hr
      rw [Bool.and_eq_true] at hr
      exact of_decide_eq_true hr.1
    rwa [recsK_len] at this
  obtain ⟨h1, h2⟩ := read_some (read_yes (by rw [h.pos, ha]) hk hr)
  rw [h1, h2]
  have ho : wr.ownsRow w.heap.size 33 2 (.slice q (recsK s k).length cp) (recsK s k).length (cellsL (recsK s k)) := by
    rw [recsK_len]; exact h.own
  exact ⟨q, cp, by rw [recsK_len], rs_of_own ho, h.below⟩

set_option maxHeartbeats 4000000 in
theorem sreadrun_any (s : ByteArray) (w : World) (hs : s.size ≤ 1048576) :
    Calls Try.prog 32 #[.string s] w (MadeRsB (readW s) (readK s) w) := by
  obtain ⟨i0, hi, hz0, hz1, hz2⟩ := info_parts infoRec
  have H0 := Lib.hid (show ReadSt2 s w (w.alloc (.cells #[] 33)) (.slice (some ⟨w.heap.size, 0, none⟩) 0 0) 0 0 from ⟨rfl, World.ownsRow_lit w #[] 0 (Nat.le_refl _) (Nat.zero_le _) rfl, below_alloc (Below.refl _ _) _⟩)
  go_enter Try.func32, Try.ntmps32
  go_wp2
  go_loopw [4, 5] (fun v t wr => ∃ (k at0 : Nat) (q : Option Addr) (cp : Nat), v = .slice q k cp ∧ t = .int .i64 at0 ∧ k ≤ 601 ∧ at0 ≤ s.size ∧ Hid (ReadSt2 s w wr v k at0)) (fun v _ _ => 602 - sliceN v)
  case atStart => exact ⟨0, 0, _, _, rfl, rfl, by omega, Nat.zero_le _, H0.out⟩
  case round =>
    obtain ⟨k, at0, q, cp, rfl, rfl, hk, ha, HS⟩ := hrel
    clear H0
    by_cases hlt : at0 < s.size
    · obtain ⟨c, hc⟩ : ∃ c, s[at0].toNat = c := ⟨_, rfl⟩
      have hcb : c < 256 := by rw [← hc]; exact UInt8.toNat_lt _
      obtain ⟨p, hp0⟩ : ∃ p, keyEnd s at0 = p := ⟨_, rfl⟩
      have hp1 : p = at0 + 1 + c := by rw [← hp0, ← hc]; unfold keyEnd; rw [byteAt_eq hlt]
      have HP0 := Lib.hid hp0
      have HP1 := Lib.hid hp1
      have hi0 : (0 : Int) ≤ (at0 : Int) := by omega
      have hi1 : (at0 : Int) < (s.size : Int) := by omega
      have HP := Lib.hid (show (at0 : Int) + 1 + (c : Int) = (p : Int) by omega)
      have gp : p ≤ 2000000 := by omega
      by_cases hfit : p + 8 ≤ s.size
      · have g1 : ¬ (s.size : Int) < (p : Int) + 8 := by omega
        have g1' : ¬ (s.size : Int) < (at0 : Int) + 1 + (c : Int) + 8 := by omega
        by_cases h600 : 600 < k
        · have g2 : (600 : Int) < (k : Int) := by omega
          have HQ := Lib.hid (maders_none (read_many HS.out.pos hlt (by omega)) HS.out.below)
          clear hp0 hp1 h600
          go_wp2
          go_ret2
          exact HQ.out
        · have g2 : ¬ (600 : Int) < (k : Int) := by omega
          clear hp0 hp1
          have HREC := Lib.hid (show recAt s at0 = (s.extract (at0 + 1) p, wrap64 (wordTo s p 8)) by unfold recAt; rw [HP0.out])
          have hpos := posK_step HS.out.pos (fits_yes hlt (by rw [HP0.out]; exact hfit))
          rw [HP0.out] at hpos
          have HPOS := Lib.hid hpos
          have HRS := Lib.hid (recsK_step HS.out.pos)
          have HO := Lib.hid HS.out.own
          have h601 : k < 601 := by omega
          clear hpos
          go_wp2
          rw [HP.out]
          have j1 : (at0 : Int) + 1 ≤ (p : Int) := by have := HP1.out; omega
          have j2 : (p : Int) ≤ (s.size : Int) := by omega
          have j3 : (0 : Int) ≤ (at0 : Int) + 1 := by omega
          clear hc g1 g1'
          go_loop [7, 8] (fun x i => ∃ (m : Nat), m ≤ 8 ∧ i = .int .i64 (7 - (m : Int)) ∧ x = .int .u64 (wordTo s p m)) (fun _ i => (intOf i + 1).toNat)
          case atStart => exact ⟨0, by omega, rfl, rfl⟩
          case round =>
            obtain ⟨m, hm, rfl, rfl⟩ := hrel
            by_cases hlm : m < 8
            · obtain ⟨d, hd⟩ : ∃ d : Nat, 7 - (m : Int) = (d : Int) := ⟨7 - m, by omega⟩
              have HX2 := Lib.hid (show wordTo s p (m + 1) = wstep (wordTo s p m) s[p + d] by
                have : d = 7 - m := by omega
                rw [wordTo, ← this, byteAt_eq])
              rw [hd]
              have hpd : p + d < s.size := by omega
              have hj0 : (0 : Int) ≤ (p : Int) + (d : Int) := by omega
              have hj1 : (p : Int) + (d : Int) < (s.size : Int) := by omega
              have hj2 : ((p : Int) + (d : Int)).toNat = p + d := by omega
              generalize hX : wordTo s p m = X at HX2
              have HX := Lib.hid hX
              clear hX
              go_wp2
              go_round
              case rel => exact ⟨m + 1, by omega, by go_num, by rw [HX2.out]; rfl⟩
              case measure => simp [intOf]
            · obtain rfl : m = 8 := by omega
              have g6 : ((at0 : Int) + 1).toNat = at0 + 1 := by omega
              obtain ⟨key, hkey⟩ : ∃ key, s.extract (at0 + 1) p = key := ⟨_, rfl⟩
              obtain ⟨X, hX⟩ : ∃ X, wordTo s p 8 = X := ⟨_, rfl⟩
              have HREC2 := Lib.hid (show recAt s at0 = (key, wrap64 X) by rw [← hkey, ← hX]; exact HREC.out)
              rw [hX]
              have HKEY := Lib.hid hkey
              clear hkey hX
              go_wp2_with (at_builtin; (refine wpList_append_own _ rfl _ _ 39 rfl w.heap.size 33 i0 _ 2 24 Try.underlying39 hi hz0 hz1 hz2 rfl (by decide) _ _ _ rfl (HO.out.alloc _) ⟨wr.heap.size, 0, none⟩ 1 1 [.string (s.extract (at0 + 1) p), .int .i64 (wrap64 X)] rfl rfl (two_new _ _ _ _) (two_cells _ _) (by unfold maxLen; omega) (by omega) (Nat.le_trans HS.out.below.size (below_alloc (Below.refl _ _) _).size) ?_); intro v' w3 hown1 hgrow hnil; have HO1 := Lib.hid hown1; have HG := Lib.hid hgrow; clear hown1 hgrow hnil)
              obtain ⟨q1, cp1, rfl⟩ := own_form HO1.out
              go_roundw
              case rel =>
                have hb : Below w.heap.size w w3 := (below_alloc HS.out.below _).grown HG.out (below_alloc HS.out.below _).size (fun j hj => (HO.out.lt j hj).1)
                have ho := HO1.out
                rw [HKEY.out, ← cellsL_snoc, ← HREC2.out, ← HRS.out] at ho
                exact ⟨k + 1, p + 8, q1, cp1, rfl, by go_num, by omega, by omega, HPOS.out, ho, hb⟩
              case measure => simp [sliceN]; omega
      · have g1 : (s.size : Int) < (p : Int) + 8 := by omega
        have g1' : (s.size : Int) < (at0 : Int) + 1 + (c : Int) + 8 := by omega
        have HQ := Lib.hid (maders_none (read_unfit HS.out.pos hlt (fits_no (by rw [HP0.out]; exact hfit))) HS.out.below)
        clear hp0 hp1 hfit
        go_wp2
        go_ret2
        exact HQ.out
    · have hae : at0 = s.size := by omega
      go_wp2_with fail
      cases hr : runOkB (recsK s k) with
      | false =>
        have HR := Lib.hid hr
        have HQ := fun w2 (h : Below w.heap.size w w2) => maders_none (w' := w2) (read_bad (by rw [HS.out.pos, hae]) hr) h
        have HQ := Lib.hid HQ
        clear hr hae
        refine (srunok_any _ _ _ _ _ (recs_own HS.out.own (by omega) hs)).mono ?_
        rw [HR.out]
        rintro e w2 ⟨rfl, hB⟩
        have HB := Lib.hid (below_via HS.out.below hB)
        clear hB
        go_wp2
        go_ret2
        exact HQ.out _ HB.out
      | true =>
        have HR := Lib.hid hr
        have HA := Lib.hid hae
        clear hr hae
        refine (srunok_any _ _ _ _ _ (recs_own HS.out.own (by omega) hs)).mono ?_
        rw [HR.out]
        rintro e w2 ⟨rfl, hB⟩
        have HQ := Lib.hid (read_end2 (HS.out.keep hB) HA.out HR.out)
        clear hB
        go_wp2
        go_ret2
        exact HQ.out
end Go.Proofs.Ytonipfhigkkhnaa
