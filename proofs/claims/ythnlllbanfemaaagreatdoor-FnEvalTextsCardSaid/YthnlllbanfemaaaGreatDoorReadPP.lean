
/- A program read out of a text: what the program does. Only new blocks are made. -/
import Derived.Test.YthnlllbanfemaaaGreatDoorReadPM
import Derived.Test.YthnlllbanfemaaaGreatDoorRInstr
import Derived.Test.YthnlllbanfemaaaGreatDoorLCut
import Derived.Test.YthnlllbanfemaaaGreatDoorMg17
namespace Go.Proofs.YthnlllbanfemaaaGreatDoor
open Go.ChangeShapes Go.WideShapes Go.ChangeAt Go.RowKit
set_option linter.unusedVariables false
set_option maxRecDepth 100000

set_option maxHeartbeats 8000000 in
theorem readprog_any (s : ByteArray) (w : World) (hs : s.size ≤ 1048576) (hT : TabsRP w) : Calls Tryz.prog 36 #[.string s] w (MadeRP (readP s.data.toList) w) := by
  obtain ⟨i0, hi, hz0, hz1, hz2⟩ := info_parts infoInstr
  obtain ⟨L, hL⟩ : ∃ L, s.data.toList = L := ⟨_, rfl⟩
  obtain ⟨N, hN⟩ : ∃ N, s.size = N := ⟨_, rfl⟩
  have HL := Lib.hid hL
  have HN := Lib.hid hN
  have HT := Lib.hid hT
  have HLL := Lib.hid (show L.length = N by rw [← hL, ← hN]; simp)
  rw [hL]
  rw [hN] at hs
  clear hL hN hT
  have HST : Hid (∃ more : Bool, s.toList.isEmpty = !more ∧ RPSt L w w (.slice none 0 0) [] s more) := Lib.hid (by
    by_cases h0 : s.size = 0
    · have e : L = [] := by rw [← HL.out]; exact List.eq_nil_of_length_eq_zero (by simpa using h0)
      exact ⟨false, ba_nil h0, own_nil _ _ (Nat.le_refl _), Below.refl _ _, (fun h => by cases h), fun _ => by rw [e]; rfl, fun x hx => by cases hx⟩
    · have e : L ≠ [] := by
        intro e
        have h1 := HLL.out
        rw [e, List.length_nil] at h1
        have h2 := HN.out
        omega
      exact ⟨true, ba_some (by omega), own_nil _ _ (Nat.le_refl _), Below.refl _ _, (fun _ => by unfold prWords; rw [if_neg e, ← HL.out]; rfl), (fun h => by cases h), fun x hx => by cases hx⟩)
  obtain ⟨more0, hm0, hst0⟩ := HST.out
  have HS0 := Lib.hid hst0
  clear hst0 HST
  go_enter Tryz.func36, Tryz.ntmps36
  go_wp2
  go_loopw [0, 4, 5] (fun t v m wr => ∃ (cur : ByteArray) (W : List (List UInt8)) (q : Option Addr) (cp : Nat) (more : Bool), t = .string cur ∧ v = .slice q W.length cp ∧ m = .bool more ∧ cur.size ≤ N ∧ W.length ≤ 30 ∧ Hid (RPSt L w wr v W cur more)) (fun t _ m _ => if yes m then lenOf t + 1 else 0)
  case atStart =>
    exact ⟨s, [], none, 0, more0, rfl, rfl, by first | rfl | simp [hm0], by rw [HN.out]; exact Nat.le_refl _, by simp, HS0⟩
  case round =>
    clear hm0 HS0
    obtain ⟨cur, W, q, cp, more, rfl, rfl, rfl, hcur, hW, HS⟩ := hrel
    obtain ⟨wl, hwl⟩ : ∃ wl, W.length = wl := ⟨_, rfl⟩
    rw [hwl] at hW HS ⊢
    have HWL := Lib.hid hwl
    clear hwl
    have HO := Lib.hid (show wr.ownsRow w.heap.size 52 3 (.slice q wl cp) wl (cellsI (W.map readL)) from by
      have := HS.out.own
      rw [HWL.out] at this
      exact this)
    cases more with
    | false =>
      have HI := Lib.hid (show insOf L = W.map readL by unfold insOf; rw [HS.out.over rfl])
      have HA := Lib.hid (own_inss HO.out (by rw [List.length_map, HWL.out]) (by unfold maxLen; omega) (fun i hi => by
        have h1 := @insOf_size L i (by rw [HI.out, List.length_map, HWL.out]; exact hi)
        rw [HI.out] at h1
        have h2 := HLL.out
        unfold maxLen; omega))
      have HB := Lib.hid HS.out.below
      have HOK := Lib.hid (show ∀ x ∈ prWords L, readLB x = true by rw [HS.out.over rfl]; exact HS.out.ok)
      have HQ := Lib.hid (show ∃ b, progB (W.map readL) = b from ⟨_, rfl⟩)
      obtain ⟨b, hb⟩ := HQ.out
      have HQ := Lib.hid hb
      clear hb
      go_wp2_with fail
      refine (progok_any q wl cp (W.map readL) _ HA.out ((HT.out.keep HB.out).forms)).mono ?_
      rw [HQ.out]
      rintro e w1 ⟨rfl, hB⟩
      have HO := Lib.hid (own_below HO.out hB)
      have HB := Lib.hid (below_via HB.out hB)
      clear hB
      cases b with
      | false =>
        have HR := Lib.hid (readP_bad (l := L) (by rw [HI.out]; exact HQ.out))
        go_wp2
        go_ret2
        exact rp_none HR.out HB.out
      | true =>
        have HR := Lib.hid (readP_good (l := L) (by rw [HI.out]; exact HQ.out) HOK.out)
        rw [HI.out] at HR
        go_wp2
        go_ret2
        exact rp_some HR.out HB.out (by rw [List.length_map, HWL.out]) HO.out
    | true =>
      have hcm : cur.size ≤ maxLen := by unfold maxLen; omega
      go_wp2_with fail
      refine (stdcut_any cur 32 _ hcm).mono ?_
      rintro e w1 ⟨a, r, b, rfl, hB, hr, hno, hyes, hnot⟩
      have HW2 := Lib.hid (HS.out.word hno hyes hnot)
      have HIN := Lib.hid (word_in HW2.out)
      have HYES := Lib.hid hyes
      have HR := Lib.hid hr
      have has : a.size ≤ 1048576 := by
        cases b with
        | true =>
          have := congrArg List.length (hyes rfl)
          simp at this
          omega
        | false => obtain ⟨rfl, _⟩ := hnot rfl; omega
      have HO := Lib.hid (own_below HO.out hB)
      have HB := Lib.hid (below_via HS.out.below hB)
      clear hB hr hno hyes hnot
      go_wp2_with fail
      refine (readinstr_any a _ has (HT.out.keep HB.out)).mono ?_
      rintro e w2 ⟨op, n, sx, rfl, hrd, hB⟩
      have HRD := Lib.hid hrd
      have HO := Lib.hid (own_below HO.out hB)
      have HB := Lib.hid (below_via HB.out hB)
      clear hB hrd
      obtain ⟨ok, hok⟩ : ∃ ok, readLB a.data.toList = ok := ⟨_, rfl⟩
      have HOK := Lib.hid hok
      rw [hok] at HRD ⊢
      clear hok
      cases ok with
      | false =>
        have HNO := Lib.hid (readP_no HIN.out.1 HOK.out)
        go_wp2
        go_ret2
        exact rp_none HNO.out (below_alloc HB.out _)
      | true =>
        by_cases h30 : wl = 30
        · have HNO := Lib.hid (readP_many (l := L) (by have h1 := HIN.out.2; have h2 := HWL.out; omega))
          subst h30
          go_wp2
          go_ret2
          exact rp_none HNO.out (below_alloc HB.out _)
        · have h30b : ((wl : Int) == 30) = false := by rw [beq_eq_false_iff_ne]; omega
          have HRX := Lib.hid (HRD.out rfl)
          go_wp2_with (at_builtin; (refine wpList_append_own _ rfl _ _ 29 rfl w.heap.size 52 i0 _ 3 32 Tryz.underlying29 hi hz0 hz1 hz2 rfl (by decide) _ _ _ rfl ((HO.out.alloc _).alloc _) ⟨w2.heap.size + 1, 0, none⟩ 1 1 [.int .i64 op, .int .i64 n, .string sx] rfl rfl (three_new1 _ _ _ _ _ _) (three_cells _ _ _) (by unfold maxLen; omega) (by omega) (Nat.le_trans HB.out.size (below_alloc (below_alloc (Below.refl _ _) _) _).size) ?_); intro v' w3 hown1 hgrow hnil; have HO1 := Lib.hid hown1; have HG := Lib.hid hgrow; clear hown1 hgrow hnil)
          have hb3 : Below w.heap.size w w3 := (below_alloc (below_alloc HB.out _) _).grown HG.out (below_alloc (below_alloc HB.out _) _).size (fun j hj => (HO.out.lt j hj).1)
          have HB3 := Lib.hid hb3
          clear hb3
          obtain ⟨q1, cp1, rfl⟩ := own_form HO1.out
          go_roundw
          case rel =>
            have ho := HO1.out
            rw [← HWL.out] at ho
            have hnew := HS.out.add HW2.out HRX.out HOK.out ho HB3.out
            rw [HWL.out] at hnew
            exact ⟨r, W ++ [a.data.toList], q1, cp1, b, rfl, by rw [List.length_append, HWL.out]; rfl, rfl, by have := HR.out; omega, by rw [List.length_append, HWL.out]; simp; omega, hnew⟩
          case measure =>
            have h1 := HR.out
            cases b with
            | false => simp [yes, lenOf]
            | true =>
              have := congrArg List.length (HYES.out rfl)
              simp at this
              simp [yes, lenOf]
              omega
end Go.Proofs.YthnlllbanfemaaaGreatDoor
