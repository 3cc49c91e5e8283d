
/- A program read out of a text: what the model does. Only new blocks are made. -/
import Derived.Test.YtgijalecpeabjaaDoorReadPM
import Derived.Test.YtgijalecpeabjaaDoorL3Read
import Derived.Test.YtgijalecpeabjaaDoorProgTP
import Derived.Test.YtgijalecpeabjaaDoorWords2
import Derived.Maps.AppendAt
namespace Go.Proofs.YtgijalecpeabjaaDoor
open Go.ChangeShapes Go.WideShapes Go.ChangeAt Go.RowKit
set_option linter.unusedVariables false
set_option maxRecDepth 100000

/-- The model's words so far: the pieces stay. -/
structure SPSt (P : List (List UInt8)) (w wr : World) (v p : Value) (k : Nat) : Prop where
  own : wr.ownsRow w.heap.size 55 3 v k (cellsI ((P.take k).map readL))
  pieces : ∃ b2, wr.ownsRow b2 9 1 p P.length (P.map encS)
  apart : v.ownBlock ≠ p.ownBlock
  below : Below w.heap.size w wr
theorem sp_cell {P : List (List UInt8)} {w wr : World} {v : Value} {q : Option Addr} {cp k n : Nat} (h : SPSt P w wr v (.slice q n cp) k) (hn : P.length = n) (hk : k < n) (hk2 : k < P.length) :
    ∃ g, q = some ⟨g, 0, none⟩ ∧ wr.cell? ⟨g, k, none⟩ = some (.string ⟨P[k].toArray⟩) ∧ g < wr.heap.size := by
  subst hn
  obtain ⟨b2, hp⟩ := h.pieces
  rcases hp.2 with ⟨h1, h2⟩ | ⟨g, cap, cur, hv, _, hh, _⟩
  · simp only [Value.slice.injEq] at h1; omega
  · simp only [Value.slice.injEq, true_and] at hv
    obtain ⟨rfl, rfl⟩ := hv
    refine ⟨g, rfl, ?_, lt_of_block hh⟩
    rw [hp.cellAt k (by omega)]
    simp [hk2, encS]
theorem SPSt.keep {P : List (List UInt8)} {w wr w1 : World} {v p : Value} {k : Nat} (h : SPSt P w wr v p k) (hB : Below wr.heap.size wr w1) : SPSt P w w1 v p k := by
  obtain ⟨b2, hp⟩ := h.pieces
  exact ⟨own_below h.own hB, ⟨b2, own_below hp hB⟩, h.apart, below_via h.below hB⟩
theorem SPSt.add {P : List (List UInt8)} {w wr w1 : World} {v p v' : Value} {k : Nat} (o : Obj) (h : SPSt P w wr v p k) (hk : k < P.length) {op n : Int} {s : ByteArray} (hr : readL P[k] = (op, n, s))
    (hown : w1.ownsRow w.heap.size 55 3 v' (k + 1) (cellsI ((P.take k).map readL) ++ [.int .i64 op, .int .i64 n, .string s])) (hg : (wr.alloc o).grownBy w1 v.ownBlock) (hat : v'.ownBlock = v.ownBlock ∨ v'.ownBlock = some (wr.alloc o).heap.size) : SPSt P w w1 v' p (k + 1) where
  own := by
    rw [List.take_succ_eq_append_getElem hk, List.map_append, List.map_cons, List.map_nil, hr, cellsI_snoc]
    exact hown
  pieces := by
    obtain ⟨b2, hp⟩ := h.pieces
    exact ⟨b2, (hp.alloc o).kept hg (.inr (Ne.symm h.apart))⟩
  apart := by
    obtain ⟨b2, hp⟩ := h.pieces
    rcases hat with e | e
    · rw [e]; exact h.apart
    · rw [e]
      intro hc
      have := (hp.lt _ hc.symm).2
      simp at this
      omega
  below := (h.below.alloc h.below.size o).grown hg (Nat.le_trans h.below.size (by simp)) (fun j hj => (h.own.lt j hj).1)
theorem readP_long {s : ByteArray} (h : 1000 < s.size) : readP s.data.toList = none := by
  rw [readP_model, if_neg (fun e => by have := e.1; omega)]

set_option maxHeartbeats 8000000 in
theorem sreadprog_any (s : ByteArray) (w : World) (hs : s.size ≤ 1048576) : Calls Tryd.prog 18 #[.string s] w (MadeRP (readP s.data.toList) w) := by
  by_cases hbig : (1000 : Int) < (s.size : Int)
  · have HR := Lib.hid (readP_long (s := s) (by omega))
    go_enter Tryd.func18, Tryd.ntmps18
    go_wp2
    go_ret2
    exact rp_none HR.out (Below.refl _ _)
  obtain ⟨i0, hi, hz0, hz1, hz2⟩ := info_parts infoInstr
  obtain ⟨P, hP⟩ : ∃ P, splitL 32 s.data.toList = P := ⟨_, rfl⟩
  have HP := Lib.hid hP
  have HPS := Lib.hid (show ∀ x ∈ P, x.length ≤ 1000 from fun x hx => Nat.le_trans (split_short 32 s.data.toList x (by rw [hP]; exact hx)) (by simp; omega))
  have HM := Lib.hid (@readP_model s)
  clear hP
  have HB0 := Lib.hid (below_alloc (Below.refl w.heap.size w) (.cells #[] 55))
  have HO0 := Lib.hid (World.ownsRow_lit (base := w.heap.size) (e := 55) (size := 3) w #[] 0 (Nat.le_refl _) (Nat.zero_le _) rfl)
  go_enter Tryd.func18, Tryd.ntmps18
  go_wp2_with fail
  refine (split_any s _ hs).mono ?_
  rw [HP.out]
  rintro e w1 ⟨v, rfl, hown, hB, hlen⟩
  obtain ⟨np, hnp⟩ : ∃ np, P.length = np := ⟨_, rfl⟩
  have HNP := Lib.hid hnp
  rw [hnp] at hown hlen
  obtain ⟨qp, cpp, hv⟩ := own_form hown
  subst hv
  have HS0 : Hid (SPSt P w w1 (.slice (some ⟨w.heap.size, 0, none⟩) 0 0) (.slice qp np cpp) 0) := Lib.hid (by
    refine ⟨own_below HO0.out hB, ⟨_, by rw [HNP.out]; exact hown⟩, ?_, below_via HB0.out hB⟩
    intro hc
    have := (hown.lt _ hc.symm).1
    simp at this
    omega)
  have HB1 := Lib.hid (below_via HB0.out hB)
  clear hown hB hnp HO0 HB0
  obtain ⟨nz, M, hnz, hMn, hM1, hM0, hI⟩ : ∃ (nz : Bool) (M : Nat), s.toList.isEmpty = !nz ∧ M ≤ np ∧ (nz = true → M = np) ∧ (nz = false → M = 0 ∧ 0 < np) ∧ insOf s.data.toList = (P.take M).map readL := by
    by_cases h0 : s.size = 0
    · have e : s.data.toList = [] := List.eq_nil_of_length_eq_zero (by simpa using h0)
      have h1 := HP.out
      rw [e] at h1
      refine ⟨false, 0, ba_nil h0, Nat.zero_le _, (fun h => by cases h), fun _ => ⟨rfl, ?_⟩, by rw [e]; rfl⟩
      rw [← HNP.out, ← h1]; decide
    · refine ⟨true, np, ba_some (by omega), Nat.le_refl _, fun _ => rfl, (fun h => by cases h), ?_⟩
      unfold insOf prWords
      rw [if_neg (fun e => h0 (by
        have := congrArg List.length e
        simpa using this)), HP.out, List.take_of_length_le (by rw [HNP.out]; exact Nat.le_refl _)]
  have HI := Lib.hid hI
  have HM1 := Lib.hid hM1
  have HM0 := Lib.hid hM0
  clear hI hM1 hM0
  have hnp1 : np ≤ 1001 := by omega
  go_wp2_with fail
  go_loopw [4, 6] (fun v i wr => ∃ (k : Nat) (q : Option Addr) (cp : Nat), k ≤ M ∧ v = .slice q k cp ∧ i = .int .i64 k ∧ Hid (SPSt P w wr (.slice q k cp) (.slice qp np cpp) k)) (fun _ i _ => M - (intOf i).toNat)
  case atStart => exact ⟨0, _, _, Nat.zero_le _, rfl, rfl, HS0⟩
  case round =>
    clear HS0 HB1
    obtain ⟨k, q, cp, hk, rfl, rfl, HS⟩ := hrel
    have hi0 : (0 : Int) ≤ (k : Int) := by omega
    by_cases hlt : k < M
    · obtain rfl : nz = true := by
        cases nz with
        | true => rfl
        | false => have := (HM0.out rfl).1; omega
      have hne : s.toList.isEmpty = false := hnz
      clear hnz
      have hkn : k < np := by omega
      have hi1 : (k : Int) < (np : Int) := by omega
      have hkP : k < P.length := by rw [HNP.out]; exact hkn
      obtain ⟨g, rfl, c0, hg⟩ := sp_cell HS.out HNP.out hkn hkP
      have HG0 := Lib.hid hg
      have HK := Lib.hid hkP
      have hbs := HPS.out P[k] (List.getElem_mem hkP)
      obtain ⟨b, hb⟩ : ∃ b : ByteArray, (⟨P[k].toArray⟩ : ByteArray) = b := ⟨_, rfl⟩
      have HBL := Lib.hid (show b.data.toList = P[k] by rw [← hb])
      have hbz : b.size ≤ 1048576 := by rw [← hb]; show P[k].toArray.size ≤ _; rw [List.size_toArray]; omega
      replace c0 : wr.cell? ⟨g, k, none⟩ = some (.string b) := by rw [← hb]; exact c0
      obtain ⟨⟨op, n, sx⟩, hr⟩ : ∃ x, readL P[k] = x := ⟨_, rfl⟩
      have HR := Lib.hid hr
      have HC := Lib.hid (show ∀ w, Calls Tryd.prog 47 #[.string b] w (fun e w' => e = .returned (.agg #[.int .i64 op, .int .i64 n, .string sx]) ∧ Below w.heap.size w w') from fun w => by
        have := l3read_any b w hbz
        rw [HBL.out, hr] at this
        exact this)
      clear hg hb hbs hr
      go_wp2_with fail
      refine (HC.out _).mono ?_
      rintro e w2 ⟨rfl, hB⟩
      have HS := Lib.hid (HS.out.keep hB)
      clear hB c0
      have HO := Lib.hid HS.out.own
      go_wp2_with (at_builtin; (refine wpList_append_own_at _ rfl _ _ 25 rfl w.heap.size 55 i0 _ 3 32 Tryd.underlying25 hi hz0 hz1 hz2 rfl (by decide) _ _ _ rfl (HO.out.alloc _) ⟨w2.heap.size, 0, none⟩ 1 1 [.int .i64 op, .int .i64 n, .string sx] rfl rfl (three_new _ _ _ _ _) (three_cells _ _ _) (by unfold maxLen; omega) (by omega) (Nat.le_trans HS.out.below.size (by simp)) ?_); intro v' w3 hown1 hgrow hnil hat; have HO1 := Lib.hid hown1; have HG := Lib.hid hgrow; have HAT := Lib.hid hat; clear hown1 hgrow hnil hat)
      obtain ⟨q1, cp1, rfl⟩ := own_form HO1.out
      go_roundw
      case rel => exact ⟨k + 1, q1, cp1, by omega, rfl, by go_num, Lib.hid (HS.out.add _ HK.out HR.out HO1.out HG.out HAT.out)⟩
      case measure => simp [intOf]; omega
    · obtain rfl : k = M := by omega
      obtain ⟨l, hl⟩ : ∃ l, (P.take k).map readL = l := ⟨_, rfl⟩
      have HLX := Lib.hid hl
      have HO := Lib.hid (show wr.ownsRow w.heap.size 55 3 (.slice q k cp) k (cellsI l) from hl ▸ HS.out.own)
      have HB := Lib.hid HS.out.below
      rw [hl] at HI
      clear hl
      cases nz with
      | true =>
        have hki : ¬ (k : Int) < (np : Int) := by have := HM1.out rfl; omega
        have hne : s.toList.isEmpty = false := hnz
        clear hnz
        have HA := Lib.hid (own_inss HO.out (by rw [← HLX.out, List.length_map, List.length_take, HNP.out]; omega) (by unfold maxLen; omega) (fun i hi => by
          have h1 := @insOf_size s.data.toList i (by rw [HI.out, ← HLX.out, List.length_map, List.length_take, HNP.out]; omega)
          rw [HI.out] at h1
          have h2 : s.data.toList.length = s.size := by simp
          unfold maxLen; omega))
        have HN := Lib.hid (show ∀ i, i < k → In64 (ins1 l i) from fun i hi => by rw [← HI.out]; exact insOf_in _ i (by rw [HI.out, ← HLX.out, List.length_map, List.length_take, HNP.out]; omega))
        have HLEN := Lib.hid (show (insOf s.data.toList).length = k by rw [HI.out, ← HLX.out, List.length_map, List.length_take, HNP.out]; omega)
        obtain ⟨b, hb⟩ : ∃ b, progB l = b := ⟨_, rfl⟩
        have HQ := Lib.hid hb
        clear hb
        go_wp2_with fail
        refine (sprogok_any q k cp l _ HA.out).mono ?_
        rw [HQ.out]
        rintro e w2 ⟨rfl, hB⟩
        have HO := Lib.hid (own_below HO.out hB)
        have HA := Lib.hid (HA.out.keep hB)
        have HB := Lib.hid (below_via HB.out hB)
        clear hB
        cases b with
        | false =>
          have HR := Lib.hid (show readP s.data.toList = none by rw [HM.out, HI.out, HQ.out, if_neg (by simp)])
          go_wp2
          go_ret2
          exact rp_none HR.out HB.out
        | true =>
          obtain ⟨T, hT⟩ : ∃ T, progTo l k = T := ⟨_, rfl⟩
          have HTT := Lib.hid hT
          clear hT
          go_wp2_with fail
          refine (l3prog_any q k cp l _ HA.out HQ.out HN.out).mono ?_
          rw [HTT.out]
          rintro e w3 ⟨rfl, hB⟩
          have HO := Lib.hid (own_below HO.out hB)
          have HB := Lib.hid (below_via HB.out hB)
          clear hB
          by_cases hq : T = s
          · have q1 := ba_eqv hq
            have HR := Lib.hid (show readP s.data.toList = some l by rw [HM.out, HLEN.out, HI.out, HQ.out, HTT.out, if_pos ⟨by omega, rfl, hq⟩])
            clear hq
            go_wp2
            go_ret2
            exact rp_some HR.out HB.out (by rw [← HI.out, HLEN.out]) HO.out
          · have q1 := ba_nev hq
            have HR := Lib.hid (show readP s.data.toList = none by rw [HM.out, HLEN.out, HI.out, HQ.out, HTT.out, if_neg (fun e => hq e.2.2)])
            clear hq
            go_wp2
            go_ret2
            exact rp_none HR.out HB.out
      | false =>
        have hki : (k : Int) < (np : Int) := by have := HM0.out rfl; omega
        have hne : s.toList.isEmpty = true := hnz
        clear hnz
        have HA := Lib.hid (own_inss HO.out (by rw [← HLX.out, List.length_map, List.length_take, HNP.out]; omega) (by unfold maxLen; omega) (fun i hi => by
          have h1 := @insOf_size s.data.toList i (by rw [HI.out, ← HLX.out, List.length_map, List.length_take, HNP.out]; omega)
          rw [HI.out] at h1
          have h2 : s.data.toList.length = s.size := by simp
          unfold maxLen; omega))
        have HN := Lib.hid (show ∀ i, i < k → In64 (ins1 l i) from fun i hi => by rw [← HI.out]; exact insOf_in _ i (by rw [HI.out, ← HLX.out, List.length_map, List.length_take, HNP.out]; omega))
        have HLEN := Lib.hid (show (insOf s.data.toList).length = k by rw [HI.out, ← HLX.out, List.length_map, List.length_take, HNP.out]; omega)
        obtain ⟨b, hb⟩ : ∃ b, progB l = b := ⟨_, rfl⟩
        have HQ := Lib.hid hb
        clear hb
        go_wp2_with fail
        refine (sprogok_any q k cp l _ HA.out).mono ?_
        rw [HQ.out]
        rintro e w2 ⟨rfl, hB⟩
        have HO := Lib.hid (own_below HO.out hB)
        have HA := Lib.hid (HA.out.keep hB)
        have HB := Lib.hid (below_via HB.out hB)
        clear hB
        cases b with
        | false =>
          have HR := Lib.hid (show readP s.data.toList = none by rw [HM.out, HI.out, HQ.out, if_neg (by simp)])
          go_wp2
          go_ret2
          exact rp_none HR.out HB.out
        | true =>
          obtain ⟨T, hT⟩ : ∃ T, progTo l k = T := ⟨_, rfl⟩
          have HTT := Lib.hid hT
          clear hT
          go_wp2_with fail
          refine (l3prog_any q k cp l _ HA.out HQ.out HN.out).mono ?_
          rw [HTT.out]
          rintro e w3 ⟨rfl, hB⟩
          have HO := Lib.hid (own_below HO.out hB)
          have HB := Lib.hid (below_via HB.out hB)
          clear hB
          by_cases hq : T = s
          · have q1 := ba_eqv hq
            have HR := Lib.hid (show readP s.data.toList = some l by rw [HM.out, HLEN.out, HI.out, HQ.out, HTT.out, if_pos ⟨by omega, rfl, hq⟩])
            clear hq
            go_wp2
            go_ret2
            exact rp_some HR.out HB.out (by rw [← HI.out, HLEN.out]) HO.out
          · have q1 := ba_nev hq
            have HR := Lib.hid (show readP s.data.toList = none by rw [HM.out, HLEN.out, HI.out, HQ.out, HTT.out, if_neg (fun e => hq e.2.2)])
            clear hq
            go_wp2
            go_ret2
            exact rp_none HR.out HB.out
end Go.Proofs.YtgijalecpeabjaaDoor
