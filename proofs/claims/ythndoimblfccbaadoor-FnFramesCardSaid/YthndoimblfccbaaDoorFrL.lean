
/- The law FnFrames, walked: for every code it returns true and only makes new blocks. -/
import Derived.Test.YthndoimblfccbaaDoorFrX
import Derived.Test.YthndoimblfccbaaDoorFrE
import Derived.Test.YthndoimblfccbaaDoorSame
namespace Go.Proofs.YthndoimblfccbaaDoor
open Go.ChangeShapes Go.WideShapes Go.ChangeAt Go.RowKit
set_option linter.unusedVariables false
set_option maxRecDepth 100000

theorem strs_few {w : World} {q : Option Addr} {n m : Nat} {L M : Strs} (h : StrsAt w q n L) (hp : M <+: L) (hm : M.length = m) : StrsAt w q m M := by
  have hle : m ≤ n := by rw [← hm, ← h.length]; exact hp.length_le
  have hat : ∀ i, i < m → strAt M i = strAt L i := fun i hi => by
    unfold strAt
    obtain ⟨T, rfl⟩ := hp
    rw [List.getD_eq_getElem?_getD, List.getD_eq_getElem?_getD, List.getElem?_append_left (by omega)]
  refine ⟨hm, Nat.le_trans hle h.max, fun i hi => by rw [hat i hi]; exact h.sizes i (by omega), ?_⟩
  rcases h.src with h0 | ⟨b, off, ha, hb, hc⟩
  · exact .inl (by omega)
  · exact .inr ⟨b, off, ha, hb, fun i hi => by rw [hat i hi]; exact hc i (by omega)⟩
/-- The end of TakeFrames, with the room told. -/
def MadeTL (s : ByteArray) (w : World) (e : Ending) (w' : World) : Prop :=
  ∃ q cp, e = .returned (.tuple #[.slice q (frL s).length cp, .int .i64 ((endK s (frL s).length : Nat) : Int)]) ∧ Ks w.heap.size w' q (frL s) ∧ Below w.heap.size w w' ∧ (frL s).length ≤ cp ∧ (q = none → cp = 0)
theorem tl_of {s : ByteArray} {w w' : World} {e : Ending} (h : MadeTF s w e w') : MadeTL s w e w' := by
  obtain ⟨v, rfl, ho, hB⟩ := h
  obtain ⟨q, cp, rfl⟩ := own_form ho
  have hc : (frL s).length ≤ cp ∧ (q = none → cp = 0) := by
    rcases ho.2 with ⟨h1, h2⟩ | ⟨g, cap, cur, hv, _, _, h1, h2, _⟩
    · simp only [Value.slice.injEq] at h1; exact ⟨by omega, fun _ => h1.2.2⟩
    · simp only [Value.slice.injEq] at hv
      obtain ⟨rfl, _, rfl⟩ := hv
      exact ⟨h1, fun h => by cases h⟩
  rw [range_frames] at ho
  exact ⟨q, cp, rfl, ks_of_own ho, hB, hc.1, hc.2⟩
theorem takel_any (s : ByteArray) (w : World) (hsz : s.size ≤ 1048576) (hT : TabsC w) : Calls Tryd.prog 9 #[.string s] w (MadeTL s w) := (takeframes_any s w hsz hT).mono fun _ _ => tl_of
theorem endK_all (s : ByteArray) : endK s (frL s).length = offs (frL s) := by unfold endK; rw [List.take_length]

set_option maxHeartbeats 16000000 in
theorem fnFrames_walk (w : World) (a : Option Addr) (len cap : Nat) (h : Src w a len) (hT : TabsC w) :
    Calls Tryd.prog 5 #[.slice a len cap] w fun e w' => e = .returned (.bool true) ∧ Below w.heap.size w w' := by
  have H := Lib.hid h
  have HT := Lib.hid hT
  have hlm := h.1
  unfold maxLen at hlm
  clear h hT
  by_cases hbig : 1048576 < len
  · go_enter Tryd.func5, Tryd.ntmps5
    go_wp2_with fail
    refine (big_yes _ _ _ _ hbig).mono ?_
    rintro e w1 ⟨rfl, rfl⟩
    go_wp2
    go_ret
    exact ⟨rfl, Below.refl _ _⟩
  go_enter Tryd.func5, Tryd.ntmps5
  go_wp2_with fail
  refine (big_no _ _ _ _ hbig).mono ?_
  rintro e w1 ⟨rfl, rfl⟩
  go_wp2_with fail
  refine (drawtf_any _ _ _ _ H.out).mono ?_
  rintro e w1 ⟨s, hs, rfl, hB⟩
  have HB := Lib.hid hB
  clear hB
  obtain ⟨N, hN⟩ : ∃ N, (frL s).length = N := ⟨_, rfl⟩
  have hfew : N ≤ 34 := by have := frL_few s; omega
  obtain ⟨E, hE⟩ : ∃ E, endK s N = E := ⟨_, rfl⟩
  have hEs : E ≤ s.size := by rw [← hE, ← hN]; exact endK_le s _ (Nat.le_refl _)
  have HTK := Lib.hid (fun wx => stakek_any s wx (by omega))
  have HTI := Lib.hid (fun wx (hb : Below w.heap.size w wx) => takel_any s wx (by omega) (HT.out.keep hb))
  unfold MadeTK at HTK
  unfold MadeTL at HTI
  rw [hN, hE] at HTK HTI
  have HN := Lib.hid hN
  have HE := Lib.hid hE
  have HSH := Lib.hid (frames_short s)
  have hnm : N ≤ maxLen := by unfold maxLen; omega
  clear hN hE
  go_wp2_with fail
  refine (HTI.out _ HB.out).mono ?_
  rintro e w2 ⟨q1, cp1, rfl, h1, hB, hcap1, hnil1⟩
  have HNIL := Lib.hid hnil1
  clear hnil1
  have H1 := Lib.hid (strs_of_ks h1 HN.out hnm HSH.out)
  have HB := Lib.hid (below_via HB.out hB)
  clear h1 hB
  go_wp2_with fail
  refine (HTK.out _).mono ?_
  rintro e w3 ⟨q2, cp2, rfl, h2, hB⟩
  have H1 := Lib.hid (H1.out.keep hB)
  have H2 := Lib.hid (strs_of_ks h2 HN.out hnm HSH.out)
  have HB := Lib.hid (below_via HB.out hB)
  clear h2 hB HTK HTI
  go_wp2_with fail
  refine (sametexts_same _ _ _ _ _ _ _ H1.out H2.out).mono ?_
  rintro e w4 ⟨rfl, hB⟩
  have H1 := Lib.hid (H1.out.keep hB)
  have HB := Lib.hid (below_via HB.out hB)
  have hgt : ¬ s.size < E := by omega
  clear hB H2
  go_wp2_with fail
  go_loopw [8, 9] (fun v i wr => ∃ (k : Nat) (T : ByteArray), k ≤ N ∧ i = .int .i64 k ∧ v = .string T ∧ Hid (T = s.extract 0 (endK s k)) ∧ Hid (Below w4.heap.size w4 wr)) (fun _ i _ => N - (intOf i).toNat)
  case atStart => exact ⟨0, _, Nat.zero_le _, rfl, rfl, Lib.hid (by rw [endK_zero]; simp; rfl), Lib.hid (Below.refl _ _)⟩
  case round =>
    obtain ⟨k, T, hk, rfl, rfl, HTX, HW⟩ := hrel
    by_cases hlt : k < N
    · have hkl : k < (frL s).length := by rw [HN.out]; exact hlt
      have H1w := H1.out.keep HW.out
      rcases H1w.src with hz | ⟨b, off, rfl, hb, hc⟩
      · omega
      · have c0 := hc k hlt
        obtain ⟨d, hd⟩ : ∃ d, strAt (frL s) k = d := ⟨_, rfl⟩
        rw [hd] at c0
        have hdk : (frL s)[k] = d := by
          rw [← hd]; unfold strAt; rw [List.getD_eq_getElem?_getD, List.getElem?_eq_getElem hkl]; rfl
        have hg := frA_some (frL_next hkl)
        rw [hdk] at hg
        have hds : d.size ≤ 34 := by have := hg.2.2.1; have := hg.2.2.2.2; omega
        have hts : T.size ≤ 34 := by rw [HTX.out, ByteArray.size_extract]; omega
        have hfl := frTx_len (d := d) (by omega)
        have HNX := Lib.hid (show T ++ frTx d = s.extract 0 (endK s (k + 1)) by rw [frames_text s k hkl, hdk, HTX.out])
        have HFO := Lib.hid (frameof_any d wr (by unfold maxLen; omega) (HT.out.keep (below_via HB.out HW.out)))
        obtain ⟨F, hF⟩ : ∃ F, frTx d = F := ⟨_, rfl⟩
        rw [hF] at HNX HFO hfl
        have hcat : ∀ w, (Op.stringOp .add T F).run Tryd.prog w = .ok (.string (T ++ F)) w := fun w => cat_runp _ _ 200000 (by omega) (by omega)
        have hk1 : (k : Int) < (N : Int) := by omega
        clear hc hb hd hdk hg hF H1w
        go_wp2_with fail
        refine HFO.out.mono ?_
        rintro e w5 ⟨rfl, hB⟩
        have HW := Lib.hid (below_via HW.out hB)
        clear hB HFO
        go_wp2
        go_roundw
        case rel => exact ⟨k + 1, _, by omega, by go_num, rfl, HNX, HW⟩
        case measure => simp [intOf]; omega
    · obtain rfl : k = N := by omega
      have HT2 := Lib.hid (show T = s.extract 0 E by rw [HTX.out, HE.out])
      have hte : T.size = E := by rw [HT2.out, ByteArray.size_extract]; omega
      have hE34 : E ≤ 34 := by omega
      have HB2 := Lib.hid (below_via HB.out HW.out)
      have H1 := Lib.hid (H1.out.keep HW.out)
      clear HB HW HTX
      go_wp2_with fail
      refine (drawfr_any _ _ _ _ (H.out.below HB2.out)).mono ?_
      rintro e w5 ⟨t, ht, rfl, hB⟩
      have H1 := Lib.hid (H1.out.keep hB)
      have HB := Lib.hid (below_via HB2.out hB)
      have HFO := Lib.hid (fun wx (hb : Below w.heap.size w wx) => frameof_any t wx (by unfold maxLen; omega) (HT.out.keep hb))
      have hfl := frTx_len (d := t) (by omega)
      obtain ⟨F, hF⟩ : ∃ F, frTx t = F := ⟨_, rfl⟩
      have HFE := Lib.hid hF
      rw [hF] at HFO hfl
      have HM1 := Lib.hid (show frL (T ++ F) = frL s ++ [t] by rw [HT2.out, ← hF, ← HE.out, ← HN.out]; exact frames_more (by omega))
      obtain ⟨s1, hs1⟩ : ∃ s1, T ++ F = s1 := ⟨_, rfl⟩
      have hs1z : s1.size = E + F.size := by rw [← hs1, ByteArray.size_append, hte]
      rw [hs1] at HM1
      have hcat : ∀ w, (Op.stringOp .add T F).run Tryd.prog w = .ok (.string s1) w := fun w => by rw [← hs1]; exact cat_runp _ _ 200000 (by omega) (by omega)
      clear hB HB2 hF hs1
      go_wp2_with fail
      refine (HFO.out _ HB.out).mono ?_
      rintro e w6 ⟨rfl, hB⟩
      have H1 := Lib.hid (H1.out.keep hB)
      have HB := Lib.hid (below_via HB.out hB)
      have HK := Lib.hid (takek_any s1 w6 (by omega) (HT.out.keep HB.out))
      have HL1 := Lib.hid (show (frL s1).length = k + 1 by rw [HM1.out, List.length_append, HN.out]; rfl)
      obtain ⟨fz, hfz⟩ : ∃ fz, F.size = fz := ⟨_, rfl⟩
      have HE1 := Lib.hid (show endK s1 (k + 1) = E + fz by
        rw [← HL1.out, endK_all, HM1.out, offs_snoc, ← endK_all, HN.out, HE.out]; omega)
      unfold MadeTK at HK
      rw [HL1.out, HE1.out, HM1.out] at HK
      clear hB
      go_wp2_with fail
      refine HK.out.mono ?_
      rintro e w7 ⟨q3, cp3, rfl, h3, hB⟩
      have H1 := Lib.hid (H1.out.keep hB)
      have H3 := Lib.hid (strs_of_ks (n := k + 1) h3 (by rw [List.length_append, HN.out]; rfl) (by unfold maxLen; omega) (fun x hx => by
        rcases List.mem_append.1 hx with hx | hx
        · exact HSH.out x hx
        · simp at hx; subst hx; unfold maxLen; omega))
      have HB := Lib.hid (below_via HB.out hB)
      clear h3 hB HK HE1 HL1 HM1
      obtain ⟨k2, hk2⟩ : ∃ k2, len % (E + 1) = k2 := ⟨_, rfl⟩
      have hk2e : k2 ≤ E := by have := Nat.mod_lt len (show E + 1 > 0 by omega); omega
      have hrem : (len : Int) % ((E : Int) + 1) = (k2 : Int) := by rw [← hk2]; simp
      have hrem2 : Int.tmod (len : Int) ((E : Int) + 1) = (k2 : Int) := by rw [← hrem]; exact Int.tmod_eq_emod_of_nonneg (by omega)
      clear hk2
      obtain ⟨s2, hs2⟩ : ∃ s2, T.extract 0 k2 = s2 := ⟨_, rfl⟩
      have hs2z : s2.size = k2 := by rw [← hs2, ByteArray.size_extract]; omega
      have HS2 := Lib.hid (show s2 = s.extract 0 k2 by rw [← hs2, HT2.out, ByteArray.extract_extract, show min (0 + k2) E = k2 by omega])
      have hsl2 : ∀ wx, (Instr.slice 9 (.string T) none (some (.int .i64 (k2 : Int))) none).run Tryd.prog wx = .ok (.string s2) wx := fun wx => by
        rw [← hs2]
        exact run_slice_string_h (P := Tryd.prog) wx 9 T Tryd.underlying9 .i64 (k2 : Int) (by omega) (by omega)
      clear hs2
      go_wp2_with fail
      obtain ⟨m, hm⟩ : ∃ m, (frL s2).length = m := ⟨_, rfl⟩
      have hpre : frL s2 <+: frL s := by rw [HS2.out]; exact frames_few s (by omega)
      have hmk : m ≤ k := by rw [← hm, ← HN.out]; exact hpre.length_le
      have HPRE := Lib.hid hpre
      have HK := Lib.hid (takek_any s2 w7 (by omega) (HT.out.keep HB.out))
      unfold MadeTK at HK
      rw [hm] at HK
      have HM := Lib.hid hm
      clear hm hpre hrem hrem2 hsl2
      refine HK.out.mono ?_
      rintro e w8 ⟨q4, cp4, rfl, h4, hB⟩
      have H1 := Lib.hid (H1.out.keep hB)
      have H3 := Lib.hid (H3.out.keep hB)
      have H4 := Lib.hid (strs_of_ks (n := m) h4 HM.out (by unfold maxLen; omega) (frames_short s2))
      have HB := Lib.hid (below_via HB.out hB)
      clear h4 hB HK
      have hsE : ∀ wx, (Instr.slice 9 (.string s) none (some (.int .i64 (E : Int))) none).run Tryd.prog wx = .ok (.string T) wx := fun wx => by
        rw [HT2.out]
        exact run_slice_string_h (P := Tryd.prog) wx 9 s Tryd.underlying9 .i64 (E : Int) (by omega) (by omega)
      have hsl4 : ∀ wx, (Instr.slice 24 (.slice q1 k cp1) none (some (.int .i64 (m : Int))) none).run Tryd.prog wx = .ok (.slice q1 m cp1) wx := fun wx => by
        cases q1 with
        | none =>
          have h0 := HNIL.out rfl
          subst h0
          go_simp
          intro h9
          omega
        | some p =>
          go_simp
          intro h9
          omega
      rcases H3.out.src with hz | ⟨b3, o3, rfl, hb3, hc3⟩
      · omega
      have c3 := hc3 k (by omega)
      rw [show strAt (frL s ++ [t]) k = t by unfold strAt; rw [List.getD_eq_getElem?_getD, List.getElem?_append_right (by rw [HN.out]; exact Nat.le_refl _), HN.out, Nat.sub_self]; rfl] at c3
      clear hc3 hb3
      go_wp2_with fail
      refine (HFO.out _ HB.out).mono ?_
      rintro e w9 ⟨rfl, hB⟩
      have H1 := Lib.hid (H1.out.keep hB)
      have H4 := Lib.hid (H4.out.keep hB)
      have HB := Lib.hid (below_via HB.out hB)
      clear hB
      go_wp2_with fail
      refine (sametexts_same _ _ _ _ _ _ _ H4.out (strs_few H1.out HPRE.out HM.out)).mono ?_
      rintro e wa ⟨rfl, hB⟩
      have HB := Lib.hid (below_via HB.out hB)
      clear hB
      go_wp2
      go_ret
      exact ⟨rfl, HB.out⟩
end Go.Proofs.YthndoimblfccbaaDoor
