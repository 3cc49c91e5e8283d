
/- The law on StorePlayed, walked: drawn commands. -/
import Derived.Test.YtblpebdjbenphaaDoorDrawSp
import Derived.Test.YtblpebdjbenphaaDoorStpM
import Derived.Test.YtblpebdjbenphaaDoorSameSt
import Derived.Test.YtblpebdjbenphaaDoorPlayP
import Derived.Test.YtblpebdjbenphaaDoorMg15
import Derived.Test.YtblpebdjbenphaaDoorCreK
namespace Go.Proofs.YtblpebdjbenphaaDoor
open Go.ChangeShapes Go.WideShapes Go.ChangeAt Go.RowKit
set_option linter.unusedVariables false
set_option maxRecDepth 100000

theorem short_at {L : Cmds} (h : ShortC L) (j : Nat) : (cmd1 L j).size ≤ 41 ∧ (cmd3 L j).size ≤ 30001 := by
  unfold cmd1 cmd3
  rw [List.getD_eq_getElem?_getD]
  by_cases hj : j < L.length
  · rw [List.getElem?_eq_getElem hj]
    exact h _ (List.getElem_mem hj)
  · rw [List.getElem?_eq_none (by omega)]
    exact ⟨by decide, by decide⟩
theorem filt_short {L : Cmds} (h : ShortC L) : ∀ k, ShortC (filtK L k)
  | 0 => by intro c hc; simp [filtK] at hc
  | k + 1 => by
    unfold filtK
    split
    · exact (filt_short h k).add _ _ _ _ (short_at h k).1 (short_at h k).2
    · exact filt_short h k
theorem NumsAt.keep {w w1 : World} {a : Option Addr} {len : Nat} {l : List Int} (h : NumsAt w a len l) (hB : Below w.heap.size w w1) : NumsAt w1 a len l := by
  refine ⟨h.max, ?_⟩
  rcases h.src with h0 | ⟨b, off, ha, hb, hc⟩
  · exact .inl h0
  · exact .inr ⟨b, off, ha, Nat.lt_of_lt_of_le hb hB.size, fun i hi => (hB.cell (p := ⟨b, off + i, none⟩) hb).trans (hc i hi)⟩
theorem num_code {L : Cmds} {k i : Nat} (hi : i < k) : numAt (playK L k).2 i = codeN L i := by
  unfold numAt
  rw [List.getD_eq_getElem?_getD, play_code L k i hi]; rfl

theorem num_zero {cs : List Int} (h : ∀ c ∈ cs, c = 0) (i : Nat) : numAt cs i = 0 := by
  unfold numAt
  rw [List.getD_eq_getElem?_getD]
  by_cases hi : i < cs.length
  · rw [List.getElem?_eq_getElem hi]; exact h _ (List.getElem_mem hi)
  · rw [List.getElem?_eq_none (by omega)]; rfl
/-- The drawn commands, the program's store and codes, the model's. -/
structure SP (w : World) (S U : Nat) (q : Option Addr) (k : Nat) (L : Cmds) (q3 : Option Addr) (c3 : Nat) (q4 : Option Addr) (c4 : Nat) (q5 : Option Addr) (c5 : Nat) (q6 : Option Addr) (c6 : Nat) (nl nm : Nat) (Lo : Objs) (Mo : Gones) (kq tq : Option Addr) (nc : Nat) (cs : List Int) (wr : World) : Prop where
  below : Below w.heap.size w wr
  l : CmdsAt wr q k L
  rs : Row wr S 27 #[.slice q3 nl c3, .slice q4 nm c4]
  ru : Row wr U 27 #[.slice q5 nl c5, .slice q6 nm c6]
  t : StoAt wr q3 nl Lo q4 nm Mo
  u : StoAt wr q5 nl Lo q6 nm Mo
  kc : NumsAt wr kq nc cs
  tc : NumsAt wr tq nc cs
theorem SP.keep {w : World} {S U : Nat} {q : Option Addr} {k : Nat} {L : Cmds} {q3 : Option Addr} {c3 : Nat} {q4 : Option Addr} {c4 : Nat} {q5 : Option Addr} {c5 : Nat} {q6 : Option Addr} {c6 : Nat} {nl nm : Nat} {Lo : Objs} {Mo : Gones} {kq tq : Option Addr} {nc : Nat} {cs : List Int} {wr w2 : World} (h : SP w S U q k L q3 c3 q4 c4 q5 c5 q6 c6 nl nm Lo Mo kq tq nc cs wr) (hB : Below wr.heap.size wr w2) : SP w S U q k L q3 c3 q4 c4 q5 c5 q6 c6 nl nm Lo Mo kq tq nc cs w2 :=
  ⟨below_via h.below hB, h.l.keep hB, h.rs.keep hB, h.ru.keep hB, h.t.keep hB, h.u.keep hB, h.kc.keep hB, h.tc.keep hB⟩
def MadeQ' (Lo : Objs) (Mo : Gones) (nl nm : Nat) (cs : List Int) (nc : Nat) (w : World) (e : Ending) (w' : World) : Prop :=
  ∃ q1 c1 q2 c2 qc cc, e = .returned (.tuple #[.agg #[.slice q1 nl c1, .slice q2 nm c2], .slice qc nc cc]) ∧ Below w.heap.size w w' ∧ StoAt w' q1 nl Lo q2 nm Mo ∧ NumsAt w' qc nc cs
theorem toQ {E : Els} {cs : List Int} {Lo : Objs} {Mo : Gones} {nl nm nc : Nat} (hp : StoP (objsOf E) (gonsOf E)) (hL : objsOf E = Lo) (hM : gonsOf E = Mo) (hl : Lo.length = nl) (hm : Mo.length = nm) (hc : cs.length = nc) (hn : nc ≤ 1000) {w : World} (e : Ending) (w' : World) (h : MadeQ E cs w e w') : MadeQ' Lo Mo nl nm cs nc w e w' := by
  obtain ⟨q1, n1, c1, q2, n2, c2, qc, nc', cc, rfl, hB, hK, hcl, mid, hmid, hS, _⟩ := h
  have h1 := hS.len1
  have h2 := hS.len2
  rw [hL, hl] at h1
  rw [hM, hm] at h2
  subst h1 h2
  rw [hc] at hcl
  subst hcl
  have hst := hS.sto hp
  rw [hL, hM] at hst
  exact ⟨q1, c1, q2, c2, qc, cc, rfl, hB, hst, hK.nums hc (by unfold maxLen; omega)⟩
theorem toQ2 {E : Els} {cs : List Int} {Lo : Objs} {Mo : Gones} {nl nm nc : Nat} (hp : StoP (objsOf E) (gonsOf E)) (hL : objsOf E = Lo) (hM : gonsOf E = Mo) (hl : Lo.length = nl) (hm : Mo.length = nm) (hc : cs.length = nc) (hn : nc ≤ 1000) {w : World} (e : Ending) (w' : World) (h : MadeP E cs w e w') : MadeQ' Lo Mo nl nm cs nc w e w' := by
  obtain ⟨q1, n1, c1, q2, n2, c2, qc, nc', cc, rfl, hB, hS, hK, hcl⟩ := h
  have h1 := hS.len1
  have h2 := hS.len2
  rw [hL, hl] at h1
  rw [hM, hm] at h2
  subst h1 h2
  rw [hc] at hcl
  subst hcl
  have hst := hS.sto hp
  rw [hL, hM] at hst
  exact ⟨q1, c1, q2, c2, qc, cc, rfl, hB, hst, (numk_of_own hK).nums hc (by unfold maxLen; omega)⟩

set_option maxHeartbeats 8000000 in
theorem fnStorePlayed_walk (w : World) (a : Option Addr) (len cap : Nat) (A : ErrA) (h : Src w a len) (hA : TabsEA A w) :
    Calls Tryd.prog 5 #[.slice a len cap] w fun e w' => e = .returned (.bool true) ∧ Below w.heap.size w w' := by
  have H := Lib.hid h
  have HTA := Lib.hid hA
  clear h hA
  by_cases hbig : 1048576 < len
  · go_enter Tryd.func5, Tryd.ntmps5
    go_wp2_with (go_at_call 7; refine (big_yes _ _ _ _ hbig).mono ?_; rintro e w' ⟨rfl, rfl⟩)
    go_ret
    exact ⟨rfl, Below.refl _ _⟩
  go_enter Tryd.func5, Tryd.ntmps5
  go_wp2_with (go_at_call 7; refine (big_no _ _ _ _ hbig).mono ?_; rintro e w' ⟨rfl, rfl⟩)
  refine (drawstp_any _ _ _ _ H.out).mono ?_
  rintro e w1 ⟨q, k, cc, L, rfl, hk, _, _, hs, hC, hB⟩
  have HL := Lib.hid hC
  have HSH := Lib.hid hs
  have HB := Lib.hid hB
  clear hC hs hB
  obtain ⟨E, hE⟩ : ∃ E, (playE L k).1 = E := ⟨_, rfl⟩
  obtain ⟨cs, hcs⟩ : ∃ cs, (playE L k).2 = cs := ⟨_, rfl⟩
  have HEP := Lib.hid (show EP E by rw [← hE]; exact playE_ep L k)
  obtain ⟨nc, hnc⟩ : ∃ n, cs.length = n := ⟨_, rfl⟩
  have hnk : nc ≤ 1000 := by
    rw [← hnc, ← hcs]
    unfold playE
    split
    · simp
    · have := play_len L k; omega
  obtain ⟨Lo, hLo⟩ : ∃ x, objsOf E = x := ⟨_, rfl⟩
  obtain ⟨Mo, hMo⟩ : ∃ x, gonsOf E = x := ⟨_, rfl⟩
  obtain ⟨nl, hnl⟩ : ∃ n, Lo.length = n := ⟨_, rfl⟩
  obtain ⟨nm, hnm⟩ : ∃ n, Mo.length = n := ⟨_, rfl⟩
  have HSP := Lib.hid (show StoP Lo Mo by rw [← hLo, ← hMo]; exact stop_of_ep HEP.out)
  have hfew := HSP.out.few
  rw [hnl, hnm] at hfew
  have HQ := Lib.hid (fun w e w' => toQ (stop_of_ep HEP.out) hLo hMo hnl hnm hnc hnk (w := w) e w')
  have HQ2 := Lib.hid (fun w e w' => toQ2 (stop_of_ep HEP.out) hLo hMo hnl hnm hnc hnk (w := w) e w')
  have HEQ := Lib.hid hE
  have HCS := Lib.hid hcs
  have HLO := Lib.hid hLo
  have HMO := Lib.hid hMo
  have HNL := Lib.hid hnl
  have HNM := Lib.hid hnm
  have HNC := Lib.hid hnc
  clear hE hcs hLo hMo hnl hnm hnc
  go_wp2_with fail
  refine ((played_any q k cc L A _ HL.out (HTA.out.keep HB.out) (by omega)).mono (by rw [HEQ.out, HCS.out]; exact HQ.out _)).mono ?_
  rintro e w2 ⟨q3, c3, q4, c4, kq, kc, rfl, hB2, hT, hN⟩
  obtain ⟨S, hS⟩ : ∃ x, w2.heap.size = x := ⟨_, rfl⟩
  obtain ⟨w3, hw3⟩ : ∃ x, w2.alloc (.cells #[.slice q3 nl c3, .slice q4 nm c4] 27) = x := ⟨_, rfl⟩
  have hal : Below w2.heap.size w2 w3 := by rw [← hw3]; exact below_alloc (Below.refl _ _) _
  have HRS := Lib.hid (show Row w3 S 27 #[.slice q3 nl c3, .slice q4 nm c4] by rw [← hw3, ← hS]; exact Row.new _ _ _)
  have HT := Lib.hid (hT.keep hal)
  have HN := Lib.hid (hN.keep hal)
  have HL := Lib.hid ((HL.out.keep hB2).keep hal)
  have HB := Lib.hid (below_via (below_via HB.out hB2) hal)
  clear hB2 hT hN hal
  go_wp2_with fail
  try rw [hw3]
  try rw [hS]
  clear hS hw3
  refine ((splayed_any q k cc L _ HL.out (by omega)).mono (by rw [HEQ.out, HCS.out]; exact HQ2.out _)).mono ?_
  rintro e w4 ⟨q5, c5, q6, c6, tq, tc, rfl, hB4, hU, hN4⟩
  obtain ⟨U, hUU⟩ : ∃ x, w4.heap.size = x := ⟨_, rfl⟩
  obtain ⟨w5, hw5⟩ : ∃ x, w4.alloc (.cells #[.slice q5 nl c5, .slice q6 nm c6] 27) = x := ⟨_, rfl⟩
  have hal : Below w4.heap.size w4 w5 := by rw [← hw5]; exact below_alloc (Below.refl _ _) _
  have HP : Hid (SP w S U q k L q3 c3 q4 c4 q5 c5 q6 c6 nl nm Lo Mo kq tq nc cs w5) := Lib.hid ⟨below_via (below_via HB.out hB4) hal, (HL.out.keep hB4).keep hal, (HRS.out.keep hB4).keep hal, by rw [← hw5, ← hUU]; exact Row.new _ _ _, (HT.out.keep hB4).keep hal, hU.keep hal, (HN.out.keep hB4).keep hal, hN4.keep hal⟩
  clear hB4 hU hN4 hal HRS HT HN HL HB
  obtain ⟨s0, s1⟩ := row_two HP.out.rs
  obtain ⟨u0, u1⟩ := row_two HP.out.ru
  go_wp2_with fail
  clear hw5 hUU s0 s1 u0 u1
  refine (samesto_same _ _ _ _ nl _ _ nm _ _ Lo Mo _ HP.out.t HP.out.u).mono ?_
  rintro e w6 ⟨rfl, hB⟩
  have HP := Lib.hid (HP.out.keep hB)
  clear hB
  go_wp2_with fail
  refine (sameints_same _ _ nc _ _ cs _ HP.out.kc HP.out.tc).mono ?_
  rintro e w7 ⟨rfl, hB⟩
  have HP := Lib.hid (HP.out.keep hB)
  clear hB
  by_cases h200 : 200 < k
  · have h2 : (200 : Int) < (k : Int) := by omega
    obtain ⟨s0, s1⟩ := row_two HP.out.rs
    obtain ⟨u0, u1⟩ := row_two HP.out.ru
    go_wp2_with fail
    clear s0 s1 u0 u1
    refine (samesto_same _ _ _ _ nl _ _ nm _ _ Lo Mo _ HP.out.t HP.out.u).mono ?_
    rintro e w8 ⟨rfl, hB⟩
    have HP := Lib.hid (HP.out.keep hB)
    clear hB
    go_wp2_with fail
    refine (sameints_same _ _ nc _ _ cs _ HP.out.kc HP.out.tc).mono ?_
    rintro e w9 ⟨rfl, hB⟩
    have HB := Lib.hid (below_via HP.out.below hB)
    clear hB
    go_wp2
    go_ret
    exact ⟨rfl, HB.out⟩
  have h2 : ¬ (200 : Int) < (k : Int) := by omega
  have hEK : E = (playK L k).1 := by rw [← HEQ.out]; unfold playE; rw [if_neg h200]
  have hCK : cs = (playK L k).2 := by rw [← HCS.out]; unfold playE; rw [if_neg h200]
  have hnk2 : nc = k := by rw [← HNC.out, hCK]; exact play_len L k
  subst hnk2
  have HEK := Lib.hid hEK
  have HCK := Lib.hid hCK
  clear hEK hCK
  go_wp2_with fail
  have HOW := Lib.hid (own_zeroCmd (Row.new w7 49 #[]) (Nat.le_refl _))
  have HB7 := Lib.hid (below_alloc (Below.refl w7.heap.size w7) (.cells #[] 49))
  go_loopw [8, 9] (fun d i wr => ∃ (j m : Nat) (qd : Option Addr) (cd : Nat), j ≤ nc ∧ i = .int .i64 j ∧ d = .slice qd m cd ∧ m ≤ j ∧ Hid ((filtK L j).length = m ∧ Below w7.heap.size w7 wr ∧ wr.ownsRow w7.heap.size 49 4 (.slice qd m cd) m (cellsCmd (filtK L j)))) (fun _ i _ => nc - (intOf i).toNat)
  case atStart => exact ⟨0, 0, _, _, Nat.zero_le _, rfl, rfl, Nat.zero_le _, rfl, HB7.out, HOW.out⟩
  case round =>
    obtain ⟨j, m, qd, cd, hj, rfl, rfl, hmj, HX⟩ := hrel
    clear HOW HB7
    have HFL := Lib.hid HX.out.1
    have HBW := Lib.hid HX.out.2.1
    have HOW := Lib.hid HX.out.2.2
    clear HX
    by_cases hlt : j < nc
    · have hi0 : (0 : Int) ≤ (j : Int) := by omega
      have hi1 : (j : Int) < (nc : Int) := by omega
      have HP1 := Lib.hid (HP.out.keep HBW.out)
      rcases HP1.out.kc.src with hz | ⟨b, off, rfl, hb, hc⟩
      · omega
      have kc0 := hc j hlt
      have hcode : numAt cs j = codeN L j := by rw [HCK.out]; exact num_code hlt
      rw [hcode] at kc0
      obtain ⟨cN, hcN⟩ : ∃ x, codeN L j = x := ⟨_, rfl⟩
      rw [hcN] at kc0
      have HCN := Lib.hid hcN
      clear hc hb hcode hcN
      by_cases hc0 : cN = 0
      · subst hc0
        rcases HP1.out.l.src with hz | ⟨b2, off2, rfl, hb2, hc2⟩
        · omega
        obtain ⟨x0, x1, x2, x3⟩ := hc2 j hlt
        obtain ⟨y0, hy0⟩ : ∃ x, cmd0 L j = x := ⟨_, rfl⟩
        obtain ⟨y1, hy1⟩ : ∃ x, cmd1 L j = x := ⟨_, rfl⟩
        obtain ⟨y2, hy2⟩ : ∃ x, cmd2 L j = x := ⟨_, rfl⟩
        obtain ⟨y3, hy3⟩ : ∃ x, cmd3 L j = x := ⟨_, rfl⟩
        rw [hy0] at x0
        rw [hy1] at x1
        rw [hy2] at x2
        rw [hy3] at x3
        have HST := Lib.hid (show filtK L (j + 1) = filtK L j ++ [(y0, y1, y2, y3)] by rw [← hy0, ← hy1, ← hy2, ← hy3]; show (if _ then _ else _) = _; rw [if_pos HCN.out])
        clear hc2 hy0 hy1 hy2 hy3
        have HOA := Lib.hid (own_below HOW.out (below_alloc (Below.refl _ _) (.cells #[.int .i64 y0, .string y1, .int .i64 y2, .string y3] 49)))
        have HBA := Lib.hid (below_alloc HBW.out (.cells #[.int .i64 y0, .string y1, .int .i64 y2, .string y3] 49))
        go_wp2_with (at_builtin; go_loud (refine append1_cmd rfl _ _ rfl w7.heap.size (.slice qd m cd) m (filtK L j) rfl HOA.out wr.heap.size _ y0 y1 y2 y3 rfl (cmd_new wr _ _ _ _ _) (by omega) HBA.out.size ?_); intro q8 c8 w8 hown hgrow; have HO8 := Lib.hid hown; have HG8 := Lib.hid hgrow; clear hown hgrow)
        go_roundw
        case rel => exact ⟨j + 1, m + 1, q8, c8, by omega, by go_num, rfl, by omega, by rw [HST.out, List.length_append, HFL.out]; rfl, HBA.out.grown HG8.out HBA.out.size (fun i hi => own_ge_of HOA.out (Nat.le_refl _) i hi), by rw [HST.out]; exact HO8.out⟩
        case measure => simp [intOf]; omega
      · have hcb : (cN == 0) = false := by rw [beq_eq_false_iff_ne]; exact hc0
        have HNC2 := Lib.hid hc0
        clear hc0
        go_wp2_with fail
        go_roundw
        case rel => exact ⟨j + 1, m, qd, cd, by omega, by go_num, rfl, by omega, by
          have e : filtK L (j + 1) = filtK L j := by show (if _ then _ else _) = _; rw [if_neg (by rw [HCN.out]; exact HNC2.out)]
          rw [e]; exact ⟨HFL.out, HBW.out, HOW.out⟩⟩
        case measure => simp [intOf]; omega
    · obtain rfl : j = nc := by omega
      have HP := Lib.hid (HP.out.keep HBW.out)
      have HCD := Lib.hid (cmds_of_drawn HOW.out HFL.out (filt_short HSH.out _) (by omega))
      obtain ⟨F, hF⟩ : ∃ F, filtK L j = F := ⟨_, rfl⟩
      have hpf := play_filt L j
      rw [hF] at HFL HCD hpf
      rw [HFL.out] at hpf
      obtain ⟨cs2, hcs2⟩ : ∃ x, (playK F m).2 = x := ⟨_, rfl⟩
      have hE2 : (playE F m).1 = E := by unfold playE; rw [if_neg (by omega), hpf.1, ← HEK.out]
      have hC2 : (playE F m).2 = cs2 := by unfold playE; rw [if_neg (by omega)]; exact hcs2
      have hc2l : cs2.length = m := by rw [← hcs2]; exact play_len F m
      have HZ := Lib.hid (show ∀ i, numAt cs2 i = 0 from fun i => num_zero (by rw [← hcs2]; exact hpf.2) i)
      have HQ3 := Lib.hid (fun w e w' => toQ (stop_of_ep HEP.out) HLO.out HMO.out HNL.out HNM.out hc2l (by omega) (w := w) e w')
      have HE2 := Lib.hid hE2
      have HC2 := Lib.hid hC2
      clear hF hpf hcs2 hE2 hC2 hc2l HOW HBW
      go_wp2_with fail
      refine ((played_any qd m cd F A _ HCD.out (HTA.out.keep HP.out.below) (by omega)).mono (by rw [HE2.out, HC2.out]; exact HQ3.out _)).mono ?_
      rintro e w8 ⟨q7, c7, q8, c8, vq, vc, rfl, hB8, hT8, hN8⟩
      obtain ⟨V, hV⟩ : ∃ x, w8.heap.size = x := ⟨_, rfl⟩
      obtain ⟨w9, hw9⟩ : ∃ x, w8.alloc (.cells #[.slice q7 nl c7, .slice q8 nm c8] 27) = x := ⟨_, rfl⟩
      have hal : Below w8.heap.size w8 w9 := by rw [← hw9]; exact below_alloc (Below.refl _ _) _
      have HRV := Lib.hid (show Row w9 V 27 #[.slice q7 nl c7, .slice q8 nm c8] by rw [← hw9, ← hV]; exact Row.new _ _ _)
      have HT8 := Lib.hid (hT8.keep hal)
      have HN8 := Lib.hid (hN8.keep hal)
      have HP := Lib.hid ((HP.out.keep hB8).keep hal)
      clear hB8 hT8 hN8 hal HCD
      go_wp2_with fail
      try rw [hw9]
      try rw [hV]
      clear hV hw9
      have HB9 := Lib.hid (Below.refl w9.heap.size w9)
      go_loopw [12] (fun i wr => ∃ n : Nat, n ≤ m ∧ i = .int .i64 n ∧ Hid (Below w9.heap.size w9 wr)) (fun i _ => m - (intOf i).toNat)
      case atStart => exact ⟨0, Nat.zero_le _, rfl, HB9.out⟩
      case round =>
        obtain ⟨n, hn, rfl, HBW⟩ := hrel
        clear HB9
        by_cases hlt2 : n < m
        · have hi0 : (0 : Int) ≤ (n : Int) := by omega
          have hi1 : (n : Int) < (m : Int) := by omega
          rcases (HN8.out.keep HBW.out).src with hz | ⟨b, off, rfl, hb, hc⟩
          · omega
          have kc0 := hc n hlt2
          rw [HZ.out n] at kc0
          clear hc hb
          go_wp2_with fail
          go_roundw
          case rel => exact ⟨n + 1, by omega, by go_num, HBW.out⟩
          case measure => simp [intOf]; omega
        · obtain rfl : n = m := by omega
          have HP := Lib.hid (HP.out.keep HBW.out)
          have HRV := Lib.hid (HRV.out.keep HBW.out)
          have HT8 := Lib.hid (HT8.out.keep HBW.out)
          clear HBW HN8
          obtain ⟨s0, s1⟩ := row_two HP.out.rs
          obtain ⟨v0, v1⟩ := row_two HRV.out
          go_wp2_with fail
          clear s0 s1 v0 v1
          refine (samesto_same _ _ _ _ nl _ _ nm _ _ Lo Mo _ HT8.out HP.out.t).mono ?_
          rintro e w10 ⟨rfl, hB⟩
          have HP := Lib.hid (HP.out.keep hB)
          clear hB
          obtain ⟨s0, s1⟩ := row_two HP.out.rs
          go_wp2_with fail
          clear s0 s1
          refine (storeok_any _ _ _ _ _ _ Lo Mo _ HP.out.t (by omega) (by omega)).mono ?_
          rintro e w11 ⟨bb, rfl, hbb, hB⟩
          obtain rfl : bb = true := hbb.2 HSP.out
          have HB := Lib.hid (below_via HP.out.below hB)
          clear hB hbb
          go_wp2
          go_ret
          exact ⟨rfl, HB.out⟩
end Go.Proofs.YtblpebdjbenphaaDoor
