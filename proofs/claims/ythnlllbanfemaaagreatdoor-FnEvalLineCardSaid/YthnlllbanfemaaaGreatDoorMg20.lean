/- Texts put together, as a claim holds at most sixty files. -/
import Derived.Test.YthnlllbanfemaaaGreatDoorMg18
import Derived.Test.YthnlllbanfemaaaGreatDoorMg19
import Derived.Test.YthnlllbanfemaaaGreatDoorEvalS
import Derived.Test.YthnlllbanfemaaaGreatDoorMg4
import Derived.Test.YthnlllbanfemaaaGreatDoorMg3
namespace Go.Proofs.YthnlllbanfemaaaGreatDoor
open Go.ChangeShapes Go.WideShapes Go.ChangeAt Go.RowKit Go.MuLone
set_option linter.unusedVariables false
set_option maxRecDepth 100000

/-- The end of eval: records and a code; the program in block P may have been compiled. -/
def MadeRunP (o : Recs × Int) (P : Nat) (a : Option Addr) (len cap : Nat) (l : Instrs) (w : World) (e : Ending) (w' : World) : Prop :=
  ∃ q cp, e = .returned (.tuple #[.slice q o.1.length cp, .int .i64 o.2]) ∧ w.grownBy w' (some P) ∧ (∃ st, DoneP P a len cap l w' st) ∧ RcK w.heap.size w' q o.1 ∧ (q = none → cp = 0) ∧ o.1.length ≤ cp
/-- The program's eval on its way. -/
structure EvP (l : Instrs) (ws : Strs) (wq : Option Addr) (wn wc M G : Nat) (w1 wr : World) (k : Nat) (S : EVs) (O : Recs) (st : ByteArray) : Prop where
  ev : evK l ws k = some (S, O)
  stk : stk l k = some st
  ok : EvOkP st k (S, O)
  mach : MAt M M (.slice wq wn wc) wr (txs st.data.toList S) (nms st.data.toList S) O
  below : Below M w1 wr

theorem growO2 {a b c : World} {X : Nat} {n : Nat} (h : a.grownBy b (some X)) (k : Below n b c) (hn : b.heap.size ≤ n) : a.grownBy c (some X) :=
  ⟨k.os.trans h.os, k.tape.trans h.tape, k.output.trans h.output, Nat.le_trans h.size k.size, fun i hi hne => (k.block i (Nat.lt_of_lt_of_le hi (Nat.le_trans h.size hn))).trans (h.block i hi hne)⟩
theorem strs_grown {w w1 : World} {a : Option Addr} {len g : Nat} {l : Strs} (h : StrsAt w a len l) (hg : w.grownBy w1 (some g)) (hne : 0 < len → ∀ b off, a = some ⟨b, off, none⟩ → b ≠ g) : StrsAt w1 a len l := by
  refine ⟨h.length, h.max, h.sizes, ?_⟩
  rcases Nat.eq_zero_or_pos len with hz | hz
  · exact .inl hz
  rcases h.src with h0 | ⟨b, off, ha, hb, hc⟩
  · exact .inl h0
  · have e : ∀ o, w1.cell? ⟨b, o, none⟩ = w.cell? ⟨b, o, none⟩ := fun o => World.cell?_of_block (w := w) (hg.block b hb (by intro he; exact hne hz b off ha (Option.some.inj he)))
    exact .inr ⟨b, off, ha, Nat.lt_of_lt_of_le hb hg.size, fun i hi => by simpa only [e] using hc i hi⟩
theorem DoneP.under {P : Nat} {a : Option Addr} {len cap : Nat} {l : Instrs} {w w1 : World} {st : Value} {n : Nat} (h : DoneP P a len cap l w st) (hB : Below n w w1) (hn : w.heap.size ≤ n) : DoneP P a len cap l w1 st := h.keep (hB.mono hn)

set_option maxHeartbeats 8000000 in
theorem peval_any (P : Nat) (a : Option Addr) (len cap : Nat) (l : Instrs) (wq : Option Addr) (wn wc : Nat) (ws : Strs) (w0 w : World) (hs : ProgS P a len cap l w) (hI : InstrsAt w0 a len l) (hn : ∀ i, i < len → In64 (ins1 l i)) (hw : StrsAt w wq wn ws) (hwP : 0 < wn → ∀ b off, wq = some ⟨b, off, none⟩ → b ≠ P) (hT : TabsRP w0) (h0 : Below w0.heap.size w0 w) (hP : w0.heap.size ≤ P) :
    Calls Tryz.prog 41 #[.pointer (some ⟨P, 0, none⟩), .slice wq wn wc] w (MadeRunP (evalR l ws) P a len cap l w) := by
  have HL := Lib.hid hI.length
  have HWL := Lib.hid hw.length
  have HI := Lib.hid hI
  have HW := Lib.hid hw
  have HWP := Lib.hid hwP
  have HN := Lib.hid hn
  have HT := Lib.hid hT
  have H0 := Lib.hid h0
  have HP0 := Lib.hid hP
  have HS := Lib.hid hs
  have hmw : wn ≤ maxLen := hw.max
  unfold maxLen at hmw
  obtain ⟨p, hp⟩ : ∃ p, progB l = p := ⟨_, rfl⟩
  have HP := Lib.hid hp
  clear hI hw hwP hn hT h0 hP hs hp
  go_enter Tryz.func41, Tryz.ntmps41
  go_wp2_with fail
  refine (table_any P a len cap l w0 w HS.out HI.out HT.out.forms H0.out HP0.out).mono ?_
  rintro e w1 ⟨st, rfl, hD, hG⟩
  have HD := Lib.hid hD
  have HG := Lib.hid hG
  have HW := Lib.hid (strs_grown HW.out hG HWP.out)
  obtain ⟨sq, sn, sc, rfl⟩ := hD.slice
  rw [HP.out]
  clear hD hG HS
  cases p with
  | false =>
    have HC := Lib.hid (show evalR l ws = ([], 1) from evalR_no (fun h => by rw [HP.out] at h; cases h.1))
    go_wp2
    go_ret2
    rw [HC.out]
    exact ⟨none, 0, rfl, HG.out, ⟨_, HD.out⟩, rck_nil _ _ _, fun _ => rfl, Nat.le_refl _⟩
  | true =>
    by_cases h20 : (20 : Int) < (wn : Int)
    · have HC := Lib.hid (show evalR l ws = ([], 1) from evalR_no (fun h => by have := h.2; rw [HWL.out] at this; omega))
      go_wp2
      go_ret2
      rw [HC.out]
      exact ⟨none, 0, rfl, HG.out, ⟨_, HD.out⟩, rck_nil _ _ _, fun _ => rfl, Nat.le_refl _⟩
    · have hw20 : wn ≤ 20 := by omega
      have hl30 : len ≤ 30 := by have := prog_len HP.out; rw [HL.out] at this; exact this
      obtain ⟨G, hPG, hsl, HST⟩ : ∃ G, P < G ∧ Value.slice sq sn sc = .slice (some ⟨G, 0, none⟩) len len ∧ Hid (StepsAt G l len w1) := by
        rcases HD.out with ⟨hp, _⟩ | ⟨_, G, hG, hsl, _, h3⟩
        · rw [HP.out] at hp; cases hp
        · exact ⟨G, hG, hsl, Lib.hid h3⟩
      simp only [Value.slice.injEq] at hsl
      obtain ⟨g1, g2, g3⟩ := hsl
      subst g1
      have g2 := g2.symm
      have g3 := g3.symm
      subst g2
      clear g3
      obtain ⟨M, hM⟩ : ∃ M, w1.heap.size = M := ⟨_, rfl⟩
      have hM0 := Lib.hid hM
      have HSV := Lib.hid (show ∀ j, j < len → ∃ v, w1.cell? ⟨G, j, none⟩ = some v ∧ StepV (G + 1) M w1 (ins0 l j).toNat (ins1 l j) (ins2 l j) v ∧ G < M from fun j hj => by
        obtain ⟨cur, hr, hsz, hv⟩ := HST.out
        obtain ⟨v, h1, h2⟩ := hv j hj
        refine ⟨v, ?_, by rw [← hM]; exact h2, by rw [← hM]; exact hr.lt⟩
        unfold Row at hr
        simp [World.cell?, hr, h1])
      have H01 := Lib.hid (show Below w0.heap.size w0 w1 from H0.out.grown HG.out H0.out.size (fun k hk => by cases hk; exact HP0.out))
      have HWM := Lib.hid (show w0.heap.size ≤ M ∧ P < M from ⟨by rw [← hM]; exact H01.out.size, by rw [← hM]; exact Row.lt HD.out.row⟩)
      have HS0 : Hid (EvP l ws wq wn wc M G w1 (w1.alloc (.cells #[.slice wq wn wc, .slice none 0 0, .slice none 0 0, .slice none 0 0] 119)) 0 [] [] ByteArray.empty) := Lib.hid
        ⟨rfl, rfl, evOk0, ⟨none, none, none, 0, 0, 0, 0, 0, 0, by rw [← hM]; exact ot_row_new _ _ _, ⟨rfl, .inl ⟨rfl, rfl⟩⟩, ⟨rfl, .inl ⟨rfl, rfl⟩⟩, ⟨rfl, .inl ⟨rfl, rfl⟩⟩, rfl, rfl, rfl, Nat.le_refl _, by decide⟩, (Below.refl M w1).alloc (by omega) _⟩
      go_wp2_with fail
      go_loopw [27] (fun i wr => ∃ (k : Nat) (S : EVs) (O : Recs) (st : ByteArray), k ≤ len ∧ i = .int .i64 k ∧ Hid (EvP l ws wq wn wc M G w1 wr k S O st)) (fun i _ => len - (intOf i).toNat)
      case atStart => exact ⟨0, [], [], _, Nat.zero_le _, rfl, HS0⟩
      case round =>
        clear HS0
        obtain ⟨k, S, O, st, hk, rfl, HS⟩ := hrel
        by_cases hlt : k < len
        · have hi0 : (0 : Int) ≤ (k : Int) := by omega
          have hi1 : (k : Int) < (len : Int) := by omega
          obtain ⟨v, hv, hsv, hGM⟩ := HSV.out k hlt
          have cv := (HS.out.below.cell (p := ⟨G, k, none⟩) hGM).trans hv
          have HIN := Lib.hid (prog_instr HP.out (k := k) (by rw [HL.out]; exact hlt))
          have HN64 := Lib.hid (HN.out k hlt)
          have HST1 := Lib.hid (prog_step HP.out (k := k) (by rw [HL.out]; exact hlt) HS.out.stk)
          have HEV := Lib.hid (evK_step HS.out.ev)
          have HSV1 := Lib.hid (hsv.keep HS.out.below)
          obtain ⟨op, hop⟩ : ∃ op, ins0 l k = op := ⟨_, rfl⟩
          obtain ⟨n, hn⟩ : ∃ n, ins1 l k = n := ⟨_, rfl⟩
          obtain ⟨s, hs⟩ : ∃ s, ins2 l k = s := ⟨_, rfl⟩
          rw [hop, hn, hs] at HIN HEV HSV1
          rw [hop] at HST1
          rw [hn] at HN64
          clear hop hn hs hv hsv
          have hop := instr_op HIN.out
          obtain ⟨x, rfl⟩ : ∃ x : Nat, op = (x : Int) := ⟨op.toNat, by omega⟩
          have hx1 : 1 ≤ x := by omega
          have hx14 : x ≤ 14 := by omega
          have etn : ((x : Int)).toNat = x := by omega
          rw [etn] at HEV HST1 HSV1
          obtain ⟨st0, hst, hnext⟩ := HST1.out
          obtain ⟨S0, av, hSa, hal, hS0, e1, e2⟩ := evOk_takes HS.out.ok hst
          simp only at hSa e1 e2
          have HPOS := Lib.hid (show x = 1 → 0 ≤ n from fun h => by
            have h1 := HIN.out
            subst h
            unfold instrB at h1
            rw [if_pos (by rfl), Bool.and_eq_true, decide_eq_true_eq] at h1
            exact h1.1.1)
          have HALL := Lib.hid (show ∀ v ∈ av, v.1.size ≤ 40 ∧ In64 v.2 from fun v hv => HS.out.ok.texts v (by simp only; rw [hSa]; exact List.mem_append_right _ hv))
          have HALL0 := Lib.hid (show ∀ v ∈ S0, v.1.size ≤ 40 from fun v hv => (HS.out.ok.texts v (by simp only; rw [hSa]; exact List.mem_append_left _ hv)).1)
          have hfew := HS.out.ok.few
          have hrec := HS.out.ok.recs
          simp only at hfew hrec
          have hS0l : S0.length ≤ k := by rw [hSa, List.length_append] at hfew; omega
          have hll : st0.data.toList.length = S0.length := by rw [hS0]; rfl
          have hMA : MAt M M (.slice wq wn wc) wr (txs st0.data.toList S0 ++ txs (takesB x).data.toList av) (nms st0.data.toList S0 ++ nms (takesB x).data.toList av) O := by
            have h1 := HS.out.mach
            rw [hst, hSa] at h1
            simp only [ByteArray.data_append, Array.toList_append] at h1
            rw [txs_app _ _ _ _ hll, nms_app _ _ _ _ hll] at h1
            exact h1
          have HC := Lib.hid (step_call (G + 1) M M M wq wn wc ws w0 wr x n s v av (txs st0.data.toList S0) (nms st0.data.toList S0) O hx1 hx14 HSV1.out (Nat.le_refl _) hal HALL.out hMA
            ⟨by have := txs_len st0.data.toList S0; omega, by have := nms_len st0.data.toList S0; omega, by omega⟩ (HW.out.keep (by rw [hM0.out]; exact HS.out.below)) HPOS.out HT.out.num (H01.out.trans (HS.out.below.mono HWM.out.1)) HWM.out.1)
          have HNOK := Lib.hid (show ∀ y, evStep x n s ws (S, O) = some y → EvOkP (st0 ++ givesB x) (k + 1) y from fun y h => evOk_step HS.out.ok hst HN64.out h)
          have HSOME := Lib.hid (fun y (h : evStep x n s ws (S, O) = some y) => evStep_some hx1 hx14 e1 e2 hS0.symm HALL0.out h)
          have HNONE := Lib.hid (fun (h : evStep x n s ws (S, O) = none) => evStep_none (T0 := txs st0.data.toList S0) hx1 hx14 e1 e2 h)
          have HNEXT := Lib.hid hnext
          have HBEL := Lib.hid HS.out.below
          obtain ⟨T1, hT1⟩ : ∃ T, stT x n s ws av (txs st0.data.toList S0) = T := ⟨_, rfl⟩
          obtain ⟨N1, hN1⟩ : ∃ T, stN x n s ws av (nms st0.data.toList S0) = T := ⟨_, rfl⟩
          obtain ⟨O1, hO1⟩ : ∃ T, stO x av O = T := ⟨_, rfl⟩
          rw [hT1, hN1, hO1] at HC
          simp only [hT1, hN1, hO1] at HSOME
          simp only [hT1] at HNONE
          clear HST1 HSV1 hst hnext hSa hal hS0 e1 e2 etn hMA hll hfew hrec HS HALL HALL0 HPOS HIN hT1 hN1 hO1
          obtain ⟨y, hy⟩ : ∃ y, evStep x n s ws (S, O) = y := ⟨_, rfl⟩
          rw [hy] at HEV HNOK HSOME HNONE
          clear hy
          cases y with
          | none =>
            obtain ⟨tx, htx, hsz⟩ := HNONE.out rfl
            have HBAD := Lib.hid (show evalR l ws = ([], 2) from evalR_long HP.out (by rw [HWL.out]; exact hw20) (k := k + 1) (by rw [HL.out]; omega) HEV.out)
            have HTL := Lib.hid (show (∀ V s, T1 = V ++ [s] → true = decide (40 < s.size)) ∧ (T1 = [] → true = false) from ⟨fun V s h => by
              rw [htx] at h
              have := List.append_inj_right' h rfl
              simp at this
              rw [← this, decide_eq_true hsz], fun h => by rw [htx] at h; simp at h⟩)
            clear htx hsz HSOME HNOK
            rcases HC.out with ⟨F, rfl, hent, hcall⟩ | ⟨F, fb, rfl, hent, hcall⟩
            · unfold Enters at hent
              go_wp2_with fail
              refine hcall.mono ?_
              rintro e w4 ⟨rfl, hma, hB4⟩
              have HMA := Lib.hid hma
              have HB4 := Lib.hid (HBEL.out.trans hB4)
              clear hma hB4 hcall HC cv
              go_wp2_with fail
              refine (toolong_any M M _ _ _ _ _ HMA.out true HTL.out).mono ?_
              rintro e w5 ⟨rfl, rfl⟩
              go_wp2
              go_ret2
              rw [HBAD.out]
              exact ⟨none, 0, rfl, growO2 HG.out HB4.out (by rw [← hM0.out]; exact Nat.le_refl _), ⟨_, HD.out.under HB4.out (by rw [← hM0.out]; exact Nat.le_refl _)⟩, rck_nil _ _ _, fun _ => rfl, Nat.le_refl _⟩
            · unfold Enters at hent
              go_wp2_with fail
              refine hcall.mono ?_
              rintro e w4 ⟨rfl, hma, hB4⟩
              have HMA := Lib.hid hma
              have HB4 := Lib.hid (HBEL.out.trans hB4)
              clear hma hB4 hcall HC cv
              go_wp2_with fail
              refine (toolong_any M M _ _ _ _ _ HMA.out true HTL.out).mono ?_
              rintro e w5 ⟨rfl, rfl⟩
              go_wp2
              go_ret2
              rw [HBAD.out]
              exact ⟨none, 0, rfl, growO2 HG.out HB4.out (by rw [← hM0.out]; exact Nat.le_refl _), ⟨_, HD.out.under HB4.out (by rw [← hM0.out]; exact Nat.le_refl _)⟩, rck_nil _ _ _, fun _ => rfl, Nat.le_refl _⟩
          | some y =>
            have HSM := Lib.hid (HSOME.out y rfl)
            have HOK := Lib.hid (HNOK.out y rfl)
            have HTL := Lib.hid (show (∀ V s, T1 = V ++ [s] → false = decide (40 < s.size)) ∧ (T1 = [] → false = false) from ⟨fun V s h => by
              have := HSM.out.2.2.2 s (by rw [h]; simp)
              rw [decide_eq_false (by omega)], fun _ => rfl⟩)
            clear HNONE HNOK HSOME
            rcases HC.out with ⟨F, rfl, hent, hcall⟩ | ⟨F, fb, rfl, hent, hcall⟩
            · unfold Enters at hent
              go_wp2_with fail
              refine hcall.mono ?_
              rintro e w4 ⟨rfl, hma, hB4⟩
              have HMA := Lib.hid hma
              have HB4 := Lib.hid (HBEL.out.trans hB4)
              clear hma hB4 hcall HC cv
              go_wp2_with fail
              refine (toolong_any M M _ _ _ _ _ HMA.out false ⟨HTL.out.1, fun _ => rfl⟩).mono ?_
              rintro e w5 ⟨rfl, rfl⟩
              go_wp2
              go_roundw
              case rel => exact ⟨k + 1, y.1, O1, st0 ++ givesB x, by omega, by go_num, Lib.hid ⟨by rw [HEV.out, ← HSM.out.1], HNEXT.out, by rw [← HSM.out.1]; exact HOK.out, by rw [HSM.out.2.1, HSM.out.2.2.1]; exact HMA.out, HB4.out⟩⟩
              case measure => simp [intOf]; omega
            · unfold Enters at hent
              go_wp2_with fail
              refine hcall.mono ?_
              rintro e w4 ⟨rfl, hma, hB4⟩
              have HMA := Lib.hid hma
              have HB4 := Lib.hid (HBEL.out.trans hB4)
              clear hma hB4 hcall HC cv
              go_wp2_with fail
              refine (toolong_any M M _ _ _ _ _ HMA.out false ⟨HTL.out.1, fun _ => rfl⟩).mono ?_
              rintro e w5 ⟨rfl, rfl⟩
              go_wp2
              go_roundw
              case rel => exact ⟨k + 1, y.1, O1, st0 ++ givesB x, by omega, by go_num, Lib.hid ⟨by rw [HEV.out, ← HSM.out.1], HNEXT.out, by rw [← HSM.out.1]; exact HOK.out, by rw [HSM.out.2.1, HSM.out.2.2.1]; exact HMA.out, HB4.out⟩⟩
              case measure => simp [intOf]; omega
        · obtain rfl : k = len := by omega
          have HC := Lib.hid (show evalR l ws = (O, 0) from evalR_good HP.out (by rw [HWL.out]; exact hw20) (by rw [HL.out]; exact HS.out.ev))
          obtain ⟨tq, nq, oq, tc, nc, oc, nt, nn, no, hm⟩ := HS.out.mach
          have k3 := hm.row.cell (j := 3) (by simp)
          simp at k3
          have HFIN : Hid (MadeRunP (O, 0) P a k cap l w (.returned (.tuple #[.slice oq no oc, .int .i64 0])) wr) := Lib.hid (by
            have hlo := hm.lo
            have hgr : w.grownBy wr (some P) := growO2 HG.out HS.out.below (by rw [← hM0.out]; exact Nat.le_refl _)
            refine ⟨oq, oc, by rw [← hlo], hgr, ⟨_, HD.out.under HS.out.below (by rw [← hM0.out]; exact Nat.le_refl _)⟩, ?_, ?_, ?_⟩
            · refine rck_low (rck_of_own (m := no) (cp := oc) (by have := hm.rc; rw [← hlo] at this; rw [← hlo]; exact this)) (by rw [← hM0.out]; exact HG.out.size)
            · intro hq
              subst hq
              rcases hm.rc.2 with ⟨h1, _⟩ | ⟨g, cap, cur, hv, _⟩
              · simp only [Value.slice.injEq, true_and] at h1; exact h1.2
              · simp at hv
            · simp only [hlo]
              rcases hm.rc.2 with ⟨h1, h2⟩ | ⟨g, cap, cur, hv, _, _, h3, _⟩
              · omega
              · simp only [Value.slice.injEq] at hv; omega)
          clear hm
          go_wp2
          go_ret2
          rw [HC.out]
          exact HFIN.out

end Go.Proofs.YthnlllbanfemaaaGreatDoor
namespace Go.Proofs.YthnlllbanfemaaaGreatDoor
open Go.ChangeShapes Go.WideShapes Go.ChangeAt Go.RowKit Go.MuLone
set_option linter.unusedVariables false
set_option maxRecDepth 100000

theorem made_of_runp {o : Recs × Int} {P : Nat} {a : Option Addr} {len cap : Nat} {l : Instrs} {w w1 : World} {e : Ending} {w' : World} (h : MadeRunP o P a len cap l w1 e w') (h1 : Below w.heap.size w w1) (hP : w.heap.size ≤ P) : MadeRun o w e w' := by
  obtain ⟨q, cp, he, hg, _, hk, hn, hc⟩ := h
  exact ⟨q, cp, he, h1.grown hg h1.size (fun k hk => by cases hk; exact hP), rck_low hk h1.size, hn, hc⟩
theorem ieval_any (a : Option Addr) (len cap : Nat) (l : Instrs) (wq : Option Addr) (wn wc : Nat) (ws : Strs) (w : World) (h : InstrsAt w a len l) (hn : ∀ i, i < len → In64 (ins1 l i)) (hw : StrsAt w wq wn ws) (hT : TabsRP w) :
    Calls Tryz.prog 16 #[.slice a len cap, .slice wq wn wc] w (MadeRun (evalR l ws) w) := by
  have HB := Lib.hid (below_alloc (Below.refl w.heap.size w) (.cells #[.slice a len cap, .int .u32 0, .int .i32 0, .int .u32 0, .bool false, .slice none 0 0] 83))
  have HR := Lib.hid (ot_row_new w #[.slice a len cap, .int .u32 0, .int .i32 0, .int .u32 0, .bool false, .slice none 0 0] 83)
  have HI := Lib.hid h
  have HN := Lib.hid hn
  have HW := Lib.hid hw
  have HT := Lib.hid hT
  clear h hn hw hT
  go_enter Tryz.func16, Tryz.ntmps16
  go_wp2_with fail
  refine (peval_any w.heap.size a len cap l wq wn wc ws w _ (.inl HR.out) HI.out HN.out (HW.out.keep HB.out) (fun h0 b off hq => by
    rcases HW.out.src with hz | ⟨b2, off2, hq2, hb, _⟩
    · omega
    · rw [hq] at hq2
      simp only [Option.some.injEq, Addr.mk.injEq, and_true] at hq2
      omega) HT.out HB.out (Nat.le_refl _)).mono ?_
  intro e w2 hm
  obtain ⟨q, cp, rfl, hB, hk, hq, hc⟩ := made_of_runp hm HB.out (Nat.le_refl _)
  have HF := Lib.hid (show MadeRun (evalR l ws) w (.returned (.tuple #[.slice q (evalR l ws).1.length cp, .int .i64 (evalR l ws).2])) w2 from ⟨q, cp, rfl, hB, hk, hq, hc⟩)
  obtain ⟨n, hn⟩ : ∃ n, (evalR l ws).1.length = n := ⟨_, rfl⟩
  obtain ⟨c, hc⟩ : ∃ n, (evalR l ws).2 = n := ⟨_, rfl⟩
  rw [hn, hc] at HF
  rw [hn, hc]
  clear hm hB hk hq hc hn
  go_wp2
  go_ret2
  exact HF.out
end Go.Proofs.YthnlllbanfemaaaGreatDoor
namespace Go.Proofs.YthnlllbanfemaaaGreatDoor
open Go.ChangeShapes Go.WideShapes Go.ChangeAt Go.RowKit
set_option linter.unusedVariables false
set_option maxRecDepth 100000

def encS (b : List UInt8) : Value := .string ⟨b.toArray⟩

theorem extract_piece (s : ByteArray) (i j : Nat) : s.extract i j = ⟨(piece s.data.toList i j).toArray⟩ := by
  have h : (s.extract i j).data.toList = piece s.data.toList i j := by simp [piece]
  rw [← h]

theorem byte_at {s : ByteArray} {L : List UInt8} (hL : s.data.toList = L) (j : Nat) (h1 : j < s.size) (h2 : j < L.length) : L[j] = s[j] := by
  subst hL; rfl

/-- The end of l1Cut: the piece ahead of the first c, what is behind it, and whether there is one. -/
def MadeCut (c : UInt8) (s : ByteArray) (w : World) (e : Ending) (w' : World) : Prop :=
  ∃ (a r : ByteArray) (b : Bool), e = .returned (.tuple #[.string a, .string r, .bool b]) ∧ Below w.heap.size w w' ∧ r.size ≤ s.size ∧
    noC c a.data.toList ∧ (b = true → s.data.toList = a.data.toList ++ c :: r.data.toList) ∧ (b = false → a = s ∧ r.size = 0)

set_option maxHeartbeats 1000000 in
theorem cut_any (s : ByteArray) (c : UInt8) (w : World) (hs : s.size ≤ maxLen) :
    Calls Tryz.prog 93 #[.string s, .int .u8 c.toNat] w (MadeCut c s w) := by
  unfold maxLen at hs
  go_enter Tryz.func93, Tryz.ntmps93
  go_wp2
  go_loop [7] (fun i => ∃ k : Nat, k ≤ s.size ∧ i = .int .i64 k ∧ Hid (noC c (piece s.data.toList 0 k))) (fun i => s.size - (intOf i).toNat)
  case atStart => exact ⟨0, Nat.zero_le _, rfl, by rw [piece_empty]; exact noC_nil⟩
  case round =>
    obtain ⟨k, hk, rfl, HN⟩ := hrel
    by_cases hlt : k < s.size
    · by_cases hc : s[k] = c
      · have hb0 : (((s[k]).toNat : Int) == (c.toNat : Int)) = true := by rw [hc]; simp
        have hi1 : (k : Int) ≤ (s.size : Int) := by omega
        have hj0 : (0 : Int) ≤ (k : Int) + 1 := by omega
        have hj1 : (k : Int) + 1 ≤ (s.size : Int) := by omega
        have HC := Lib.hid hc
        clear hc
        go_wp2_with fail
        have hj2 : ((k : Int) + 1).toNat = k + 1 := by omega
        have hwr : IntKind.i64.wrap ((k : Int) + 1) = (k : Int) + 1 := IntWalk.i64_in _ (by omega)
        go_quiet (fail)
        clear hj2 hwr
        have hkl : k < s.data.toList.length := by simpa using hlt
        have e1 : (s.extract 0 k).data.toList = piece s.data.toList 0 k := by rw [extract_piece]
        have e2 : (s.extract (k + 1) s.size).data.toList = s.data.toList.drop (k + 1) := by
          rw [extract_piece, show s.size = s.data.toList.length by simp, piece_end]
        have e3 := drop_piece s.data.toList 0 k (Nat.zero_le _) hkl
        rw [List.drop_zero, byte_at rfl k hlt hkl, HC.out] at e3
        have E1 := Lib.hid e1
        have E3 := Lib.hid (show s.data.toList = (s.extract 0 k).data.toList ++ c :: (s.extract (k + 1) s.size).data.toList by rw [e1, e2]; exact e3)
        clear e1 e2 e3
        go_wp2
        go_ret3
        exact ⟨_, _, true, rfl, below_drewN (Below.refl _ _) _, by rw [ByteArray.size_extract]; omega, by rw [E1.out]; exact HN.out, fun _ => E3.out, (fun h => by cases h)⟩
      · have hb0 : (((s[k]).toNat : Int) == (c.toNat : Int)) = false := by
          simp only [beq_eq_false_iff_ne]
          intro h
          exact hc (UInt8.toNat_inj.1 (by omega))
        have HC := Lib.hid hc
        clear hc
        go_wp2
        go_round
        case rel =>
          have hkl : k < s.data.toList.length := by simpa using hlt
          exact ⟨k + 1, by omega, by go_num, by rw [piece_snoc _ 0 k (Nat.zero_le _) hkl]; exact noC_snoc HN.out (by rw [byte_at rfl k hlt hkl]; exact HC.out)⟩
        case measure => simp [intOf]; omega
    · obtain rfl : k = s.size := by omega
      have HN2 := Lib.hid (show noC c s.data.toList by
        have := HN.out
        rw [show s.size = s.data.toList.length by simp, piece_end] at this
        simpa using this)
      go_wp2
      go_ret3
      exact ⟨s, ByteArray.empty, false, rfl, Below.refl _ _, Nat.zero_le _, HN2.out, (fun h => by cases h), fun _ => ⟨rfl, rfl⟩⟩

def lenOf : Value → Nat | .string s => s.size | _ => 0
def yes : Value → Bool | .bool b => b | _ => false
end Go.Proofs.YthnlllbanfemaaaGreatDoor
