/- Texts put together, as a claim holds at most sixty files. -/
import Derived.Test.YtjofbeokkainlaaGreatDoorMg38
import Derived.Test.YtjofbeokkainlaaGreatDoorMg44
import Derived.Test.YtjofbeokkainlaaGreatDoorMg25
import Derived.Test.YtjofbeokkainlaaGreatDoorMg16
import Derived.Test.YtjofbeokkainlaaGreatDoorMg2
namespace Go.Proofs.YtjofbeokkainlaaGreatDoor
open Go.ChangeShapes Go.WideShapes Go.ChangeAt Go.RowKit Go.MuLone
set_option linter.unusedVariables false
set_option maxRecDepth 100000

theorem StepsAt.grownT {G k bo : Nat} {l : Instrs} {w w1 : World} {e : TypeId} {size m : Nat} {v : Value} {xs : List Value} (h : StepsAt G l k w) (ho : w.ownsRow bo e size v m xs) (h0 : 137 ≠ e) (h1 : 89 ≠ e) (h2 : 175 ≠ e) (h3 : 50 ≠ e) (hg : w.grownBy w1 v.ownBlock) : StepsAt G l k w1 := by
  obtain ⟨cur, hr, hs, hv⟩ := h
  exact ⟨cur, ot_row_grownT hr ho h0 hg, hs, fun j hj => by
    obtain ⟨v, g1, g2⟩ := hv j hj
    exact ⟨v, g1, (g2.grownT ho h1 h2 h3 hg).wide (Nat.le_refl _) hg.size⟩⟩
theorem ProgS.grownT {P : Nat} {a : Option Addr} {len cap bo m : Nat} {l : Instrs} {w w1 : World} {v : Value} {xs : List Value} (h : ProgS P a len cap l w) (ho : w.ownsRow bo 37 2 v m xs) (hg : w.grownBy w1 v.ownBlock) : ProgS P a len cap l w1 := by
  rcases h with h | ⟨st, h⟩
  · exact .inl (ot_row_grownT h ho (by decide) hg)
  · refine .inr ⟨st, ?_⟩
    rcases h with ⟨hp, hs, hr⟩ | ⟨hp, G, hG, hs, hr, hst⟩
    · exact .inl ⟨hp, hs, ot_row_grownT hr ho (by decide) hg⟩
    · exact .inr ⟨hp, G, hG, hs, ot_row_grownT hr ho (by decide) hg, hst.grownT ho (by decide) (by decide) (by decide) (by decide) hg⟩
theorem ProgS.row {P : Nat} {a : Option Addr} {len cap : Nat} {l : Instrs} {w : World} (h : ProgS P a len cap l w) : ∃ cur, Row w P 70 cur := by
  rcases h with h | ⟨st, h⟩
  · exact ⟨_, h⟩
  · exact ⟨_, h.row⟩
theorem ws_turn {base P : Nat} {w w1 : World} {q : Option Addr} {W : List (List UInt8)} {cur : Array Value} {T : TypeId} (h : Ws base w q W) (hr : Row w P T cur) (hT : 9 ≠ T) (hg : w.grownBy w1 (some P)) : Ws base w1 q W := by
  rcases h with h0 | ⟨g, cur2, hq, hb, hr2, h2⟩
  · exact .inl h0
  · refine .inr ⟨g, cur2, hq, hb, hr2.grown hg (fun he => ?_), h2⟩
    obtain rfl : P = g := Option.some.inj he
    unfold Row at hr hr2
    rw [hr] at hr2
    simp at hr2
    exact hT hr2.2.symm
/-- The end of evalEach and evalLine. -/
def MadeRunL (o : Recs × Int) (P : Nat) (a : Option Addr) (len cap : Nat) (l : Instrs) (w : World) (e : Ending) (w' : World) : Prop :=
  ∃ q cp, e = .returned (.tuple #[.slice q o.1.length cp, .int .i64 o.2]) ∧ w.grownBy w' (some P) ∧ ProgS P a len cap l w' ∧ RcK w.heap.size w' q o.1 ∧ (q = none → cp = 0) ∧ o.1.length ≤ cp
/-- The program's rounds over the words. -/
structure LnP (P : Nat) (a : Option Addr) (len cap : Nat) (l : Instrs) (ws : Strs) (w wr : World) (qo : Option Addr) (co : Nat) (k : Nat) (O : Recs) (wq : Option Addr) (B : Nat) (WL : List (List UInt8)) : Prop where
  ev : eachTo l ws k = (O, 0)
  own : wr.ownsRow w.heap.size 37 2 (.slice qo O.length co) O.length (cellsRc O)
  words : Ws B wr wq WL
  prog : ProgS P a len cap l wr
  turn : w.grownBy wr (some P)

set_option maxHeartbeats 8000000 in
theorem peach_any (P : Nat) (a : Option Addr) (len cap : Nat) (l : Instrs) (wq : Option Addr) (wn wc B : Nat) (ws : Strs) (WL : List (List UInt8)) (w0 w : World) (hs : ProgS P a len cap l w) (hI : InstrsAt w0 a len l) (hn : ∀ i, i < len → In64 (ins1 l i)) (hW : Ws B w wq WL) (hsh : Short WL) (hws : ws = strsOf WL) (hwn : WL.length = wn) (hcp : wn ≤ wc) (hcm : wc ≤ maxLen) (hT : TabsRP w0) (h0 : Below w0.heap.size w0 w) (hP : w0.heap.size ≤ P) :
    Calls Tryz.prog 64 #[.pointer (some ⟨P, 0, none⟩), .slice wq wn wc] w (MadeRunL (eachTo l ws wn) P a len cap l w) := by
  have HN := Lib.hid (show ∀ i, i < l.length → In64 (ins1 l i) from fun i hi => hn i (by rw [← hI.length]; exact hi))
  have HPW := Lib.hid (show P < w.heap.size from by obtain ⟨cur, hr⟩ := hs.row; exact hr.lt)
  have HEV := Lib.hid (fun wq wn wc ws w (hs : ProgS P a len cap l w) (hw : StrsAt w wq wn ws) (hwP : 0 < wn → ∀ b off, wq = some ⟨b, off, none⟩ → b ≠ P) (h0 : Below w0.heap.size w0 w) => peval_any P a len cap l wq wn wc ws w0 w hs hI hn hw hwP hT h0 hP)
  have hwn20 : wn ≤ 20 := by rw [← hwn]; exact hsh.1
  have HWN := Lib.hid hwn
  have HSHORT := Lib.hid hsh
  have HWSS := Lib.hid hws
  have H0 := Lib.hid h0
  have HP0 := Lib.hid hP
  have HS0 : Hid (LnP P a len cap l ws w w none 0 0 [] wq B WL) := Lib.hid ⟨rfl, own_nilRc w _, hW, hs, World.grownBy.refl _ _⟩
  unfold maxLen at hcm
  clear hs hI hn hW hsh hws hwn hT h0 hP
  go_enter Tryz.func64, Tryz.ntmps64
  go_wp2_with fail
  go_loopw [6, 12] (fun o i wr => ∃ (k no : Nat) (O : Recs) (qo : Option Addr) (co : Nat), k ≤ wn ∧ o = .slice qo no co ∧ i = .int .i64 k ∧ no ≤ 30 * k ∧ Hid (O.length = no) ∧ Hid (LnP P a len cap l ws w wr qo co k O wq B WL)) (fun _ i _ => wn - (intOf i).toNat)
  case atStart => exact ⟨0, 0, [], _, _, Nat.zero_le _, rfl, rfl, Nat.le_refl _, Lib.hid rfl, HS0⟩
  case round =>
    clear HS0
    obtain ⟨k, no, O, qo, co, hk, rfl, rfl, hno, HOL, HS⟩ := hrel
    by_cases hlt : k < wn
    · obtain ⟨g, rfl, hg⟩ := ws_some HS.out.words (by rw [HWN.out]; omega)
      have hi0 : (0 : Int) ≤ (k : Int) := by omega
      have hi1 : (k : Int) < (wn : Int) := by omega
      have hck : ¬ wc = k := by omega
      have hck2 : k < wc := by omega
      have HSUB := Lib.hid (show StrsAt wr (some ⟨g, k, none⟩) 1 [strAt ws k] from by have h1 := strs_of_ws HS.out.words HSHORT.out; rw [HWN.out, ← HWSS.out] at h1; have := strs_sub h1 hlt; simpa using this)
      have HGP := Lib.hid (show g ≠ P from fun he => by
        subst he
        obtain ⟨cur, hr⟩ := HS.out.prog.row
        rcases HS.out.words with h0 | ⟨g2, cur2, hq, _, hr2, _⟩
        · rw [HWN.out] at h0; omega
        · simp only [Option.some.injEq, Addr.mk.injEq, and_true] at hq
          subst hq
          unfold Row at hr hr2
          rw [hr] at hr2
          simp at hr2)
      obtain ⟨V, hV⟩ : ∃ V, (evalR l [strAt ws k]).1 = V := ⟨_, rfl⟩
      obtain ⟨c, hc⟩ : ∃ c, (evalR l [strAt ws k]).2 = c := ⟨_, rfl⟩
      have HRES := Lib.hid (show evalR l [strAt ws k] = (V, c) by rw [← hV, ← hc])
      have HF := Lib.hid (evalR_facts (ws := [strAt ws k]) HN.out)
      rw [HRES.out] at HF
      have H0R := Lib.hid (show Below w0.heap.size w0 wr from H0.out.grown HS.out.turn H0.out.size (fun k hk => by cases hk; exact HP0.out))
      clear hV hc
      go_wp2_with fail
      refine (HEV.out _ _ _ _ _ HS.out.prog HSUB.out (fun _ b off hq => by simp only [Option.some.injEq, Addr.mk.injEq, and_true] at hq; rw [← hq.1]; exact HGP.out) H0R.out).mono ?_
      rw [HRES.out]
      rintro e w4 ⟨q, cp, rfl, hgr, ⟨st, hdone⟩, hkk, hq, hcp2⟩
      obtain ⟨curP, hrP⟩ := HS.out.prog.row
      have HSR := Lib.hid (show LnP P a len cap l ws w w4 qo co k O (some ⟨g, 0, none⟩) B WL from ⟨HS.out.ev, ot_own_grown HS.out.own hgr (fun j hj he => by
        have he := Option.some.inj he
        subst he
        exact ot_own_ne_row HS.out.own hrP (by decide) _ hj rfl), ws_turn HS.out.words hrP (by decide) hgr, .inr ⟨st, hdone⟩, growT HS.out.turn hgr⟩)
      obtain ⟨vn, hvn⟩ : ∃ vn, V.length = vn := ⟨_, rfl⟩
      have hv30 : vn ≤ 30 := by have := HF.out.1; omega
      have HV := Lib.hid (rck_recs hkk hvn HF.out.2.1 (by omega))
      simp only [hvn]
      have HQ := Lib.hid hq
      clear hgr hdone hkk hq hcp2 HSUB HF HS curP hrP
      by_cases hc0 : c = 0
      · have HNX := Lib.hid (eachTo_go HSR.out.ev HRES.out hc0)
        subst hc0
        go_wp2_with (at_builtin; go_loud (refine append_rc rfl _ _ rfl w.heap.size (.slice qo no co) no O rfl (by have := HSR.out.own; rw [HOL.out] at this; exact this) q vn cp V rfl HV.out HQ.out (by omega) HSR.out.turn.size ?_); intro q5 c5 w5 hown hgrow; have HS5 := Lib.hid (show LnP P a len cap l ws w w5 q5 c5 (k + 1) (O ++ V) (some ⟨g, 0, none⟩) B WL from ⟨HNX.out, by rw [List.length_append, HOL.out, HV.out.length]; exact hown, ws_apart HSR.out.words HSR.out.own (by decide) (by rw [HOL.out]; exact hgrow), HSR.out.prog.grownT HSR.out.own (by rw [HOL.out]; exact hgrow), growO HSR.out.turn hgrow (fun j hj => (by have := HSR.out.own; rw [HOL.out] at this; exact (this.lt j hj).1))⟩); clear hown hgrow)
        go_roundw
        case rel => exact ⟨k + 1, no + vn, O ++ V, q5, c5, by omega, rfl, by go_num, by omega, Lib.hid (by rw [List.length_append, HOL.out, HV.out.length]), HS5⟩
        case measure => simp [intOf]; omega
      · have HNX := Lib.hid (eachTo_stop HSR.out.ev HRES.out hc0)
        have HFIN := Lib.hid (show eachTo l ws wn = ([], c) by rw [eachTo_bad (k := k + 1) (n := wn) (by rw [HNX.out]; exact hc0) (by omega), HNX.out])
        have hz2 : (c == (0 : Int)) = false := by rw [beq_eq_false_iff_ne]; exact hc0
        have hz3 : (c != (0 : Int)) = true := by rw [bne_iff_ne]; exact hc0
        go_wp2
        go_ret2
        rw [HFIN.out]
        exact ⟨none, 0, rfl, HSR.out.turn, HSR.out.prog, rck_nil _ _ _, fun _ => rfl, Nat.le_refl _⟩
    · obtain rfl : k = wn := by omega
      go_wp2
      go_ret2
      rw [HS.out.ev]
      have h1 := HS.out.own
      exact ⟨qo, co, by rw [HOL.out]; rfl, HS.out.turn, HS.out.prog, rck_of_own (m := O.length) (cp := co) h1, (own_qcap h1).1, (own_qcap h1).2⟩

set_option maxHeartbeats 8000000 in
theorem pline_any (P : Nat) (a : Option Addr) (len cap : Nat) (l : Instrs) (each : Bool) (s : ByteArray) (w0 w : World) (hs : ProgS P a len cap l w) (hI : InstrsAt w0 a len l) (hn : ∀ i, i < len → In64 (ins1 l i)) (hsz : s.size ≤ 1048576) (hT : TabsRP w0) (h0 : Below w0.heap.size w0 w) (hP : w0.heap.size ≤ P) :
    Calls Tryz.prog 33 #[.pointer (some ⟨P, 0, none⟩), .bool each, .string s] w (MadeRunL (lineR l each s) P a len cap l w) := by
  have HEACH := Lib.hid (fun wq wn wc B ws WL w (hs : ProgS P a len cap l w) (hW : Ws B w wq WL) (hsh : Short WL) (hws : ws = strsOf WL) (hwn : WL.length = wn) (hcp : wn ≤ wc) (hcm : wc ≤ maxLen) (h0 : Below w0.heap.size w0 w) => peach_any P a len cap l wq wn wc B ws WL w0 w hs hI hn hW hsh hws hwn hcp hcm hT h0 hP)
  have HEV := Lib.hid (fun wq wn wc ws w (hs : ProgS P a len cap l w) (hw : StrsAt w wq wn ws) (hwP : 0 < wn → ∀ b off, wq = some ⟨b, off, none⟩ → b ≠ P) (h0 : Below w0.heap.size w0 w) => peval_any P a len cap l wq wn wc ws w0 w hs hI hn hw hwP hT h0 hP)
  have HTAB := Lib.hid (table_any P a len cap l w0 w hs hI hT.forms h0 hP)
  have H0 := Lib.hid h0
  have HP0 := Lib.hid hP
  have HPW := Lib.hid (show P < w.heap.size from by obtain ⟨cur, hr⟩ := hs.row; exact hr.lt)
  obtain ⟨p, hp⟩ : ∃ p, progB l = p := ⟨_, rfl⟩
  have HP := Lib.hid hp
  clear hs hI hn hT h0 hP hp
  go_enter Tryz.func33, Tryz.ntmps33
  go_wp2_with fail
  refine HTAB.out.mono ?_
  rintro e w1 ⟨st, rfl, hD, hG⟩
  have HG := Lib.hid hG
  have HD := Lib.hid hD
  obtain ⟨sq, sn, sc, rfl⟩ := hD.slice
  rw [HP.out]
  clear hD hG HTAB
  cases p with
  | false =>
    have HC := Lib.hid (show lineR l each s = ([], 1) by unfold lineR; rw [if_neg (fun h => by rw [HP.out] at h; cases h.1)])
    go_wp2
    go_ret2
    rw [HC.out]
    exact ⟨none, 0, rfl, HG.out, .inr ⟨_, HD.out⟩, rck_nil _ _ _, fun _ => rfl, Nat.le_refl _⟩
  | true =>
    by_cases h200 : (200 : Int) < (s.size : Int)
    · have HC := Lib.hid (show lineR l each s = ([], 1) by unfold lineR; rw [if_neg (fun h => by have := h.2; omega)])
      go_wp2
      go_ret2
      rw [HC.out]
      exact ⟨none, 0, rfl, HG.out, .inr ⟨_, HD.out⟩, rck_nil _ _ _, fun _ => rfl, Nat.le_refl _⟩
    · have HLN := Lib.hid (show lineR l each s = if each = true then eachTo l (wordsB s) (wordsB s).length else evalR l (wordsB s) by unfold lineR; rw [if_pos ⟨HP.out, by omega⟩])
      have hs2 : s.size ≤ 200 := by omega
      go_wp2_with fail
      refine (words_wsc s _ hsz).mono ?_
      rintro e w2 ⟨wq, wc, rfl, hws, hB, hcp, hcm⟩
      have HW := Lib.hid (strs_wordsB hws hsz)
      have HWS := Lib.hid hws
      have HSHORT := Lib.hid (words_short s (by unfold maxLen; omega))
      have HWSS := Lib.hid (show wordsB s = strsOf ((wordsL s.data.toList).take 20) from rfl)
      have HWL := Lib.hid (wordsB_len s)
      have HWP := Lib.hid (show ∀ b off, wq = some ⟨b, off, none⟩ → 0 < ((wordsL s.data.toList).take 20).length → b ≠ P from fun b off hq h0 => by
        obtain ⟨g, hg, hge⟩ := ws_some hws h0
        rw [hg] at hq
        simp only [Option.some.injEq, Addr.mk.injEq, and_true] at hq
        have := HPW.out
        have := HG.out.size
        omega)
      obtain ⟨WL, hWL⟩ : ∃ WL, (wordsL s.data.toList).take 20 = WL := ⟨_, rfl⟩
      obtain ⟨wn, hwn⟩ : ∃ wn, WL.length = wn := ⟨_, rfl⟩
      obtain ⟨ws, hws2⟩ : ∃ ws, wordsB s = ws := ⟨_, rfl⟩
      rw [hWL] at HW HWS HSHORT HWSS HWL hcp HWP ⊢
      rw [hwn] at HW HWL hcp HWP ⊢
      rw [hws2] at HW HWL HLN HWSS
      have HWN := Lib.hid hwn
      have HCP := Lib.hid hcp
      have HCM := Lib.hid hcm
      have HD := Lib.hid (HD.out.keep hB)
      have HG := Lib.hid (growB HG.out hB)
      have H02 := Lib.hid (show Below w0.heap.size w0 w2 from H0.out.grown HG.out H0.out.size (fun k hk => by cases hk; exact HP0.out))
      clear hws hB hwn hws2 hWL hcp hcm
      cases each with
      | false =>
        have HLN := Lib.hid (show lineR l false s = evalR l ws by rw [HLN.out, if_neg (by decide)])
        go_wp2_with fail
        refine (HEV.out _ _ _ _ _ (.inr ⟨_, HD.out⟩) HW.out (fun h0 b off hq => HWP.out b off hq h0) H02.out).mono ?_
        intro e w3 hm
        obtain ⟨q, cp, rfl, hgr, hst, hk, hq, hc⟩ := hm
        have HF := Lib.hid (show MadeRunL (evalR l ws) P a len cap l w (.returned (.tuple #[.slice q (evalR l ws).1.length cp, .int .i64 (evalR l ws).2])) w3 from ⟨q, cp, rfl, growT HG.out hgr, .inr hst, rck_low hk HG.out.size, hq, hc⟩)
        obtain ⟨n, hn⟩ : ∃ n, (evalR l ws).1.length = n := ⟨_, rfl⟩
        obtain ⟨c, hc2⟩ : ∃ n, (evalR l ws).2 = n := ⟨_, rfl⟩
        rw [hn, hc2] at HF
        rw [hn, hc2]
        clear hgr hst hk hq hc hn hc2
        go_wp2
        go_ret2
        rw [HLN.out]
        exact HF.out
      | true =>
        have HLT := Lib.hid (show lineR l true s = eachTo l ws wn by rw [HLN.out, if_pos rfl, HWL.out])
        clear HLN
        go_wp2_with fail
        refine (HEACH.out _ _ _ _ _ _ _ (.inr ⟨_, HD.out⟩) HWS.out HSHORT.out HWSS.out HWN.out HCP.out HCM.out H02.out).mono ?_
        intro e w3 hm
        obtain ⟨q, cp, rfl, hgr, hst, hk, hq, hc⟩ := hm
        have HF := Lib.hid (show MadeRunL (eachTo l ws wn) P a len cap l w (.returned (.tuple #[.slice q (eachTo l ws wn).1.length cp, .int .i64 (eachTo l ws wn).2])) w3 from ⟨q, cp, rfl, growT HG.out hgr, hst, rck_low hk HG.out.size, hq, hc⟩)
        obtain ⟨n, hn⟩ : ∃ n, (eachTo l ws wn).1.length = n := ⟨_, rfl⟩
        obtain ⟨c, hc2⟩ : ∃ n, (eachTo l ws wn).2 = n := ⟨_, rfl⟩
        rw [hn, hc2] at HF
        rw [hn, hc2]
        clear hgr hst hk hq hc hn hc2
        go_wp2
        go_ret2
        rw [HLT.out]
        exact HF.out
theorem iline_any (a : Option Addr) (len cap : Nat) (l : Instrs) (each : Bool) (s : ByteArray) (w : World) (h : InstrsAt w a len l) (hn : ∀ i, i < len → In64 (ins1 l i)) (hsz : s.size ≤ 1048576) (hT : TabsRP w) :
    Calls Tryz.prog 11 #[.slice a len cap, .bool each, .string s] w (MadeRun (lineR l each s) w) := by
  have HB := Lib.hid (below_alloc (Below.refl w.heap.size w) (.cells #[.slice a len cap, .int .u32 0, .int .i32 0, .int .u32 0, .bool false, .slice none 0 0] 70))
  have HR := Lib.hid (ot_row_new w #[.slice a len cap, .int .u32 0, .int .i32 0, .int .u32 0, .bool false, .slice none 0 0] 70)
  have HI := Lib.hid h
  have HN := Lib.hid hn
  have HT := Lib.hid hT
  clear h hn hT
  go_enter Tryz.func11, Tryz.ntmps11
  go_wp2_with fail
  refine (pline_any w.heap.size a len cap l each s w _ (.inl HR.out) HI.out HN.out hsz HT.out HB.out (Nat.le_refl _)).mono ?_
  intro e w2 hm
  obtain ⟨q, cp, rfl, hg, _, hk, hq, hc⟩ := hm
  have HF := Lib.hid (show MadeRun (lineR l each s) w (.returned (.tuple #[.slice q (lineR l each s).1.length cp, .int .i64 (lineR l each s).2])) w2 from ⟨q, cp, rfl, HB.out.grown hg HB.out.size (fun k hk => by cases hk; exact Nat.le_refl _), rck_low hk HB.out.size, hq, hc⟩)
  obtain ⟨n, hn⟩ : ∃ n, (lineR l each s).1.length = n := ⟨_, rfl⟩
  obtain ⟨c, hc2⟩ : ∃ n, (lineR l each s).2 = n := ⟨_, rfl⟩
  rw [hn, hc2] at HF
  rw [hn, hc2]
  clear hg hk hq hc hn hc2
  go_wp2
  go_ret2
  exact HF.out
end Go.Proofs.YtjofbeokkainlaaGreatDoor
namespace Go.Proofs.YtjofbeokkainlaaGreatDoor
open Go.ChangeShapes Go.WideShapes Go.ChangeAt Go.RowKit Go.MuLone
set_option linter.unusedVariables false
set_option maxRecDepth 100000

/-- The program's rounds over the lines. -/
structure EmP (P : Nat) (a : Option Addr) (len cap : Nat) (l : Instrs) (each : Bool) (L : Strs) (w wr : World) (qo : Option Addr) (co : Nat) (k : Nat) (O : Recs) (lq : Option Addr) (B : Nat) (WL : List (List UInt8)) : Prop where
  ev : emitTo l each L k = (O, 0)
  own : wr.ownsRow w.heap.size 37 2 (.slice qo O.length co) O.length (cellsRc O)
  words : Ws B wr lq WL
  prog : ProgS P a len cap l wr
  turn : w.grownBy wr (some P)
set_option maxHeartbeats 8000000 in
theorem emitted_any (P : Nat) (a : Option Addr) (len cap : Nat) (l : Instrs) (each : Bool) (s : ByteArray) (w0 w : World) (hs : ProgS P a len cap l w) (hI : InstrsAt w0 a len l) (hn : ∀ i, i < len → In64 (ins1 l i)) (hsz : s.size ≤ 1048576) (hT : TabsRP w0) (h0 : Below w0.heap.size w0 w) (hP : w0.heap.size ≤ P) :
    Calls Tryz.prog 49 #[.pointer (some ⟨P, 0, none⟩), .bool each, .string s] w (MadeRunL (emitR l each (strsOf (linesW s.data.toList))) P a len cap l w) := by
  have HN := Lib.hid (show ∀ i, i < l.length → In64 (ins1 l i) from fun i hi => hn i (by rw [← hI.length]; exact hi))
  have HPW := Lib.hid (show P < w.heap.size from by obtain ⟨cur, hr⟩ := hs.row; exact hr.lt)
  have HEV := Lib.hid (fun s w (hs : ProgS P a len cap l w) (hsz : s.size ≤ 1048576) (h0 : Below w0.heap.size w0 w) => pline_any P a len cap l each s w0 w hs hI hn hsz hT h0 hP)
  have H0 := Lib.hid h0
  have HP0 := Lib.hid hP
  have HS := Lib.hid hs
  clear hs hI hn hT h0 hP
  go_enter Tryz.func49, Tryz.ntmps49
  go_wp2_with fail
  refine (linesof_any s _ hsz).mono ?_
  rintro e w1 ⟨lq, lc, rfl, hws, hB⟩
  have HSH := Lib.hid (lines_short s)
  have HFEW := Lib.hid (linesW_few s.data.toList)
  obtain ⟨WL, hWL⟩ : ∃ WL, linesW s.data.toList = WL := ⟨_, rfl⟩
  obtain ⟨wn, hwn⟩ : ∃ wn, WL.length = wn := ⟨_, rfl⟩
  obtain ⟨L, hL⟩ : ∃ L, strsOf WL = L := ⟨_, rfl⟩
  rw [hWL] at hws HSH HFEW ⊢
  rw [hL]
  rw [hwn]
  have HWN := Lib.hid hwn
  have HLL := Lib.hid (show L.length = wn by rw [← hL, ← hwn]; simp [strsOf])
  have HLS := Lib.hid hL
  have HLQ := Lib.hid (show strsOf (linesW s.data.toList) = L by rw [hWL, hL])
  have hwn10 : wn ≤ 10 := by rw [← hwn]; exact HFEW.out.1
  have HS0 : Hid (EmP P a len cap l each L w w1 none 0 0 [] lq w.heap.size WL) := Lib.hid ⟨rfl, own_nilRc w1 _, hws, HS.out.keep hB, World.grownBy.refl _ _ |> fun h => growB h hB⟩
  have HWQ := Lib.hid (fun h0 => ws_some hws h0)
  clear hws hB hWL hwn hL HS
  go_wp2_with fail
  go_loopw [10, 22] (fun o i wr => ∃ (k no : Nat) (O : Recs) (qo : Option Addr) (co : Nat), k ≤ wn ∧ o = .slice qo no co ∧ i = .int .i64 k ∧ no ≤ 600 * k ∧ Hid (O.length = no) ∧ Hid (EmP P a len cap l each L w wr qo co k O lq w.heap.size WL)) (fun _ i _ => wn - (intOf i).toNat)
  case atStart => exact ⟨0, 0, [], _, _, Nat.zero_le _, rfl, rfl, Nat.le_refl _, Lib.hid rfl, HS0⟩
  case round =>
    clear HS0
    obtain ⟨k, no, O, qo, co, hk, rfl, rfl, hno, HOL, HS⟩ := hrel
    by_cases hlt : k < wn
    · obtain ⟨g, rfl, hg⟩ := HWQ.out (by rw [HWN.out]; omega)
      have hi0 : (0 : Int) ≤ (k : Int) := by omega
      have hi1 : (k : Int) < (wn : Int) := by omega
      have HSTR := Lib.hid (show StrsAt wr (some ⟨g, 0, none⟩) wn L from by have h1 := strs_of_ws HS.out.words HSH.out; rw [HWN.out, HLS.out] at h1; exact h1)
      rcases HSTR.out.src with hz | ⟨b2, off2, hq, hb2, hc2⟩
      · omega
      simp only [Option.some.injEq, Addr.mk.injEq, and_true] at hq
      obtain ⟨rfl, rfl⟩ := hq
      have ck := hc2 k hlt
      rw [Nat.zero_add] at ck
      clear hc2 hb2
      have HSZ := Lib.hid (show (strAt L k).size ≤ 1048576 from by
        have hk2 : k < WL.length := by rw [HWN.out]; exact hlt
        have h1 := HFEW.out.2 _ (List.getElem_mem hk2)
        rw [← HLS.out, strAt_of WL k hk2]
        show (WL[k].toArray).size ≤ 1048576
        rw [List.size_toArray]; omega)
      obtain ⟨x, hx⟩ : ∃ x, strAt L k = x := ⟨_, rfl⟩
      rw [hx] at ck HSZ
      obtain ⟨V, hV⟩ : ∃ V, (lineR l each (strAt L k)).1 = V := ⟨_, rfl⟩
      obtain ⟨c, hc⟩ : ∃ c, (lineR l each (strAt L k)).2 = c := ⟨_, rfl⟩
      have HRES := Lib.hid (show lineR l each (strAt L k) = (V, c) by rw [← hV, ← hc])
      have HRX := Lib.hid (show lineR l each x = (V, c) by rw [← hx]; exact HRES.out)
      have HF := Lib.hid (lineR_facts (each := each) (s := x) HN.out)
      rw [HRX.out] at HF
      have H0R := Lib.hid (show Below w0.heap.size w0 wr from H0.out.grown HS.out.turn H0.out.size (fun k hk => by cases hk; exact HP0.out))
      clear hV hc hx
      go_wp2_with fail
      refine (HEV.out _ _ HS.out.prog HSZ.out H0R.out).mono ?_
      rw [HRX.out]
      rintro e w4 ⟨q, cp, rfl, hgr, hpr, hkk, hq, hcp2⟩
      obtain ⟨curP, hrP⟩ := HS.out.prog.row
      have HSR := Lib.hid (show EmP P a len cap l each L w w4 qo co k O (some ⟨g, 0, none⟩) w.heap.size WL from ⟨HS.out.ev, ot_own_grown HS.out.own hgr (fun j hj he => by
        have he := Option.some.inj he
        subst he
        exact ot_own_ne_row HS.out.own hrP (by decide) _ hj rfl), ws_turn HS.out.words hrP (by decide) hgr, hpr, growT HS.out.turn hgr⟩)
      obtain ⟨vn, hvn⟩ : ∃ vn, V.length = vn := ⟨_, rfl⟩
      have hv600 : vn ≤ 600 := by have := HF.out.1; omega
      have HV := Lib.hid (rck_recs hkk hvn HF.out.2.1 (by omega))
      simp only [hvn]
      have HQ := Lib.hid hq
      clear hgr hpr hkk hq hcp2 HF HS curP hrP ck HSTR
      by_cases hc0 : c = 0
      · have HNX := Lib.hid (emitTo_go HSR.out.ev HRES.out hc0)
        subst hc0
        go_wp2_with (at_builtin; go_loud (refine append_rc rfl _ _ rfl w.heap.size (.slice qo no co) no O rfl (by have := HSR.out.own; rw [HOL.out] at this; exact this) q vn cp V rfl HV.out HQ.out (by omega) HSR.out.turn.size ?_); intro q5 c5 w5 hown hgrow; have HS5 := Lib.hid (show EmP P a len cap l each L w w5 q5 c5 (k + 1) (O ++ V) (some ⟨g, 0, none⟩) w.heap.size WL from ⟨HNX.out, by rw [List.length_append, HOL.out, HV.out.length]; exact hown, ws_apart HSR.out.words HSR.out.own (by decide) (by rw [HOL.out]; exact hgrow), HSR.out.prog.grownT HSR.out.own (by rw [HOL.out]; exact hgrow), growO HSR.out.turn hgrow (fun j hj => (by have := HSR.out.own; rw [HOL.out] at this; exact (this.lt j hj).1))⟩); clear hown hgrow)
        go_roundw
        case rel => exact ⟨k + 1, no + vn, O ++ V, q5, c5, by omega, rfl, by go_num, by omega, Lib.hid (by rw [List.length_append, HOL.out, HV.out.length]), HS5⟩
        case measure => simp [intOf]; omega
      · have HNX := Lib.hid (emitTo_stop HSR.out.ev HRES.out hc0)
        have HFIN := Lib.hid (emitR_bad HLL.out (show emitTo l each L wn = ([], c) by rw [emitTo_bad (k := k + 1) (n := wn) (by rw [HNX.out]; exact hc0) (by omega), HNX.out]) hc0)
        have hz2 : (c == (0 : Int)) = false := by rw [beq_eq_false_iff_ne]; exact hc0
        have hz3 : (c != (0 : Int)) = true := by rw [bne_iff_ne]; exact hc0
        go_wp2
        go_ret2
        rw [HLQ.out, HFIN.out]
        exact ⟨none, 0, rfl, HSR.out.turn, HSR.out.prog, rck_nil _ _ _, fun _ => rfl, Nat.le_refl _⟩
    · obtain rfl : k = wn := by omega
      by_cases h600 : (600 : Int) < (no : Int)
      · have HFIN := Lib.hid (emitR_many HLL.out HS.out.ev (by rw [HOL.out]; omega))
        go_wp2
        go_ret2
        rw [HLQ.out, HFIN.out]
        exact ⟨none, 0, rfl, HS.out.turn, HS.out.prog, rck_nil _ _ _, fun _ => rfl, Nat.le_refl _⟩
      · have HFIN := Lib.hid (emitR_all HLL.out HS.out.ev (by rw [HOL.out]; omega))
        go_wp2
        go_ret2
        rw [HLQ.out, HFIN.out]
        have h1 := HS.out.own
        exact ⟨qo, co, by rw [HOL.out]; rfl, HS.out.turn, HS.out.prog, rck_of_own (m := O.length) (cp := co) h1, (own_qcap h1).1, (own_qcap h1).2⟩
end Go.Proofs.YtjofbeokkainlaaGreatDoor
namespace Go.Proofs.YtjofbeokkainlaaGreatDoor
open Go.ChangeShapes Go.WideShapes Go.ChangeAt Go.RowKit Go.MuLone
set_option linter.unusedVariables false
set_option maxRecDepth 100000

/-- A slice of records of the call's own. -/
def MadeRc (W : Recs) (w : World) (e : Ending) (w' : World) : Prop :=
  ∃ q cp, e = .returned (.slice q W.length cp) ∧ Below w.heap.size w w' ∧ RcK w.heap.size w' q W ∧ (q = none → cp = 0) ∧ W.length ≤ cp

set_option maxHeartbeats 8000000 in
theorem ofpart_any (a : Option Addr) (len cap : Nat) (V : Recs) (p n : Int) (w : World) (h : RecsAt w a len V) (h600 : len ≤ 600) :
    Calls Tryz.prog 50 #[.slice a len cap, .int .i64 p, .int .i64 n] w (MadeRc (partL V n p) w) := by
  have HL := Lib.hid h.length
  have HK := Lib.hid h.keys
  have HR := Lib.hid h
  have HS0 : Hid (w.ownsRow w.heap.size 37 2 (.slice none 0 0) 0 (cellsRc (partL (V.take 0) n p)) ∧ Below w.heap.size w w) := Lib.hid ⟨own_nilRc w _, Below.refl _ _⟩
  clear h
  go_enter Tryz.func50, Tryz.ntmps50
  go_wp2_with fail
  go_loopw [7, 12] (fun o i wr => ∃ (k no : Nat) (qo : Option Addr) (co : Nat), k ≤ len ∧ o = .slice qo no co ∧ i = .int .i64 k ∧ no ≤ k ∧ Hid ((partL (V.take k) n p).length = no) ∧ Hid (wr.ownsRow w.heap.size 37 2 (.slice qo no co) no (cellsRc (partL (V.take k) n p)) ∧ Below w.heap.size w wr)) (fun _ i _ => len - (intOf i).toNat)
  case atStart => exact ⟨0, 0, _, _, Nat.zero_le _, rfl, rfl, Nat.le_refl _, Lib.hid rfl, HS0⟩
  case round =>
    clear HS0
    obtain ⟨k, no, qo, co, hk, rfl, rfl, hno, HOL, HS⟩ := hrel
    by_cases hlt : k < len
    · rcases (HR.out.keep HS.out.2).src with hz | ⟨b, off, rfl, hb, hc⟩
      · omega
      obtain ⟨c0, c1⟩ := hc k hlt
      have hi0 : (0 : Int) ≤ (k : Int) := by omega
      have hi1 : (k : Int) < (len : Int) := by omega
      have HKY := Lib.hid (HK.out k hlt)
      have HKV := Lib.hid (show k < V.length by rw [HL.out]; exact hlt)
      obtain ⟨x, hx⟩ : ∃ x, keyAt V k = x := ⟨_, rfl⟩
      obtain ⟨y, hy⟩ : ∃ y, numAt V k = y := ⟨_, rfl⟩
      rw [hx] at c0 HKY
      rw [hy] at c1
      have HX := Lib.hid hx
      have HY := Lib.hid hy
      clear hc hb hx hy
      go_wp2_with fail
      refine (part_any x n _ HKY.out).mono ?_
      rintro e w5 ⟨rfl, rfl⟩
      have HB5 := Lib.hid (below_alloc HS.out.2 (.cells #[.string x, .int .i64 y] 37))
      have HO5 := Lib.hid (own_below HS.out.1 (below_alloc (Below.refl _ _) (.cells #[.string x, .int .i64 y] 37)))
      clear c0 c1
      obtain ⟨z, hz⟩ : ∃ z, partN x n = z := ⟨_, rfl⟩
      by_cases hp : z = p
      · have HNX := Lib.hid (partL_in HKV.out (n := n) (p := p) (by rw [HX.out, hz]; exact hp))
        rw [HX.out, HY.out] at HNX
        rw [hz]
        have hpp : ((z : Int) == p) = true := by rw [hp]; simp
        clear hz
        have HNEW := Lib.hid (show ∀ j u, [Value.string x, Value.int .i64 y][j]? = some u → ((wr.alloc (.cells #[.string x, .int .i64 y] 37)).alloc (.cells #[.string x, .int .i64 y] 37)).cell? ((⟨wr.heap.size + 1, 0, none⟩ : Addr).add j) = some u from by
          have h1 := rc_new (wr.alloc (.cells #[.string x, .int .i64 y] 37)) x y 37
          have e : (wr.alloc (.cells #[.string x, .int .i64 y] 37)).heap.size = wr.heap.size + 1 := by simp
          rw [e] at h1
          exact h1)
        go_wp2_with (at_builtin; go_loud (refine append1_rc rfl _ _ rfl w.heap.size (.slice qo no co) no _ rfl (own_below HO5.out (below_alloc (Below.refl _ _) _)) (wr.heap.size + 1) _ x y rfl HNEW.out (by omega) (Nat.le_trans HB5.out.size (by simp)) ?_); intro q6 c6 w6 hown hgrow; have HS6 := Lib.hid (show w6.ownsRow w.heap.size 37 2 (.slice q6 (no + 1) c6) (no + 1) (cellsRc (partL (V.take (k + 1)) n p)) ∧ Below w.heap.size w w6 from ⟨by rw [HNX.out]; exact hown, (below_alloc HB5.out _).grown hgrow (Nat.le_trans HB5.out.size (by simp)) (fun j hj => (HS.out.1.lt j hj).1)⟩); clear hown hgrow)
        go_roundw
        case rel => exact ⟨k + 1, no + 1, q6, c6, by omega, rfl, by go_num, by omega, Lib.hid (by rw [HNX.out, List.length_append, HOL.out]; rfl), HS6⟩
        case measure => simp [intOf]; omega
      · have HNX := Lib.hid (partL_out HKV.out (n := n) (p := p) (by rw [HX.out, hz]; exact hp))
        rw [hz]
        have hpp : ((z : Int) == p) = false := by rw [beq_eq_false_iff_ne]; exact hp
        clear hz
        go_wp2
        go_roundw
        case rel => exact ⟨k + 1, no, qo, co, by omega, rfl, by go_num, by omega, Lib.hid (by rw [HNX.out]; exact HOL.out), Lib.hid ⟨by rw [HNX.out]; exact HO5.out, HB5.out⟩⟩
        case measure => simp [intOf]; omega
    · obtain rfl : k = len := by omega
      have HALL := Lib.hid (show V.take k = V by rw [← HL.out]; exact List.take_length)
      go_wp2
      go_ret
      have h1 := HS.out.1
      rw [HALL.out] at h1
      have h2 := HOL.out
      rw [HALL.out] at h2
      exact ⟨qo, co, by rw [h2]; rfl, HS.out.2, rck_of_own (m := no) (cp := co) (by rw [h2]; exact h1), (own_qcap h1).1, by rw [h2]; exact (own_qcap h1).2⟩
end Go.Proofs.YtjofbeokkainlaaGreatDoor
