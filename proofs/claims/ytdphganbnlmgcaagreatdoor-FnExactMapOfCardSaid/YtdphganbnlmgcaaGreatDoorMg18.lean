/- Texts put together, as a claim holds at most sixty files. -/
import Derived.Test.YtdphganbnlmgcaaGreatDoorMg17
import Derived.Test.YtdphganbnlmgcaaGreatDoorMg14
import Derived.Test.YtdphganbnlmgcaaGreatDoorRows
import Derived.WalkKit
import Derived.ProofKit
import Derived.WalkLawsBesides
import Derived.Lib.Hide
namespace Go.Proofs.YtdphganbnlmgcaaGreatDoor
open Go.ChangeShapes Go.WideShapes Go.ChangeAt Go.RowKit Go.MuLone
set_option linter.unusedVariables false
set_option maxRecDepth 100000

theorem made_of_runp {o : Recs × Int} {P : Nat} {a : Option Addr} {len cap : Nat} {l : Instrs} {w w1 : World} {e : Ending} {w' : World} (h : MadeRunP o P a len cap l w1 e w') (h1 : Below w.heap.size w w1) (hP : w.heap.size ≤ P) : MadeRun o w e w' := by
  obtain ⟨q, cp, he, hg, _, hk, hn, hc⟩ := h
  exact ⟨q, cp, he, h1.grown hg h1.size (fun k hk => by cases hk; exact hP), rck_low hk h1.size, hn, hc⟩
end Go.Proofs.YtdphganbnlmgcaaGreatDoor
namespace Go.Proofs.YtdphganbnlmgcaaGreatDoor
open Go.ChangeShapes Go.WideShapes Go.ChangeAt Go.RowKit Go.MuLone
set_option linter.unusedVariables false
set_option maxRecDepth 100000

theorem StepsAt.grownT {G k bo : Nat} {l : Instrs} {w w1 : World} {e : TypeId} {size m : Nat} {v : Value} {xs : List Value} (h : StepsAt G l k w) (ho : w.ownsRow bo e size v m xs) (h0 : 139 ≠ e) (h1 : 90 ≠ e) (h2 : 171 ≠ e) (h3 : 92 ≠ e) (hg : w.grownBy w1 v.ownBlock) : StepsAt G l k w1 := by
  obtain ⟨cur, hr, hs, hv⟩ := h
  exact ⟨cur, ot_row_grownT hr ho h0 hg, hs, fun j hj => by
    obtain ⟨v, g1, g2⟩ := hv j hj
    exact ⟨v, g1, (g2.grownT ho h1 h2 h3 hg).wide (Nat.le_refl _) hg.size⟩⟩
theorem ProgS.grownT {P : Nat} {a : Option Addr} {len cap bo m : Nat} {l : Instrs} {w w1 : World} {v : Value} {xs : List Value} (h : ProgS P a len cap l w) (ho : w.ownsRow bo 50 2 v m xs) (hg : w.grownBy w1 v.ownBlock) : ProgS P a len cap l w1 := by
  rcases h with h | ⟨st, h⟩
  · exact .inl (ot_row_grownT h ho (by decide) hg)
  · refine .inr ⟨st, ?_⟩
    rcases h with ⟨hp, hs, hr⟩ | ⟨hp, G, hG, hs, hr, hst⟩
    · exact .inl ⟨hp, hs, ot_row_grownT hr ho (by decide) hg⟩
    · exact .inr ⟨hp, G, hG, hs, ot_row_grownT hr ho (by decide) hg, hst.grownT ho (by decide) (by decide) (by decide) (by decide) hg⟩
theorem ProgS.row {P : Nat} {a : Option Addr} {len cap : Nat} {l : Instrs} {w : World} (h : ProgS P a len cap l w) : ∃ cur, Row w P 72 cur := by
  rcases h with h | ⟨st, h⟩
  · exact ⟨_, h⟩
  · exact ⟨_, h.row⟩
theorem ws_turn {base P : Nat} {w w1 : World} {q : Option Addr} {W : List (List UInt8)} {cur : Array Value} {T : TypeId} (h : Ws base w q W) (hr : Row w P T cur) (hT : 9 ≠ T) (hg : w.grownBy w1 (some P)) : Ws base w1 q W := by
  rcases h with h0 | ⟨g, cur2, hq, hb, hr2, h2⟩
  · exact .inl h0
  · refine .inr ⟨g, cur2, hq, hb, hr2.grown hg (fun he => ?_), h2⟩
    obtain rfl : P = g := Option.some.inj he
    unfold Row at hr hr2
    rw [hr] at hr2
    simp at hr2
    exact hT hr2.2.symm
/-- The end of evalEach and evalLine. -/
def MadeRunL (o : Recs × Int) (P : Nat) (a : Option Addr) (len cap : Nat) (l : Instrs) (w : World) (e : Ending) (w' : World) : Prop :=
  ∃ q cp, e = .returned (.tuple #[.slice q o.1.length cp, .int .i64 o.2]) ∧ w.grownBy w' (some P) ∧ ProgS P a len cap l w' ∧ RcK w.heap.size w' q o.1 ∧ (q = none → cp = 0) ∧ o.1.length ≤ cp
/-- The program's rounds over the words. -/
structure LnP (P : Nat) (a : Option Addr) (len cap : Nat) (l : Instrs) (ws : Strs) (w wr : World) (qo : Option Addr) (co : Nat) (k : Nat) (O : Recs) (wq : Option Addr) (B : Nat) (WL : List (List UInt8)) : Prop where
  ev : eachTo l ws k = (O, 0)
  own : wr.ownsRow w.heap.size 50 2 (.slice qo O.length co) O.length (cellsRc O)
  words : Ws B wr wq WL
  prog : ProgS P a len cap l wr
  turn : w.grownBy wr (some P)

set_option maxHeartbeats 8000000 in
theorem peach_any (P : Nat) (a : Option Addr) (len cap : Nat) (l : Instrs) (wq : Option Addr) (wn wc B : Nat) (ws : Strs) (WL : List (List UInt8)) (w0 w : World) (hs : ProgS P a len cap l w) (hI : InstrsAt w0 a len l) (hn : ∀ i, i < len → In64 (ins1 l i)) (hW : Ws B w wq WL) (hsh : Short WL) (hws : ws = strsOf WL) (hwn : WL.length = wn) (hcp : wn ≤ wc) (hcm : wc ≤ maxLen) (hT : TabsRP w0) (h0 : Below w0.heap.size w0 w) (hP : w0.heap.size ≤ P) :
    Calls Tryz.prog 85 #[.pointer (some ⟨P, 0, none⟩), .slice wq wn wc] w (MadeRunL (eachTo l ws wn) P a len cap l w) := by
  have HN := Lib.hid (show ∀ i, i < l.length → In64 (ins1 l i) from fun i hi => hn i (by rw [← hI.length]; exact hi))
  have HPW := Lib.hid (show P < w.heap.size from by obtain ⟨cur, hr⟩ := hs.row; exact hr.lt)
  have HEV := Lib.hid (fun wq wn wc ws w (hs : ProgS P a len cap l w) (hw : StrsAt w wq wn ws) (hwP : 0 < wn → ∀ b off, wq = some ⟨b, off, none⟩ → b ≠ P) (h0 : Below w0.heap.size w0 w) => peval_any P a len cap l wq wn wc ws w0 w hs hI hn hw hwP hT h0 hP)
  have hwn20 : wn ≤ 20 := by rw [← hwn]; exact hsh.1
  have HWN := Lib.hid hwn
  have HSHORT := Lib.hid hsh
  have HWSS := Lib.hid hws
  have H0 := Lib.hid h0
  have HP0 := Lib.hid hP
  have HS0 : Hid (LnP P a len cap l ws w w none 0 0 [] wq B WL) := Lib.hid ⟨rfl, own_nilRc w _, hW, hs, World.grownBy.refl _ _⟩
  unfold maxLen at hcm
  clear hs hI hn hW hsh hws hwn hT h0 hP
  go_enter Tryz.func85, Tryz.ntmps85
  go_wp2_with fail
  go_loopw [6, 12] (fun o i wr => ∃ (k no : Nat) (O : Recs) (qo : Option Addr) (co : Nat), k ≤ wn ∧ o = .slice qo no co ∧ i = .int .i64 k ∧ no ≤ 30 * k ∧ Hid (O.length = no) ∧ Hid (LnP P a len cap l ws w wr qo co k O wq B WL)) (fun _ i _ => wn - (intOf i).toNat)
  case atStart => exact ⟨0, 0, [], _, _, Nat.zero_le _, rfl, rfl, Nat.le_refl _, Lib.hid rfl, HS0⟩
  case round =>
    clear HS0
    obtain ⟨k, no, O, qo, co, hk, rfl, rfl, hno, HOL, HS⟩ := hrel
    by_cases hlt : k < wn
    · obtain ⟨g, rfl, hg⟩ := ws_some HS.out.words (by rw [HWN.out]; omega)
      have hi0 : (0 : Int) ≤ (k : Int) := by omega
      have hi1 : (k : Int) < (wn : Int) := by omega
      have hck : ¬ wc = k := by omega
      have hck2 : k < wc := by omega
      have HSUB := Lib.hid (show StrsAt wr (some ⟨g, k, none⟩) 1 [strAt ws k] from by have h1 := strs_of_ws HS.out.words HSHORT.out; rw [HWN.out, ← HWSS.out] at h1; have := strs_sub h1 hlt; simpa using this)
      have HGP := Lib.hid (show g ≠ P from fun he => by
        subst he
        obtain ⟨cur, hr⟩ := HS.out.prog.row
        rcases HS.out.words with h0 | ⟨g2, cur2, hq, _, hr2, _⟩
        · rw [HWN.out] at h0; omega
        · simp only [Option.some.injEq, Addr.mk.injEq, and_true] at hq
          subst hq
          unfold Row at hr hr2
          rw [hr] at hr2
          simp at hr2)
      obtain ⟨V, hV⟩ : ∃ V, (evalR l [strAt ws k]).1 = V := ⟨_, rfl⟩
      obtain ⟨c, hc⟩ : ∃ c, (evalR l [strAt ws k]).2 = c := ⟨_, rfl⟩
      have HRES := Lib.hid (show evalR l [strAt ws k] = (V, c) by rw [← hV, ← hc])
      have HF := Lib.hid (evalR_facts (ws := [strAt ws k]) HN.out)
      rw [HRES.out] at HF
      have H0R := Lib.hid (show Below w0.heap.size w0 wr from H0.out.grown HS.out.turn H0.out.size (fun k hk => by cases hk; exact HP0.out))
      clear hV hc
      go_wp2_with fail
      refine (HEV.out _ _ _ _ _ HS.out.prog HSUB.out (fun _ b off hq => by simp only [Option.some.injEq, Addr.mk.injEq, and_true] at hq; rw [← hq.1]; exact HGP.out) H0R.out).mono ?_
      rw [HRES.out]
      rintro e w4 ⟨q, cp, rfl, hgr, ⟨st, hdone⟩, hkk, hq, hcp2⟩
      obtain ⟨curP, hrP⟩ := HS.out.prog.row
      have HSR := Lib.hid (show LnP P a len cap l ws w w4 qo co k O (some ⟨g, 0, none⟩) B WL from ⟨HS.out.ev, ot_own_grown HS.out.own hgr (fun j hj he => by
        have he := Option.some.inj he
        subst he
        exact ot_own_ne_row HS.out.own hrP (by decide) _ hj rfl), ws_turn HS.out.words hrP (by decide) hgr, .inr ⟨st, hdone⟩, growT HS.out.turn hgr⟩)
      obtain ⟨vn, hvn⟩ : ∃ vn, V.length = vn := ⟨_, rfl⟩
      have hv30 : vn ≤ 30 := by have := HF.out.1; omega
      have HV := Lib.hid (rck_recs hkk hvn HF.out.2.1 (by omega))
      simp only [hvn]
      have HQ := Lib.hid hq
      clear hgr hdone hkk hq hcp2 HSUB HF HS curP hrP
      by_cases hc0 : c = 0
      · have HNX := Lib.hid (eachTo_go HSR.out.ev HRES.out hc0)
        subst hc0
        go_wp2_with (at_builtin; go_loud (refine append_rc rfl _ _ rfl w.heap.size (.slice qo no co) no O rfl (by have := HSR.out.own; rw [HOL.out] at this; exact this) q vn cp V rfl HV.out HQ.out (by omega) HSR.out.turn.size ?_); intro q5 c5 w5 hown hgrow; have HS5 := Lib.hid (show LnP P a len cap l ws w w5 q5 c5 (k + 1) (O ++ V) (some ⟨g, 0, none⟩) B WL from ⟨HNX.out, by rw [List.length_append, HOL.out, HV.out.length]; exact hown, ws_apart HSR.out.words HSR.out.own (by decide) (by rw [HOL.out]; exact hgrow), HSR.out.prog.grownT HSR.out.own (by rw [HOL.out]; exact hgrow), growO HSR.out.turn hgrow (fun j hj => (by have := HSR.out.own; rw [HOL.out] at this; exact (this.lt j hj).1))⟩); clear hown hgrow)
        go_roundw
        case rel => exact ⟨k + 1, no + vn, O ++ V, q5, c5, by omega, rfl, by go_num, by omega, Lib.hid (by rw [List.length_append, HOL.out, HV.out.length]), HS5⟩
        case measure => simp [intOf]; omega
      · have HNX := Lib.hid (eachTo_stop HSR.out.ev HRES.out hc0)
        have HFIN := Lib.hid (show eachTo l ws wn = ([], c) by rw [eachTo_bad (k := k + 1) (n := wn) (by rw [HNX.out]; exact hc0) (by omega), HNX.out])
        have hz2 : (c == (0 : Int)) = false := by rw [beq_eq_false_iff_ne]; exact hc0
        have hz3 : (c != (0 : Int)) = true := by rw [bne_iff_ne]; exact hc0
        go_wp2
        go_ret2
        rw [HFIN.out]
        exact ⟨none, 0, rfl, HSR.out.turn, HSR.out.prog, rck_nil _ _ _, fun _ => rfl, Nat.le_refl _⟩
    · obtain rfl : k = wn := by omega
      go_wp2
      go_ret2
      rw [HS.out.ev]
      have h1 := HS.out.own
      exact ⟨qo, co, by rw [HOL.out]; rfl, HS.out.turn, HS.out.prog, rck_of_own (m := O.length) (cp := co) h1, (own_qcap h1).1, (own_qcap h1).2⟩

set_option maxHeartbeats 8000000 in
theorem pline_any (P : Nat) (a : Option Addr) (len cap : Nat) (l : Instrs) (each : Bool) (s : ByteArray) (w0 w : World) (hs : ProgS P a len cap l w) (hI : InstrsAt w0 a len l) (hn : ∀ i, i < len → In64 (ins1 l i)) (hsz : s.size ≤ 1048576) (hT : TabsRP w0) (h0 : Below w0.heap.size w0 w) (hP : w0.heap.size ≤ P) :
    Calls Tryz.prog 68 #[.pointer (some ⟨P, 0, none⟩), .bool each, .string s] w (MadeRunL (lineR l each s) P a len cap l w) := by
  have HEACH := Lib.hid (fun wq wn wc B ws WL w (hs : ProgS P a len cap l w) (hW : Ws B w wq WL) (hsh : Short WL) (hws : ws = strsOf WL) (hwn : WL.length = wn) (hcp : wn ≤ wc) (hcm : wc ≤ maxLen) (h0 : Below w0.heap.size w0 w) => peach_any P a len cap l wq wn wc B ws WL w0 w hs hI hn hW hsh hws hwn hcp hcm hT h0 hP)
  have HEV := Lib.hid (fun wq wn wc ws w (hs : ProgS P a len cap l w) (hw : StrsAt w wq wn ws) (hwP : 0 < wn → ∀ b off, wq = some ⟨b, off, none⟩ → b ≠ P) (h0 : Below w0.heap.size w0 w) => peval_any P a len cap l wq wn wc ws w0 w hs hI hn hw hwP hT h0 hP)
  have HTAB := Lib.hid (table_any P a len cap l w0 w hs hI hT.forms h0 hP)
  have H0 := Lib.hid h0
  have HP0 := Lib.hid hP
  have HPW := Lib.hid (show P < w.heap.size from by obtain ⟨cur, hr⟩ := hs.row; exact hr.lt)
  obtain ⟨p, hp⟩ : ∃ p, progB l = p := ⟨_, rfl⟩
  have HP := Lib.hid hp
  clear hs hI hn hT h0 hP hp
  go_enter Tryz.func68, Tryz.ntmps68
  go_wp2_with fail
  refine HTAB.out.mono ?_
  rintro e w1 ⟨st, rfl, hD, hG⟩
  have HG := Lib.hid hG
  have HD := Lib.hid hD
  obtain ⟨sq, sn, sc, rfl⟩ := hD.slice
  rw [HP.out]
  clear hD hG HTAB
  cases p with
  | false =>
    have HC := Lib.hid (show lineR l each s = ([], 1) by unfold lineR; rw [if_neg (fun h => by rw [HP.out] at h; cases h.1)])
    go_wp2
    go_ret2
    rw [HC.out]
    exact ⟨none, 0, rfl, HG.out, .inr ⟨_, HD.out⟩, rck_nil _ _ _, fun _ => rfl, Nat.le_refl _⟩
  | true =>
    by_cases h200 : (200 : Int) < (s.size : Int)
    · have HC := Lib.hid (show lineR l each s = ([], 1) by unfold lineR; rw [if_neg (fun h => by have := h.2; omega)])
      go_wp2
      go_ret2
      rw [HC.out]
      exact ⟨none, 0, rfl, HG.out, .inr ⟨_, HD.out⟩, rck_nil _ _ _, fun _ => rfl, Nat.le_refl _⟩
    · have HLN := Lib.hid (show lineR l each s = if each = true then eachTo l (wordsB s) (wordsB s).length else evalR l (wordsB s) by unfold lineR; rw [if_pos ⟨HP.out, by omega⟩])
      have hs2 : s.size ≤ 200 := by omega
      go_wp2_with fail
      refine (words_wsc s _ hsz).mono ?_
      rintro e w2 ⟨wq, wc, rfl, hws, hB, hcp, hcm⟩
      have HW := Lib.hid (strs_wordsB hws hsz)
      have HWS := Lib.hid hws
      have HSHORT := Lib.hid (words_short s (by unfold maxLen; omega))
      have HWSS := Lib.hid (show wordsB s = strsOf ((wordsL s.data.toList).take 20) from rfl)
      have HWL := Lib.hid (wordsB_len s)
      have HWP := Lib.hid (show ∀ b off, wq = some ⟨b, off, none⟩ → 0 < ((wordsL s.data.toList).take 20).length → b ≠ P from fun b off hq h0 => by
        obtain ⟨g, hg, hge⟩ := ws_some hws h0
        rw [hg] at hq
        simp only [Option.some.injEq, Addr.mk.injEq, and_true] at hq
        have := HPW.out
        have := HG.out.size
        omega)
      obtain ⟨WL, hWL⟩ : ∃ WL, (wordsL s.data.toList).take 20 = WL := ⟨_, rfl⟩
      obtain ⟨wn, hwn⟩ : ∃ wn, WL.length = wn := ⟨_, rfl⟩
      obtain ⟨ws, hws2⟩ : ∃ ws, wordsB s = ws := ⟨_, rfl⟩
      rw [hWL] at HW HWS HSHORT HWSS HWL hcp HWP ⊢
      rw [hwn] at HW HWL hcp HWP ⊢
      rw [hws2] at HW HWL HLN HWSS
      have HWN := Lib.hid hwn
      have HCP := Lib.hid hcp
      have HCM := Lib.hid hcm
      have HD := Lib.hid (HD.out.keep hB)
      have HG := Lib.hid (growB HG.out hB)
      have H02 := Lib.hid (show Below w0.heap.size w0 w2 from H0.out.grown HG.out H0.out.size (fun k hk => by cases hk; exact HP0.out))
      clear hws hB hwn hws2 hWL hcp hcm
      cases each with
      | false =>
        have HLN := Lib.hid (show lineR l false s = evalR l ws by rw [HLN.out, if_neg (by decide)])
        go_wp2_with fail
        refine (HEV.out _ _ _ _ _ (.inr ⟨_, HD.out⟩) HW.out (fun h0 b off hq => HWP.out b off hq h0) H02.out).mono ?_
        intro e w3 hm
        obtain ⟨q, cp, rfl, hgr, hst, hk, hq, hc⟩ := hm
        have HF := Lib.hid (show MadeRunL (evalR l ws) P a len cap l w (.returned (.tuple #[.slice q (evalR l ws).1.length cp, .int .i64 (evalR l ws).2])) w3 from ⟨q, cp, rfl, growT HG.out hgr, .inr hst, rck_low hk HG.out.size, hq, hc⟩)
        obtain ⟨n, hn⟩ : ∃ n, (evalR l ws).1.length = n := ⟨_, rfl⟩
        obtain ⟨c, hc2⟩ : ∃ n, (evalR l ws).2 = n := ⟨_, rfl⟩
        rw [hn, hc2] at HF
        rw [hn, hc2]
        clear hgr hst hk hq hc hn hc2
        go_wp2
        go_ret2
        rw [HLN.out]
        exact HF.out
      | true =>
        have HLT := Lib.hid (show lineR l true s = eachTo l ws wn by rw [HLN.out, if_pos rfl, HWL.out])
        clear HLN
        go_wp2_with fail
        refine (HEACH.out _ _ _ _ _ _ _ (.inr ⟨_, HD.out⟩) HWS.out HSHORT.out HWSS.out HWN.out HCP.out HCM.out H02.out).mono ?_
        intro e w3 hm
        obtain ⟨q, cp, rfl, hgr, hst, hk, hq, hc⟩ := hm
        have HF := Lib.hid (show MadeRunL (eachTo l ws wn) P a len cap l w (.returned (.tuple #[.slice q (eachTo l ws wn).1.length cp, .int .i64 (eachTo l ws wn).2])) w3 from ⟨q, cp, rfl, growT HG.out hgr, hst, rck_low hk HG.out.size, hq, hc⟩)
        obtain ⟨n, hn⟩ : ∃ n, (eachTo l ws wn).1.length = n := ⟨_, rfl⟩
        obtain ⟨c, hc2⟩ : ∃ n, (eachTo l ws wn).2 = n := ⟨_, rfl⟩
        rw [hn, hc2] at HF
        rw [hn, hc2]
        clear hgr hst hk hq hc hn hc2
        go_wp2
        go_ret2
        rw [HLT.out]
        exact HF.out
end Go.Proofs.YtdphganbnlmgcaaGreatDoor
namespace Go.Proofs.YtdphganbnlmgcaaGreatDoor
open Go.ChangeShapes Go.WideShapes Go.ChangeAt Go.RowKit
set_option linter.unusedVariables false
set_option maxRecDepth 100000

def hstep (h : Int) (c : UInt8) : Int := bits BinOp.xor IntKind.u32 h ((c.toNat : Int) % 4294967296) * 16777619 % 4294967296
def hashL (l : List UInt8) : Int := l.foldl hstep 2166136261

theorem hashL_snoc (l : List UInt8) (c : UInt8) : hashL (l ++ [c]) = hstep (hashL l) c := by
  unfold hashL; rw [List.foldl_append]; rfl

theorem hashL_bd (l : List UInt8) : 0 ≤ hashL l ∧ hashL l < 4294967296 := by
  rcases List.eq_nil_or_concat l with rfl | ⟨m, c, rfl⟩
  · exact ⟨by decide, by decide⟩
  · rw [List.concat_eq_append, hashL_snoc]; unfold hstep; omega

theorem htake_snoc (s : ByteArray) (k : Nat) (h : k < s.size) : s.data.toList.take (k + 1) = s.data.toList.take k ++ [s[k]] := by
  rw [List.take_succ_eq_append_getElem (by simpa using h)]; rfl

theorem ret_int {k : IntKind} {a b : Int} (h : a = b) : Ending.returned (.int k a) = .returned (.int k b) := by rw [h]

set_option maxHeartbeats 400000 in
theorem hash_any (s : ByteArray) (w : World) (hs : s.size ≤ maxLen) :
    Calls Tryz.prog 89 #[.string s] w fun e w' => e = .returned (.int .i64 (hashL s.data.toList)) ∧ w = w' := by
  unfold maxLen at hs
  go_enter Tryz.func89, Tryz.ntmps89
  go_wp2
  go_loop [3, 4] (fun h i => ∃ k : Nat, k ≤ s.size ∧ i = .int .i64 k ∧ h = .int .u32 (hashL (s.data.toList.take k))) (fun _ i => s.size - (intOf i).toNat)
  case atStart => exact ⟨0, Nat.zero_le _, rfl, rfl⟩
  case round =>
    obtain ⟨k, hk, rfl, rfl⟩ := hrel
    have hb := hashL_bd (s.data.toList.take k)
    by_cases hlt : k < s.size
    · have HS : Hid (hashL (s.data.toList.take (k + 1)) = hstep (hashL (s.data.toList.take k)) s[k]) := by rw [htake_snoc s k hlt]; exact hashL_snoc _ _
      go_wp2
      go_round
      case rel => exact ⟨k + 1, by omega, by go_num, by rw [HS.out]; rfl⟩
      case measure => simp [intOf]; omega
    · go_wp2
      go_ret
      exact ⟨ret_int (by rw [List.take_of_length_le (by simp; omega)]), rfl⟩

set_option maxHeartbeats 400000 in
theorem shash_any (s : ByteArray) (w : World) (hs : s.size ≤ maxLen) :
    Calls Tryz.prog 40 #[.string s] w fun e w' => e = .returned (.int .i64 (hashL s.data.toList)) ∧ w = w' := by
  unfold maxLen at hs
  go_enter Tryz.func40, Tryz.ntmps40
  go_wp2
  go_loop [3, 4] (fun h i => ∃ k : Nat, k ≤ s.size ∧ i = .int .i64 k ∧ h = .int .u32 (hashL (s.data.toList.take k))) (fun _ i => s.size - (intOf i).toNat)
  case atStart => exact ⟨0, Nat.zero_le _, rfl, rfl⟩
  case round =>
    obtain ⟨k, hk, rfl, rfl⟩ := hrel
    have hb := hashL_bd (s.data.toList.take k)
    by_cases hlt : k < s.size
    · have HS : Hid (hashL (s.data.toList.take (k + 1)) = hstep (hashL (s.data.toList.take k)) s[k]) := by rw [htake_snoc s k hlt]; exact hashL_snoc _ _
      go_wp2
      go_round
      case rel => exact ⟨k + 1, by omega, by go_num, by rw [HS.out]; rfl⟩
      case measure => simp [intOf]; omega
    · go_wp2
      go_ret
      exact ⟨ret_int (by rw [List.take_of_length_le (by simp; omega)]), rfl⟩

/-- What both part functions give: -1 outside 1 .. 3, else the rest of the hash. -/
def partN (s : ByteArray) (n : Int) : Int := if n < 1 ∨ 3 < n then -1 else hashL s.data.toList % n

set_option maxHeartbeats 400000 in
theorem part_any (s : ByteArray) (n : Int) (w : World) (hs : s.size ≤ maxLen) :
    Calls Tryz.prog 74 #[.string s, .int .i64 n] w fun e w' => e = .returned (.int .i64 (partN s n)) ∧ w = w' := by
  have hb := hashL_bd s.data.toList
  have go : ∀ n : Int, (n = 1 ∨ n = 2 ∨ n = 3) → 1 ≤ n → n ≤ 3 → Calls Tryz.prog 74 #[.string s, .int .i64 n] w fun e w' => e = .returned (.int .i64 (partN s n)) ∧ w = w' := by
    intro n hn h1 h3
    have H := Lib.hid (show partN s n = hashL s.data.toList % n by unfold partN; rw [if_neg (by omega)])
    have g1 : decide (n < 1) = false := by simp; omega
    have g3 : decide (3 < n) = false := by simp; omega
    have gz : (n == 0) = false := by simp; omega
    clear hn
    go_enter Tryz.func74, Tryz.ntmps74
    go_wp2_with (go_at_call 89; refine (hash_any _ _ hs).mono ?_; rintro e w' ⟨rfl, rfl⟩)
    go_ret
    exact ⟨ret_int H.out.symm, rfl⟩
  by_cases h1 : n < 1
  · have H := Lib.hid (show partN s n = -1 by unfold partN; rw [if_pos (by omega)])
    go_enter Tryz.func74, Tryz.ntmps74
    go_wp2
    go_ret
    exact ⟨ret_int H.out.symm, rfl⟩
  · by_cases h3 : 3 < n
    · have H := Lib.hid (show partN s n = -1 by unfold partN; rw [if_pos (by omega)])
      go_enter Tryz.func74, Tryz.ntmps74
      go_wp2
      go_ret
      exact ⟨ret_int H.out.symm, rfl⟩
    · exact go n (by omega) (by omega) (by omega)

theorem in_yes (n a b : Int) (w : World) (h1 : a ≤ n) (h2 : n ≤ b) :
    Calls Tryz.prog 16 #[.int .i64 n, .int .i64 a, .int .i64 b] w fun e w' => e = .returned (.bool true) ∧ w = w' := by
  go_enter Tryz.func16, Tryz.ntmps16
  go_wp2
  go_ret
  exact ⟨rfl, rfl⟩

theorem in_no (n a b : Int) (w : World) (h : n < a ∨ b < n) :
    Calls Tryz.prog 16 #[.int .i64 n, .int .i64 a, .int .i64 b] w fun e w' => e = .returned (.bool false) ∧ w = w' := by
  by_cases h1 : a ≤ n
  · have h2 : ¬ n ≤ b := by omega
    clear h
    go_enter Tryz.func16, Tryz.ntmps16
    go_wp2
    go_ret
    exact ⟨rfl, rfl⟩
  · clear h
    go_enter Tryz.func16, Tryz.ntmps16
    go_wp2
    go_ret
    exact ⟨rfl, rfl⟩

set_option maxHeartbeats 400000 in
theorem spart_any (s : ByteArray) (n : Int) (w : World) (hs : s.size ≤ maxLen) :
    Calls Tryz.prog 19 #[.string s, .int .i64 n] w fun e w' => e = .returned (.int .i64 (partN s n)) ∧ w = w' := by
  have hb := hashL_bd s.data.toList
  by_cases h : n < 1 ∨ 3 < n
  · have H := Lib.hid (show partN s n = -1 by unfold partN; rw [if_pos (by omega)])
    have H2 := Lib.hid h
    clear h
    go_enter Tryz.func19, Tryz.ntmps19
    go_wp2_with (go_at_call 16; refine (in_no _ _ _ _ H2.out).mono ?_; rintro e w' ⟨rfl, rfl⟩)
    go_ret
    exact ⟨ret_int H.out.symm, rfl⟩
  · have H := Lib.hid (show partN s n = hashL s.data.toList % n by unfold partN; rw [if_neg (by omega)])
    have g1 : 1 ≤ n := by omega
    have g3 : n ≤ 3 := by omega
    have gz : (n == 0) = false := by simp; omega
    clear h
    go_enter Tryz.func19, Tryz.ntmps19
    go_wp2_with (first | (go_at_call 40; refine (shash_any _ _ hs).mono ?_; rintro e w' ⟨rfl, rfl⟩) | (go_at_call 16; refine (in_yes _ _ _ _ g1 g3).mono ?_; rintro e w' ⟨rfl, rfl⟩))
    go_ret
    exact ⟨ret_int H.out.symm, rfl⟩
end Go.Proofs.YtdphganbnlmgcaaGreatDoor
