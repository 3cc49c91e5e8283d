/- Texts put together, as a claim holds at most sixty files. -/
import Derived.Test.YtdphganbnlmgcaaGreatDoorMg10
import Derived.Test.YtdphganbnlmgcaaGreatDoorEvalS
import Derived.Test.YtdphganbnlmgcaaGreatDoorMg6
import Derived.Test.YtdphganbnlmgcaaGreatDoorMg13
import Derived.Test.YtdphganbnlmgcaaGreatDoorOwnT
import Derived.Test.YtdphganbnlmgcaaGreatDoorMg12
namespace Go.Proofs.YtdphganbnlmgcaaGreatDoor
open Go.ChangeShapes Go.WideShapes Go.ChangeAt Go.RowKit
set_option linter.unusedVariables false
set_option maxRecDepth 100000

theorem strs_sub {w : World} {b off n : Nat} {ws : Strs} (h : StrsAt w (some ⟨b, off, none⟩) n ws) {i : Nat} (hi : i < n) : StrsAt w (some ⟨b, off + i, none⟩) 1 [strAt ws i] := by
  refine ⟨rfl, by unfold maxLen; omega, fun j hj => ?_, ?_⟩
  · obtain rfl : j = 0 := by omega
    exact h.sizes i hi
  · rcases h.src with h0 | ⟨b2, off2, ha, hb, hc⟩
    · omega
    · simp only [Option.some.injEq, Addr.mk.injEq, and_true] at ha
      obtain ⟨rfl, rfl⟩ := ha
      refine .inr ⟨b, off + i, rfl, hb, fun j hj => ?_⟩
      obtain rfl : j = 0 := by omega
      exact hc i hi
theorem ws_some {base : Nat} {w : World} {q : Option Addr} {W : List (List UInt8)} (h : Ws base w q W) (h0 : 0 < W.length) : ∃ g, q = some ⟨g, 0, none⟩ ∧ base ≤ g := by
  rcases h with h1 | ⟨g, cur, hq, hb, _⟩
  · omega
  · exact ⟨g, hq, hb⟩
/-- The words of a line, as a slice that may be read. -/
theorem strs_wordsB {base : Nat} {w : World} {q : Option Addr} {s : ByteArray} (h : Ws base w q ((wordsL s.data.toList).take 20)) (hs : s.size ≤ 1048576) : StrsAt w q ((wordsL s.data.toList).take 20).length (wordsB s) :=
  strs_of_ws h (words_short s (by unfold maxLen; omega))
theorem wordsB_len (s : ByteArray) : (wordsB s).length = ((wordsL s.data.toList).take 20).length := by unfold wordsB strsOf; rw [List.length_map]

/-- The model's rounds over the words. -/
structure LnS (l : Instrs) (ws : Strs) (w wr : World) (qo : Option Addr) (co : Nat) (k : Nat) (O : Recs) (wq : Option Addr) (B : Nat) (WL : List (List UInt8)) : Prop where
  ev : eachTo l ws k = (O, 0)
  own : wr.ownsRow w.heap.size 50 2 (.slice qo O.length co) O.length (cellsRc O)
  words : Ws B wr wq WL
  below : Below w.heap.size w wr
theorem LnS.keep {l : Instrs} {ws : Strs} {w wr w1 : World} {qo : Option Addr} {co : Nat} {k : Nat} {O : Recs} {wq : Option Addr} {B : Nat} {WL : List (List UInt8)} (h : LnS l ws w wr qo co k O wq B WL) (hB : Below wr.heap.size wr w1) : LnS l ws w w1 qo co k O wq B WL :=
  ⟨h.ev, own_below h.own hB, ws_keep h.words hB, below_via h.below hB⟩
theorem ws_apart {base bo : Nat} {w w1 : World} {q : Option Addr} {W : List (List UInt8)} {e : TypeId} {size n : Nat} {v : Value} {xs : List Value} (h : Ws base w q W) (ho : w.ownsRow bo e size v n xs) (hT : 9 ≠ e) (hg : w.grownBy w1 v.ownBlock) : Ws base w1 q W := by
  rcases h with h0 | ⟨g, cur, hq, hb, hr, h2⟩
  · exact .inl h0
  · exact .inr ⟨g, cur, hq, hb, ot_row_grownT hr ho hT hg, h2⟩
theorem own_qcap {w : World} {base n c : Nat} {q : Option Addr} {e : TypeId} {size : Nat} {xs : List Value} (h : w.ownsRow base e size (.slice q n c) n xs) : (q = none → c = 0) ∧ n ≤ c := by
  rcases h.2 with ⟨h1, h2⟩ | ⟨g, cap, cur, hv, _, _, h3, _⟩
  · simp only [Value.slice.injEq] at h1; exact ⟨fun _ => h1.2.2, by omega⟩
  · simp only [Value.slice.injEq] at hv
    obtain ⟨rfl, _, rfl⟩ := hv
    exact ⟨(fun h => by cases h), h3⟩
theorem run_of_own {o : Recs} {w w' : World} {q : Option Addr} {c : Nat} (h : w'.ownsRow w.heap.size 50 2 (.slice q o.length c) o.length (cellsRc o)) (hB : Below w.heap.size w w') : MadeRun (o, 0) w (.returned (.tuple #[.slice q o.length c, .int .i64 0])) w' :=
  ⟨q, c, rfl, hB, rck_of_own (m := o.length) (cp := c) h, (own_qcap h).1, (own_qcap h).2⟩
theorem rck_recs {base n : Nat} {w : World} {q : Option Addr} {W : Recs} (h : RcK base w q W) (hn : W.length = n) (hk : ∀ r ∈ W, r.1.size ≤ 40 ∧ In64 r.2) (hm : n ≤ 1000000) : RecsAt w q n W := by
  refine rcs_of_k h hn (by unfold maxLen; omega) (fun i hi => ?_)
  have := (ev0_le hk i).1
  unfold evAt at this
  unfold keyAt maxLen
  omega

set_option maxHeartbeats 8000000 in
theorem sevalline_any (a : Option Addr) (len cap : Nat) (l : Instrs) (each : Bool) (s : ByteArray) (w : World) (h : InstrsAt w a len l) (hn : ∀ i, i < len → In64 (ins1 l i)) (hs : s.size ≤ 1048576) :
    Calls Tryz.prog 18 #[.slice a len cap, .bool each, .string s] w (MadeRun (lineR l each s) w) := by
  have HL := Lib.hid h.length
  have HR := Lib.hid h
  have HN := Lib.hid (show ∀ i, i < l.length → In64 (ins1 l i) from fun i hi => hn i (by rw [← h.length]; exact hi))
  have HEV := Lib.hid (fun c wq wn wc ws w (h1 : InstrsAt w a len l) (h2 : StrsAt w wq wn ws) => seval_any a len c l wq wn wc ws w h1 hn h2)
  obtain ⟨p, hp⟩ : ∃ p, progB l = p := ⟨_, rfl⟩
  have HP := Lib.hid hp
  clear h hn hp
  go_enter Tryz.func18, Tryz.ntmps18
  go_wp2_with fail
  refine (sprogok_any _ _ _ _ _ HR.out).mono ?_
  rw [HP.out]
  rintro e w1 ⟨rfl, hB⟩
  have HB := Lib.hid hB
  clear hB
  cases p with
  | false =>
    have HC := Lib.hid (show lineR l each s = ([], 1) by unfold lineR; rw [if_neg (fun h => by rw [HP.out] at h; cases h.1)])
    go_wp2
    go_ret2
    exact run_none HC.out HB.out
  | true =>
    by_cases h200 : (200 : Int) < (s.size : Int)
    · have HC := Lib.hid (show lineR l each s = ([], 1) by unfold lineR; rw [if_neg (fun h => by have := h.2; omega)])
      go_wp2
      go_ret2
      exact run_none HC.out HB.out
    · have HLN := Lib.hid (show lineR l each s = if each = true then eachTo l (wordsB s) (wordsB s).length else evalR l (wordsB s) by unfold lineR; rw [if_pos ⟨HP.out, by omega⟩])
      have hs2 : s.size ≤ 200 := by omega
      go_wp2_with fail
      refine (swords_wsc s _ hs).mono ?_
      rintro e w2 ⟨wq, wc, rfl, hws, hB, hcp, hcm⟩
      have HW := Lib.hid (strs_wordsB hws hs)
      have HWS := Lib.hid hws
      have HSHORT := Lib.hid (words_short s (by unfold maxLen; omega))
      have HWSS := Lib.hid (show wordsB s = strsOf ((wordsL s.data.toList).take 20) from rfl)
      obtain ⟨WL, hWL⟩ : ∃ WL, (wordsL s.data.toList).take 20 = WL := ⟨_, rfl⟩
      rw [hWL] at HWS HSHORT HWSS
      have HWQ := Lib.hid (fun h0 => ws_some hws h0)
      have HWL := Lib.hid (wordsB_len s)
      obtain ⟨wn, hwn⟩ : ∃ wn, ((wordsL s.data.toList).take 20).length = wn := ⟨_, rfl⟩
      have hwn20 : wn ≤ 20 := by rw [← hwn]; exact List.length_take_le _ _
      obtain ⟨ws, hws2⟩ : ∃ ws, wordsB s = ws := ⟨_, rfl⟩
      rw [hwn] at HW HWQ HWL hcp ⊢
      rw [hws2] at HW HWL HLN HWSS
      have HWN := Lib.hid (show WL.length = wn by rw [← hWL]; exact hwn)
      clear hWL
      have HB := Lib.hid (below_via HB.out hB)
      clear hws hB hwn hws2
      cases each with
      | false =>
        have HLN := Lib.hid (show lineR l false s = evalR l ws by rw [HLN.out, if_neg (by decide)])
        go_wp2_with fail
        refine (HEV.out _ _ _ _ _ _ (HR.out.keep HB.out) HW.out).mono ?_
        intro e w3 hm
        obtain ⟨q, cp, rfl, hB, hk, hq, hc⟩ := hm
        have HF := Lib.hid (show MadeRun (evalR l ws) w (.returned (.tuple #[.slice q (evalR l ws).1.length cp, .int .i64 (evalR l ws).2])) w3 from ⟨q, cp, rfl, below_via HB.out hB, rck_low hk HB.out.size, hq, hc⟩)
        obtain ⟨n, hn⟩ : ∃ n, (evalR l ws).1.length = n := ⟨_, rfl⟩
        obtain ⟨c, hc2⟩ : ∃ n, (evalR l ws).2 = n := ⟨_, rfl⟩
        rw [hn, hc2] at HF
        rw [hn, hc2]
        clear hB hk hq hc hn hc2
        go_wp2
        go_ret2
        rw [HLN.out]
        exact HF.out
      | true =>
        have HLT := Lib.hid (show lineR l true s = eachTo l ws wn by rw [HLN.out, if_pos rfl, HWL.out])
        clear HLN
        have HS0 : Hid (LnS l ws w (w2.alloc (.cells #[] 50)) (some ⟨w2.heap.size, 0, none⟩) 0 0 [] wq w1.heap.size WL) := Lib.hid
          ⟨rfl, own_zeroRc (ot_row_new w2 #[] 50) HB.out.size, ws_keep HWS.out (below_alloc (Below.refl _ _) _), below_alloc HB.out _⟩
        unfold maxLen at hcm
        clear HW
        go_wp2_with fail
        go_loopw [9, 10] (fun o i wr => ∃ (k no : Nat) (O : Recs) (qo : Option Addr) (co : Nat), k ≤ wn ∧ o = .slice qo no co ∧ i = .int .i64 k ∧ no ≤ 30 * k ∧ Hid (O.length = no) ∧ Hid (LnS l ws w wr qo co k O wq w1.heap.size WL)) (fun _ i _ => wn - (intOf i).toNat)
        case atStart => exact ⟨0, 0, [], _, _, Nat.zero_le _, rfl, rfl, Nat.le_refl _, Lib.hid rfl, HS0⟩
        case round =>
          clear HS0 HB
          obtain ⟨k, no, O, qo, co, hk, rfl, rfl, hno, HOL, HS⟩ := hrel
          by_cases hlt : k < wn
          · obtain ⟨g, rfl, hg⟩ := HWQ.out (by omega)
            have hi0 : (0 : Int) ≤ (k : Int) := by omega
            have hi1 : (k : Int) < (wn : Int) := by omega
            have hck : ¬ wc = k := by omega
            have hck2 : k < wc := by omega
            have HSUB := Lib.hid (show StrsAt wr (some ⟨g, k, none⟩) 1 [strAt ws k] from by have h1 := strs_of_ws HS.out.words HSHORT.out; rw [HWN.out, ← HWSS.out] at h1; have := strs_sub h1 hlt; simpa using this)
            obtain ⟨V, hV⟩ : ∃ V, (evalR l [strAt ws k]).1 = V := ⟨_, rfl⟩
            obtain ⟨c, hc⟩ : ∃ c, (evalR l [strAt ws k]).2 = c := ⟨_, rfl⟩
            have HRES := Lib.hid (show evalR l [strAt ws k] = (V, c) by rw [← hV, ← hc])
            have HF := Lib.hid (evalR_facts (ws := [strAt ws k]) HN.out)
            rw [HRES.out] at HF
            clear hV hc
            go_wp2_with fail
            refine (HEV.out _ _ _ _ _ _ (HR.out.keep HS.out.below) HSUB.out).mono ?_
            rw [HRES.out]
            rintro e w4 ⟨q, cp, rfl, hB, hkk, hq, hcp2⟩
            have HS := Lib.hid (HS.out.keep hB)
            obtain ⟨vn, hvn⟩ : ∃ vn, V.length = vn := ⟨_, rfl⟩
            have hv30 : vn ≤ 30 := by have := HF.out.1; omega
            have HV := Lib.hid (rck_recs hkk hvn HF.out.2.1 (by omega))
            simp only [hvn]
            have HQ := Lib.hid hq
            clear hB hkk hq hcp2 HSUB HF
            by_cases hc0 : c = 0
            · have HNX := Lib.hid (eachTo_go HS.out.ev HRES.out hc0)
              subst hc0
              go_wp2_with (at_builtin; go_loud (refine append_rc rfl _ _ rfl w.heap.size (.slice qo no co) no O rfl (by have := HS.out.own; rw [HOL.out] at this; exact this) q vn cp V rfl HV.out HQ.out (by omega) HS.out.below.size ?_); intro q5 c5 w5 hown hgrow; have HS5 := Lib.hid (show LnS l ws w w5 q5 c5 (k + 1) (O ++ V) (some ⟨g, 0, none⟩) w1.heap.size WL from ⟨HNX.out, by rw [List.length_append, HOL.out, HV.out.length]; exact hown, ws_apart HS.out.words HS.out.own (by decide) (by rw [HOL.out]; exact hgrow), HS.out.below.grown hgrow HS.out.below.size (fun j hj => (by have := HS.out.own; rw [HOL.out] at this; exact (this.lt j hj).1))⟩); clear hown hgrow)
              go_roundw
              case rel => exact ⟨k + 1, no + vn, O ++ V, q5, c5, by omega, rfl, by go_num, by omega, Lib.hid (by rw [List.length_append, HOL.out, HV.out.length]), HS5⟩
              case measure => simp [intOf]; omega
            · have HNX := Lib.hid (eachTo_stop HS.out.ev HRES.out hc0)
              have HFIN := Lib.hid (show lineR l true s = ([], c) by rw [HLT.out, eachTo_bad (k := k + 1) (n := wn) (by rw [HNX.out]; exact hc0) (by omega), HNX.out])
              have hz2 : (c == (0 : Int)) = false := by rw [beq_eq_false_iff_ne]; exact hc0
              have hz3 : (c != (0 : Int)) = true := by rw [bne_iff_ne]; exact hc0
              go_wp2
              go_ret2
              exact run_none HFIN.out HS.out.below
          · obtain rfl : k = wn := by omega
            have HFIN := Lib.hid (show lineR l true s = (O, 0) by rw [HLT.out, HS.out.ev])
            go_wp2
            go_ret2
            rw [HFIN.out]
            have := run_of_own HS.out.own HS.out.below
            rw [HOL.out] at this
            exact this
end Go.Proofs.YtdphganbnlmgcaaGreatDoor
namespace Go.Proofs.YtdphganbnlmgcaaGreatDoor
open Go.ChangeShapes Go.WideShapes Go.ChangeAt Go.RowKit
set_option linter.unusedVariables false
set_option maxRecDepth 100000

def cellsTx (T : Strs) : List Value := T.map .string
def cellsNm (N : List Int) : List Value := N.map (.int .i64)
theorem infoNumM : (Tryz.prog.info? 2).map (fun i => (i.zero, i.size, i.bytes)) = some (some (.int .i64 0), 1, 8) := by kernel_rfl
/-- The machine lies in block M; its stacks lie in rows from block B on. -/
structure MSt (B M : Nat) (wv : Value) (w : World) (tq nq oq : Option Addr) (tc nc oc nt nn no : Nat) (T : Strs) (N : List Int) (O : Recs) : Prop where
  row : Row w M 137 #[wv, .slice tq nt tc, .slice nq nn nc, .slice oq no oc]
  tx : w.ownsRow B 9 1 (.slice tq nt tc) nt (cellsTx T)
  nm : w.ownsRow B 2 1 (.slice nq nn nc) nn (cellsNm N)
  rc : w.ownsRow B 50 2 (.slice oq no oc) no (cellsRc O)
  lt : T.length = nt
  ln : N.length = nn
  lo : O.length = no
  low : B ≤ M
  few : nt ≤ 100 ∧ nn ≤ 100 ∧ no ≤ 100
def MAt (B M : Nat) (wv : Value) (w : World) (T : Strs) (N : List Int) (O : Recs) : Prop := ∃ tq nq oq tc nc oc nt nn no, MSt B M wv w tq nq oq tc nc oc nt nn no T N O
theorem MSt.keep {B M : Nat} {wv : Value} {w w1 : World} {tq nq oq : Option Addr} {tc nc oc nt nn no : Nat} {T : Strs} {N : List Int} {O : Recs} (h : MSt B M wv w tq nq oq tc nc oc nt nn no T N O) (hB : Below w.heap.size w w1) : MSt B M wv w1 tq nq oq tc nc oc nt nn no T N O :=
  ⟨h.row.keep hB, own_below h.tx hB, own_below h.nm hB, own_below h.rc hB, h.lt, h.ln, h.lo, h.low, h.few⟩
theorem MAt.keep {B M : Nat} {wv : Value} {w w1 : World} {T : Strs} {N : List Int} {O : Recs} (h : MAt B M wv w T N O) (hB : Below w.heap.size w w1) : MAt B M wv w1 T N O := by
  obtain ⟨tq, nq, oq, tc, nc, oc, nt, nn, no, h⟩ := h
  exact ⟨tq, nq, oq, tc, nc, oc, nt, nn, no, h.keep hB⟩
theorem MSt.lts {B M : Nat} {wv : Value} {w : World} {tq nq oq : Option Addr} {tc nc oc nt nn no : Nat} {T : Strs} {N : List Int} {O : Recs} (h : MSt B M wv w tq nq oq tc nc oc nt nn no T N O) : B ≤ w.heap.size := Nat.le_of_lt (Nat.lt_of_le_of_lt h.low h.row.lt)
theorem MSt.push_tx (s : ByteArray) {B M : Nat} {wv : Value} {w w8 : World} {tq nq oq : Option Addr} {tc nc oc nt nn no : Nat} {T : Strs} {N : List Int} {O : Recs} (h : MSt B M wv w tq nq oq tc nc oc nt nn no T N O) {q' : Option Addr} {c' : Nat} (o : Obj) (hown : w8.ownsRow B 9 1 (.slice q' (nt + 1) c') (nt + 1) (cellsTx (T ++ [s]))) (hg : (w.alloc o).grownBy w8 (Value.slice tq nt tc).ownBlock) (hf : nt + 1 ≤ 100) :
    MSt B M wv (w8.setCell ⟨M, 1, none⟩ (.slice q' (nt + 1) c')) q' nq oq c' nc oc (nt + 1) nn no (T ++ [s]) N O ∧ Below B w (w8.setCell ⟨M, 1, none⟩ (.slice q' (nt + 1) c')) := by
  have hr : Row w8 M 137 #[wv, .slice tq nt tc, .slice nq nn nc, .slice oq no oc] := ot_row_grownT (h.row.otAl o) (own_below h.tx (below_alloc (Below.refl _ _) o)) (by decide) hg
  refine ⟨⟨?_, ot_own_put hown (ot_own_ne_row hown hr (by decide)) _ _, ot_own_put (ot_own_grown (own_below h.nm (below_alloc (Below.refl _ _) o)) hg (ot_own_apartT (own_below h.nm (below_alloc (Below.refl _ _) o)) (own_below h.tx (below_alloc (Below.refl _ _) o)) (by decide))) (ot_own_ne_row (ot_own_grown (own_below h.nm (below_alloc (Below.refl _ _) o)) hg (ot_own_apartT (own_below h.nm (below_alloc (Below.refl _ _) o)) (own_below h.tx (below_alloc (Below.refl _ _) o)) (by decide))) hr (by decide)) _ _, ot_own_put (ot_own_grown (own_below h.rc (below_alloc (Below.refl _ _) o)) hg (ot_own_apartT (own_below h.rc (below_alloc (Below.refl _ _) o)) (own_below h.tx (below_alloc (Below.refl _ _) o)) (by decide))) (ot_own_ne_row (ot_own_grown (own_below h.rc (below_alloc (Below.refl _ _) o)) hg (ot_own_apartT (own_below h.rc (below_alloc (Below.refl _ _) o)) (own_below h.tx (below_alloc (Below.refl _ _) o)) (by decide))) hr (by decide)) _ _, by rw [List.length_append, h.lt]; rfl, h.ln, h.lo, h.low, by have := hf; omega, h.few.2.1, h.few.2.2⟩, ?_⟩
  · have := hr.set 1 (.slice q' (nt + 1) c')
    simpa using this
  · exact (((Below.refl B w).alloc h.lts o).grown hg (Nat.le_trans h.lts (by simp)) (fun j hj => ((own_below h.tx (below_alloc (Below.refl _ _) o)).lt j hj).1)).setCell h.low _
theorem MSt.pop_tx {B M : Nat} {wv : Value} {w : World} {tq nq oq : Option Addr} {tc nc oc nt nn no : Nat} {T : Strs} {N : List Int} {O : Recs} (h : MSt B M wv w tq nq oq tc nc oc nt nn no T N O) {V : Strs} {s : ByteArray} {k : Nat} (hL : T = V ++ [s]) (hV : V.length = k) :
    MSt B M wv (w.setCell ⟨M, 1, none⟩ (.slice tq k tc)) tq nq oq tc nc oc k nn no V N O ∧ Below B w (w.setCell ⟨M, 1, none⟩ (.slice tq k tc)) ∧ nt = k + 1 := by
  have hk : nt = k + 1 := by have := h.lt; rw [hL, List.length_append, hV] at this; simpa using this.symm
  have hd : w.ownsRow B 9 1 (.slice tq k tc) k (cellsTx V) := by
    have := ot_take h.tx (k := k) (by omega) (by omega)
    have e : (cellsTx T).take (k * 1) = cellsTx V := by
      rw [hL]; unfold cellsTx
      rw [Nat.mul_one, List.map_append, List.take_left' (by rw [List.length_map, hV])]
    rw [e] at this
    exact this
  refine ⟨⟨?_, ot_own_put hd (ot_own_ne_row hd h.row (by decide)) _ _, ot_own_put h.nm (ot_own_ne_row h.nm h.row (by decide)) _ _, ot_own_put h.rc (ot_own_ne_row h.rc h.row (by decide)) _ _, hV, h.ln, h.lo, h.low, by have := h.few; omega, h.few.2.1, h.few.2.2⟩, (Below.refl B w).setCell h.low _, hk⟩
  have := h.row.set 1 (.slice tq k tc)
  simpa using this
theorem MSt.top_tx {B M : Nat} {wv : Value} {w : World} {tq nq oq : Option Addr} {tc nc oc nt nn no : Nat} {T : Strs} {N : List Int} {O : Recs} (h : MSt B M wv w tq nq oq tc nc oc nt nn no T N O) {V : Strs} {s : ByteArray} {k : Nat} (hL : T = V ++ [s]) (hV : V.length = k) :
    ∃ g, tq = some ⟨g, 0, none⟩ ∧ w.cell? ⟨g, k, none⟩ = some (.string s) ∧ nt = k + 1 ∧ k < tc ∧ tc ≤ maxLen := by
  have hk : nt = k + 1 := by have := h.lt; rw [hL, List.length_append, hV] at this; simpa using this.symm
  rcases h.tx.2 with ⟨_, h0⟩ | ⟨g, cap, cur, hv, hb, hh, h1, h2, h3, h4⟩
  · omega
  · simp only [Value.slice.injEq] at hv
    obtain ⟨rfl, _, rfl⟩ := hv
    refine ⟨g, rfl, ?_, hk, by omega, h2⟩
    have e : (cellsTx T)[k]? = some (.string s) := by
      rw [hL]; unfold cellsTx
      rw [List.map_append, List.getElem?_append_right (by rw [List.length_map, hV]; exact Nat.le_refl _), List.length_map, hV, Nat.sub_self]
      rfl
    rw [← h4, List.getElem?_take_of_lt (by omega)] at e
    simp only [World.cell?, hh]
    simpa using e
theorem MSt.push_nm (s : Int) {B M : Nat} {wv : Value} {w w8 : World} {tq nq oq : Option Addr} {tc nc oc nt nn no : Nat} {T : Strs} {N : List Int} {O : Recs} (h : MSt B M wv w tq nq oq tc nc oc nt nn no T N O) {q' : Option Addr} {c' : Nat} (o : Obj) (hown : w8.ownsRow B 2 1 (.slice q' (nn + 1) c') (nn + 1) (cellsNm (N ++ [s]))) (hg : (w.alloc o).grownBy w8 (Value.slice nq nn nc).ownBlock) (hf : nn + 1 ≤ 100) :
    MSt B M wv (w8.setCell ⟨M, 2, none⟩ (.slice q' (nn + 1) c')) tq q' oq tc c' oc nt (nn + 1) no T (N ++ [s]) O ∧ Below B w (w8.setCell ⟨M, 2, none⟩ (.slice q' (nn + 1) c')) := by
  have hr : Row w8 M 137 #[wv, .slice tq nt tc, .slice nq nn nc, .slice oq no oc] := ot_row_grownT (h.row.otAl o) (own_below h.nm (below_alloc (Below.refl _ _) o)) (by decide) hg
  refine ⟨⟨?_, ot_own_put (ot_own_grown (own_below h.tx (below_alloc (Below.refl _ _) o)) hg (ot_own_apartT (own_below h.tx (below_alloc (Below.refl _ _) o)) (own_below h.nm (below_alloc (Below.refl _ _) o)) (by decide))) (ot_own_ne_row (ot_own_grown (own_below h.tx (below_alloc (Below.refl _ _) o)) hg (ot_own_apartT (own_below h.tx (below_alloc (Below.refl _ _) o)) (own_below h.nm (below_alloc (Below.refl _ _) o)) (by decide))) hr (by decide)) _ _, ot_own_put hown (ot_own_ne_row hown hr (by decide)) _ _, ot_own_put (ot_own_grown (own_below h.rc (below_alloc (Below.refl _ _) o)) hg (ot_own_apartT (own_below h.rc (below_alloc (Below.refl _ _) o)) (own_below h.nm (below_alloc (Below.refl _ _) o)) (by decide))) (ot_own_ne_row (ot_own_grown (own_below h.rc (below_alloc (Below.refl _ _) o)) hg (ot_own_apartT (own_below h.rc (below_alloc (Below.refl _ _) o)) (own_below h.nm (below_alloc (Below.refl _ _) o)) (by decide))) hr (by decide)) _ _, h.lt, by rw [List.length_append, h.ln]; rfl, h.lo, h.low, h.few.1, by have := hf; omega, h.few.2.2⟩, ?_⟩
  · have := hr.set 2 (.slice q' (nn + 1) c')
    simpa using this
  · exact (((Below.refl B w).alloc h.lts o).grown hg (Nat.le_trans h.lts (by simp)) (fun j hj => ((own_below h.nm (below_alloc (Below.refl _ _) o)).lt j hj).1)).setCell h.low _
theorem MSt.pop_nm {B M : Nat} {wv : Value} {w : World} {tq nq oq : Option Addr} {tc nc oc nt nn no : Nat} {T : Strs} {N : List Int} {O : Recs} (h : MSt B M wv w tq nq oq tc nc oc nt nn no T N O) {V : List Int} {s : Int} {k : Nat} (hL : N = V ++ [s]) (hV : V.length = k) :
    MSt B M wv (w.setCell ⟨M, 2, none⟩ (.slice nq k nc)) tq nq oq tc nc oc nt k no T V O ∧ Below B w (w.setCell ⟨M, 2, none⟩ (.slice nq k nc)) ∧ nn = k + 1 := by
  have hk : nn = k + 1 := by have := h.ln; rw [hL, List.length_append, hV] at this; simpa using this.symm
  have hd : w.ownsRow B 2 1 (.slice nq k nc) k (cellsNm V) := by
    have := ot_take h.nm (k := k) (by omega) (by omega)
    have e : (cellsNm N).take (k * 1) = cellsNm V := by
      rw [hL]; unfold cellsNm
      rw [Nat.mul_one, List.map_append, List.take_left' (by rw [List.length_map, hV])]
    rw [e] at this
    exact this
  refine ⟨⟨?_, ot_own_put h.tx (ot_own_ne_row h.tx h.row (by decide)) _ _, ot_own_put hd (ot_own_ne_row hd h.row (by decide)) _ _, ot_own_put h.rc (ot_own_ne_row h.rc h.row (by decide)) _ _, h.lt, hV, h.lo, h.low, h.few.1, by have := h.few; omega, h.few.2.2⟩, (Below.refl B w).setCell h.low _, hk⟩
  have := h.row.set 2 (.slice nq k nc)
  simpa using this
theorem MSt.top_nm {B M : Nat} {wv : Value} {w : World} {tq nq oq : Option Addr} {tc nc oc nt nn no : Nat} {T : Strs} {N : List Int} {O : Recs} (h : MSt B M wv w tq nq oq tc nc oc nt nn no T N O) {V : List Int} {s : Int} {k : Nat} (hL : N = V ++ [s]) (hV : V.length = k) :
    ∃ g, nq = some ⟨g, 0, none⟩ ∧ w.cell? ⟨g, k, none⟩ = some (.int .i64 s) ∧ nn = k + 1 ∧ k < nc ∧ nc ≤ maxLen := by
  have hk : nn = k + 1 := by have := h.ln; rw [hL, List.length_append, hV] at this; simpa using this.symm
  rcases h.nm.2 with ⟨_, h0⟩ | ⟨g, cap, cur, hv, hb, hh, h1, h2, h3, h4⟩
  · omega
  · simp only [Value.slice.injEq] at hv
    obtain ⟨rfl, _, rfl⟩ := hv
    refine ⟨g, rfl, ?_, hk, by omega, h2⟩
    have e : (cellsNm N)[k]? = some (.int .i64 s) := by
      rw [hL]; unfold cellsNm
      rw [List.map_append, List.getElem?_append_right (by rw [List.length_map, hV]; exact Nat.le_refl _), List.length_map, hV, Nat.sub_self]
      rfl
    rw [← h4, List.getElem?_take_of_lt (by omega)] at e
    simp only [World.cell?, hh]
    simpa using e
theorem MSt.push_rc (s : ByteArray) (m : Int) {B M : Nat} {wv : Value} {w w8 : World} {tq nq oq : Option Addr} {tc nc oc nt nn no : Nat} {T : Strs} {N : List Int} {O : Recs} (h : MSt B M wv w tq nq oq tc nc oc nt nn no T N O) {q' : Option Addr} {c' : Nat} (o : Obj) (hown : w8.ownsRow B 50 2 (.slice q' (no + 1) c') (no + 1) (cellsRc (O ++ [(s, m)]))) (hg : (w.alloc o).grownBy w8 (Value.slice oq no oc).ownBlock) (hf : no + 1 ≤ 100) :
    MSt B M wv (w8.setCell ⟨M, 3, none⟩ (.slice q' (no + 1) c')) tq nq q' tc nc c' nt nn (no + 1) T N (O ++ [(s, m)]) ∧ Below B w (w8.setCell ⟨M, 3, none⟩ (.slice q' (no + 1) c')) := by
  have hr : Row w8 M 137 #[wv, .slice tq nt tc, .slice nq nn nc, .slice oq no oc] := ot_row_grownT (h.row.otAl o) (own_below h.rc (below_alloc (Below.refl _ _) o)) (by decide) hg
  refine ⟨⟨?_, ot_own_put (ot_own_grown (own_below h.tx (below_alloc (Below.refl _ _) o)) hg (ot_own_apartT (own_below h.tx (below_alloc (Below.refl _ _) o)) (own_below h.rc (below_alloc (Below.refl _ _) o)) (by decide))) (ot_own_ne_row (ot_own_grown (own_below h.tx (below_alloc (Below.refl _ _) o)) hg (ot_own_apartT (own_below h.tx (below_alloc (Below.refl _ _) o)) (own_below h.rc (below_alloc (Below.refl _ _) o)) (by decide))) hr (by decide)) _ _, ot_own_put (ot_own_grown (own_below h.nm (below_alloc (Below.refl _ _) o)) hg (ot_own_apartT (own_below h.nm (below_alloc (Below.refl _ _) o)) (own_below h.rc (below_alloc (Below.refl _ _) o)) (by decide))) (ot_own_ne_row (ot_own_grown (own_below h.nm (below_alloc (Below.refl _ _) o)) hg (ot_own_apartT (own_below h.nm (below_alloc (Below.refl _ _) o)) (own_below h.rc (below_alloc (Below.refl _ _) o)) (by decide))) hr (by decide)) _ _, ot_own_put hown (ot_own_ne_row hown hr (by decide)) _ _, h.lt, h.ln, by rw [List.length_append, h.lo]; rfl, h.low, h.few.1, h.few.2.1, by have := hf; omega⟩, ?_⟩
  · have := hr.set 3 (.slice q' (no + 1) c')
    simpa using this
  · exact (((Below.refl B w).alloc h.lts o).grown hg (Nat.le_trans h.lts (by simp)) (fun j hj => ((own_below h.rc (below_alloc (Below.refl _ _) o)).lt j hj).1)).setCell h.low _
end Go.Proofs.YtdphganbnlmgcaaGreatDoor
namespace Go.Proofs.YtdphganbnlmgcaaGreatDoor
open Go.ChangeShapes Go.WideShapes Go.ChangeAt Go.RowKit
set_option linter.unusedVariables false
set_option maxRecDepth 100000

/-- The end of a method that turns the machine. -/
def MEnd (B M : Nat) (wv v : Value) (T : Strs) (N : List Int) (O : Recs) (w : World) (e : Ending) (w' : World) : Prop := e = .returned v ∧ MAt B M wv w' T N O ∧ Below B w w'
theorem one_at (w : World) (x : Value) (t : TypeId) : ∀ j u, [x][j]? = some u → (w.alloc (.cells #[x] t)).cell? ((⟨w.heap.size, 0, none⟩ : Addr).add j) = some u := one_new w x t

set_option maxHeartbeats 2000000 in
theorem pushText_any (B M : Nat) (wv : Value) (w : World) (T : Strs) (N : List Int) (O : Recs) (s : ByteArray) (h : MAt B M wv w T N O) (hf : T.length < 100) :
    Calls Tryz.prog 120 #[.pointer (some ⟨M, 0, none⟩), .string s] w (MEnd B M wv (.tuple #[]) (T ++ [s]) N O w) := by
  obtain ⟨tq, nq, oq, tc, nc, oc, nt, nn, no, h⟩ := h
  have hn : nt + 1 ≤ 100 := by have := h.lt; omega
  obtain ⟨i0, hi, hz0, hz1, hz2⟩ := info_parts infoStr
  have HM := Lib.hid h
  have HF := Lib.hid hn
  have HR := Lib.hid (h.row.otAl (.cells #[.string s] 9))
  have k0 := h.row.cell (j := 0) (by simp)
  have k1 := h.row.cell (j := 1) (by simp)
  have k2 := h.row.cell (j := 2) (by simp)
  have k3 := h.row.cell (j := 3) (by simp)
  simp at k0 k1 k2 k3
  have f1 := h.row.free 1
  have a1 : (w.alloc (.cells #[.string s] 9)).cell? ⟨M, 1, none⟩ = some (.slice tq nt tc) := (World.cell?_alloc_past _ _ _ h.row.lt).trans k1
  clear h hf
  go_enter Tryz.func120, Tryz.ntmps120
  go_wp2_with (at_builtin; (refine wpList_append_own _ rfl _ _ 23 rfl B 9 i0 _ 1 16 Tryz.underlying23 hi hz0 hz1 hz2 rfl (by decide) _ _ _ rfl (own_below HM.out.tx (below_alloc (Below.refl _ _) _)) ⟨w.heap.size, 0, none⟩ 1 1 [.string s] rfl rfl (one_at _ _ _) (fun u hu => by simp at hu; subst hu; rfl) (by unfold maxLen; omega) (by omega) (Nat.le_trans HM.out.lts (by simp)) ?_); intro v' w8 hown hgrow _; obtain ⟨q', c', rfl⟩ := own_form hown; have HP := Lib.hid (HM.out.push_tx s _ (by unfold cellsTx; rw [List.map_append]; exact hown) hgrow HF.out); have hr8 := Lib.hid (ot_row_grownT HR.out (own_below HM.out.tx (below_alloc (Below.refl _ _) _)) (by decide) hgrow); have f8 := hr8.out.free 1; have k8 := hr8.out.cell (j := 1) (by simp); simp at k8; clear hown hgrow hr8)
  go_end0
  exact ⟨rfl, ⟨_, _, _, _, _, _, _, _, _, HP.out.1⟩, HP.out.2⟩

set_option maxHeartbeats 2000000 in
theorem pushNum_any (B M : Nat) (wv : Value) (w : World) (T : Strs) (N : List Int) (O : Recs) (s : Int) (h : MAt B M wv w T N O) (hf : N.length < 100) :
    Calls Tryz.prog 124 #[.pointer (some ⟨M, 0, none⟩), .int .i64 s] w (MEnd B M wv (.tuple #[]) T (N ++ [s]) O w) := by
  obtain ⟨tq, nq, oq, tc, nc, oc, nt, nn, no, h⟩ := h
  have hn : nn + 1 ≤ 100 := by have := h.ln; omega
  obtain ⟨i0, hi, hz0, hz1, hz2⟩ := info_parts infoNumM
  have HM := Lib.hid h
  have HF := Lib.hid hn
  have HR := Lib.hid (h.row.otAl (.cells #[.int .i64 s] 2))
  have k0 := h.row.cell (j := 0) (by simp)
  have k1 := h.row.cell (j := 1) (by simp)
  have k2 := h.row.cell (j := 2) (by simp)
  have k3 := h.row.cell (j := 3) (by simp)
  simp at k0 k1 k2 k3
  have f1 := h.row.free 2
  have a2 : (w.alloc (.cells #[.int .i64 s] 2)).cell? ⟨M, 2, none⟩ = some (.slice nq nn nc) := (World.cell?_alloc_past _ _ _ h.row.lt).trans k2
  clear h hf
  go_enter Tryz.func124, Tryz.ntmps124
  go_wp2_with (at_builtin; (refine wpList_append_own _ rfl _ _ 135 rfl B 2 i0 _ 1 8 Tryz.underlying135 hi hz0 hz1 hz2 rfl (by decide) _ _ _ rfl (own_below HM.out.nm (below_alloc (Below.refl _ _) _)) ⟨w.heap.size, 0, none⟩ 1 1 [.int .i64 s] rfl rfl (one_at _ _ _) (fun u hu => by simp at hu; subst hu; rfl) (by unfold maxLen; omega) (by omega) (Nat.le_trans HM.out.lts (by simp)) ?_); intro v' w8 hown hgrow _; obtain ⟨q', c', rfl⟩ := own_form hown; have HP := Lib.hid (HM.out.push_nm s _ (by unfold cellsNm; rw [List.map_append]; exact hown) hgrow HF.out); have hr8 := Lib.hid (ot_row_grownT HR.out (own_below HM.out.nm (below_alloc (Below.refl _ _) _)) (by decide) hgrow); have f8 := hr8.out.free 2; have k8 := hr8.out.cell (j := 2) (by simp); simp at k8; clear hown hgrow hr8)
  go_end0
  exact ⟨rfl, ⟨_, _, _, _, _, _, _, _, _, HP.out.1⟩, HP.out.2⟩

set_option maxHeartbeats 2000000 in
theorem emit_any (B M : Nat) (wv : Value) (w : World) (T : Strs) (N : List Int) (O : Recs) (s : ByteArray) (m : Int) (h : MAt B M wv w T N O) (hf : O.length < 100) :
    Calls Tryz.prog 158 #[.pointer (some ⟨M, 0, none⟩), .string s, .int .i64 m] w (MEnd B M wv (.tuple #[]) T N (O ++ [(s, m)]) w) := by
  obtain ⟨tq, nq, oq, tc, nc, oc, nt, nn, no, h⟩ := h
  have hn : no + 1 ≤ 100 := by have := h.lo; omega
  have HM := Lib.hid h
  have HF := Lib.hid hn
  have HR := Lib.hid (h.row.otAl (.cells #[.string s, .int .i64 m] 50))
  have k0 := h.row.cell (j := 0) (by simp)
  have k1 := h.row.cell (j := 1) (by simp)
  have k2 := h.row.cell (j := 2) (by simp)
  have k3 := h.row.cell (j := 3) (by simp)
  simp at k0 k1 k2 k3
  have f1 := h.row.free 3
  clear h hf
  go_enter Tryz.func158, Tryz.ntmps158
  go_wp2_with (at_builtin; go_loud (refine append1_rc rfl _ _ rfl B (.slice oq no oc) no O rfl (own_below HM.out.rc (below_alloc (Below.refl _ _) _)) w.heap.size _ s m rfl (rc_new w _ _ _) (by omega) (Nat.le_trans HM.out.lts (by simp)) ?_); intro q' c' w8 hown hgrow; have HP := Lib.hid (HM.out.push_rc s m _ hown hgrow HF.out); have hr8 := Lib.hid (ot_row_grownT HR.out (own_below HM.out.rc (below_alloc (Below.refl _ _) _)) (by decide) hgrow); have f8 := hr8.out.free 3; have k8 := hr8.out.cell (j := 3) (by simp); simp at k8; clear hown hgrow hr8)
  go_end0
  exact ⟨rfl, ⟨_, _, _, _, _, _, _, _, _, HP.out.1⟩, HP.out.2⟩

set_option maxHeartbeats 2000000 in
theorem popText_any (B M : Nat) (wv : Value) (w : World) (T : Strs) (N : List Int) (O : Recs) (V : Strs) (s : ByteArray) (h : MAt B M wv w T N O) (hL : T = V ++ [s]) :
    Calls Tryz.prog 128 #[.pointer (some ⟨M, 0, none⟩)] w (MEnd B M wv (.string s) V N O w) := by
  obtain ⟨tq, nq, oq, tc, nc, oc, nt, nn, no, h⟩ := h
  have HM := Lib.hid (h.pop_tx hL rfl)
  obtain ⟨g, hg, ct, hk, hc, hcm⟩ := h.top_tx hL rfl
  have hfew := h.few
  obtain ⟨k, hkl⟩ : ∃ k, V.length = k := ⟨_, rfl⟩
  rw [hkl] at HM ct hk hc
  subst hg
  subst hk
  unfold maxLen at hcm
  have k0 := h.row.cell (j := 0) (by simp)
  have k1 := h.row.cell (j := 1) (by simp)
  have k2 := h.row.cell (j := 2) (by simp)
  have k3 := h.row.cell (j := 3) (by simp)
  simp at k0 k1 k2 k3
  have f1 := h.row.free 1
  have e1 : ((k : Int) + 1) - 1 = (k : Int) := by omega
  have sw : IntKind.i64.wrap ((k : Int) + 1 - 1) = (k : Int) := by rw [e1]; exact IntWalk.i64_in _ (by omega)
  clear h hL hkl
  go_enter Tryz.func128, Tryz.ntmps128
  go_wp2
  go_ret
  exact ⟨rfl, ⟨_, _, _, _, _, _, _, _, _, HM.out.1⟩, HM.out.2.1⟩

set_option maxHeartbeats 2000000 in
theorem popNum_any (B M : Nat) (wv : Value) (w : World) (T : Strs) (N : List Int) (O : Recs) (V : List Int) (s : Int) (h : MAt B M wv w T N O) (hL : N = V ++ [s]) :
    Calls Tryz.prog 133 #[.pointer (some ⟨M, 0, none⟩)] w (MEnd B M wv (.int .i64 s) T V O w) := by
  obtain ⟨tq, nq, oq, tc, nc, oc, nt, nn, no, h⟩ := h
  have HM := Lib.hid (h.pop_nm hL rfl)
  obtain ⟨g, hg, ct, hk, hc, hcm⟩ := h.top_nm hL rfl
  have hfew := h.few
  obtain ⟨k, hkl⟩ : ∃ k, V.length = k := ⟨_, rfl⟩
  rw [hkl] at HM ct hk hc
  subst hg
  subst hk
  unfold maxLen at hcm
  have k0 := h.row.cell (j := 0) (by simp)
  have k1 := h.row.cell (j := 1) (by simp)
  have k2 := h.row.cell (j := 2) (by simp)
  have k3 := h.row.cell (j := 3) (by simp)
  simp at k0 k1 k2 k3
  have f1 := h.row.free 2
  have e1 : ((k : Int) + 1) - 1 = (k : Int) := by omega
  have sw : IntKind.i64.wrap ((k : Int) + 1 - 1) = (k : Int) := by rw [e1]; exact IntWalk.i64_in _ (by omega)
  clear h hL hkl
  go_enter Tryz.func133, Tryz.ntmps133
  go_wp2
  go_ret
  exact ⟨rfl, ⟨_, _, _, _, _, _, _, _, _, HM.out.1⟩, HM.out.2.1⟩

theorem mword_any (B M : Nat) (wq : Option Addr) (wn wc : Nat) (ws : Strs) (w : World) (T : Strs) (N : List Int) (O : Recs) (i : Int) (h : MAt B M (.slice wq wn wc) w T N O) (hw : StrsAt w wq wn ws) (hi : 0 ≤ i) :
    Calls Tryz.prog 121 #[.pointer (some ⟨M, 0, none⟩), .int .i64 i] w fun e w' => e = .returned (.string (wordAt ws i)) ∧ w' = w := by
  obtain ⟨tq, nq, oq, tc, nc, oc, nt, nn, no, h⟩ := h
  have hl := hw.length
  have k0 := h.row.cell (j := 0) (by simp)
  have k1 := h.row.cell (j := 1) (by simp)
  have k2 := h.row.cell (j := 2) (by simp)
  have k3 := h.row.cell (j := 3) (by simp)
  simp at k0 k1 k2 k3
  clear h
  by_cases hlt : i < (wn : Int)
  · obtain ⟨j, rfl⟩ : ∃ j : Nat, i = j := ⟨i.toNat, by omega⟩
    rcases hw.src with h0 | ⟨b, off, rfl, _, hc⟩
    · omega
    have cw := hc j (by omega)
    have HR := Lib.hid (show wordAt ws j = strAt ws j by unfold wordAt; rw [if_pos (by omega)]; rfl)
    obtain ⟨x, hx⟩ : ∃ x, strAt ws j = x := ⟨_, rfl⟩
    rw [hx] at HR cw
    have hge : ¬ (wn : Int) ≤ (j : Int) := by omega
    clear hc hw hx
    go_enter Tryz.func121, Tryz.ntmps121
    go_wp2
    go_ret
    exact ⟨by rw [HR.out]; rfl, rfl⟩
  · have HR := Lib.hid (show wordAt ws i = ⟨#[]⟩ by unfold wordAt; rw [if_neg (by omega)]; rfl)
    have hge : (wn : Int) ≤ i := by omega
    clear hw
    go_enter Tryz.func121, Tryz.ntmps121
    go_wp2
    go_ret
    exact ⟨by rw [HR.out]; rfl, rfl⟩

/-- Whether the text that was pushed last is too long. -/
theorem toolong_any (B M : Nat) (wv : Value) (w : World) (T : Strs) (N : List Int) (O : Recs) (h : MAt B M wv w T N O) (b : Bool) (hb : (∀ V s, T = V ++ [s] → b = decide (40 < s.size)) ∧ (T = [] → b = false)) :
    Calls Tryz.prog 94 #[.pointer (some ⟨M, 0, none⟩)] w fun e w' => e = .returned (.bool b) ∧ w' = w := by
  obtain ⟨tq, nq, oq, tc, nc, oc, nt, nn, no, h⟩ := h
  have hfew := h.few
  rcases List.eq_nil_or_concat T with hT | ⟨V, s, hT⟩
  · have hb2 := hb.2 hT
    subst hb2
    have hn0 : nt = 0 := by have := h.lt; rw [hT] at this; exact this.symm
    subst hn0
    have k0 := h.row.cell (j := 0) (by simp)
    have k1 := h.row.cell (j := 1) (by simp)
    have k2 := h.row.cell (j := 2) (by simp)
    have k3 := h.row.cell (j := 3) (by simp)
    simp at k0 k1 k2 k3
    clear h hb
    have sw : IntKind.i64.wrap (-1) = -1 := by decide
    go_enter Tryz.func94, Tryz.ntmps94
    go_wp2
    go_ret
    exact ⟨rfl, rfl⟩
  · rw [List.concat_eq_append] at hT
    have hb2 := hb.1 V s hT
    obtain ⟨g, hg, ct, hk, hc, hcm⟩ := h.top_tx hT rfl
    obtain ⟨k, hkl⟩ : ∃ k, V.length = k := ⟨_, rfl⟩
    rw [hkl] at ct hk hc
    subst hg
    subst hk
    have e1 : ((k : Int) + 1) - 1 = (k : Int) := by omega
    have sw : IntKind.i64.wrap ((k : Int) + 1 - 1) = (k : Int) := by rw [e1]; exact IntWalk.i64_in _ (by omega)
    have HB := Lib.hid (show b = decide ((40 : Int) < (s.size : Int)) by rw [hb2]; exact decide_eq_decide.2 (by omega))
    have k0 := h.row.cell (j := 0) (by simp)
    have k1 := h.row.cell (j := 1) (by simp)
    have k2 := h.row.cell (j := 2) (by simp)
    have k3 := h.row.cell (j := 3) (by simp)
    simp at k0 k1 k2 k3
    clear h hb hT hb2 hkl
    have hk0 : (0 : Int) ≤ (k : Int) := by omega
    go_enter Tryz.func94, Tryz.ntmps94
    go_wp2
    go_ret
    exact ⟨by rw [HB.out]; rfl, rfl⟩
end Go.Proofs.YtdphganbnlmgcaaGreatDoor
