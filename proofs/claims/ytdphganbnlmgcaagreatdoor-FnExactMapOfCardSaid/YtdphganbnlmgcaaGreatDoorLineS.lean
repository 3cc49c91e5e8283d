
/- The model's EvalLine. Only new blocks are made. -/
import Derived.Test.YtdphganbnlmgcaaGreatDoorMg13
import Derived.Test.YtdphganbnlmgcaaGreatDoorMg17
namespace Go.Proofs.YtdphganbnlmgcaaGreatDoor
open Go.ChangeShapes Go.WideShapes Go.ChangeAt Go.RowKit
set_option linter.unusedVariables false
set_option maxRecDepth 100000

theorem strs_sub {w : World} {b off n : Nat} {ws : Strs} (h : StrsAt w (some ⟨b, off, none⟩) n ws) {i : Nat} (hi : i < n) : StrsAt w (some ⟨b, off + i, none⟩) 1 [strAt ws i] := by
  refine ⟨rfl, by unfold maxLen; omega, fun j hj => ?_, ?_⟩
  · obtain rfl : j = 0 := by omega
    exact h.sizes i hi
  · rcases h.src with h0 | ⟨b2, off2, ha, hb, hc⟩
    · omega
    · simp only [Option.some.injEq, Addr.mk.injEq, and_true] at ha
      obtain ⟨rfl, rfl⟩ := ha
      refine .inr ⟨b, off + i, rfl, hb, fun j hj => ?_⟩
      obtain rfl : j = 0 := by omega
      exact hc i hi
theorem ws_some {base : Nat} {w : World} {q : Option Addr} {W : List (List UInt8)} (h : Ws base w q W) (h0 : 0 < W.length) : ∃ g, q = some ⟨g, 0, none⟩ ∧ base ≤ g := by
  rcases h with h1 | ⟨g, cur, hq, hb, _⟩
  · omega
  · exact ⟨g, hq, hb⟩
/-- The words of a line, as a slice that may be read. -/
theorem strs_wordsB {base : Nat} {w : World} {q : Option Addr} {s : ByteArray} (h : Ws base w q ((wordsL s.data.toList).take 20)) (hs : s.size ≤ 1048576) : StrsAt w q ((wordsL s.data.toList).take 20).length (wordsB s) :=
  strs_of_ws h (words_short s (by unfold maxLen; omega))
theorem wordsB_len (s : ByteArray) : (wordsB s).length = ((wordsL s.data.toList).take 20).length := by unfold wordsB strsOf; rw [List.length_map]

/-- The model's rounds over the words. -/
structure LnS (l : Instrs) (ws : Strs) (w wr : World) (qo : Option Addr) (co : Nat) (k : Nat) (O : Recs) (wq : Option Addr) (B : Nat) (WL : List (List UInt8)) : Prop where
  ev : eachTo l ws k = (O, 0)
  own : wr.ownsRow w.heap.size 50 2 (.slice qo O.length co) O.length (cellsRc O)
  words : Ws B wr wq WL
  below : Below w.heap.size w wr
theorem LnS.keep {l : Instrs} {ws : Strs} {w wr w1 : World} {qo : Option Addr} {co : Nat} {k : Nat} {O : Recs} {wq : Option Addr} {B : Nat} {WL : List (List UInt8)} (h : LnS l ws w wr qo co k O wq B WL) (hB : Below wr.heap.size wr w1) : LnS l ws w w1 qo co k O wq B WL :=
  ⟨h.ev, own_below h.own hB, ws_keep h.words hB, below_via h.below hB⟩
theorem ws_apart {base bo : Nat} {w w1 : World} {q : Option Addr} {W : List (List UInt8)} {e : TypeId} {size n : Nat} {v : Value} {xs : List Value} (h : Ws base w q W) (ho : w.ownsRow bo e size v n xs) (hT : 9 ≠ e) (hg : w.grownBy w1 v.ownBlock) : Ws base w1 q W := by
  rcases h with h0 | ⟨g, cur, hq, hb, hr, h2⟩
  · exact .inl h0
  · exact .inr ⟨g, cur, hq, hb, ot_row_grownT hr ho hT hg, h2⟩
theorem own_qcap {w : World} {base n c : Nat} {q : Option Addr} {e : TypeId} {size : Nat} {xs : List Value} (h : w.ownsRow base e size (.slice q n c) n xs) : (q = none → c = 0) ∧ n ≤ c := by
  rcases h.2 with ⟨h1, h2⟩ | ⟨g, cap, cur, hv, _, _, h3, _⟩
  · simp only [Value.slice.injEq] at h1; exact ⟨fun _ => h1.2.2, by omega⟩
  · simp only [Value.slice.injEq] at hv
    obtain ⟨rfl, _, rfl⟩ := hv
    exact ⟨(fun h => by cases h), h3⟩
theorem run_of_own {o : Recs} {w w' : World} {q : Option Addr} {c : Nat} (h : w'.ownsRow w.heap.size 50 2 (.slice q o.length c) o.length (cellsRc o)) (hB : Below w.heap.size w w') : MadeRun (o, 0) w (.returned (.tuple #[.slice q o.length c, .int .i64 0])) w' :=
  ⟨q, c, rfl, hB, rck_of_own (m := o.length) (cp := c) h, (own_qcap h).1, (own_qcap h).2⟩
theorem rck_recs {base n : Nat} {w : World} {q : Option Addr} {W : Recs} (h : RcK base w q W) (hn : W.length = n) (hk : ∀ r ∈ W, r.1.size ≤ 40 ∧ In64 r.2) (hm : n ≤ 1000000) : RecsAt w q n W := by
  refine rcs_of_k h hn (by unfold maxLen; omega) (fun i hi => ?_)
  have := (ev0_le hk i).1
  unfold evAt at this
  unfold keyAt maxLen
  omega

set_option maxHeartbeats 8000000 in
theorem sevalline_any (a : Option Addr) (len cap : Nat) (l : Instrs) (each : Bool) (s : ByteArray) (w : World) (h : InstrsAt w a len l) (hn : ∀ i, i < len → In64 (ins1 l i)) (hs : s.size ≤ 1048576) :
    Calls Tryz.prog 18 #[.slice a len cap, .bool each, .string s] w (MadeRun (lineR l each s) w) := by
  have HL := Lib.hid h.length
  have HR := Lib.hid h
  have HN := Lib.hid (show ∀ i, i < l.length → In64 (ins1 l i) from fun i hi => hn i (by rw [← h.length]; exact hi))
  have HEV := Lib.hid (fun c wq wn wc ws w (h1 : InstrsAt w a len l) (h2 : StrsAt w wq wn ws) => seval_any a len c l wq wn wc ws w h1 hn h2)
  obtain ⟨p, hp⟩ : ∃ p, progB l = p := ⟨_, rfl⟩
  have HP := Lib.hid hp
  clear h hn hp
  go_enter Tryz.func18, Tryz.ntmps18
  go_wp2_with fail
  refine (sprogok_any _ _ _ _ _ HR.out).mono ?_
  rw [HP.out]
  rintro e w1 ⟨rfl, hB⟩
  have HB := Lib.hid hB
  clear hB
  cases p with
  | false =>
    have HC := Lib.hid (show lineR l each s = ([], 1) by unfold lineR; rw [if_neg (fun h => by rw [HP.out] at h; cases h.1)])
    go_wp2
    go_ret2
    exact run_none HC.out HB.out
  | true =>
    by_cases h200 : (200 : Int) < (s.size : Int)
    · have HC := Lib.hid (show lineR l each s = ([], 1) by unfold lineR; rw [if_neg (fun h => by have := h.2; omega)])
      go_wp2
      go_ret2
      exact run_none HC.out HB.out
    · have HLN := Lib.hid (show lineR l each s = if each = true then eachTo l (wordsB s) (wordsB s).length else evalR l (wordsB s) by unfold lineR; rw [if_pos ⟨HP.out, by omega⟩])
      have hs2 : s.size ≤ 200 := by omega
      go_wp2_with fail
      refine (swords_wsc s _ hs).mono ?_
      rintro e w2 ⟨wq, wc, rfl, hws, hB, hcp, hcm⟩
      have HW := Lib.hid (strs_wordsB hws hs)
      have HWS := Lib.hid hws
      have HSHORT := Lib.hid (words_short s (by unfold maxLen; omega))
      have HWSS := Lib.hid (show wordsB s = strsOf ((wordsL s.data.toList).take 20) from rfl)
      obtain ⟨WL, hWL⟩ : ∃ WL, (wordsL s.data.toList).take 20 = WL := ⟨_, rfl⟩
      rw [hWL] at HWS HSHORT HWSS
      have HWQ := Lib.hid (fun h0 => ws_some hws h0)
      have HWL := Lib.hid (wordsB_len s)
      obtain ⟨wn, hwn⟩ : ∃ wn, ((wordsL s.data.toList).take 20).length = wn := ⟨_, rfl⟩
      have hwn20 : wn ≤ 20 := by rw [← hwn]; exact List.length_take_le _ _
      obtain ⟨ws, hws2⟩ : ∃ ws, wordsB s = ws := ⟨_, rfl⟩
      rw [hwn] at HW HWQ HWL hcp ⊢
      rw [hws2] at HW HWL HLN HWSS
      have HWN := Lib.hid (show WL.length = wn by rw [← hWL]; exact hwn)
      clear hWL
      have HB := Lib.hid (below_via HB.out hB)
      clear hws hB hwn hws2
      cases each with
      | false =>
        have HLN := Lib.hid (show lineR l false s = evalR l ws by rw [HLN.out, if_neg (by decide)])
        go_wp2_with fail
        refine (HEV.out _ _ _ _ _ _ (HR.out.keep HB.out) HW.out).mono ?_
        intro e w3 hm
        obtain ⟨q, cp, rfl, hB, hk, hq, hc⟩ := hm
        have HF := Lib.hid (show MadeRun (evalR l ws) w (.returned (.tuple #[.slice q (evalR l ws).1.length cp, .int .i64 (evalR l ws).2])) w3 from ⟨q, cp, rfl, below_via HB.out hB, rck_low hk HB.out.size, hq, hc⟩)
        obtain ⟨n, hn⟩ : ∃ n, (evalR l ws).1.length = n := ⟨_, rfl⟩
        obtain ⟨c, hc2⟩ : ∃ n, (evalR l ws).2 = n := ⟨_, rfl⟩
        rw [hn, hc2] at HF
        rw [hn, hc2]
        clear hB hk hq hc hn hc2
        go_wp2
        go_ret2
        rw [HLN.out]
        exact HF.out
      | true =>
        have HLT := Lib.hid (show lineR l true s = eachTo l ws wn by rw [HLN.out, if_pos rfl, HWL.out])
        clear HLN
        have HS0 : Hid (LnS l ws w (w2.alloc (.cells #[] 50)) (some ⟨w2.heap.size, 0, none⟩) 0 0 [] wq w1.heap.size WL) := Lib.hid
          ⟨rfl, own_zeroRc (ot_row_new w2 #[] 50) HB.out.size, ws_keep HWS.out (below_alloc (Below.refl _ _) _), below_alloc HB.out _⟩
        unfold maxLen at hcm
        clear HW
        go_wp2_with fail
        go_loopw [9, 10] (fun o i wr => ∃ (k no : Nat) (O : Recs) (qo : Option Addr) (co : Nat), k ≤ wn ∧ o = .slice qo no co ∧ i = .int .i64 k ∧ no ≤ 30 * k ∧ Hid (O.length = no) ∧ Hid (LnS l ws w wr qo co k O wq w1.heap.size WL)) (fun _ i _ => wn - (intOf i).toNat)
        case atStart => exact ⟨0, 0, [], _, _, Nat.zero_le _, rfl, rfl, Nat.le_refl _, Lib.hid rfl, HS0⟩
        case round =>
          clear HS0 HB
          obtain ⟨k, no, O, qo, co, hk, rfl, rfl, hno, HOL, HS⟩ := hrel
          by_cases hlt : k < wn
          · obtain ⟨g, rfl, hg⟩ := HWQ.out (by omega)
            have hi0 : (0 : Int) ≤ (k : Int) := by omega
            have hi1 : (k : Int) < (wn : Int) := by omega
            have hck : ¬ wc = k := by omega
            have hck2 : k < wc := by omega
            have HSUB := Lib.hid (show StrsAt wr (some ⟨g, k, none⟩) 1 [strAt ws k] from by have h1 := strs_of_ws HS.out.words HSHORT.out; rw [HWN.out, ← HWSS.out] at h1; have := strs_sub h1 hlt; simpa using this)
            obtain ⟨V, hV⟩ : ∃ V, (evalR l [strAt ws k]).1 = V := ⟨_, rfl⟩
            obtain ⟨c, hc⟩ : ∃ c, (evalR l [strAt ws k]).2 = c := ⟨_, rfl⟩
            have HRES := Lib.hid (show evalR l [strAt ws k] = (V, c) by rw [← hV, ← hc])
            have HF := Lib.hid (evalR_facts (ws := [strAt ws k]) HN.out)
            rw [HRES.out] at HF
            clear hV hc
            go_wp2_with fail
            refine (HEV.out _ _ _ _ _ _ (HR.out.keep HS.out.below) HSUB.out).mono ?_
            rw [HRES.out]
            rintro e w4 ⟨q, cp, rfl, hB, hkk, hq, hcp2⟩
            have HS := Lib.hid (HS.out.keep hB)
            obtain ⟨vn, hvn⟩ : ∃ vn, V.length = vn := ⟨_, rfl⟩
            have hv30 : vn ≤ 30 := by have := HF.out.1; omega
            have HV := Lib.hid (rck_recs hkk hvn HF.out.2.1 (by omega))
            simp only [hvn]
            have HQ := Lib.hid hq
            clear hB hkk hq hcp2 HSUB HF
            by_cases hc0 : c = 0
            · have HNX := Lib.hid (eachTo_go HS.out.ev HRES.out hc0)
              subst hc0
              go_wp2_with (at_builtin; go_loud (refine append_rc rfl _ _ rfl w.heap.size (.slice qo no co) no O rfl (by have := HS.out.own; rw [HOL.out] at this; exact this) q vn cp V rfl HV.out HQ.out (by omega) HS.out.below.size ?_); intro q5 c5 w5 hown hgrow; have HS5 := Lib.hid (show LnS l ws w w5 q5 c5 (k + 1) (O ++ V) (some ⟨g, 0, none⟩) w1.heap.size WL from ⟨HNX.out, by rw [List.length_append, HOL.out, HV.out.length]; exact hown, ws_apart HS.out.words HS.out.own (by decide) (by rw [HOL.out]; exact hgrow), HS.out.below.grown hgrow HS.out.below.size (fun j hj => (by have := HS.out.own; rw [HOL.out] at this; exact (this.lt j hj).1))⟩); clear hown hgrow)
              go_roundw
              case rel => exact ⟨k + 1, no + vn, O ++ V, q5, c5, by omega, rfl, by go_num, by omega, Lib.hid (by rw [List.length_append, HOL.out, HV.out.length]), HS5⟩
              case measure => simp [intOf]; omega
            · have HNX := Lib.hid (eachTo_stop HS.out.ev HRES.out hc0)
              have HFIN := Lib.hid (show lineR l true s = ([], c) by rw [HLT.out, eachTo_bad (k := k + 1) (n := wn) (by rw [HNX.out]; exact hc0) (by omega), HNX.out])
              have hz2 : (c == (0 : Int)) = false := by rw [beq_eq_false_iff_ne]; exact hc0
              have hz3 : (c != (0 : Int)) = true := by rw [bne_iff_ne]; exact hc0
              go_wp2
              go_ret2
              exact run_none HFIN.out HS.out.below
          · obtain rfl : k = wn := by omega
            have HFIN := Lib.hid (show lineR l true s = (O, 0) by rw [HLT.out, HS.out.ev])
            go_wp2
            go_ret2
            rw [HFIN.out]
            have := run_of_own HS.out.own HS.out.below
            rw [HOL.out] at this
            exact this
end Go.Proofs.YtdphganbnlmgcaaGreatDoor
