/- Texts put together, as a claim holds at most sixty files. -/
import Derived.Test.YtjofbeokkainlaaGreatDoorMg25
import Derived.Test.YtjofbeokkainlaaGreatDoorMg26
import Derived.Test.YtjofbeokkainlaaGreatDoorMg36
import Derived.Test.YtjofbeokkainlaaGreatDoorMg35
import Derived.Test.YtjofbeokkainlaaGreatDoorMg22
import Derived.Test.YtjofbeokkainlaaGreatDoorJobOk
import Derived.Test.YtjofbeokkainlaaGreatDoorMg18
import Derived.Test.YtjofbeokkainlaaGreatDoorMg11
import Derived.Test.YtjofbeokkainlaaGreatDoorMg1
namespace Go.Proofs.YtjofbeokkainlaaGreatDoor
open Go.ChangeShapes Go.WideShapes Go.ChangeAt Go.RowKit
set_option linter.unusedVariables false
set_option maxRecDepth 100000

theorem row_ne {w : World} {A B : Nat} {S T : TypeId} {x y : Array Value} (h : Row w A S x) (k : Row w B T y) (hne : S ≠ T) : A ≠ B := fun e => by
  subst e
  unfold Row at h k
  rw [h] at k
  simp at k
  exact hne k.2
theorem rk_of_rck {base : Nat} {w : World} {q : Option Addr} {W : Recs} (h : RcK base w q W) : Rs base w q W := h
theorem liftW_few (op : Int) (l : Recs) : (liftW op l).length ≤ 600 ∧ ∀ i, i < (liftW op l).length → (keyAt (liftW op l) i).size ≤ 40 := by
  unfold liftW
  cases h : (opOkB op && recsOkB l) with
  | false => exact ⟨by simp, fun i hi => absurd hi (by simp)⟩
  | true =>
    rw [Bool.and_eq_true] at h
    have hr := recsOk_parts h.2
    rw [if_pos rfl, liftL_len]
    refine ⟨hr.1, fun i hi => ?_⟩
    rw [(liftL_at op l i hi).1]
    have := hr.2 i hi
    unfold okAt okB at this
    simpa using this
theorem recs_lift {base : Nat} {w : World} {q : Option Addr} {op : Int} {l : Recs} {n : Nat} (h : Rs base w q (liftW op l)) (hn : (liftW op l).length = n) : RecsAt w q n (liftW op l) := by
  have hf := liftW_few op l
  rw [hn] at hf
  exact recs_of_rs h hn (by have := hf.1; unfold maxLen; omega) (fun i hi => by have := hf.2 i hi; unfold maxLen; omega)
/-- The run of part p. -/
def ofR (op n1 : Int) (V : Recs) (p : Nat) : Recs := combW op (liftW op (partL V n1 p))
/-- The runs of the first k parts. -/
def runsR (op n1 : Int) (V : Recs) (k : Nat) : List Recs := (List.range k).map (ofR op n1 V)
theorem runsR_len (op n1 : Int) (V : Recs) (k : Nat) : (runsR op n1 V k).length = k := by simp [runsR]
theorem runsR_at {op n1 : Int} {V : Recs} {k i : Nat} (h : i < k) : (runsR op n1 V k).getD i [] = ofR op n1 V i := by
  unfold runsR
  rw [List.getD_eq_getElem?_getD, List.getElem?_map, List.getElem?_range h]; rfl
/-- What a split of a valid job yields. -/
def mapR (l : Instrs) (each : Bool) (op n1 : Int) (s : ByteArray) : List Recs × Int :=
  if (emitR l each (strsOf (linesW s.data.toList))).2 = 0 then (runsR op n1 (emitR l each (strsOf (linesW s.data.toList))).1 n1.toNat, 0) else ([], (emitR l each (strsOf (linesW s.data.toList))).2)
theorem mapR_go {l : Instrs} {each : Bool} {op n1 : Int} {s : ByteArray} {V : Recs} (h : emitR l each (strsOf (linesW s.data.toList)) = (V, 0)) : mapR l each op n1 s = (runsR op n1 V n1.toNat, 0) := by
  unfold mapR; rw [h, if_pos rfl]
theorem mapR_stop {l : Instrs} {each : Bool} {op n1 : Int} {s : ByteArray} {V : Recs} {c : Int} (h : emitR l each (strsOf (linesW s.data.toList)) = (V, c)) (hc : c ≠ 0) : mapR l each op n1 s = ([], c) := by
  unfold mapR; rw [h, if_neg hc]
/-- What a map task yields. -/
def mapJ (l : Instrs) (each : Bool) (op n1 : Int) (m : Strs) (sl : Nat) (t : Int) : List Recs × Int :=
  if jobB l op n1 m sl = true ∧ 0 ≤ t ∧ t < sl then mapR l each op n1 (strAt m t.toNat) else ([], 1)
theorem mapJ_no {l : Instrs} {each : Bool} {op n1 : Int} {m : Strs} {sl : Nat} {t : Int} (h : ¬ (jobB l op n1 m sl = true ∧ 0 ≤ t ∧ t < sl)) : mapJ l each op n1 m sl t = ([], 1) := by
  unfold mapJ; rw [if_neg h]
theorem mapJ_yes {l : Instrs} {each : Bool} {op n1 : Int} {m : Strs} {sl : Nat} {t : Int} (h : jobB l op n1 m sl = true) (h0 : 0 ≤ t) (h1 : t < sl) : mapJ l each op n1 m sl t = mapR l each op n1 (strAt m t.toNat) := by
  unfold mapJ; rw [if_pos ⟨h, h0, h1⟩]
/-- Few runs, each short. -/
structure FewSS (LS : List Recs) : Prop where
  few : LS.length ≤ 3
  recs : ∀ i, i < LS.length → nAt LS i ≤ 600
  keys : ∀ i, i < LS.length → ∀ j, j < nAt LS i → (keyAt (LS.getD i []) j).size ≤ 40
theorem fewSS_nil : FewSS [] := ⟨by simp, fun i hi => absurd hi (by simp), fun i hi => absurd hi (by simp)⟩
theorem runsR_few {op n1 : Int} {V : Recs} {k : Nat} (hk : k ≤ 3) : FewSS (runsR op n1 V k) := by
  refine ⟨by rw [runsR_len]; exact hk, fun i hi => ?_, fun i hi j hj => ?_⟩
  · rw [runsR_len] at hi
    unfold nAt
    rw [runsR_at hi]
    exact (combW_few _ _).1
  · rw [runsR_len] at hi
    unfold nAt at hj
    rw [runsR_at hi] at hj ⊢
    exact (combW_few _ _).2 j hj
theorem jobB_parts {l : Instrs} {op n1 : Int} {m : Strs} {sl : Nat} (h : jobB l op n1 m sl = true) : 1 ≤ n1 ∧ n1 ≤ 3 ∧ 1 ≤ sl ∧ sl ≤ 4 ∧ opOkB op = true ∧ progB l = true := by
  unfold jobB splitsB inB at h
  simp only [Bool.and_eq_true, decide_eq_true_eq] at h
  obtain ⟨h1, h2, ⟨h3, h4⟩, ⟨h5, h6⟩, h7⟩ := h
  exact ⟨h3, h4, by omega, by omega, h2, h1⟩
theorem mapJ_few (l : Instrs) (each : Bool) (op n1 : Int) (m : Strs) (sl : Nat) (t : Int) : FewSS (mapJ l each op n1 m sl t).1 := by
  unfold mapJ
  split
  · rename_i h
    have hp := jobB_parts h.1
    unfold mapR
    split
    · exact runsR_few (by omega)
    · exact fewSS_nil
  · exact fewSS_nil
/-- The slice (q, length of LS) holds runs, each in a row of its own, from block base on. -/
def RunsB (base : Nat) (w : World) (q : Option Addr) (LS : List Recs) : Prop :=
  LS.length = 0 ∨ ∃ (G : Nat) (cur : Array Value) (g : Nat → Nat), q = some ⟨G, 0, none⟩ ∧ base ≤ G ∧ Row w G 34 cur ∧
    (∀ i, i < LS.length → ∃ p c, cur[i]? = some (.slice p (nAt LS i) c) ∧ (nAt LS i = 0 ∨ ∃ rc, p = some ⟨g i, 0, none⟩ ∧ base ≤ g i ∧ Row w (g i) 37 rc ∧ nAt LS i * 2 ≤ rc.size ∧ Laid rc (LS.getD i []) (nAt LS i))) ∧
    ∀ i j, i < j → j < LS.length → 0 < nAt LS i → 0 < nAt LS j → g i ≠ g j
theorem runsB_nil (base : Nat) (w : World) (q : Option Addr) : RunsB base w q [] := .inl rfl
theorem RunsB.keep {base : Nat} {w w1 : World} {q : Option Addr} {LS : List Recs} (h : RunsB base w q LS) (hB : Below w.heap.size w w1) : RunsB base w1 q LS := by
  rcases h with h | ⟨G, cur, g, hq, hb, hr, hi, hd⟩
  · exact .inl h
  · refine .inr ⟨G, cur, g, hq, hb, hr.keep hB, fun i hi2 => ?_, hd⟩
    obtain ⟨p, c, e1, e2⟩ := hi i hi2
    refine ⟨p, c, e1, ?_⟩
    rcases e2 with e2 | ⟨rc, r1, r2, r3, r4, r5⟩
    · exact .inl e2
    · exact .inr ⟨rc, r1, r2, r3.keep hB, r4, r5⟩
theorem RunsB.low {b1 b2 : Nat} {w : World} {q : Option Addr} {LS : List Recs} (h : RunsB b1 w q LS) (hb : b2 ≤ b1) : RunsB b2 w q LS := by
  rcases h with h | ⟨G, cur, g, hq, hb1, hr, hi, hd⟩
  · exact .inl h
  · refine .inr ⟨G, cur, g, hq, by omega, hr, fun i hi2 => ?_, hd⟩
    obtain ⟨p, c, e1, e2⟩ := hi i hi2
    refine ⟨p, c, e1, ?_⟩
    rcases e2 with e2 | ⟨rc, r1, r2, r3, r4, r5⟩
    · exact .inl e2
    · exact .inr ⟨rc, r1, by omega, r3, r4, r5⟩
theorem RunsB.grown {base : Nat} {w w1 : World} {q : Option Addr} {LS : List Recs} {X : Nat} (h : RunsB base w q LS) (hg : w.grownBy w1 (some X)) (hX : X < base) : RunsB base w1 q LS := by
  rcases h with h | ⟨G, cur, g, hq, hb, hr, hi, hd⟩
  · exact .inl h
  · refine .inr ⟨G, cur, g, hq, hb, hr.grown hg (by simp; omega), fun i hi2 => ?_, hd⟩
    obtain ⟨p, c, e1, e2⟩ := hi i hi2
    refine ⟨p, c, e1, ?_⟩
    rcases e2 with e2 | ⟨rc, r1, r2, r3, r4, r5⟩
    · exact .inl e2
    · exact .inr ⟨rc, r1, r2, r3.grown hg (by simp; omega), r4, r5⟩
theorem RunsB.ls {base : Nat} {w : World} {q : Option Addr} {LS : List Recs} (h : RunsB base w q LS) (hf : FewSS LS) : RunLs w q LS.length LS := by
  refine ⟨rfl, by have := hf.few; unfold maxLen; omega, ?_⟩
  rcases h with h | ⟨G, cur, g, hq, hb, hr, hi, hd⟩
  · exact .inl h
  · refine .inr ⟨G, 0, hq, hr.lt, fun i hi2 => ?_⟩
    obtain ⟨p, c, e1, e2⟩ := hi i hi2
    refine ⟨p, nAt LS i, c, by unfold Row at hr; simp [World.cell?, hr, e1], rfl, by have := hf.recs i hi2; unfold maxLen; omega, fun j hj => by have := hf.keys i hi2 j hj; unfold maxLen; omega, ?_⟩
    rcases e2 with e2 | ⟨rc, r1, r2, r3, r4, r5⟩
    · exact .inl e2
    · refine .inr ⟨g i, 0, r1, r3.lt, fun j hj => ?_⟩
      obtain ⟨x1, x2⟩ := r5 j hj
      unfold Row at r3
      constructor
      · simp [World.cell?, r3, x1]
      · simp [World.cell?, r3, x2]
/-- The end of a map task: its runs, in rows of their own, and its code. -/
def MadeSS (o : List Recs × Int) (w : World) (e : Ending) (w' : World) : Prop :=
  ∃ q cp, e = .returned (.tuple #[.slice q o.1.length cp, .int .i64 o.2]) ∧ Below w.heap.size w w' ∧ RunsB w.heap.size w' q o.1
theorem ss_none {o : List Recs × Int} {c : Int} {w w' : World} (h : o = ([], c)) (hB : Below w.heap.size w w') : MadeSS o w (.returned (.tuple #[.slice none 0 0, .int .i64 c])) w' := by
  subst h; exact ⟨none, 0, rfl, hB, runsB_nil _ _ _⟩
end Go.Proofs.YtjofbeokkainlaaGreatDoor
namespace Go.Proofs.YtjofbeokkainlaaGreatDoor
open Go.ChangeShapes Go.WideShapes Go.ChangeAt Go.RowKit
set_option linter.unusedVariables false
set_option maxRecDepth 100000

theorem strs_sub {w : World} {b off n : Nat} {ws : Strs} (h : StrsAt w (some ⟨b, off, none⟩) n ws) {i : Nat} (hi : i < n) : StrsAt w (some ⟨b, off + i, none⟩) 1 [strAt ws i] := by
  refine ⟨rfl, by unfold maxLen; omega, fun j hj => ?_, ?_⟩
  · obtain rfl : j = 0 := by omega
    exact h.sizes i hi
  · rcases h.src with h0 | ⟨b2, off2, ha, hb, hc⟩
    · omega
    · simp only [Option.some.injEq, Addr.mk.injEq, and_true] at ha
      obtain ⟨rfl, rfl⟩ := ha
      refine .inr ⟨b, off + i, rfl, hb, fun j hj => ?_⟩
      obtain rfl : j = 0 := by omega
      exact hc i hi
theorem ws_some {base : Nat} {w : World} {q : Option Addr} {W : List (List UInt8)} (h : Ws base w q W) (h0 : 0 < W.length) : ∃ g, q = some ⟨g, 0, none⟩ ∧ base ≤ g := by
  rcases h with h1 | ⟨g, cur, hq, hb, _⟩
  · omega
  · exact ⟨g, hq, hb⟩
/-- The words of a line, as a slice that may be read. -/
theorem strs_wordsB {base : Nat} {w : World} {q : Option Addr} {s : ByteArray} (h : Ws base w q ((wordsL s.data.toList).take 20)) (hs : s.size ≤ 1048576) : StrsAt w q ((wordsL s.data.toList).take 20).length (wordsB s) :=
  strs_of_ws h (words_short s (by unfold maxLen; omega))
theorem wordsB_len (s : ByteArray) : (wordsB s).length = ((wordsL s.data.toList).take 20).length := by unfold wordsB strsOf; rw [List.length_map]

/-- The model's rounds over the words. -/
structure LnS (l : Instrs) (ws : Strs) (w wr : World) (qo : Option Addr) (co : Nat) (k : Nat) (O : Recs) (wq : Option Addr) (B : Nat) (WL : List (List UInt8)) : Prop where
  ev : eachTo l ws k = (O, 0)
  own : wr.ownsRow w.heap.size 37 2 (.slice qo O.length co) O.length (cellsRc O)
  words : Ws B wr wq WL
  below : Below w.heap.size w wr
theorem LnS.keep {l : Instrs} {ws : Strs} {w wr w1 : World} {qo : Option Addr} {co : Nat} {k : Nat} {O : Recs} {wq : Option Addr} {B : Nat} {WL : List (List UInt8)} (h : LnS l ws w wr qo co k O wq B WL) (hB : Below wr.heap.size wr w1) : LnS l ws w w1 qo co k O wq B WL :=
  ⟨h.ev, own_below h.own hB, ws_keep h.words hB, below_via h.below hB⟩
theorem ws_apart {base bo : Nat} {w w1 : World} {q : Option Addr} {W : List (List UInt8)} {e : TypeId} {size n : Nat} {v : Value} {xs : List Value} (h : Ws base w q W) (ho : w.ownsRow bo e size v n xs) (hT : 9 ≠ e) (hg : w.grownBy w1 v.ownBlock) : Ws base w1 q W := by
  rcases h with h0 | ⟨g, cur, hq, hb, hr, h2⟩
  · exact .inl h0
  · exact .inr ⟨g, cur, hq, hb, ot_row_grownT hr ho hT hg, h2⟩
theorem own_qcap {w : World} {base n c : Nat} {q : Option Addr} {e : TypeId} {size : Nat} {xs : List Value} (h : w.ownsRow base e size (.slice q n c) n xs) : (q = none → c = 0) ∧ n ≤ c := by
  rcases h.2 with ⟨h1, h2⟩ | ⟨g, cap, cur, hv, _, _, h3, _⟩
  · simp only [Value.slice.injEq] at h1; exact ⟨fun _ => h1.2.2, by omega⟩
  · simp only [Value.slice.injEq] at hv
    obtain ⟨rfl, _, rfl⟩ := hv
    exact ⟨(fun h => by cases h), h3⟩
theorem run_of_own {o : Recs} {w w' : World} {q : Option Addr} {c : Nat} (h : w'.ownsRow w.heap.size 37 2 (.slice q o.length c) o.length (cellsRc o)) (hB : Below w.heap.size w w') : MadeRun (o, 0) w (.returned (.tuple #[.slice q o.length c, .int .i64 0])) w' :=
  ⟨q, c, rfl, hB, rck_of_own (m := o.length) (cp := c) h, (own_qcap h).1, (own_qcap h).2⟩
theorem rck_recs {base n : Nat} {w : World} {q : Option Addr} {W : Recs} (h : RcK base w q W) (hn : W.length = n) (hk : ∀ r ∈ W, r.1.size ≤ 40 ∧ In64 r.2) (hm : n ≤ 1000000) : RecsAt w q n W := by
  refine rcs_of_k h hn (by unfold maxLen; omega) (fun i hi => ?_)
  have := (ev0_le hk i).1
  unfold evAt at this
  unfold keyAt maxLen
  omega

set_option maxHeartbeats 8000000 in
theorem sevalline_any (a : Option Addr) (len cap : Nat) (l : Instrs) (each : Bool) (s : ByteArray) (w : World) (h : InstrsAt w a len l) (hn : ∀ i, i < len → In64 (ins1 l i)) (hs : s.size ≤ 1048576) :
    Calls Tryz.prog 27 #[.slice a len cap, .bool each, .string s] w (MadeRun (lineR l each s) w) := by
  have HL := Lib.hid h.length
  have HR := Lib.hid h
  have HN := Lib.hid (show ∀ i, i < l.length → In64 (ins1 l i) from fun i hi => hn i (by rw [← h.length]; exact hi))
  have HEV := Lib.hid (fun c wq wn wc ws w (h1 : InstrsAt w a len l) (h2 : StrsAt w wq wn ws) => seval_any a len c l wq wn wc ws w h1 hn h2)
  obtain ⟨p, hp⟩ : ∃ p, progB l = p := ⟨_, rfl⟩
  have HP := Lib.hid hp
  clear h hn hp
  go_enter Tryz.func27, Tryz.ntmps27
  go_wp2_with fail
  refine (sprogok_any _ _ _ _ _ HR.out).mono ?_
  rw [HP.out]
  rintro e w1 ⟨rfl, hB⟩
  have HB := Lib.hid hB
  clear hB
  cases p with
  | false =>
    have HC := Lib.hid (show lineR l each s = ([], 1) by unfold lineR; rw [if_neg (fun h => by rw [HP.out] at h; cases h.1)])
    go_wp2
    go_ret2
    exact run_none HC.out HB.out
  | true =>
    by_cases h200 : (200 : Int) < (s.size : Int)
    · have HC := Lib.hid (show lineR l each s = ([], 1) by unfold lineR; rw [if_neg (fun h => by have := h.2; omega)])
      go_wp2
      go_ret2
      exact run_none HC.out HB.out
    · have HLN := Lib.hid (show lineR l each s = if each = true then eachTo l (wordsB s) (wordsB s).length else evalR l (wordsB s) by unfold lineR; rw [if_pos ⟨HP.out, by omega⟩])
      have hs2 : s.size ≤ 200 := by omega
      go_wp2_with fail
      refine (swords_wsc s _ hs).mono ?_
      rintro e w2 ⟨wq, wc, rfl, hws, hB, hcp, hcm⟩
      have HW := Lib.hid (strs_wordsB hws hs)
      have HWS := Lib.hid hws
      have HSHORT := Lib.hid (words_short s (by unfold maxLen; omega))
      have HWSS := Lib.hid (show wordsB s = strsOf ((wordsL s.data.toList).take 20) from rfl)
      obtain ⟨WL, hWL⟩ : ∃ WL, (wordsL s.data.toList).take 20 = WL := ⟨_, rfl⟩
      rw [hWL] at HWS HSHORT HWSS
      have HWQ := Lib.hid (fun h0 => ws_some hws h0)
      have HWL := Lib.hid (wordsB_len s)
      obtain ⟨wn, hwn⟩ : ∃ wn, ((wordsL s.data.toList).take 20).length = wn := ⟨_, rfl⟩
      have hwn20 : wn ≤ 20 := by rw [← hwn]; exact List.length_take_le _ _
      obtain ⟨ws, hws2⟩ : ∃ ws, wordsB s = ws := ⟨_, rfl⟩
      rw [hwn] at HW HWQ HWL hcp ⊢
      rw [hws2] at HW HWL HLN HWSS
      have HWN := Lib.hid (show WL.length = wn by rw [← hWL]; exact hwn)
      clear hWL
      have HB := Lib.hid (below_via HB.out hB)
      clear hws hB hwn hws2
      cases each with
      | false =>
        have HLN := Lib.hid (show lineR l false s = evalR l ws by rw [HLN.out, if_neg (by decide)])
        go_wp2_with fail
        refine (HEV.out _ _ _ _ _ _ (HR.out.keep HB.out) HW.out).mono ?_
        intro e w3 hm
        obtain ⟨q, cp, rfl, hB, hk, hq, hc⟩ := hm
        have HF := Lib.hid (show MadeRun (evalR l ws) w (.returned (.tuple #[.slice q (evalR l ws).1.length cp, .int .i64 (evalR l ws).2])) w3 from ⟨q, cp, rfl, below_via HB.out hB, rck_low hk HB.out.size, hq, hc⟩)
        obtain ⟨n, hn⟩ : ∃ n, (evalR l ws).1.length = n := ⟨_, rfl⟩
        obtain ⟨c, hc2⟩ : ∃ n, (evalR l ws).2 = n := ⟨_, rfl⟩
        rw [hn, hc2] at HF
        rw [hn, hc2]
        clear hB hk hq hc hn hc2
        go_wp2
        go_ret2
        rw [HLN.out]
        exact HF.out
      | true =>
        have HLT := Lib.hid (show lineR l true s = eachTo l ws wn by rw [HLN.out, if_pos rfl, HWL.out])
        clear HLN
        have HS0 : Hid (LnS l ws w (w2.alloc (.cells #[] 37)) (some ⟨w2.heap.size, 0, none⟩) 0 0 [] wq w1.heap.size WL) := Lib.hid
          ⟨rfl, own_zeroRc (ot_row_new w2 #[] 37) HB.out.size, ws_keep HWS.out (below_alloc (Below.refl _ _) _), below_alloc HB.out _⟩
        unfold maxLen at hcm
        clear HW
        go_wp2_with fail
        go_loopw [9, 10] (fun o i wr => ∃ (k no : Nat) (O : Recs) (qo : Option Addr) (co : Nat), k ≤ wn ∧ o = .slice qo no co ∧ i = .int .i64 k ∧ no ≤ 30 * k ∧ Hid (O.length = no) ∧ Hid (LnS l ws w wr qo co k O wq w1.heap.size WL)) (fun _ i _ => wn - (intOf i).toNat)
        case atStart => exact ⟨0, 0, [], _, _, Nat.zero_le _, rfl, rfl, Nat.le_refl _, Lib.hid rfl, HS0⟩
        case round =>
          clear HS0 HB
          obtain ⟨k, no, O, qo, co, hk, rfl, rfl, hno, HOL, HS⟩ := hrel
          by_cases hlt : k < wn
          · obtain ⟨g, rfl, hg⟩ := HWQ.out (by omega)
            have hi0 : (0 : Int) ≤ (k : Int) := by omega
            have hi1 : (k : Int) < (wn : Int) := by omega
            have hck : ¬ wc = k := by omega
            have hck2 : k < wc := by omega
            have HSUB := Lib.hid (show StrsAt wr (some ⟨g, k, none⟩) 1 [strAt ws k] from by have h1 := strs_of_ws HS.out.words HSHORT.out; rw [HWN.out, ← HWSS.out] at h1; have := strs_sub h1 hlt; simpa using this)
            obtain ⟨V, hV⟩ : ∃ V, (evalR l [strAt ws k]).1 = V := ⟨_, rfl⟩
            obtain ⟨c, hc⟩ : ∃ c, (evalR l [strAt ws k]).2 = c := ⟨_, rfl⟩
            have HRES := Lib.hid (show evalR l [strAt ws k] = (V, c) by rw [← hV, ← hc])
            have HF := Lib.hid (evalR_facts (ws := [strAt ws k]) HN.out)
            rw [HRES.out] at HF
            clear hV hc
            go_wp2_with fail
            refine (HEV.out _ _ _ _ _ _ (HR.out.keep HS.out.below) HSUB.out).mono ?_
            rw [HRES.out]
            rintro e w4 ⟨q, cp, rfl, hB, hkk, hq, hcp2⟩
            have HS := Lib.hid (HS.out.keep hB)
            obtain ⟨vn, hvn⟩ : ∃ vn, V.length = vn := ⟨_, rfl⟩
            have hv30 : vn ≤ 30 := by have := HF.out.1; omega
            have HV := Lib.hid (rck_recs hkk hvn HF.out.2.1 (by omega))
            simp only [hvn]
            have HQ := Lib.hid hq
            clear hB hkk hq hcp2 HSUB HF
            by_cases hc0 : c = 0
            · have HNX := Lib.hid (eachTo_go HS.out.ev HRES.out hc0)
              subst hc0
              go_wp2_with (at_builtin; go_loud (refine append_rc rfl _ _ rfl w.heap.size (.slice qo no co) no O rfl (by have := HS.out.own; rw [HOL.out] at this; exact this) q vn cp V rfl HV.out HQ.out (by omega) HS.out.below.size ?_); intro q5 c5 w5 hown hgrow; have HS5 := Lib.hid (show LnS l ws w w5 q5 c5 (k + 1) (O ++ V) (some ⟨g, 0, none⟩) w1.heap.size WL from ⟨HNX.out, by rw [List.length_append, HOL.out, HV.out.length]; exact hown, ws_apart HS.out.words HS.out.own (by decide) (by rw [HOL.out]; exact hgrow), HS.out.below.grown hgrow HS.out.below.size (fun j hj => (by have := HS.out.own; rw [HOL.out] at this; exact (this.lt j hj).1))⟩); clear hown hgrow)
              go_roundw
              case rel => exact ⟨k + 1, no + vn, O ++ V, q5, c5, by omega, rfl, by go_num, by omega, Lib.hid (by rw [List.length_append, HOL.out, HV.out.length]), HS5⟩
              case measure => simp [intOf]; omega
            · have HNX := Lib.hid (eachTo_stop HS.out.ev HRES.out hc0)
              have HFIN := Lib.hid (show lineR l true s = ([], c) by rw [HLT.out, eachTo_bad (k := k + 1) (n := wn) (by rw [HNX.out]; exact hc0) (by omega), HNX.out])
              have hz2 : (c == (0 : Int)) = false := by rw [beq_eq_false_iff_ne]; exact hc0
              have hz3 : (c != (0 : Int)) = true := by rw [bne_iff_ne]; exact hc0
              go_wp2
              go_ret2
              exact run_none HFIN.out HS.out.below
          · obtain rfl : k = wn := by omega
            have HFIN := Lib.hid (show lineR l true s = (O, 0) by rw [HLT.out, HS.out.ev])
            go_wp2
            go_ret2
            rw [HFIN.out]
            have := run_of_own HS.out.own HS.out.below
            rw [HOL.out] at this
            exact this
end Go.Proofs.YtjofbeokkainlaaGreatDoor
namespace Go.Proofs.YtjofbeokkainlaaGreatDoor
open Go.ChangeShapes Go.WideShapes Go.ChangeAt Go.RowKit
set_option linter.unusedVariables false
set_option maxRecDepth 100000

def newKey (l : Recs) (k : Nat) : Bool := decide (k = 0) || !((keyAt l k).toList == (keyAt l (k - 1)).toList)
def keysTo (l : Recs) : Nat → Strs
  | 0 => []
  | k + 1 => keysTo l k ++ (if newKey l k then [keyAt l k] else [])
theorem keysTo_len (l : Recs) : ∀ k, (keysTo l k).length ≤ k
  | 0 => Nat.le_refl _
  | k + 1 => by
    have := keysTo_len l k
    unfold keysTo
    split <;> simp <;> omega
theorem keysTo_yes {l : Recs} {k : Nat} (h : newKey l k = true) : keysTo l (k + 1) = keysTo l k ++ [keyAt l k] := by
  rw [keysTo, if_pos h]
theorem keysTo_no {l : Recs} {k : Nat} (h : newKey l k = false) : keysTo l (k + 1) = keysTo l k := by
  rw [keysTo, if_neg (by rw [h]; simp), List.append_nil]
def keysB (l : Recs) : Strs := if runOkB l then keysTo l l.length else []

/-- The end of KeysOf: the keys in a row of its own. -/
def MadeKeys (W : Strs) (w : World) (e : Ending) (w' : World) : Prop :=
  ∃ v, e = .returned v ∧ w'.ownsRow w.heap.size 9 1 v W.length (W.map Value.string) ∧ Below w.heap.size w w'

structure KeysSt (l : Recs) (w wr : World) (v : Value) (k : Nat) : Prop where
  own : wr.ownsRow w.heap.size 9 1 v (keysTo l k).length ((keysTo l k).map Value.string)
  below : Below w.heap.size w wr

end Go.Proofs.YtjofbeokkainlaaGreatDoor
namespace Go.Proofs.YtjofbeokkainlaaGreatDoor
open Go.ChangeShapes Go.WideShapes Go.ChangeAt Go.RowKit
set_option linter.unusedVariables false
set_option maxRecDepth 100000

end Go.Proofs.YtjofbeokkainlaaGreatDoor
