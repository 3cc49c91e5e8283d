/- Texts put together, as a claim holds at most sixty files. -/
import Derived.Test.YtdphganbnlmgcaaGreatDoorMg13
import Derived.Test.YtdphganbnlmgcaaGreatDoorMg17
import Derived.Test.YtdphganbnlmgcaaGreatDoorMg39
import Derived.Test.YtdphganbnlmgcaaGreatDoorMg38
import Derived.Test.YtdphganbnlmgcaaGreatDoorMg40
import Derived.Test.YtdphganbnlmgcaaGreatDoorJobOk
import Derived.Test.YtdphganbnlmgcaaGreatDoorMg16
namespace Go.Proofs.YtdphganbnlmgcaaGreatDoor
open Go.ChangeShapes Go.WideShapes Go.ChangeAt Go.RowKit
set_option linter.unusedVariables false
set_option maxRecDepth 100000

theorem row_ne {w : World} {A B : Nat} {S T : TypeId} {x y : Array Value} (h : Row w A S x) (k : Row w B T y) (hne : S ≠ T) : A ≠ B := fun e => by
  subst e
  unfold Row at h k
  rw [h] at k
  simp at k
  exact hne k.2
theorem rk_of_rck {base : Nat} {w : World} {q : Option Addr} {W : Recs} (h : RcK base w q W) : Rs base w q W := h
theorem liftW_few (op : Int) (l : Recs) : (liftW op l).length ≤ 600 ∧ ∀ i, i < (liftW op l).length → (keyAt (liftW op l) i).size ≤ 40 := by
  unfold liftW
  cases h : (opOkB op && recsOkB l) with
  | false => exact ⟨by simp, fun i hi => absurd hi (by simp)⟩
  | true =>
    rw [Bool.and_eq_true] at h
    have hr := recsOk_parts h.2
    rw [if_pos rfl, liftL_len]
    refine ⟨hr.1, fun i hi => ?_⟩
    rw [(liftL_at op l i hi).1]
    have := hr.2 i hi
    unfold okAt okB at this
    simpa using this
theorem recs_lift {base : Nat} {w : World} {q : Option Addr} {op : Int} {l : Recs} {n : Nat} (h : Rs base w q (liftW op l)) (hn : (liftW op l).length = n) : RecsAt w q n (liftW op l) := by
  have hf := liftW_few op l
  rw [hn] at hf
  exact recs_of_rs h hn (by have := hf.1; unfold maxLen; omega) (fun i hi => by have := hf.2 i hi; unfold maxLen; omega)
/-- The run of part p. -/
def ofR (op n1 : Int) (V : Recs) (p : Nat) : Recs := combW op (liftW op (partL V n1 p))
/-- The runs of the first k parts. -/
def runsR (op n1 : Int) (V : Recs) (k : Nat) : List Recs := (List.range k).map (ofR op n1 V)
theorem runsR_len (op n1 : Int) (V : Recs) (k : Nat) : (runsR op n1 V k).length = k := by simp [runsR]
theorem runsR_at {op n1 : Int} {V : Recs} {k i : Nat} (h : i < k) : (runsR op n1 V k).getD i [] = ofR op n1 V i := by
  unfold runsR
  rw [List.getD_eq_getElem?_getD, List.getElem?_map, List.getElem?_range h]; rfl
/-- What a split of a valid job yields. -/
def mapR (l : Instrs) (each : Bool) (op n1 : Int) (s : ByteArray) : List Recs × Int :=
  if (emitR l each (strsOf (linesW s.data.toList))).2 = 0 then (runsR op n1 (emitR l each (strsOf (linesW s.data.toList))).1 n1.toNat, 0) else ([], (emitR l each (strsOf (linesW s.data.toList))).2)
theorem mapR_go {l : Instrs} {each : Bool} {op n1 : Int} {s : ByteArray} {V : Recs} (h : emitR l each (strsOf (linesW s.data.toList)) = (V, 0)) : mapR l each op n1 s = (runsR op n1 V n1.toNat, 0) := by
  unfold mapR; rw [h, if_pos rfl]
theorem mapR_stop {l : Instrs} {each : Bool} {op n1 : Int} {s : ByteArray} {V : Recs} {c : Int} (h : emitR l each (strsOf (linesW s.data.toList)) = (V, c)) (hc : c ≠ 0) : mapR l each op n1 s = ([], c) := by
  unfold mapR; rw [h, if_neg hc]
/-- What a map task yields. -/
def mapJ (l : Instrs) (each : Bool) (op n1 : Int) (m : Strs) (sl : Nat) (t : Int) : List Recs × Int :=
  if jobB l op n1 m sl = true ∧ 0 ≤ t ∧ t < sl then mapR l each op n1 (strAt m t.toNat) else ([], 1)
theorem mapJ_no {l : Instrs} {each : Bool} {op n1 : Int} {m : Strs} {sl : Nat} {t : Int} (h : ¬ (jobB l op n1 m sl = true ∧ 0 ≤ t ∧ t < sl)) : mapJ l each op n1 m sl t = ([], 1) := by
  unfold mapJ; rw [if_neg h]
theorem mapJ_yes {l : Instrs} {each : Bool} {op n1 : Int} {m : Strs} {sl : Nat} {t : Int} (h : jobB l op n1 m sl = true) (h0 : 0 ≤ t) (h1 : t < sl) : mapJ l each op n1 m sl t = mapR l each op n1 (strAt m t.toNat) := by
  unfold mapJ; rw [if_pos ⟨h, h0, h1⟩]
/-- Few runs, each short. -/
structure FewSS (LS : List Recs) : Prop where
  few : LS.length ≤ 3
  recs : ∀ i, i < LS.length → nAt LS i ≤ 600
  keys : ∀ i, i < LS.length → ∀ j, j < nAt LS i → (keyAt (LS.getD i []) j).size ≤ 40
theorem fewSS_nil : FewSS [] := ⟨by simp, fun i hi => absurd hi (by simp), fun i hi => absurd hi (by simp)⟩
theorem runsR_few {op n1 : Int} {V : Recs} {k : Nat} (hk : k ≤ 3) : FewSS (runsR op n1 V k) := by
  refine ⟨by rw [runsR_len]; exact hk, fun i hi => ?_, fun i hi j hj => ?_⟩
  · rw [runsR_len] at hi
    unfold nAt
    rw [runsR_at hi]
    exact (combW_few _ _).1
  · rw [runsR_len] at hi
    unfold nAt at hj
    rw [runsR_at hi] at hj ⊢
    exact (combW_few _ _).2 j hj
theorem jobB_parts {l : Instrs} {op n1 : Int} {m : Strs} {sl : Nat} (h : jobB l op n1 m sl = true) : 1 ≤ n1 ∧ n1 ≤ 3 ∧ 1 ≤ sl ∧ sl ≤ 4 ∧ opOkB op = true ∧ progB l = true := by
  unfold jobB splitsB inB at h
  simp only [Bool.and_eq_true, decide_eq_true_eq] at h
  obtain ⟨h1, h2, ⟨h3, h4⟩, ⟨h5, h6⟩, h7⟩ := h
  exact ⟨h3, h4, by omega, by omega, h2, h1⟩
theorem mapJ_few (l : Instrs) (each : Bool) (op n1 : Int) (m : Strs) (sl : Nat) (t : Int) : FewSS (mapJ l each op n1 m sl t).1 := by
  unfold mapJ
  split
  · rename_i h
    have hp := jobB_parts h.1
    unfold mapR
    split
    · exact runsR_few (by omega)
    · exact fewSS_nil
  · exact fewSS_nil
/-- The slice (q, length of LS) holds runs, each in a row of its own, from block base on. -/
def RunsB (base : Nat) (w : World) (q : Option Addr) (LS : List Recs) : Prop :=
  LS.length = 0 ∨ ∃ (G : Nat) (cur : Array Value) (g : Nat → Nat), q = some ⟨G, 0, none⟩ ∧ base ≤ G ∧ Row w G 45 cur ∧
    (∀ i, i < LS.length → ∃ p c, cur[i]? = some (.slice p (nAt LS i) c) ∧ (nAt LS i = 0 ∨ ∃ rc, p = some ⟨g i, 0, none⟩ ∧ base ≤ g i ∧ Row w (g i) 50 rc ∧ nAt LS i * 2 ≤ rc.size ∧ Laid rc (LS.getD i []) (nAt LS i))) ∧
    ∀ i j, i < j → j < LS.length → 0 < nAt LS i → 0 < nAt LS j → g i ≠ g j
theorem runsB_nil (base : Nat) (w : World) (q : Option Addr) : RunsB base w q [] := .inl rfl
theorem RunsB.keep {base : Nat} {w w1 : World} {q : Option Addr} {LS : List Recs} (h : RunsB base w q LS) (hB : Below w.heap.size w w1) : RunsB base w1 q LS := by
  rcases h with h | ⟨G, cur, g, hq, hb, hr, hi, hd⟩
  · exact .inl h
  · refine .inr ⟨G, cur, g, hq, hb, hr.keep hB, fun i hi2 => ?_, hd⟩
    obtain ⟨p, c, e1, e2⟩ := hi i hi2
    refine ⟨p, c, e1, ?_⟩
    rcases e2 with e2 | ⟨rc, r1, r2, r3, r4, r5⟩
    · exact .inl e2
    · exact .inr ⟨rc, r1, r2, r3.keep hB, r4, r5⟩
theorem RunsB.low {b1 b2 : Nat} {w : World} {q : Option Addr} {LS : List Recs} (h : RunsB b1 w q LS) (hb : b2 ≤ b1) : RunsB b2 w q LS := by
  rcases h with h | ⟨G, cur, g, hq, hb1, hr, hi, hd⟩
  · exact .inl h
  · refine .inr ⟨G, cur, g, hq, by omega, hr, fun i hi2 => ?_, hd⟩
    obtain ⟨p, c, e1, e2⟩ := hi i hi2
    refine ⟨p, c, e1, ?_⟩
    rcases e2 with e2 | ⟨rc, r1, r2, r3, r4, r5⟩
    · exact .inl e2
    · exact .inr ⟨rc, r1, by omega, r3, r4, r5⟩
theorem RunsB.grown {base : Nat} {w w1 : World} {q : Option Addr} {LS : List Recs} {X : Nat} (h : RunsB base w q LS) (hg : w.grownBy w1 (some X)) (hX : X < base) : RunsB base w1 q LS := by
  rcases h with h | ⟨G, cur, g, hq, hb, hr, hi, hd⟩
  · exact .inl h
  · refine .inr ⟨G, cur, g, hq, hb, hr.grown hg (by simp; omega), fun i hi2 => ?_, hd⟩
    obtain ⟨p, c, e1, e2⟩ := hi i hi2
    refine ⟨p, c, e1, ?_⟩
    rcases e2 with e2 | ⟨rc, r1, r2, r3, r4, r5⟩
    · exact .inl e2
    · exact .inr ⟨rc, r1, r2, r3.grown hg (by simp; omega), r4, r5⟩
theorem RunsB.ls {base : Nat} {w : World} {q : Option Addr} {LS : List Recs} (h : RunsB base w q LS) (hf : FewSS LS) : RunLs w q LS.length LS := by
  refine ⟨rfl, by have := hf.few; unfold maxLen; omega, ?_⟩
  rcases h with h | ⟨G, cur, g, hq, hb, hr, hi, hd⟩
  · exact .inl h
  · refine .inr ⟨G, 0, hq, hr.lt, fun i hi2 => ?_⟩
    obtain ⟨p, c, e1, e2⟩ := hi i hi2
    refine ⟨p, nAt LS i, c, by unfold Row at hr; simp [World.cell?, hr, e1], rfl, by have := hf.recs i hi2; unfold maxLen; omega, fun j hj => by have := hf.keys i hi2 j hj; unfold maxLen; omega, ?_⟩
    rcases e2 with e2 | ⟨rc, r1, r2, r3, r4, r5⟩
    · exact .inl e2
    · refine .inr ⟨g i, 0, r1, r3.lt, fun j hj => ?_⟩
      obtain ⟨x1, x2⟩ := r5 j hj
      unfold Row at r3
      constructor
      · simp [World.cell?, r3, x1]
      · simp [World.cell?, r3, x2]
/-- The end of a map task: its runs, in rows of their own, and its code. -/
def MadeSS (o : List Recs × Int) (w : World) (e : Ending) (w' : World) : Prop :=
  ∃ q cp, e = .returned (.tuple #[.slice q o.1.length cp, .int .i64 o.2]) ∧ Below w.heap.size w w' ∧ RunsB w.heap.size w' q o.1
theorem ss_none {o : List Recs × Int} {c : Int} {w w' : World} (h : o = ([], c)) (hB : Below w.heap.size w w') : MadeSS o w (.returned (.tuple #[.slice none 0 0, .int .i64 c])) w' := by
  subst h; exact ⟨none, 0, rfl, hB, runsB_nil _ _ _⟩
end Go.Proofs.YtdphganbnlmgcaaGreatDoor
namespace Go.Proofs.YtdphganbnlmgcaaGreatDoor
open Go.ChangeShapes Go.WideShapes Go.ChangeAt Go.RowKit
set_option linter.unusedVariables false
set_option maxRecDepth 100000

/-- Runs whose first k are marked. -/
structure MkS (LS : List Recs) (G : Nat) (cur : Array Value) (g : Nat → Nat) (w : World) (k : Nat) : Prop where
  row : Row w G 45 cur
  cells : ∀ i, i < LS.length → ∃ p c, cur[i]? = some (.slice p (nAt LS i) c) ∧ (nAt LS i = 0 ∨ p = some ⟨g i, 0, none⟩)
  marked : ∀ i, i < k → 0 < nAt LS i → ∃ rc, Row w (g i) 50 rc ∧ MarkedR rc (1 + 2 * (allTo LS i).length) (nAt LS i)
  rest : ∀ i, k ≤ i → i < LS.length → 0 < nAt LS i → ∃ rc, Row w (g i) 50 rc ∧ nAt LS i * 2 ≤ rc.size
  apart : ∀ i j, i < j → j < LS.length → 0 < nAt LS i → 0 < nAt LS j → g i ≠ g j
theorem MkS.keep {LS : List Recs} {G k : Nat} {cur : Array Value} {g : Nat → Nat} {w w1 : World} (h : MkS LS G cur g w k) (hB : Below w.heap.size w w1) : MkS LS G cur g w1 k :=
  ⟨h.row.keep hB, h.cells, fun i hi h0 => by
    obtain ⟨rc, r1, r2⟩ := h.marked i hi h0
    exact ⟨rc, r1.keep hB, r2⟩, fun i hi h1 h0 => by
    obtain ⟨rc, r1, r2⟩ := h.rest i hi h1 h0
    exact ⟨rc, r1.keep hB, r2⟩, h.apart⟩
theorem MkS.skip {LS : List Recs} {G k : Nat} {cur : Array Value} {g : Nat → Nat} {w : World} (h : MkS LS G cur g w k) (h0 : nAt LS k = 0) : MkS LS G cur g w (k + 1) :=
  ⟨h.row, h.cells, fun i hi hn => by
    rcases Nat.lt_or_ge i k with hk | hk
    · exact h.marked i hk hn
    · obtain rfl : i = k := by omega
      omega, fun i hi h1 hn => h.rest i (by omega) h1 hn, h.apart⟩
theorem MkS.step {LS : List Recs} {G k : Nat} {cur rc : Array Value} {g : Nat → Nat} {w w1 : World} (h : MkS LS G cur g w k) (hk : k < LS.length) (h0 : 0 < nAt LS k) (hg : w.grownBy w1 (some (g k))) (hr : Row w1 (g k) 50 rc) (hm : MarkedR rc (1 + 2 * (allTo LS k).length) (nAt LS k)) : MkS LS G cur g w1 (k + 1) := by
  obtain ⟨rk, rk1, _⟩ := h.rest k (Nat.le_refl _) hk h0
  refine ⟨h.row.grown hg (by have := row_ne h.row rk1 (by decide); simp; omega), h.cells, fun i hi hn => ?_, fun i hi h1 hn => ?_, h.apart⟩
  · rcases Nat.lt_or_ge i k with hlt | hge
    · obtain ⟨r, r1, r2⟩ := h.marked i hlt hn
      exact ⟨r, r1.grown hg (by have := h.apart i k hlt hk hn h0; simp; omega), r2⟩
    · obtain rfl : i = k := by omega
      exact ⟨rc, hr, hm⟩
  · obtain ⟨r, r1, r2⟩ := h.rest i (by omega) h1 hn
    exact ⟨r, r1.grown hg (by have := h.apart k i (by omega) h1 h0 hn; simp; omega), r2⟩
theorem MkS.start {base : Nat} {w : World} {q : Option Addr} {LS : List Recs} (h : RunsB base w q LS) (hn : 0 < LS.length) : ∃ G cur g, q = some ⟨G, 0, none⟩ ∧ base ≤ G ∧ MkS LS G cur g w 0 ∧ ∀ i, i < LS.length → 0 < nAt LS i → base ≤ g i := by
  rcases h with h | ⟨G, cur, g, hq, hb, hr, hi, hd⟩
  · omega
  · refine ⟨G, cur, g, hq, hb, ⟨hr, fun i h1 => ?_, fun i h1 => by omega, fun i _ h1 hn => ?_, hd⟩, fun i h1 hn => ?_⟩
    · obtain ⟨p, c, e1, e2⟩ := hi i h1
      refine ⟨p, c, e1, ?_⟩
      rcases e2 with e2 | ⟨rc, r1, _⟩
      · exact .inl e2
      · exact .inr r1
    · obtain ⟨p, c, e1, e2⟩ := hi i h1
      rcases e2 with e2 | ⟨rc, r1, r2, r3, r4, r5⟩
      · omega
      · exact ⟨rc, r3, r4⟩
    · obtain ⟨p, c, e1, e2⟩ := hi i h1
      rcases e2 with e2 | ⟨rc, r1, r2, r3, r4, r5⟩
      · omega
      · exact r2

/-- The end of marking runs. -/
def MarkedK (LS : List Recs) (lo G : Nat) (cur : Array Value) (g : Nat → Nat) (w : World) (e : Ending) (w' : World) : Prop :=
  e = .returned (.int .i64 ((1 + 2 * (allTo LS LS.length).length : Nat) : Int)) ∧ Below lo w w' ∧ MkS LS G cur g w' LS.length

set_option maxHeartbeats 4000000 in
theorem markssK_any (G len cap lo : Nat) (LS : List Recs) (cur : Array Value) (g : Nat → Nat) (w : World) (hl : LS.length = len) (h : MkS LS G cur g w 0) (hlo : ∀ i, i < len → 0 < nAt LS i → lo ≤ g i) (hf : FewSS LS) (hw : lo ≤ w.heap.size) :
    Calls Tryz.prog 11 #[.slice (some ⟨G, 0, none⟩) len cap, .int .i64 1] w (MarkedK LS lo G cur g w) := by
  have HL := Lib.hid hl
  have hlen : len ≤ 3 := by rw [← hl]; exact hf.few
  have HF := Lib.hid hf
  have HLO := Lib.hid hlo
  have H0 := Lib.hid h
  have HWL := Lib.hid hw
  have HTOT := Lib.hid (show ∀ k, k ≤ len → (allTo LS k).length ≤ 600 * k from fun k => by
    induction k with
    | zero => intro _; simp [allTo]
    | succ k ih =>
      intro hk
      rw [len_allTo (by omega)]
      have := ih (by omega)
      have := hf.recs k (by omega)
      unfold nAt at this
      omega)
  clear hl h hlo hf hw
  go_enter Tryz.func11, Tryz.ntmps11
  go_wp2
  go_loopw [1, 5] (fun t i wr => ∃ k : Nat, k ≤ len ∧ i = .int .i64 k ∧ t = .int .i64 ((1 + 2 * (allTo LS k).length : Nat) : Int) ∧ Hid (Below lo w wr ∧ MkS LS G cur g wr k)) (fun _ i _ => len - (intOf i).toNat)
  case atStart => exact ⟨0, Nat.zero_le _, rfl, by simp [allTo], Below.refl _ _, H0.out⟩
  case round =>
    obtain ⟨k, hk, rfl, rfl, HW⟩ := hrel
    clear H0
    by_cases hlt : k < len
    · obtain ⟨p, c, e1, e2⟩ := HW.out.2.cells k (by rw [HL.out]; exact hlt)
      have hrec := HF.out.recs k (by rw [HL.out]; exact hlt)
      have c0 : wr.cell? ⟨G, k, none⟩ = some (.slice p (nAt LS k) c) := by
        have hr := HW.out.2.row
        unfold Row at hr
        simp [World.cell?, hr, e1]
      have hstep := len_allTo (LS := LS) (k := k) (by rw [HL.out]; exact hlt)
      have hle := HTOT.out k hk
      change _ = _ + nAt LS k at hstep
      obtain ⟨K, hK⟩ : ∃ K, 1 + 2 * (allTo LS k).length = K := ⟨_, rfl⟩
      obtain ⟨n, hn⟩ : ∃ n, nAt LS k = n := ⟨_, rfl⟩
      have HST := Lib.hid (show 1 + 2 * (allTo LS (k + 1)).length = K + 2 * n by omega)
      have hb1 : 1 ≤ K ∧ K + 2 * n ≤ 1099511627776 := by omega
      have HK := Lib.hid hK
      have HN := Lib.hid hn
      rw [hK]
      rw [hn] at c0 e2 hrec
      clear hstep hle hK hn e1
      by_cases h0 : n = 0
      · subst h0
        go_wp2_with fail
        refine (markr_none p c K _).mono ?_
        rintro e w2 ⟨rfl, rfl⟩
        have HI := Lib.hid (And.intro HW.out.1 (HW.out.2.skip HN.out))
        clear HW
        go_wp2
        go_roundw
        case rel => exact ⟨k + 1, by omega, by go_num, by rw [HST.out]; rfl, HI.out⟩
        case measure => simp [intOf]; omega
      · obtain ⟨rc, r1, r2⟩ := HW.out.2.rest k (Nat.le_refl _) (by rw [HL.out]; exact hlt) (by rw [HN.out]; omega)
        obtain rfl : p = some ⟨g k, 0, none⟩ := by rcases e2 with e2 | e2; · exact absurd e2 h0
                                                   · exact e2
        rw [HN.out] at r2
        have HR := Lib.hid r1
        clear r1 e2
        go_wp2_with fail
        refine (markr_any (g k) n c K _ _ rc _ HR.out rfl r2 hb1.1 hb1.2).mono ?_
        rintro e w2 ⟨he, hg, rc1, hr1, hm1⟩
        rw [← HST.out] at he
        subst he
        have HI := Lib.hid (show Below lo w w2 ∧ MkS LS G cur g w2 (k + 1) from ⟨HW.out.1.grown hg (Nat.le_trans HWL.out HW.out.1.size) (fun k2 hk2 => by cases hk2; exact HLO.out k hlt (by rw [HN.out]; omega)), HW.out.2.step (by rw [HL.out]; exact hlt) (by rw [HN.out]; omega) hg hr1 (by rw [HK.out, HN.out]; exact hm1)⟩)
        clear hg hr1 hm1 HW HR r2
        go_wp2
        go_roundw
        case rel => exact ⟨k + 1, by omega, by go_num, rfl, HI.out⟩
        case measure => simp [intOf]; omega
    · obtain rfl : k = len := by omega
      go_wp2
      go_ret
      unfold MarkedK
      rw [HL.out]
      exact ⟨rfl, HW.out⟩

set_option maxHeartbeats 4000000 in
theorem heldssK_any (G len cap : Nat) (LS : List Recs) (cur : Array Value) (g : Nat → Nat) (w : World) (hl : LS.length = len) (h : MkS LS G cur g w LS.length) (hf : FewSS LS) :
    Calls Tryz.prog 12 #[.slice (some ⟨G, 0, none⟩) len cap, .int .i64 1] w (fun e w' => e = .returned (.int .i64 ((1 + 2 * (allTo LS LS.length).length : Nat) : Int)) ∧ Below w.heap.size w w') := by
  have HL := Lib.hid hl
  have hlen : len ≤ 3 := by rw [← hl]; exact hf.few
  have HF := Lib.hid hf
  have H0 := Lib.hid h
  have HTOT := Lib.hid (show ∀ k, k ≤ len → (allTo LS k).length ≤ 600 * k from fun k => by
    induction k with
    | zero => intro _; simp [allTo]
    | succ k ih =>
      intro hk
      rw [len_allTo (by omega)]
      have := ih (by omega)
      have := hf.recs k (by omega)
      unfold nAt at this
      omega)
  clear hl h hf
  go_enter Tryz.func12, Tryz.ntmps12
  go_wp2
  go_loopw [1, 5] (fun t i wr => ∃ k : Nat, k ≤ len ∧ i = .int .i64 k ∧ t = .int .i64 ((1 + 2 * (allTo LS k).length : Nat) : Int) ∧ Hid (Below w.heap.size w wr)) (fun _ i _ => len - (intOf i).toNat)
  case atStart => exact ⟨0, Nat.zero_le _, rfl, by simp [allTo], Below.refl _ _⟩
  case round =>
    obtain ⟨k, hk, rfl, rfl, HW⟩ := hrel
    by_cases hlt : k < len
    · have HM := Lib.hid (H0.out.keep HW.out)
      obtain ⟨p, c, e1, e2⟩ := HM.out.cells k (by rw [HL.out]; exact hlt)
      have hrec := HF.out.recs k (by rw [HL.out]; exact hlt)
      have c0 : wr.cell? ⟨G, k, none⟩ = some (.slice p (nAt LS k) c) := by
        have hr := HM.out.row
        unfold Row at hr
        simp [World.cell?, hr, e1]
      have hstep := len_allTo (LS := LS) (k := k) (by rw [HL.out]; exact hlt)
      have hle := HTOT.out k hk
      change _ = _ + nAt LS k at hstep
      have HMK := Lib.hid (HM.out.marked k (by rw [HL.out]; exact hlt))
      obtain ⟨K, hK⟩ : ∃ K, 1 + 2 * (allTo LS k).length = K := ⟨_, rfl⟩
      obtain ⟨n, hn⟩ : ∃ n, nAt LS k = n := ⟨_, rfl⟩
      have HST := Lib.hid (show 1 + 2 * (allTo LS (k + 1)).length = K + 2 * n by omega)
      have hb1 : 1 ≤ K ∧ K + 2 * n ≤ 1099511627776 := by omega
      rw [hK, hn] at HMK
      rw [hK]
      rw [hn] at c0 e2 hrec
      clear hstep hle hK hn e1 HM
      by_cases h0 : n = 0
      · subst h0
        go_wp2_with fail
        refine (heldr_none p c K _).mono ?_
        rintro e w2 ⟨rfl, rfl⟩
        go_wp2
        go_roundw
        case rel => exact ⟨k + 1, by omega, by go_num, by rw [HST.out]; rfl, HW⟩
        case measure => simp [intOf]; omega
      · obtain ⟨rc, r1, r2⟩ := HMK.out (by omega)
        obtain rfl : p = some ⟨g k, 0, none⟩ := by rcases e2 with e2 | e2; · exact absurd e2 h0
                                                   · exact e2
        have HR := Lib.hid (And.intro r1 r2)
        clear r1 r2 e2 HMK
        go_wp2_with fail
        refine (heldr_any (g k) n c K _ rc _ HR.out.1 HR.out.2 hb1.1 hb1.2).mono ?_
        rintro e w2 ⟨he, hB⟩
        rw [← HST.out] at he
        subst he
        have HB := Lib.hid (below_via HW.out hB)
        clear hB HW HR
        go_wp2
        go_roundw
        case rel => exact ⟨k + 1, by omega, by go_num, rfl, HB⟩
        case measure => simp [intOf]; omega
    · obtain rfl : k = len := by omega
      go_wp2
      go_ret
      rw [HL.out]
      exact ⟨rfl, HW.out⟩

theorem markss_none (q : Option Addr) (cap : Nat) (w : World) : Calls Tryz.prog 11 #[.slice q 0 cap, .int .i64 1] w fun e w' => e = .returned (.int .i64 1) ∧ w = w' := by
  go_enter Tryz.func11, Tryz.ntmps11
  go_wp2
  go_loop [1, 5] (fun t i => t = .int .i64 1 ∧ i = .int .i64 0) (fun _ _ => 0)
  case atStart => exact ⟨rfl, rfl⟩
  case round =>
    obtain ⟨rfl, rfl⟩ := hrel
    go_wp2
    go_ret
    exact ⟨rfl, rfl⟩
theorem heldss_none (q : Option Addr) (cap : Nat) (w : World) : Calls Tryz.prog 12 #[.slice q 0 cap, .int .i64 1] w fun e w' => e = .returned (.int .i64 1) ∧ w = w' := by
  go_enter Tryz.func12, Tryz.ntmps12
  go_wp2
  go_loop [1, 5] (fun t i => t = .int .i64 1 ∧ i = .int .i64 0) (fun _ _ => 0)
  case atStart => exact ⟨rfl, rfl⟩
  case round =>
    obtain ⟨rfl, rfl⟩ := hrel
    go_wp2
    go_ret
    exact ⟨rfl, rfl⟩
/-- Runs that are all marked. -/
def HeldB (w : World) (q : Option Addr) (LS : List Recs) : Prop := LS.length = 0 ∨ ∃ G cur g, q = some ⟨G, 0, none⟩ ∧ MkS LS G cur g w LS.length
theorem HeldB.keep {w w1 : World} {q : Option Addr} {LS : List Recs} (h : HeldB w q LS) (hB : Below w.heap.size w w1) : HeldB w1 q LS := by
  rcases h with h | ⟨G, cur, g, hq, hm⟩
  · exact .inl h
  · exact .inr ⟨G, cur, g, hq, hm.keep hB⟩
theorem allTo_none {LS : List Recs} (h : LS.length = 0) : LS = [] := List.length_eq_zero_iff.1 h
theorem markss_run (q : Option Addr) (n cap base : Nat) (LS : List Recs) (w : World) (hn : LS.length = n) (h : RunsB base w q LS) (hf : FewSS LS) (hw : base ≤ w.heap.size) :
    Calls Tryz.prog 11 #[.slice q n cap, .int .i64 1] w (fun e w' => e = .returned (.int .i64 ((1 + 2 * (allTo LS LS.length).length : Nat) : Int)) ∧ Below base w w' ∧ HeldB w' q LS) := by
  by_cases h0 : LS.length = 0
  · obtain rfl : n = 0 := by omega
    obtain rfl := allTo_none h0
    exact (markss_none q cap w).mono fun e w' ⟨he, hw⟩ => ⟨by rw [he]; simp [allTo], by rw [hw]; exact Below.refl _ _, .inl rfl⟩
  · obtain ⟨G, cur, g, rfl, hb, hm, hlo⟩ := MkS.start h (by omega)
    exact (markssK_any G n cap base LS cur g w hn hm (fun i hi => hlo i (by omega)) hf hw).mono fun e w' ⟨he, hB, hk⟩ => ⟨he, hB, .inr ⟨G, cur, g, rfl, hk⟩⟩
theorem heldss_run (q : Option Addr) (n cap : Nat) (LS : List Recs) (w : World) (hn : LS.length = n) (h : HeldB w q LS) (hf : FewSS LS) :
    Calls Tryz.prog 12 #[.slice q n cap, .int .i64 1] w (fun e w' => e = .returned (.int .i64 ((1 + 2 * (allTo LS LS.length).length : Nat) : Int)) ∧ Below w.heap.size w w') := by
  by_cases h0 : LS.length = 0
  · obtain rfl : n = 0 := by omega
    obtain rfl := allTo_none h0
    exact (heldss_none q cap w).mono fun e w' ⟨he, hw⟩ => ⟨by rw [he]; simp [allTo], by rw [hw]; exact Below.refl _ _⟩
  · rcases h with h | ⟨G, cur, g, rfl, hk⟩
    · exact absurd h h0
    · exact heldssK_any G n cap LS cur g w hn hk hf
end Go.Proofs.YtdphganbnlmgcaaGreatDoor
