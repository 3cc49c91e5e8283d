/- Texts put together, as a claim holds at most sixty files. -/
import Derived.Test.YtjofbeokkainlaaDoorResOfS
import Derived.Test.YtjofbeokkainlaaDoorMg38
import Derived.Test.YtjofbeokkainlaaDoorAnsM
import Derived.Test.YtjofbeokkainlaaDoorMg1
import Derived.Test.YtjofbeokkainlaaDoorDecM
import Derived.Test.YtjofbeokkainlaaDoorMg7
import Derived.Test.YtjofbeokkainlaaDoorMg8
import Derived.Test.YtjofbeokkainlaaDoorMg35
import Derived.Test.YtjofbeokkainlaaDoorMg2
namespace Go.Proofs.YtjofbeokkainlaaDoor
open Go.ChangeShapes Go.WideShapes Go.ChangeAt Go.RowKit
set_option linter.unusedVariables false
set_option maxRecDepth 100000

/-- Runs in rows of a call's own, whatever became of elder blocks. -/
structure OutR (R : List Recs) (base : Nat) (wr : World) (q : Option Addr) (k cp : Nat) (XS : List Value) : Prop where
  own : wr.ownsRow base 31 1 (.slice q k cp) k XS
  runs : ∀ i, i < k → ∃ p c, XS[i]? = some (.slice p (nAt R i) c) ∧ Rs base wr p (R.getD i []) ∧ (p = none → nAt R i = 0 ∧ c = 0)
theorem OutS.r {R : List Recs} {w wr : World} {q : Option Addr} {k cp : Nat} {XS : List Value} (h : OutS R w wr q k cp XS) : OutR R w.heap.size wr q k cp XS := ⟨h.own, h.runs⟩
theorem OutR.oth {R : List Recs} {base : Nat} {wr w1 : World} {q : Option Addr} {k cp : Nat} {XS : List Value} (h : OutR R base wr q k cp XS) (hk : ∀ X, base ≤ X → X < wr.heap.size → w1.heap[X]? = wr.heap[X]?) : OutR R base w1 q k cp XS :=
  ⟨own_same h.own (fun g hg => hk g (h.own.lt g hg).1 (h.own.lt g hg).2), fun i hi => by
    obtain ⟨p, c, e1, e2, e3⟩ := h.runs i hi
    refine ⟨p, c, e1, ?_, e3⟩
    rcases e2 with h0 | ⟨g, cur, hq, hb, hr, h1, h2⟩
    · exact .inl h0
    · exact .inr ⟨g, cur, hq, hb, (hk g hb hr.lt).trans hr, h1, h2⟩⟩
theorem OutR.put {R : List Recs} {base : Nat} {wr : World} {q : Option Addr} {k cp : Nat} {XS : List Value} (h : OutR R base wr q k cp XS) {B : Nat} (hB : B < base) (j : Nat) (v : Value) : OutR R base (wr.setCell ⟨B, j, none⟩ v) q k cp XS :=
  h.oth fun X hX _ => Below.heap_setCell wr ⟨B, j, none⟩ v X (by show X ≠ B; omega)
theorem OutR.keep {R : List Recs} {base : Nat} {wr w1 : World} {q : Option Addr} {k cp : Nat} {XS : List Value} (h : OutR R base wr q k cp XS) (hB : Below wr.heap.size wr w1) : OutR R base w1 q k cp XS :=
  h.oth fun X _ hX => hB.block X hX
theorem OutR.went {R : List Recs} {base : Nat} {wr w1 : World} {q : Option Addr} {k cp : Nat} {XS : List Value} (h : OutR R base wr q k cp XS) {r : Nat} {a : Option Addr} {len cap : Nat} (hw : Went wr r a len cap w1) (hr : r < base) : OutR R base w1 q k cp XS :=
  h.oth fun X hX hlt => hw.grown.block X hlt (by simp only [ne_eq, Option.some.injEq]; omega)
theorem OutR.src {R : List Recs} {base : Nat} {wr : World} {q : Option Addr} {k cp : Nat} {XS : List Value} (h : OutR R base wr q k cp XS) (hk : 0 < k) : ∃ g, q = some ⟨g, 0, none⟩ ∧ g < wr.heap.size ∧ base ≤ g ∧ k ≤ cp ∧ cp ≤ maxLen ∧ ∀ i, i < k → ∃ p c, wr.cell? ⟨g, i, none⟩ = some (.slice p (nAt R i) c) ∧ Rs base wr p (R.getD i []) ∧ (p = none → nAt R i = 0 ∧ c = 0) := by
  rcases h.own.2 with ⟨_, h2⟩ | ⟨g, cap, cur, hv, hb, hh, h1, h2, h3, h4⟩
  · omega
  · have hlt : g < wr.heap.size := Row.lt (show Row wr g 31 cur from hh)
    simp only [Value.slice.injEq] at hv
    obtain ⟨rfl, _, rfl⟩ := hv
    refine ⟨g, rfl, hlt, hb, h1, h2, fun i hi => ?_⟩
    obtain ⟨p, c1, e1, e2, e3⟩ := h.runs i hi
    exact ⟨p, c1, by rw [h.own.cellAt i (by omega)]; exact e1, e2, e3⟩
theorem OutR.ls {R : List Recs} {base : Nat} {wr : World} {q : Option Addr} {k cp : Nat} {XS : List Value} (h : OutR R base wr q k cp XS) (hk : R.length = k) (hm : k ≤ maxLen) (hf : ShortR R) : RunLs wr q k R := by
  refine ⟨hk, hm, ?_⟩
  by_cases h0 : k = 0
  · exact .inl h0
  · obtain ⟨g, rfl, hlt, _, _, _, hc⟩ := h.src (by omega)
    refine .inr ⟨g, 0, rfl, hlt, fun i hi => ?_⟩
    obtain ⟨p, c, hx, hr, _⟩ := hc i hi
    exact ⟨p, nAt R i, c, by rw [Nat.zero_add]; exact hx, recs_of_rs hr rfl (by have := (hf i (by omega)).1; unfold maxLen; omega) (fun j hj => by have := (hf i (by omega)).2 j hj; unfold maxLen; omega)⟩
theorem resR_short (l : Instrs) (each : Bool) (op n1 : Int) (m : Strs) (sl : Nat) : ShortR (resR l each op n1 m sl).2.2.2 ∧ (resR l each op n1 m sl).2.2.2.length ≤ 3 ∧ ((resR l each op n1 m sl).1 = false → (resR l each op n1 m sl).2.2.2 = []) ∧ ((resR l each op n1 m sl).1 = true → 1 ≤ (resR l each op n1 m sl).2.2.2.length ∧ (resR l each op n1 m sl).2.1 = false ∧ (resR l each op n1 m sl).2.2.1 = 0) := by
  have hs0 : ShortR [] := fun i hi => absurd hi (by simp)
  unfold resR
  split
  · rename_i hj
    have hp := jobB_parts hj
    split
    · exact ⟨hs0, by simp, (fun _ => rfl), (fun h => by cases h)⟩
    · split
      · exact ⟨hs0, by simp, (fun _ => rfl), (fun h => by cases h)⟩
      · exact ⟨resL_short _ _ _ _ _ _ _, (by simp only [resL_len]; omega), (fun h => by cases h), fun _ => ⟨by simp only [resL_len]; omega, rfl, rfl⟩⟩
  · exact ⟨hs0, by simp, (fun _ => rfl), (fun h => by cases h)⟩
/-- The end of drawing a result and a key. -/
def DrewAns (w : World) (e : Ending) (w' : World) : Prop :=
  ∃ (d f : Bool) (task : Int) (q : Option Addr) (n cp : Nat) (LS : List Recs) (XS : List Value) (base : Nat) (key : ByteArray), e = .returned (.tuple #[.agg #[.bool d, .bool f, .int .i64 task, .slice q n cp], .string key]) ∧ OutR LS base w' q n cp XS ∧ LS.length = n ∧ n ≤ 3 ∧ PartsR LS ∧ ShortR LS ∧ key.size ≤ 5 ∧ Below w.heap.size w w'

end Go.Proofs.YtjofbeokkainlaaDoor
namespace Go.Proofs.YtjofbeokkainlaaDoor
open Go.ChangeShapes Go.WideShapes Go.ChangeAt Go.RowKit
set_option linter.unusedVariables false

def recTx (r : ByteArray × Int) : ByteArray := ⟨#[32]⟩ ++ r.1 ++ ⟨#[61]⟩ ++ decB r.2
def runTo (t : ByteArray) (V : Recs) (i : Nat) : ByteArray := (V.take i).foldl (fun t r => t ++ recTx r) t
def outTo (LS : List Recs) (k : Nat) : ByteArray := (LS.take k).foldl (fun t V => runTo (t ++ ⟨#[32, 124]⟩) V V.length) ⟨#[100, 111, 110, 101]⟩
def resTx (d f : Bool) (task : Int) (LS : List Recs) : ByteArray :=
  if d then outTo LS LS.length else if f then ⟨#[102, 97, 105, 108, 101, 100, 32]⟩ ++ decB task else ⟨#[111, 112, 101, 110]⟩
theorem runTo_zero (t : ByteArray) (V : Recs) : runTo t V 0 = t := by simp [runTo]
theorem runTo_step (t : ByteArray) (V : Recs) (i : Nat) (h : i < V.length) : runTo t V (i + 1) = runTo t V i ++ recTx (keyAt V i, numAt V i) := by
  unfold runTo
  rw [List.take_succ_eq_append_getElem h, List.foldl_append]
  have e : V[i] = (keyAt V i, numAt V i) := by
    unfold keyAt numAt
    rw [List.getD_eq_getElem?_getD, List.getElem?_eq_getElem h]
    rfl
  rw [e]
  rfl
theorem outTo_zero (LS : List Recs) : outTo LS 0 = ⟨#[100, 111, 110, 101]⟩ := by simp [outTo]
theorem outTo_step (LS : List Recs) (k : Nat) (h : k < LS.length) : outTo LS (k + 1) = runTo (outTo LS k ++ ⟨#[32, 124]⟩) (LS.getD k []) (LS.getD k []).length := by
  unfold outTo
  rw [List.take_succ_eq_append_getElem h, List.foldl_append]
  have e : LS[k] = LS.getD k [] := by
    rw [List.getD_eq_getElem?_getD, List.getElem?_eq_getElem h]
    rfl
  rw [e]
  rfl
/-- Few runs, few records, short keys, numbers of 64 bits. -/
structure FewR (LS : List Recs) : Prop where
  runs : LS.length ≤ 1048576
  recs : LS.flatten.length ≤ 1048576
  short : ∀ V ∈ LS, ∀ r ∈ V, r.1.size ≤ 1048576
  nums : ∀ V ∈ LS, ∀ r ∈ V, In64 r.2
theorem app_sz (s u : ByteArray) : (s ++ u).size = s.size + u.size := by simp
theorem recTx_le {s : ByteArray} {n : Int} (h : s.size ≤ 1048576) (hn : In64 n) : (recTx (s, n)).size ≤ 1048600 := by
  have := @decB_size n hn.1 (by have := hn.2; omega)
  unfold recTx
  rw [app_sz, app_sz, app_sz]
  show 1 + s.size + 1 + (decB n).size ≤ 1048600
  omega
theorem runTo_le (t : ByteArray) (V : Recs) (hs : ∀ r ∈ V, r.1.size ≤ 1048576) (hn : ∀ r ∈ V, In64 r.2) : ∀ i, i ≤ V.length → (runTo t V i).size ≤ t.size + i * 1048600
  | 0, _ => by rw [runTo_zero]; omega
  | i + 1, h => by
    have hi : i < V.length := by omega
    have e : V[i] = (keyAt V i, numAt V i) := by
      unfold keyAt numAt
      rw [List.getD_eq_getElem?_getD, List.getElem?_eq_getElem hi]
      rfl
    have h1 := hs _ (List.getElem_mem hi)
    have h2 := hn _ (List.getElem_mem hi)
    rw [e] at h1 h2
    have := runTo_le t V hs hn i (by omega)
    have := recTx_le (s := keyAt V i) (n := numAt V i) h1 h2
    rw [runTo_step t V i hi, app_sz]
    omega
theorem getD_mem' {LS : List Recs} {k : Nat} (h : k < LS.length) : LS.getD k [] ∈ LS := by
  rw [List.getD_eq_getElem?_getD, List.getElem?_eq_getElem h]
  exact List.getElem_mem h
theorem outTo_le {LS : List Recs} (hf : FewR LS) : ∀ k, k ≤ LS.length → (outTo LS k).size ≤ 4 + k * 2 + (LS.take k).flatten.length * 1048600
  | 0, _ => by
    rw [outTo_zero]
    exact Nat.le_trans (show (⟨#[100, 111, 110, 101]⟩ : ByteArray).size ≤ 4 by decide) (by omega)
  | k + 1, h => by
    have hk : k < LS.length := by omega
    have hm := getD_mem' hk
    have ih := outTo_le hf k (by omega)
    have hr := runTo_le (outTo LS k ++ ⟨#[32, 124]⟩) (LS.getD k []) (hf.short _ hm) (hf.nums _ hm) _ (Nat.le_refl _)
    rw [app_sz] at hr
    have e : (LS.take (k + 1)).flatten.length = (LS.take k).flatten.length + (LS.getD k []).length := by
      rw [List.take_succ_eq_append_getElem hk, List.flatten_append, List.length_append, List.flatten_singleton, List.getD_eq_getElem?_getD, List.getElem?_eq_getElem hk]
      rfl
    have e2 : (⟨#[32, 124]⟩ : ByteArray).size = 2 := rfl
    rw [e2] at hr
    rw [outTo_step LS k hk, e]
    omega
theorem runIn_le {LS : List Recs} (hf : FewR LS) {k i : Nat} (hk : k < LS.length) (hi : i ≤ (LS.getD k []).length) : (runTo (outTo LS k ++ ⟨#[32, 124]⟩) (LS.getD k []) i).size ≤ 1100000000000 := by
  have hm := getD_mem' hk
  have h1 := outTo_le hf k (by omega)
  have h2 := runTo_le (outTo LS k ++ ⟨#[32, 124]⟩) (LS.getD k []) (hf.short _ hm) (hf.nums _ hm) i hi
  rw [app_sz] at h2
  have e2 : (⟨#[32, 124]⟩ : ByteArray).size = 2 := rfl
  rw [e2] at h2
  have hl : (LS.take k).flatten.length + (LS.getD k []).length ≤ LS.flatten.length := by
    have e : LS.flatten = (LS.take k).flatten ++ (LS.drop k).flatten := by rw [← List.flatten_append, List.take_append_drop]
    rw [e, List.length_append, List.drop_eq_getElem_cons hk, List.flatten_cons, List.length_append, List.getD_eq_getElem?_getD, List.getElem?_eq_getElem hk]
    show _ + LS[k].length ≤ _
    omega
  have h3 := hf.recs
  have h4 := hf.runs
  omega
theorem outIn_le {LS : List Recs} (hf : FewR LS) {k : Nat} (hk : k ≤ LS.length) : (outTo LS k).size ≤ 1100000000000 := by
  have h1 := outTo_le hf k hk
  have hl : (LS.take k).flatten.length ≤ LS.flatten.length := by
    have e : LS.flatten = (LS.take k).flatten ++ (LS.drop k).flatten := by rw [← List.flatten_append, List.take_append_drop]
    rw [e, List.length_append]
    omega
  have h3 := hf.recs
  have h4 := hf.runs
  omega

/-- A slice of runs that may be read. -/
structure OutsAt (w : World) (a : Option Addr) (len : Nat) (LS : List Recs) : Prop where
  length : LS.length = len
  max : len ≤ maxLen
  src : len = 0 ∨ ∃ b off, a = some ⟨b, off, none⟩ ∧ b < w.heap.size ∧ ∀ i, i < len → ∃ p m c, w.cell? ⟨b, off + i, none⟩ = some (.slice p m c) ∧ RecsAt w p m (LS.getD i [])
theorem OutsAt.keep {w w1 : World} {a : Option Addr} {len : Nat} {LS : List Recs} (h : OutsAt w a len LS) (hB : Below w.heap.size w w1) : OutsAt w1 a len LS := by
  refine ⟨h.length, h.max, ?_⟩
  rcases h.src with h0 | ⟨b, off, ha, hb, hc⟩
  · exact .inl h0
  · refine .inr ⟨b, off, ha, Nat.lt_of_lt_of_le hb hB.size, fun i hi => ?_⟩
    obtain ⟨p, m, c, h1, h2⟩ := hc i hi
    exact ⟨p, m, c, (hB.cell (p := ⟨b, off + i, none⟩) hb).trans h1, h2.keep hB⟩
end Go.Proofs.YtjofbeokkainlaaDoor
namespace Go.Proofs.YtjofbeokkainlaaDoor
open Go.ChangeShapes Go.WideShapes Go.ChangeAt Go.RowKit
set_option linter.unusedVariables false
set_option maxRecDepth 100000

def NumsR (V : Recs) : Prop := ∀ r ∈ V, In64 r.2
theorem nums_at {V : Recs} (h : NumsR V) (i : Nat) : In64 (numAt V i) := by
  unfold numAt
  by_cases hi : i < V.length
  · rw [List.getD_eq_getElem?_getD, List.getElem?_eq_getElem hi]
    exact h _ (List.getElem_mem hi)
  · rw [List.getD_eq_getElem?_getD, List.getElem?_eq_none (by omega)]
    exact ⟨by decide, by decide⟩
theorem combN_in {op a b : Int} (ha : In64 a) (hb : In64 b) : In64 (combN op a b) := by
  unfold combN
  split
  · exact in64_wrap _
  · split
    · split
      · exact hb
      · exact ha
    · split
      · split
        · exact hb
        · exact ha
      · exact ⟨by decide, by decide⟩
theorem cStep_in {op : Int} {W : Recs} {r : ByteArray × Int} (hW : NumsR W) (hr : In64 r.2) : NumsR (cStep op W r) := by
  unfold cStep
  split
  · intro x hx
    rcases List.mem_or_eq_of_mem_set hx with h | h
    · exact hW x h
    · subst h
      exact combN_in (nums_at hW _) hr
  · intro x hx
    rcases List.mem_append.1 hx with h | h
    · exact hW x h
    · simp only [List.mem_singleton] at h
      subst h; exact hr
theorem foldl_in {op : Int} : ∀ (L W : Recs), NumsR W → NumsR L → NumsR (L.foldl (cStep op) W)
  | [], W, hW, _ => hW
  | r :: L, W, hW, hL => foldl_in L _ (cStep_in hW (hL r (by simp))) (fun x hx => hL x (by simp [hx]))
theorem combW_in {op : Int} {V : Recs} (h : NumsR V) : NumsR (combW op V) := by
  unfold combW
  split
  · unfold cTo
    refine foldl_in _ _ (fun r hr => by simp at hr) fun r hr => ?_
    have hr := List.mem_of_mem_take hr
    cases hok : recsOkB V with
    | false => rw [sortedB_not hok] at hr; simp at hr
    | true => rw [sortedB_is hok] at hr; exact h r ((sortL_perm V).mem_iff.1 hr)
  · intro r hr; simp at hr
theorem liftW_in {op : Int} {V : Recs} (h : NumsR V) : NumsR (liftW op V) := by
  unfold liftW
  split
  · unfold liftL
    intro r hr
    obtain ⟨s, hs, rfl⟩ := List.mem_map.1 hr
    show In64 (if op = 4 then 1 else s.2)
    split
    · exact ⟨by decide, by decide⟩
    · exact h s hs
  · intro r hr; simp at hr
theorem mapJ_in {l : Instrs} {each : Bool} {op n1 : Int} {m : Strs} {sl : Nat} {t : Int} (hn : ∀ i, i < l.length → In64 (ins1 l i)) (p : Nat) : NumsR ((mapJ l each op n1 m sl t).1.getD p []) := by
  intro r h
  unfold mapJ at h
  split at h
  · unfold mapR at h
    split at h
    · simp only at h
      by_cases hp : p < n1.toNat
      · rw [runsR_at hp] at h
        unfold ofR at h
        refine combW_in (liftW_in fun s hs => ?_) r h
        exact ((emitR_facts (each := each) _ hn).2.1 s (partL_mem hs)).2
      · rw [List.getD_eq_getElem?_getD, List.getElem?_eq_none (by rw [runsR_len]; omega)] at h
        simp at h
    · simp at h
  · simp at h
theorem redJ_in {l : Instrs} {each : Bool} {op n1 : Int} {m : Strs} {sl : Nat} (hn : ∀ i, i < l.length → In64 (ins1 l i)) (p : Int) : NumsR (redJ l each op n1 m sl p).1 := by
  intro r h
  unfold redJ at h
  split at h
  · split at h
    · simp at h
    · split at h
      · simp only at h
        refine combW_in (fun s hs => ?_) r h
        obtain ⟨L, hL, hs2⟩ := mallW_mem hs
        unfold redL at hL
        obtain ⟨t, _, rfl⟩ := List.mem_map.1 hL
        exact mapJ_in hn _ s hs2
      · simp at h
  · simp at h
theorem redJ_short (l : Instrs) (each : Bool) (op n1 : Int) (m : Strs) (sl : Nat) (p : Int) : ∀ r ∈ (redJ l each op n1 m sl p).1, r.1.size ≤ 40 := by
  intro r hr
  obtain ⟨i, hi, e⟩ := List.mem_iff_getElem.1 hr
  have := (redJ_few l each op n1 m sl p).2 i hi
  rw [at_get _ i hi] at e
  rw [← e]
  exact this
/-- Few parts, few records, short keys, numbers of 64 bits. -/
theorem resR_few {l : Instrs} {each : Bool} {op n1 : Int} {m : Strs} {sl : Nat} (hn : ∀ i, i < l.length → In64 (ins1 l i)) : (resR l each op n1 m sl).2.2.2.length ≤ 3 ∧ ∀ V ∈ (resR l each op n1 m sl).2.2.2, V.length ≤ 600 ∧ ∀ r ∈ V, r.1.size ≤ 40 ∧ In64 r.2 := by
  unfold resR
  split
  · rename_i hj
    have hp := jobB_parts hj
    split
    · exact ⟨by simp, fun V hV => absurd hV (by simp)⟩
    · split
      · exact ⟨by simp, fun V hV => absurd hV (by simp)⟩
      · refine ⟨by simp only [resL_len]; omega, fun V hV => ?_⟩
        simp only at hV
        unfold resL at hV
        obtain ⟨t, _, rfl⟩ := List.mem_map.1 hV
        exact ⟨(redJ_few l each op n1 m sl t).1, fun r hr => ⟨redJ_short l each op n1 m sl t r hr, redJ_in hn t r hr⟩⟩
  · exact ⟨by simp, fun V hV => absurd hV (by simp)⟩
theorem flat_few {LS : List Recs} (h : ∀ V ∈ LS, V.length ≤ 600) : LS.flatten.length ≤ LS.length * 600 := by
  induction LS with
  | nil => simp
  | cons V T ih =>
    rw [List.flatten_cons, List.length_append, List.length_cons]
    have := h V (by simp)
    have := ih fun x hx => h x (by simp [hx])
    omega
theorem fewR_of {LS : List Recs} (h : LS.length ≤ 4) (hv : ∀ V ∈ LS, V.length ≤ 600 ∧ ∀ r ∈ V, r.1.size ≤ 40 ∧ In64 r.2) : FewR LS := by
  have := flat_few (LS := LS) fun V hV => (hv V hV).1
  exact ⟨by omega, by omega, fun V hV r hr => by have := ((hv V hV).2 r hr).1; omega, fun V hV r hr => ((hv V hV).2 r hr).2⟩
theorem outTo_snoc (LS : List Recs) (V : Recs) : outTo (LS ++ [V]) (LS ++ [V]).length = runTo (outTo LS LS.length ++ ⟨#[32, 124]⟩) V V.length := by
  rw [show (LS ++ [V]).length = LS.length + 1 by simp, outTo_step _ _ (by simp)]
  have e : outTo (LS ++ [V]) LS.length = outTo LS LS.length := by
    unfold outTo
    rw [List.take_append_of_le_length (Nat.le_refl _)]
  have e2 : (LS ++ [V]).getD LS.length [] = V := by simp [List.getD_eq_getElem?_getD]
  rw [e, e2]
/-- One run more, of one record: its text follows. -/
theorem resTx_more (f1 f2 : Bool) (t1 t2 : Int) (LS : List Recs) : resTx true f2 t2 (LS ++ [[(⟨#[113]⟩, -5)]]) = resTx true f1 t1 LS ++ ⟨#[32, 124, 32, 113, 61, 45, 53]⟩ := by
  have e : resTx true f2 t2 (LS ++ [[(⟨#[113]⟩, -5)]]) = outTo (LS ++ [[(⟨#[113]⟩, -5)]]) (LS ++ [[((⟨#[113]⟩ : ByteArray), (-5 : Int))]]).length := by unfold resTx; rw [if_pos rfl]
  have e1 : resTx true f1 t1 LS = outTo LS LS.length := by unfold resTx; rw [if_pos rfl]
  rw [e, e1, outTo_snoc]
  show runTo _ _ 1 = _
  have e3 : ∀ t : ByteArray, runTo t [((⟨#[113]⟩ : ByteArray), (-5 : Int))] 1 = t ++ recTx (⟨#[113]⟩, -5) := fun t => rfl
  have e4 : recTx (⟨#[113]⟩, -5) = ⟨#[32, 113, 61, 45, 53]⟩ := by decide +kernel
  rw [e3, e4, ByteArray.append_assoc]
  congr 1
end Go.Proofs.YtjofbeokkainlaaDoor
namespace Go.Proofs.YtjofbeokkainlaaDoor
open Go.ChangeShapes Go.WideShapes Go.ChangeAt Go.RowKit
set_option linter.unusedVariables false
set_option maxRecDepth 100000

theorem resR_task (l : Instrs) (each : Bool) (op n1 : Int) (m : Strs) (sl : Nat) : 0 ≤ (resR l each op n1 m sl).2.2.1 ∧ (resR l each op n1 m sl).2.2.1 ≤ 10 := by
  unfold resR
  split
  · rename_i hj
    have hp := jobB_parts hj
    rcases failAt_cases (fun t => (mapJ l each op n1 m sl (t : Nat)).2) sl with ⟨e1, _⟩ | ⟨k, hk, e1, _⟩
    · rcases failAt_cases (fun p => (redJ l each op n1 m sl (p : Nat)).2) n1.toNat with ⟨e2, _⟩ | ⟨k, hk, e2, _⟩
      · simp only [e1, e2]; omega
      · simp only [e1, e2]; omega
    · simp only [e1]; omega
  · simp only; omega
/-- Few short runs, with numbers of 64 bits. -/
def FineR (LS : List Recs) : Prop := ∀ V ∈ LS, V.length ≤ 600 ∧ ∀ r ∈ V, r.1.size ≤ 40 ∧ In64 r.2
/-- The end of drawing a result for its text. -/
def DrewRt (w : World) (e : Ending) (w' : World) : Prop :=
  ∃ (d f : Bool) (task : Int) (q : Option Addr) (n cp : Nat) (LS : List Recs) (XS : List Value) (base : Nat), e = .returned (.agg #[.bool d, .bool f, .int .i64 task, .slice q n cp]) ∧ OutR LS base w' q n cp XS ∧ LS.length = n ∧ n ≤ 3 ∧ FineR LS ∧ ShortR LS ∧ In64 task ∧ (d = true → 1 ≤ n) ∧ Below w.heap.size w w'

set_option maxHeartbeats 4000000 in
theorem drawrt_any (w : World) (a : Option Addr) (len cap : Nat) (h : Src w a len) : Calls Tryd.prog 5 #[.slice a len cap] w (DrewRt w) := by
  obtain ⟨R, hR⟩ : ∃ R, w.heap.size = R := ⟨_, rfl⟩
  obtain ⟨wb, hwb⟩ : ∃ wb, w.alloc (.cells #[.bool false, .bool false, .int .i64 0, .slice none 0 0] 26) = wb := ⟨_, rfl⟩
  have HRR := Lib.hid (show Row wb R 26 #[.bool false, .bool false, .int .i64 0, .slice none 0 0] from by rw [← hwb, ← hR]; exact row_new _ _ _)
  have HBB := Lib.hid (show Below w.heap.size w wb from hwb ▸ below_alloc (Below.refl _ _) _)
  have HSZ := Lib.hid (show wb.heap.size = R + 1 by rw [← hwb, ← hR]; simp)
  have HRE := Lib.hid hR
  have H := Lib.hid (h.below HBB.out)
  clear h
  go_enter Tryd.func5, Tryd.ntmps5
  go_wp2_with fail
  refine (open_any _ _ _ _ H.out).mono ?_
  rintro e w1 ⟨rfl, hb, hrd⟩
  have HB1 := Lib.hid hb
  have HRD := Lib.hid hrd
  have HRR := Lib.hid (HRR.out.keep hb)
  obtain ⟨r, hre⟩ : ∃ r, wb.heap.size = r := ⟨_, rfl⟩
  rw [hre] at HRD ⊢
  have HRr := Lib.hid (show R < r by have := HSZ.out; omega)
  have HLT := Lib.hid (show r < w1.heap.size by rw [← hre]; exact hrd.lt)
  clear hb hrd hre hR hwb
  go_wp2_with fail
  refine (rjob_any _ _ _ _ _ HRD.out).mono ?_
  rintro e w2 ⟨pq, pn, pc, W, sq, sn, sc, M, e1, o1, n1, rfl, hpn, hsn, hd⟩
  have HW2 := Lib.hid hd.d.went
  have HF := Lib.hid hd.d.fine
  have HSZI := Lib.hid hd.d.size
  have HJ := Lib.hid (hd.f.job (by omega) (by omega))
  have HRR := Lib.hid (HRR.out.went HW2.out (by have := HRr.out; omega))
  clear hd
  obtain ⟨⟨d, f, task, LS⟩, hres⟩ : ∃ x, resR W e1 o1 n1 M sn = x := ⟨_, rfl⟩
  have HSH := Lib.hid (resR_short W e1 o1 n1 M sn)
  have HTK := Lib.hid (resR_task W e1 o1 n1 M sn)
  have HFW := Lib.hid (resR_few (each := e1) (op := o1) (n1 := n1) (m := M) (sl := sn) (fun i hi => (fine_at HF.out hi).1))
  rw [hres] at HSH HTK HFW
  have HRES := Lib.hid hres
  clear hres
  go_wp2_with fail
  refine (sresultof_any pq sq pn pc sn sc e1 o1 n1 W M _ HJ.out.1 (fun i hi => (fine_at HF.out (by rw [HSZI.out]; exact hi)).1) (fun i hi => by have := HJ.out.2 i hi; omega)).mono ?_
  rw [HRES.out]
  rintro e w3 ⟨q, cp, XS, rfl, ho⟩
  have HO := Lib.hid ho.r
  have HR2 := Lib.hid (show r < w2.heap.size from by have := HW2.out.size; have := HLT.out; omega)
  have HW3 := Lib.hid (show Went w1 r a len cap w3 from HW2.out.trans ⟨⟨ho.below.os, ho.below.tape, ho.below.output, ho.below.size, fun i hi _ => ho.below.block i hi⟩, HW2.out.rdr.below (ho.below.mono (show r + 1 ≤ w2.heap.size from HR2.out))⟩)
  have HRR := Lib.hid (HRR.out.keep ho.below)
  obtain ⟨n, hn⟩ : ∃ n, LS.length = n := ⟨_, rfl⟩
  have HNN := Lib.hid hn
  have HW23 := Lib.hid (show r < w3.heap.size from by have := HR2.out; have := ho.below.size; omega)
  simp only [hn] at HO ⊢
  clear ho hn
  obtain ⟨X, hX⟩ : ∃ X, w3.heap.size = X := ⟨_, rfl⟩
  obtain ⟨wx, hwx⟩ : ∃ x, w3.alloc (.cells #[.bool d, .bool f, .int .i64 task, .slice q n cp] 26) = x := ⟨_, rfl⟩
  have HXB := Lib.hid (show Row wx X 26 #[.bool d, .bool f, .int .i64 task, .slice q n cp] from by rw [← hwx, ← hX]; exact row_new _ _ _)
  have HWX := Lib.hid (show Went w1 r a len cap wx from hwx ▸ HW3.out.alloc _)
  have hbx : Below w3.heap.size w3 wx := hwx ▸ below_alloc (Below.refl _ _) _
  have HO := Lib.hid (HO.out.keep hbx)
  have HRR := Lib.hid (HRR.out.keep hbx)
  have HNX := Lib.hid (show X ≠ r from by have := HW23.out; omega)
  have HNR := Lib.hid (show R ≠ r ∧ R < w2.heap.size from ⟨by have := HRr.out; omega, by have := HRr.out; have := HR2.out; omega⟩)
  have HWXE := Lib.hid hwx
  have HXE := Lib.hid hX
  clear hbx hwx hX
  go_wp2_with fail
  rw [HWXE.out]
  try rw [HXE.out]
  refine (once_any 8 _ _ _ _ _ HWX.out.rdr (by decide) (by decide)).mono ?_
  rintro e w4 ⟨⟨b8, rfl⟩, hw⟩
  have HO := Lib.hid (HO.out.went hw HR2.out)
  have HW4 := Lib.hid (HWX.out.trans hw)
  have HRR := Lib.hid (HRR.out.went hw HNR.out.1)
  have HXB := Lib.hid (HXB.out.went hw HNX.out)
  clear hw
  have hwR : w.heap.size ≤ R := by rw [HRE.out]; exact Nat.le_refl _
  cases b8 with
  | true =>
    go_wp2_with fail
    refine (once_any 2 _ _ _ _ _ HW4.out.rdr (by decide) (by decide)).mono ?_
    rintro e w5 ⟨⟨b2, rfl⟩, hw⟩
    have HW5 := Lib.hid (HW4.out.trans hw)
    have HRR := Lib.hid (HRR.out.went hw HNR.out.1)
    clear hw
    go_wp2_with fail
    refine (below_any 9 _ _ _ _ _ HW5.out.rdr (by decide) (by decide)).mono ?_
    rintro e w6 ⟨⟨x, hx0, hx1, rfl⟩, hw⟩
    have HW6 := Lib.hid (HW5.out.trans hw)
    have HRR := Lib.hid (HRR.out.went hw HNR.out.1)
    have HB6 := Lib.hid (show Below w.heap.size w w6 from HW6.out.under ((HBB.out.trans (HB1.out.mono HBB.out.size))) (by rw [HRE.out]; have := HRr.out; omega) ((HBB.out.trans (HB1.out.mono HBB.out.size))).size)
    have hxi : In64 x := ⟨by omega, by omega⟩
    clear hw
    have r0 := HRR.out.cell (j := 0) (by simp)
    have r1 := HRR.out.cell (j := 1) (by simp)
    have r2 := HRR.out.cell (j := 2) (by simp)
    have r3 := HRR.out.cell (j := 3) (by simp)
    simp at r0 r1 r2 r3
    have fr0 := HRR.out.free 0
    have fr1 := HRR.out.free 1
    have fr2 := HRR.out.free 2
    have fr3 := HRR.out.free 3
    go_wp2
    have hbF := (((HRR.out.set 0 (.bool false)).set 1 (.bool b2)).set 2 (.int .i64 x)).set 3 (.slice none 0 0)
    unfold Row at hbF
    exact bodyPost_ret (v := .agg #[.bool false, .bool b2, .int .i64 x, .slice none 0 0]) (by simp [results, Tryd.results5, go_sem, World.cell?, hbF]) rfl
      ⟨false, b2, x, none, 0, 0, [], [], 0, rfl, ⟨World.ownsRow_nil _ _ _ _, fun i hi => by omega⟩, rfl, by omega, fun V hV => absurd hV (by simp), fun i hi => absurd hi (by simp), hxi, (fun h => by cases h), below4 HB6.out hwR _ _ _ _⟩
  | false =>
    have HB4 := Lib.hid (show Below w.heap.size w w4 from HW4.out.under ((HBB.out.trans (HB1.out.mono HBB.out.size))) (by rw [HRE.out]; have := HRr.out; omega) ((HBB.out.trans (HB1.out.mono HBB.out.size))).size)
    have r0 := HRR.out.cell (j := 0) (by simp)
    have r1 := HRR.out.cell (j := 1) (by simp)
    have r2 := HRR.out.cell (j := 2) (by simp)
    have r3 := HRR.out.cell (j := 3) (by simp)
    simp at r0 r1 r2 r3
    have fr0 := HRR.out.free 0
    have fr1 := HRR.out.free 1
    have fr2 := HRR.out.free 2
    have fr3 := HRR.out.free 3
    have x0 := HXB.out.cell (j := 0) (by simp)
    have x1 := HXB.out.cell (j := 1) (by simp)
    have x2 := HXB.out.cell (j := 2) (by simp)
    have x3 := HXB.out.cell (j := 3) (by simp)
    simp at x0 x1 x2 x3
    go_wp2
    have hbF := (((HRR.out.set 0 (.bool d)).set 1 (.bool f)).set 2 (.int .i64 task)).set 3 (.slice q n cp)
    unfold Row at hbF
    exact bodyPost_ret (v := .agg #[.bool d, .bool f, .int .i64 task, .slice q n cp]) (by simp [results, Tryd.results5, go_sem, World.cell?, hbF]) rfl
      ⟨d, f, task, q, n, cp, LS, XS, w2.heap.size, rfl, (((HO.out.put HNR.out.2 0 _).put HNR.out.2 1 _).put HNR.out.2 2 _).put HNR.out.2 3 _, HNN.out, by have := HSH.out.2.1; rw [← HNN.out]; exact this, HFW.out.2, HSH.out.1, ⟨by have := HTK.out.1; omega, by have := HTK.out.2; omega⟩, (fun h => by have := (HSH.out.2.2.2 h).1; rw [← HNN.out]; exact this), below4 HB4.out hwR _ _ _ _⟩
end Go.Proofs.YtjofbeokkainlaaDoor
namespace Go.Proofs.YtjofbeokkainlaaDoor
open Go.ChangeShapes Go.WideShapes Go.ChangeAt Go.RowKit
set_option linter.unusedVariables false
set_option maxRecDepth 100000

theorem rec_app (t s : ByteArray) (n : Int) : t ++ ⟨#[32]⟩ ++ s ++ ⟨#[61]⟩ ++ decB n = t ++ recTx (s, n) := by
  unfold recTx
  simp only [ByteArray.append_assoc]

set_option maxHeartbeats 8000000 in
theorem sresulttext_any (d f : Bool) (task : Int) (q : Option Addr) (n cp : Nat) (LS : List Recs) (w : World) (h : OutsAt w q n LS) (hf : FewR LS) (ht : In64 task) :
    Calls Tryd.prog 7 #[.agg #[.bool d, .bool f, .int .i64 task, .slice q n cp]] w (MadeTx (resTx d f task LS) w) := by
  have hn : n ≤ 1048576 := by have := hf.runs; rw [h.length] at this; exact this
  have HL := Lib.hid h.length
  have HF := Lib.hid hf
  obtain ⟨B, hB⟩ : ∃ B, w.heap.size = B := ⟨_, rfl⟩
  obtain ⟨w1, hw1⟩ : ∃ x, w.alloc (.cells #[.bool d, .bool f, .int .i64 task, .slice q n cp] 26) = x := ⟨_, rfl⟩
  have HB := Lib.hid (show Below w.heap.size w w1 from hw1 ▸ below_alloc (Below.refl _ _) _)
  have HR := Lib.hid (show Row w1 B 26 #[.bool d, .bool f, .int .i64 task, .slice q n cp] from by rw [← hw1, ← hB]; exact Row.new w _ _)
  have HO := Lib.hid (show OutsAt w1 q n LS from h.keep HB.out)
  have hBl := Lib.hid HR.out.lt
  have k0 := HR.out.cell (j := 0) (by simp)
  have k1 := HR.out.cell (j := 1) (by simp)
  have k2 := HR.out.cell (j := 2) (by simp)
  have k3 := HR.out.cell (j := 3) (by simp)
  simp at k0 k1 k2 k3
  have HT := Lib.hid ht
  clear h hf ht
  cases d with
  | false =>
    cases f with
    | false =>
      go_enter Tryd.func7, Tryd.ntmps7
      go_wp2
      go_ret
      exact ⟨rfl, HB.out⟩
    | true =>
      have hz := @decB_size task HT.out.1 (by have := HT.out.2; omega)
      have c1 : ∀ w, (Op.stringOp .add (⟨#[102, 97, 105, 108, 101, 100, 32]⟩ : ByteArray) (decB task)).run Tryd.prog w = .ok (.string (⟨#[102, 97, 105, 108, 101, 100, 32]⟩ ++ decB task)) w := fun w => cat_runp _ _ 20 (by decide) hz
      clear hz
      go_enter Tryd.func7, Tryd.ntmps7
      go_wp2_with fail
      refine (l1dec_any task HT.out.1 (by have := HT.out.2; omega) _).mono ?_
      rintro e w2 ⟨rfl, hB2⟩
      have HB2 := Lib.hid (below_via HB.out hB2)
      clear hB2
      go_wp2
      go_ret
      exact ⟨rfl, HB2.out⟩
  | true =>
    go_enter Tryd.func7, Tryd.ntmps7
    go_wp2_with fail
    clear hB hw1 k0 k1 k2
    have K3 := Lib.hid k3
    clear k3
    go_loopw [3, 4] (fun s i wr => ∃ k : Nat, k ≤ n ∧ i = .int .i64 k ∧ s = .string (outTo LS k) ∧ Hid (Below w1.heap.size w1 wr)) (fun _ i _ => n - (intOf i).toNat)
    case atStart => exact ⟨0, Nat.zero_le _, rfl, by rw [outTo_zero], Lib.hid (Below.refl _ _)⟩
    case round =>
      obtain ⟨k, hk, rfl, rfl, HW⟩ := hrel
      have z3 := (HW.out.cell (p := ⟨B, 3, none⟩) hBl.out).trans K3.out
      by_cases hlt : k < n
      · rcases HO.out.src with hz | ⟨b, off, rfl, hb, hc⟩
        · omega
        · obtain ⟨p, m, c, c0, hre⟩ := hc k hlt
          have hkl : k < LS.length := by rw [HL.out]; exact hlt
          have hm6 : m ≤ 1048576 := by
            have h1 := HF.out.recs
            have e : LS.flatten = (LS.take k).flatten ++ (LS.drop k).flatten := by rw [← List.flatten_append, List.take_append_drop]
            rw [e, List.length_append, List.drop_eq_getElem_cons hkl, List.flatten_cons, List.length_append] at h1
            have h2 := hre.length
            rw [List.getD_eq_getElem?_getD, List.getElem?_eq_getElem hkl] at h2
            have h3 : LS[k].length = m := h2
            omega
          have HIN := Lib.hid (show ∀ i, i ≤ m → (runTo (outTo LS k ++ ⟨#[32, 124]⟩) (LS.getD k []) i).size ≤ 1100000000000 from fun i hi => runIn_le HF.out hkl (by rw [hre.length]; exact hi))
          have hts := outIn_le HF.out (Nat.le_of_lt hkl)
          have HST := Lib.hid (outTo_step LS k hkl)
          have HSH := Lib.hid (And.intro (HF.out.short _ (getD_mem' hkl)) (HF.out.nums _ (getD_mem' hkl)))
          obtain ⟨V, hV⟩ : ∃ V, LS.getD k [] = V := ⟨_, rfl⟩
          rw [hV] at hre HIN HST HSH
          obtain ⟨t, ht⟩ : ∃ t, outTo LS k = t := ⟨_, rfl⟩
          rw [ht] at HIN HST hts ⊢
          have HRE := Lib.hid hre
          have C0 := Lib.hid c0
          have hbl := Lib.hid hb
          have z0 := (HW.out.cell (p := ⟨b, off + k, none⟩) hb).trans c0
          have cat1 : ∀ w, (Op.stringOp .add t (⟨#[32, 124]⟩ : ByteArray)).run Tryd.prog w = .ok (.string (t ++ ⟨#[32, 124]⟩)) w := fun w => cat_runp _ _ 1100000000000 hts (by decide)
          have hk1 : (k : Int) < (n : Int) := by omega
          have hk0 : (0 : Int) ≤ (k : Int) := by omega
          have HVL := Lib.hid hre.length
          have HKL := Lib.hid hkl
          clear hc hre c0 hb hV ht hts hkl
          go_wp2_with fail
          obtain ⟨t2, ht2⟩ : ∃ t2, t ++ ⟨#[32, 124]⟩ = t2 := ⟨_, rfl⟩
          rw [ht2] at HIN HST ⊢
          clear ht2 cat1 z3 z0
          go_loopw [3, 5] (fun s i wy => ∃ j : Nat, j ≤ m ∧ i = .int .i64 j ∧ s = .string (runTo t2 V j) ∧ Hid (Below w1.heap.size w1 wy)) (fun _ i _ => m - (intOf i).toNat)
          case atStart => exact ⟨0, Nat.zero_le _, rfl, by rw [runTo_zero], HW⟩
          case round =>
            obtain ⟨j, hj, rfl, rfl, HY⟩ := hrel
            clear HW
            have z3 := (HY.out.cell (p := ⟨B, 3, none⟩) hBl.out).trans K3.out
            have z0 := (HY.out.cell (p := ⟨b, off + k, none⟩) hbl.out).trans C0.out
            by_cases hjm : j < m
            · rcases HRE.out.src with hz | ⟨b2, o2, rfl, hb2, hc2⟩
              · omega
              · have d0 := Lib.hid (hc2 j hjm).1
                have d1 := Lib.hid (hc2 j hjm).2
                have hb2l := Lib.hid hb2
                have hjl : j < V.length := by rw [HVL.out]; exact hjm
                have hu := HIN.out j (by omega)
                have HST2 := Lib.hid (runTo_step t2 V j hjl)
                have hsh := HSH.out.1 _ (List.getElem_mem hjl)
                have hnu := HSH.out.2 _ (List.getElem_mem hjl)
                have e : V[j] = (keyAt V j, numAt V j) := by
                  unfold keyAt numAt
                  rw [List.getD_eq_getElem?_getD, List.getElem?_eq_getElem hjl]
                  rfl
                rw [e] at hsh hnu
                obtain ⟨s, hs⟩ : ∃ s, keyAt V j = s := ⟨_, rfl⟩
                obtain ⟨x, hx⟩ : ∃ x, numAt V j = x := ⟨_, rfl⟩
                obtain ⟨u, hu2⟩ : ∃ u, runTo t2 V j = u := ⟨_, rfl⟩
                rw [hs] at d0 hsh HST2
                rw [hx] at d1 hnu HST2
                rw [hu2] at hu HST2 ⊢
                rw [← rec_app] at HST2
                have hs6 : s.size ≤ 1048576 := hsh
                have HN := Lib.hid (show In64 x from hnu)
                have hd20 := @decB_size x HN.out.1 (by have := HN.out.2; omega)
                have e32 : (⟨#[32]⟩ : ByteArray).size = 1 := rfl
                have e61 : (⟨#[61]⟩ : ByteArray).size = 1 := rfl
                have f1 : ∀ w, (Op.stringOp .add u (⟨#[32]⟩ : ByteArray)).run Tryd.prog w = .ok (.string (u ++ ⟨#[32]⟩)) w := fun w => cat_runp _ _ 2000000000000 (by omega) (by decide)
                have f2 : ∀ w, (Op.stringOp .add (u ++ ⟨#[32]⟩) s).run Tryd.prog w = .ok (.string (u ++ ⟨#[32]⟩ ++ s)) w := fun w => cat_runp _ _ 2000000000000 (by rw [app_sz, e32]; omega) (by omega)
                have f3 : ∀ w, (Op.stringOp .add (u ++ ⟨#[32]⟩ ++ s) (⟨#[61]⟩ : ByteArray)).run Tryd.prog w = .ok (.string (u ++ ⟨#[32]⟩ ++ s ++ ⟨#[61]⟩)) w := fun w => cat_runp _ _ 2000000000000 (by rw [app_sz, app_sz, e32]; omega) (by decide)
                have f4 : ∀ w, (Op.stringOp .add (u ++ ⟨#[32]⟩ ++ s ++ ⟨#[61]⟩) (decB x)).run Tryd.prog w = .ok (.string (u ++ ⟨#[32]⟩ ++ s ++ ⟨#[61]⟩ ++ decB x)) w := fun w => cat_runp _ _ 2000000000000 (by rw [app_sz, app_sz, app_sz, e32, e61]; omega) (by omega)
                have hj1 : (j : Int) < (m : Int) := by omega
                have hj0 : (0 : Int) ≤ (j : Int) := by omega
                clear hc2 hb2 hjl hu hsh hnu e hs hx hu2 hs6 hd20 e32 e61
                go_wp2_with fail
                refine wp_region_noPanic ?_
                obtain ⟨v0, hv0⟩ : ∃ x, wr.drew = x := ⟨_, rfl⟩
                have HV0 : Hid (Below w1.heap.size w1 v0) := Lib.hid (by rw [← hv0]; exact below_drewN HY.out 1)
                refine wp_region_held_drew (S := (fun w' => Hid (Below v0.heap.size v0 w'))) (by kernel_rfl) (by rw [hv0]; exact Lib.hid (Below.refl _ _)) (fun HS => ?_)
                rw [hv0] at HS ⊢
                clear hv0
                refine held_take (i := 0) (d := 28) (v := .string u) rfl rfl (by kernel_rfl) (by kernel_rfl) (by kernel_rfl) (by kernel_rfl) (fun wx hS => by go_simp) HS ?_
                refine held_take (i := 1) (d := 29) (v := .string (u ++ ⟨#[32]⟩)) rfl rfl (by kernel_rfl) (by kernel_rfl) (by kernel_rfl) (by kernel_rfl) (fun wx hS => by go_simp) HS ?_
                refine held_take (i := 2) (d := 30) (v := .pointer (some ⟨B, 3, none⟩)) rfl rfl (by kernel_rfl) (by kernel_rfl) (by kernel_rfl) (by kernel_rfl) (fun wx hS => by go_simp) HS ?_
                refine held_take (i := 3) (d := 31) (v := .slice (some ⟨b, off, none⟩) n cp) rfl rfl (by kernel_rfl) (by kernel_rfl) (by kernel_rfl) (by kernel_rfl) (fun wx hS => by have z3 := ((below_via HV0.out hS.out).cell (p := ⟨B, 3, none⟩) hBl.out).trans K3.out; go_simp) HS ?_
                refine held_take (i := 4) (d := 32) (v := .int .i64 k) rfl rfl (by kernel_rfl) (by kernel_rfl) (by kernel_rfl) (by kernel_rfl) (fun wx hS => by go_simp) HS ?_
                refine held_take (i := 5) (d := 33) (v := .pointer (some ⟨b, off + k, none⟩)) rfl rfl (by kernel_rfl) (by kernel_rfl) (by kernel_rfl) (by kernel_rfl) (fun wx hS => by go_simp) HS ?_
                refine held_take (i := 6) (d := 34) (v := .slice (some ⟨b2, o2, none⟩) m c) rfl rfl (by kernel_rfl) (by kernel_rfl) (by kernel_rfl) (by kernel_rfl) (fun wx hS => by have z0 := ((below_via HV0.out hS.out).cell (p := ⟨b, off + k, none⟩) hbl.out).trans C0.out; go_simp) HS ?_
                refine held_take (i := 7) (d := 35) (v := .int .i64 j) rfl rfl (by kernel_rfl) (by kernel_rfl) (by kernel_rfl) (by kernel_rfl) (fun wx hS => by go_simp) HS ?_
                refine held_take (i := 8) (d := 36) (v := .pointer (some ⟨b2, o2 + j * 2, none⟩)) rfl rfl (by kernel_rfl) (by kernel_rfl) (by kernel_rfl) (by kernel_rfl) (fun wx hS => by go_simp) HS ?_
                refine held_take (i := 9) (d := 37) (v := .pointer (some ⟨b2, o2 + j * 2, none⟩)) rfl rfl (by kernel_rfl) (by kernel_rfl) (by kernel_rfl) (by kernel_rfl) (fun wx hS => by go_simp) HS ?_
                refine held_take (i := 10) (d := 38) (v := .string s) rfl rfl (by kernel_rfl) (by kernel_rfl) (by kernel_rfl) (by kernel_rfl) (fun wx hS => by have y0 := ((below_via HV0.out hS.out).cell (p := ⟨b2, o2 + j * 2, none⟩) hb2l.out).trans d0.out; go_simp) HS ?_
                refine held_take (i := 11) (d := 39) (v := .string (u ++ ⟨#[32]⟩ ++ s)) rfl rfl (by kernel_rfl) (by kernel_rfl) (by kernel_rfl) (by kernel_rfl) (fun wx hS => by go_simp) HS ?_
                refine held_take (i := 12) (d := 40) (v := .string (u ++ ⟨#[32]⟩ ++ s ++ ⟨#[61]⟩)) rfl rfl (by kernel_rfl) (by kernel_rfl) (by kernel_rfl) (by kernel_rfl) (fun wx hS => by go_simp) HS ?_
                refine held_take (i := 13) (d := 41) (v := .pointer (some ⟨B, 3, none⟩)) rfl rfl (by kernel_rfl) (by kernel_rfl) (by kernel_rfl) (by kernel_rfl) (fun wx hS => by go_simp) HS ?_
                refine held_take (i := 14) (d := 42) (v := .slice (some ⟨b, off, none⟩) n cp) rfl rfl (by kernel_rfl) (by kernel_rfl) (by kernel_rfl) (by kernel_rfl) (fun wx hS => by have z3 := ((below_via HV0.out hS.out).cell (p := ⟨B, 3, none⟩) hBl.out).trans K3.out; go_simp) HS ?_
                refine held_take (i := 15) (d := 43) (v := .int .i64 k) rfl rfl (by kernel_rfl) (by kernel_rfl) (by kernel_rfl) (by kernel_rfl) (fun wx hS => by go_simp) HS ?_
                refine held_take (i := 16) (d := 44) (v := .pointer (some ⟨b, off + k, none⟩)) rfl rfl (by kernel_rfl) (by kernel_rfl) (by kernel_rfl) (by kernel_rfl) (fun wx hS => by go_simp) HS ?_
                refine held_take (i := 17) (d := 45) (v := .slice (some ⟨b2, o2, none⟩) m c) rfl rfl (by kernel_rfl) (by kernel_rfl) (by kernel_rfl) (by kernel_rfl) (fun wx hS => by have z0 := ((below_via HV0.out hS.out).cell (p := ⟨b, off + k, none⟩) hbl.out).trans C0.out; go_simp) HS ?_
                refine held_take (i := 18) (d := 46) (v := .int .i64 j) rfl rfl (by kernel_rfl) (by kernel_rfl) (by kernel_rfl) (by kernel_rfl) (fun wx hS => by go_simp) HS ?_
                refine held_take (i := 19) (d := 47) (v := .pointer (some ⟨b2, o2 + j * 2, none⟩)) rfl rfl (by kernel_rfl) (by kernel_rfl) (by kernel_rfl) (by kernel_rfl) (fun wx hS => by go_simp) HS ?_
                refine held_take (i := 20) (d := 48) (v := .pointer (some ⟨b2, o2 + j * 2 + 1, none⟩)) rfl rfl (by kernel_rfl) (by kernel_rfl) (by kernel_rfl) (by kernel_rfl) (fun wx hS => by go_simp) HS ?_
                refine held_take (i := 21) (d := 49) (v := .int .i64 x) rfl rfl (by kernel_rfl) (by kernel_rfl) (by kernel_rfl) (by kernel_rfl) (fun wx hS => by have y1 := ((below_via HV0.out hS.out).cell (p := ⟨b2, o2 + j * 2 + 1, none⟩) hb2l.out).trans d1.out; go_simp) HS ?_
                refine wpAnyH_ready (rs := [22]) (by kernel_rfl) (by simp) (AllReadyH.cons rfl (fun K hK => ?_) AllReadyH.nil)
                go_simp
                refine (l1dec_any x HN.out.1 (by have := HN.out.2; omega) _).mono ?_
                rintro y w5 ⟨rfl, hB5⟩
                refine hK.out _ _ (Lib.hid (below_via HS.out hB5)) (fun HS => ?_)
                clear hK K
                refine held_take (i := 23) (d := 51) (v := .string (u ++ ⟨#[32]⟩ ++ s ++ ⟨#[61]⟩ ++ decB x)) rfl rfl (by kernel_rfl) (by kernel_rfl) (by kernel_rfl) (by kernel_rfl) (fun wx hS => by go_simp) HS ?_
                refine held_take (i := 24) (d := 3) (v := .string (u ++ ⟨#[32]⟩ ++ s ++ ⟨#[61]⟩ ++ decB x)) rfl rfl (by kernel_rfl) (by kernel_rfl) (by kernel_rfl) (by kernel_rfl) (fun wx hS => by go_simp) HS ?_
                refine wpAnyH_done (by kernel_rfl) (NoPanic.normal ?_) _
                simp only [List.setIfInBounds_toArray, List.set_cons_zero, List.set_cons_succ]
                go_wp2
                go_roundw
                case rel => exact ⟨j + 1, by omega, by go_num, by rw [HST2.out], Lib.hid (below_via HV0.out HS.out)⟩
                case measure => simp [intOf]; omega
            · obtain rfl : j = m := by omega
              have e : runTo t2 V j = outTo LS (k + 1) := by rw [HST.out, HVL.out]
              rw [e]
              clear e
              go_wp2
              go_roundw
              case rel => exact ⟨k + 1, by omega, by go_num, rfl, HY⟩
              case measure => simp [intOf]; omega
      · obtain rfl : k = n := by omega
        have HE := Lib.hid (show outTo LS k = resTx true f task LS by unfold resTx; rw [if_pos rfl, HL.out])
        go_wp2
        go_ret
        exact ⟨by rw [HE.out]; rfl, below_via HB.out HW.out⟩
end Go.Proofs.YtjofbeokkainlaaDoor
