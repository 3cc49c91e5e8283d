/- Texts put together, as a claim holds at most sixty files. -/
import Derived.Test.YtjofbeokkainlaaGreatDoorMg1
import Derived.Test.YtjofbeokkainlaaGreatDoorMg0
import Derived.Test.YtjofbeokkainlaaGreatDoorMg11
import Derived.Test.YtjofbeokkainlaaGreatDoorMg9
import Derived.Test.YtjofbeokkainlaaGreatDoorRows
import Derived.WalkKit
import Derived.RegionTactic
import Derived.Deep.RegionHeld3
import Derived.Lib.Strings
import Derived.ProofKit
import Derived.WalkLawsBesides
import Derived.Lib.Hide
import Derived.OwnWalk
import Derived.OpenShut
import Derived.Deep.QuietTactic
import Derived.BigQuiet
import Derived.Outline
namespace Go.Proofs.YtjofbeokkainlaaGreatDoor
open Go.ChangeShapes Go.WideShapes Go.ChangeAt Go.RowKit
set_option linter.unusedVariables false
set_option maxRecDepth 100000

def takesB : Nat → ByteArray
  | 4 => ⟨#[84, 84]⟩ | 5 => ⟨#[84]⟩ | 6 => ⟨#[84]⟩ | 7 => ⟨#[78]⟩ | 8 => ⟨#[78, 78]⟩ | 9 => ⟨#[78, 78]⟩ | 10 => ⟨#[78, 78]⟩ | 11 => ⟨#[78, 78]⟩
  | 12 => ⟨#[84, 84]⟩ | 13 => ⟨#[84, 78]⟩ | 14 => ⟨#[84, 78, 78]⟩ | _ => ByteArray.empty
def givesB : Nat → ByteArray
  | 1 => ⟨#[84]⟩ | 2 => ⟨#[84]⟩ | 3 => ⟨#[78]⟩ | 4 => ⟨#[84]⟩ | 5 => ⟨#[78]⟩ | 6 => ⟨#[78]⟩ | 7 => ⟨#[84]⟩ | 8 => ⟨#[78]⟩ | 9 => ⟨#[78]⟩ | 10 => ⟨#[78]⟩ | 11 => ⟨#[78]⟩
  | 12 => ⟨#[78]⟩ | _ => ByteArray.empty
theorem takes_few (x : Nat) : (takesB x).size ≤ 3 := by
  unfold takesB; split <;> decide
theorem gives_few (x : Nat) : (givesB x).size ≤ 1 := by
  unfold givesB; split <;> decide

/-- The stack behind an instruction, or none. -/
def stepB (st tk gv : ByteArray) : Option ByteArray :=
  if tk.size ≤ st.size ∧ st.extract (st.size - tk.size) st.size = tk then some (st.extract 0 (st.size - tk.size) ++ gv) else none
def stk (l : Instrs) : Nat → Option ByteArray
  | 0 => some ByteArray.empty
  | k + 1 => match stk l k with
    | none => none
    | some st => if instrB (ins0 l k) (ins1 l k) (ins2 l k) = true then stepB st (takesB (ins0 l k).toNat) (givesB (ins0 l k).toNat) else none
def progB (l : Instrs) : Bool := decide (l.length ≤ 30) && decide (stk l l.length = some ByteArray.empty)

theorem stk_none {l : Instrs} {k n : Nat} (h : stk l k = none) (hk : k ≤ n) : stk l n = none := by
  induction n with
  | zero => obtain rfl : k = 0 := by omega
            exact h
  | succ n ih =>
    rcases Nat.lt_or_ge n k with h1 | h1
    · obtain rfl : k = n + 1 := by omega
      exact h
    · rw [stk, ih h1]
theorem prog_long {l : Instrs} (h : ¬ l.length ≤ 30) : progB l = false := by
  unfold progB; rw [decide_eq_false h]; rfl
theorem prog_bad {l : Instrs} {k : Nat} (hk : k ≤ l.length) (h : stk l k = none) : progB l = false := by
  unfold progB; rw [stk_none h hk]; simp
theorem prog_end {l : Instrs} {st : ByteArray} (h30 : l.length ≤ 30) (h : stk l l.length = some st) : progB l = decide (st.size = 0) := by
  unfold progB
  rw [h, decide_eq_true h30, Bool.true_and]
  by_cases hs : st.size = 0
  · have : st = ByteArray.empty := ByteArray.ext (Array.eq_empty_of_size_eq_zero hs)
    rw [this]; rfl
  · rw [decide_eq_false hs, decide_eq_false]
    intro he
    rw [Option.some.injEq] at he
    rw [he] at hs
    exact hs rfl
theorem stk_step {l : Instrs} {k : Nat} {st : ByteArray} (h : stk l k = some st) (hi : instrB (ins0 l k) (ins1 l k) (ins2 l k) = true) :
    stk l (k + 1) = stepB st (takesB (ins0 l k).toNat) (givesB (ins0 l k).toNat) := by
  rw [stk, h]; simp only [hi, if_pos]
theorem stk_wrong {l : Instrs} {k : Nat} (hi : instrB (ins0 l k) (ins1 l k) (ins2 l k) = false) : stk l (k + 1) = none := by
  rw [stk]
  split
  · rfl
  · rw [hi]; rfl
theorem step_short {st tk gv : ByteArray} (h : st.size < tk.size) : stepB st tk gv = none := by
  unfold stepB; rw [if_neg (by omega)]
theorem step_other {st tk gv : ByteArray} (h : st.extract (st.size - tk.size) st.size ≠ tk) : stepB st tk gv = none := by
  unfold stepB; rw [if_neg (fun h2 => h h2.2)]
theorem step_fits {st tk gv : ByteArray} (h0 : tk.size ≤ st.size) (h : st.extract (st.size - tk.size) st.size = tk) : stepB st tk gv = some (st.extract 0 (st.size - tk.size) ++ gv) := by
  unfold stepB; rw [if_pos ⟨h0, h⟩]
theorem step_size {st tk gv r : ByteArray} (h : stepB st tk gv = some r) (hg : gv.size ≤ 1) : r.size ≤ st.size + 1 := by
  unfold stepB at h
  split at h
  · rw [Option.some.injEq] at h
    rw [← h, ByteArray.size_append, ByteArray.size_extract]
    omega
  · cases h
theorem instr_op {op n : Int} {s : ByteArray} (h : instrB op n s = true) : 1 ≤ op ∧ op ≤ 14 := by
  unfold instrB at h
  split at h
  · omega
  · split at h
    · omega
    · split at h
      · omega
      · rw [Bool.and_eq_true, decide_eq_true_eq] at h
        omega
end Go.Proofs.YtjofbeokkainlaaGreatDoor
namespace Go.Proofs.YtjofbeokkainlaaGreatDoor
open Go.ChangeShapes Go.WideShapes Go.ChangeAt Go.RowKit
set_option linter.unusedVariables false
set_option maxRecDepth 100000

/-- The slice (q, length of W) holds the words W in a row from block 'base' on. -/
def Ws (base : Nat) (w : World) (q : Option Addr) (W : List (List UInt8)) : Prop :=
  W.length = 0 ∨ ∃ g cur, q = some ⟨g, 0, none⟩ ∧ base ≤ g ∧ Row w g 9 cur ∧ W.length ≤ cur.size ∧ ∀ j (h : j < W.length), cur[j]? = some (encS W[j])

theorem ws_of_own {base : Nat} {w : World} {q : Option Addr} {cp : Nat} {W V : List (List UInt8)} (h : w.ownsRow base 9 1 (.slice q W.length cp) W.length (W.map encS)) (hV : V = W.take V.length) : Ws base w q V := by
  have hle : V.length ≤ W.length := by have := congrArg List.length hV; simp at this; omega
  rcases h.2 with ⟨_, h2⟩ | ⟨g, cap, cur, hv, hb, hh, h1, _, h3, h4⟩
  · exact .inl (by omega)
  · simp only [Value.slice.injEq, true_and] at hv
    obtain ⟨rfl, rfl⟩ := hv
    refine .inr ⟨g, cur, rfl, hb, hh, by omega, fun j hj => ?_⟩
    have e : (cur.toList.take (W.length * 1))[j]? = (W.map encS)[j]? := by rw [h4]
    rw [List.getElem?_take_of_lt (by omega)] at e
    have e2 : cur[j]? = cur.toList[j]? := by simp
    rw [e2, e]
    have hVj : V[j] = W[j]'(by omega) := by
      have : V[j]? = (W.take V.length)[j]? := by rw [← hV]
      rw [List.getElem?_take_of_lt hj, List.getElem?_eq_getElem hj, List.getElem?_eq_getElem (by omega)] at this
      simpa using this
    rw [hVj]
    simp [show j < W.length by omega]

def strsOf (W : List (List UInt8)) : Strs := W.map fun b => ⟨b.toArray⟩
theorem strAt_of (W : List (List UInt8)) (j : Nat) (h : j < W.length) : strAt (strsOf W) j = ⟨W[j].toArray⟩ := by
  unfold strAt strsOf
  rw [List.getD_eq_getElem?_getD, List.getElem?_map, List.getElem?_eq_getElem h]; rfl

/-- Every word is short. -/
def Short (W : List (List UInt8)) : Prop := W.length ≤ 20 ∧ ∀ j (h : j < W.length), W[j].length ≤ maxLen

theorem strs_of_ws {base : Nat} {w : World} {q : Option Addr} {W : List (List UInt8)} (h : Ws base w q W) (hs : Short W) : StrsAt w q W.length (strsOf W) := by
  refine ⟨by simp [strsOf], by have := hs.1; unfold maxLen; omega, fun i hi => by rw [strAt_of W i hi]; exact hs.2 i hi, ?_⟩
  rcases h with h0 | ⟨g, cur, rfl, _, hr, _, hc⟩
  · exact .inl h0
  · refine .inr ⟨g, 0, rfl, hr.lt, fun i hi => ?_⟩
    rw [strAt_of W i hi]
    have := hc i hi
    unfold Row at hr
    simp [World.cell?, hr, this, encS]

theorem ws_keep {base : Nat} {w w1 : World} {q : Option Addr} {W : List (List UInt8)} (h : Ws base w q W) (hB : Below w.heap.size w w1) : Ws base w1 q W := by
  rcases h with h0 | ⟨g, cur, rfl, hb, hr, h1, h2⟩
  · exact .inl h0
  · exact .inr ⟨g, cur, rfl, hb, hr.keep hB, h1, h2⟩

theorem ws_lt {base : Nat} {w : World} {q : Option Addr} {W : List (List UInt8)} (h : Ws base w q W) (hn : 0 < W.length) : ∀ g, q = some ⟨g, 0, none⟩ → g < w.heap.size := by
  intro g hg
  rcases h with h0 | ⟨g', cur, rfl, hb, hr, h1, h2⟩
  · omega
  · simp only [Option.some.injEq, Addr.mk.injEq, and_true] at hg
    rw [← hg]; exact hr.lt

theorem ws_grown {base g : Nat} {w w1 : World} {q : Option Addr} {W : List (List UInt8)} (h : Ws base w q W) (hg : w.grownBy w1 (some g)) (hne : ∀ g', q = some ⟨g', 0, none⟩ → g' ≠ g) : Ws base w1 q W := by
  rcases h with h0 | ⟨g', cur, rfl, hb, hr, h1, h2⟩
  · exact .inl h0
  · exact .inr ⟨g', cur, rfl, hb, (hg.block g' hr.lt (by simpa using hne g' rfl)).trans hr, h1, h2⟩

theorem strs_of {base n : Nat} {w : World} {q : Option Addr} {W : List (List UInt8)} (h : Ws base w q W) (hs : Short W) (hn : W.length = n) : StrsAt w q n (strsOf W) := by
  subst hn; exact strs_of_ws h hs
end Go.Proofs.YtjofbeokkainlaaGreatDoor
namespace Go.Proofs.YtjofbeokkainlaaGreatDoor
open Go.ChangeShapes Go.WideShapes Go.ChangeAt Go.RowKit
set_option linter.unusedVariables false
set_option maxRecDepth 100000

end Go.Proofs.YtjofbeokkainlaaGreatDoor
namespace Go.Proofs.YtjofbeokkainlaaGreatDoor
open Go.ChangeShapes Go.WideShapes Go.ChangeAt Go.RowKit
set_option linter.unusedVariables false
set_option maxRecDepth 100000

theorem StrsAt.put {w : World} {a : Option Addr} {len : Nat} {l : Strs} (h : StrsAt w a len l) {X : Nat} (hne : ∀ b off, a = some ⟨b, off, none⟩ → b ≠ X) (j : Nat) (v : Value) : StrsAt (w.setCell ⟨X, j, none⟩ v) a len l := by
  refine ⟨h.length, h.max, h.sizes, ?_⟩
  rcases h.src with h0 | ⟨b, off, ha, hb, hc⟩
  · exact .inl h0
  · have e : ∀ o, (w.setCell ⟨X, j, none⟩ v).cell? ⟨b, o, none⟩ = w.cell? ⟨b, o, none⟩ := fun o => by
      simp only [World.cell?, Below.heap_setCell w ⟨X, j, none⟩ v b (hne b off ha)]
    exact .inr ⟨b, off, ha, by simpa [World.setCell] using hb, fun i hi => by simpa only [e] using hc i hi⟩
theorem sum_part (l : Strs) : ∀ {n i : Nat}, i < n → (strAt l i).size ≤ sumTo l n
  | n + 1, i, h => by
    show _ ≤ sumTo l n + (strAt l n).size
    by_cases h' : i = n
    · subst h'; omega
    · have := sum_part l (show i < n by omega); omega

/-- A job that may be read: its instructions and its splits. -/
structure JobAt (w : World) (p : Option Addr) (pl : Nat) (l : Instrs) (s : Option Addr) (sl : Nat) (m : Strs) : Prop where
  i : InstrsAt w p pl l
  t : StrsAt w s sl m
theorem JobAt.keep {w w1 : World} {p s : Option Addr} {pl sl : Nat} {l : Instrs} {m : Strs} (h : JobAt w p pl l s sl m) (hB : Below w.heap.size w w1) : JobAt w1 p pl l s sl m := ⟨h.i.keep hB, h.t.keep hB⟩
theorem JobAt.put {w : World} {p s : Option Addr} {pl sl : Nat} {l : Instrs} {m : Strs} (h : JobAt w p pl l s sl m) {X : Nat} (h1 : ∀ b off, p = some ⟨b, off, none⟩ → b ≠ X) (h2 : ∀ b off, s = some ⟨b, off, none⟩ → b ≠ X) (j : Nat) (v : Value) : JobAt (w.setCell ⟨X, j, none⟩ v) p pl l s sl m := ⟨h.i.put h1 j v, h.t.put h2 j v⟩

def JobSized (pl : Nat) (l : Instrs) (sl : Nat) (m : Strs) (w : World) (e : Ending) (w' : World) : Prop :=
  ∃ x : Int, -1 ≤ x ∧ x ≤ 1048576 ∧ e = .returned (.int .i64 x) ∧ Below w.heap.size w w' ∧ (0 ≤ x → pl ≤ 1048576 ∧ sl ≤ 1048576 ∧ ∀ i, i < sl → (strAt m i).size ≤ 1048576)

/-- The end of the laws' copy of a job. -/
def MadeJob (pl : Nat) (e1 : Bool) (o1 n1 : Int) (l : Instrs) (sl : Nat) (m : Strs) (w : World) (e : Ending) (w' : World) : Prop :=
  ∃ B C : Nat, e = .returned (.agg #[.slice (some ⟨B, 0, none⟩) pl pl, .bool e1, .int .i64 o1, .int .i64 n1, .slice (some ⟨C, 0, none⟩) sl sl]) ∧ JobAt w' (some ⟨B, 0, none⟩) pl l (some ⟨C, 0, none⟩) sl m ∧ Below w.heap.size w w' ∧ w.heap.size ≤ B ∧ B < C

end Go.Proofs.YtjofbeokkainlaaGreatDoor
namespace Go.Proofs.YtjofbeokkainlaaGreatDoor

section
variable {P : Program} {ops : Array Oper} {Q : Exit → Act → World → Prop} {md : Region.Mode}

theorem hand_take {i d : Nat} {oi : Oper} {v : Value} {fuel : Nat} {listed : Array Bool} {a : Act} {w : World} (hi : ops[i]? = some oi) (hd : oi.dst = some d)
    (hs : Region.noSelect ops = true) (hf : Region.free md ops listed i = true) (hr : (Region.ready md ops listed).contains i = true)
    (hw : Region.wanted oi (yielded ops a.tmps) = true) (hy : ∀ w, (execOp a.eval oi).run P w = .ok (.value v) w)
    (h : wpAny P md ops (NoPanic Q) fuel (listed.setIfInBounds i true) { a with tmps := a.tmps.setIfInBounds d v } w) : wpAny P md ops (NoPanic Q) (fuel + 1) listed a w :=
  wpAny_take hi hs hf hr (fun _ _ _ h => h) (Or.inl ⟨hw, hy⟩) (by rw [hd]; exact h)

theorem hand_skip {i d : Nat} {oi : Oper} {fuel : Nat} {listed : Array Bool} {a : Act} {w : World} (hi : ops[i]? = some oi) (hd : oi.dst = some d)
    (hs : Region.noSelect ops = true) (hf : Region.free md ops listed i = true) (hr : (Region.ready md ops listed).contains i = true)
    (hw : Region.wanted oi (yielded ops a.tmps) = false)
    (h : wpAny P md ops (NoPanic Q) fuel (listed.setIfInBounds i true) { a with tmps := a.tmps.setIfInBounds d undef } w) : wpAny P md ops (NoPanic Q) (fuel + 1) listed a w :=
  wpAny_take hi hs hf hr (fun _ _ _ h => h) (Or.inr ⟨hw, rfl⟩) (by rw [hd]; exact h)
end
end Go.Proofs.YtjofbeokkainlaaGreatDoor
namespace Go.Proofs.YtjofbeokkainlaaGreatDoor
open Go.ChangeShapes Go.WideShapes Go.ChangeAt Go.RowKit
set_option linter.unusedVariables false
set_option maxRecDepth 100000

/-- The words so far, in a row that the call made itself. -/
structure WordsSt (L : List UInt8) (w wr : World) (v : Value) (W : List (List UInt8)) (st j : Nat) : Prop where
  own : wr.ownsRow w.heap.size 9 1 v W.length (W.map encS)
  below : Below w.heap.size w wr
  rest : W ++ wordsL (L.drop st) = wordsL L
  no : j ≤ L.length → noC 32 (piece L st j)
  past : L.length < j → st = j

/-- The end of WordsOf: the first 20 words in a row of its own. -/
def MadeWords (W : List (List UInt8)) (w : World) (e : Ending) (w' : World) : Prop :=
  ∃ v, e = .returned v ∧ w'.ownsRow w.heap.size 9 1 v W.length (W.map encS) ∧ Below w.heap.size w w'

theorem wordsSt_skip {L : List UInt8} {w wr : World} {v : Value} {W : List (List UInt8)} {st j : Nat} (h : WordsSt L w wr v W st j) (hs : st ≤ j) (hj : j < L.length) (hc : L[j] ≠ 32) : WordsSt L w wr v W st (j + 1) where
  own := h.own
  below := h.below
  rest := h.rest
  no := fun _ => by rw [piece_snoc L st j hs hj]; exact noC_snoc (h.no (by omega)) hc
  past := fun h => by omega

theorem wordsSt_none {L : List UInt8} {w wr : World} {v : Value} {W : List (List UInt8)} {j : Nat} (h : WordsSt L w wr v W j j) (hj : j ≤ L.length) (hc : ∀ hlt : j < L.length, L[j] = 32) : WordsSt L w wr v W (j + 1) (j + 1) where
  own := h.own
  below := h.below
  rest := by
    rw [← h.rest]
    rcases Nat.lt_or_ge j L.length with hlt | hge
    · rw [words_step L j j (Nat.le_refl _) hlt (by rw [piece_empty]; exact noC_nil) (hc hlt), if_pos rfl, List.nil_append]
    · have e1 : L.drop j = [] := List.drop_eq_nil_of_le hge
      have e2 : L.drop (j + 1) = [] := List.drop_eq_nil_of_le (by omega)
      rw [e1, e2]
  no := fun _ => by rw [piece_empty]; exact noC_nil
  past := fun _ => rfl

theorem wordsSt_word {L : List UInt8} {w wr w1 : World} {v v' : Value} {W : List (List UInt8)} {st j : Nat} (h : WordsSt L w wr v W st j) (hs : st < j) (hj : j ≤ L.length) (hc : ∀ hlt : j < L.length, L[j] = 32)
    (hown : w1.ownsRow w.heap.size 9 1 v' (W.length + 1) (W.map encS ++ [encS (piece L st j)])) (hb : Below w.heap.size w w1) : WordsSt L w w1 v' (W ++ [piece L st j]) (j + 1) (j + 1) where
  own := by simpa using hown
  below := hb
  rest := by
    rw [← h.rest, List.append_assoc]
    congr 1
    rcases Nat.lt_or_ge j L.length with hlt | hge
    · rw [words_step L st j (by omega) hlt (h.no hj) (hc hlt), if_neg (by omega)]
    · obtain rfl : j = L.length := by omega
      have e2 : L.drop (L.length + 1) = [] := List.drop_eq_nil_of_le (by omega)
      rw [words_end L st (by omega) (h.no hj), if_neg (by omega), e2, wordsL_nil]; rfl
  no := fun _ => by rw [piece_empty]; exact noC_nil
  past := fun _ => rfl

theorem wordsSt_done {L : List UInt8} {w wr : World} {v : Value} {W : List (List UInt8)} {st j : Nat} (h : WordsSt L w wr v W st j) (h20 : W.length ≤ 20) (hend : L.length < j ∨ W.length = 20) : W = (wordsL L).take 20 := by
  rw [← h.rest]
  rcases hend with hj | hl
  · have e : L.drop st = [] := List.drop_eq_nil_of_le (by rw [h.past hj]; omega)
    rw [e, wordsL_nil, List.append_nil, List.take_of_length_le h20]
  · rw [List.take_append_of_le_length (by omega), List.take_of_length_le (by omega)]

set_option maxHeartbeats 2000000 in
theorem words_any (s : ByteArray) (w : World) (hs : s.size ≤ 1048576) :
    Calls Tryz.prog 63 #[.string s] w (MadeWords ((wordsL s.data.toList).take 20) w) := by
  obtain ⟨i0, hi, hz0, hz1, hz2⟩ := info_parts infoStr
  obtain ⟨L, hL⟩ : ∃ L, s.data.toList = L := ⟨_, rfl⟩
  have hlen : L.length = s.size := by rw [← hL]; simp
  have HL := Lib.hid hL
  have HLEN := Lib.hid hlen
  rw [hL]
  clear hL hlen
  go_enter Tryz.func63, Tryz.ntmps63
  go_wp2
  go_loopw [3, 4, 5] (fun v t i wr => ∃ (j st : Nat) (W : List (List UInt8)) (q : Option Addr) (cp : Nat), v = .slice q W.length cp ∧ t = .int .i64 st ∧ i = .int .i64 j ∧ st ≤ j ∧ j ≤ s.size + 1 ∧ W.length ≤ 20 ∧ Hid (WordsSt L w wr v W st j)) (fun _ _ i _ => s.size + 1 - (intOf i).toNat)
  case atStart => exact ⟨0, 0, [], none, 0, rfl, rfl, rfl, Nat.le_refl _, Nat.zero_le _, by simp, ⟨World.ownsRow_nil _ _ _ _, Below.refl _ _, rfl, fun _ => by rw [piece_empty]; exact noC_nil, fun h => by omega⟩⟩
  case round =>
    obtain ⟨j, st, W, q, cp, rfl, rfl, rfl, hsj, hj, hW, HS⟩ := hrel
    obtain ⟨wl, hwl⟩ : ∃ wl, W.length = wl := ⟨_, rfl⟩
    rw [hwl] at hW HS ⊢
    have HWL := Lib.hid hwl
    clear hwl
    by_cases hjn : j ≤ s.size
    · by_cases h20 : wl < 20
      · by_cases hlt : j < s.size
        · by_cases hc : s[j] = 32
          · have hb0 : (((s[j]).toNat : Int) == 32) = true := by rw [hc]; rfl
            have hb1 : (((s[j]).toNat : Int) != 32) = false := by rw [bne, hb0]; rfl
            have HC := Lib.hid (show ∀ h : j < L.length, L[j] = 32 from fun h => (byte_at HL.out j hlt h).trans hc)
            clear hc
            by_cases hst : st < j
            · have hown : wr.ownsRow w.heap.size 9 1 (.slice q wl cp) wl (W.map encS) := by
                have := HS.out.own
                rw [HWL.out] at this
                exact this
              have hst2 : (st : Int) < (j : Int) := by omega
              have HO := Lib.hid hown
              clear hown
              go_wp2_with (at_builtin; (refine wpList_append_own _ rfl _ _ 25 rfl w.heap.size 9 i0 _ 1 16 Tryz.underlying25 hi hz0 hz1 hz2 rfl (by decide) _ _ _ rfl (HO.out.alloc _) ⟨wr.heap.size, 0, none⟩ 1 1 [.string (s.extract st j)] rfl rfl (one_new _ _ _) (fun u hu => by simp at hu; subst hu; rfl) (by unfold maxLen; omega) (by omega) (Nat.le_trans HS.out.below.size (by simp)) ?_); intro v' w1 hown1 hgrow hnil; have HO1 := Lib.hid hown1; have HG := Lib.hid hgrow; clear hown1 hgrow hnil)
              obtain ⟨q1, cp1, rfl⟩ := own_form HO1.out
              go_roundw
              case rel =>
                have hb : Below w.heap.size w w1 := (HS.out.below.alloc HS.out.below.size _).grown HG.out (Nat.le_trans HS.out.below.size (by simp)) (fun k hk => (HO.out.lt k hk).1)
                have ho := HO1.out
                rw [← HWL.out, extract_piece, HL.out] at ho
                have hnew := wordsSt_word HS.out hst (by rw [HLEN.out]; exact hjn) HC.out ho hb
                rw [HWL.out] at hnew
                exact ⟨j + 1, j + 1, W ++ [piece L st j], q1, cp1, by rw [← HWL.out]; simp, by go_num, by go_num, by omega, by omega, by simp; have := HWL.out; omega, hnew⟩
              case measure => simp [intOf]; omega
            · obtain rfl : st = j := by omega
              go_wp2
              go_roundw
              case rel => exact ⟨st + 1, st + 1, W, q, cp, by rw [HWL.out], by go_num, by go_num, by omega, by omega, by rw [HWL.out]; omega, wordsSt_none HS.out (by rw [HLEN.out]; exact hjn) HC.out⟩
              case measure => simp [intOf]; omega
          · have hb0 : (((s[j]).toNat : Int) == 32) = false := by
              simp only [beq_eq_false_iff_ne]
              intro h
              exact hc (UInt8.toNat_inj.1 (by have : (s[j]).toNat = 32 := by omega
                                              rw [this]; rfl))
            have hb1 : (((s[j]).toNat : Int) != 32) = true := by rw [bne, hb0]; rfl
            have HC := Lib.hid hc
            clear hc
            go_wp2
            go_roundw
            case rel =>
              have hjl : j < L.length := by rw [HLEN.out]; exact hlt
              exact ⟨j + 1, st, W, q, cp, by rw [HWL.out], rfl, by go_num, by omega, by omega, by rw [HWL.out]; omega, wordsSt_skip HS.out hsj hjl (by rw [byte_at HL.out j hlt hjl]; exact HC.out)⟩
            case measure => simp [intOf]; omega
        · have hje : ¬ (j : Int) < (s.size : Int) := by omega
          have HC := Lib.hid (show ∀ h : j < L.length, L[j] = 32 from fun h => by rw [HLEN.out] at h; omega)
          by_cases hst : st < j
          · have hown : wr.ownsRow w.heap.size 9 1 (.slice q wl cp) wl (W.map encS) := by
              have := HS.out.own
              rw [HWL.out] at this
              exact this
            have hst2 : (st : Int) < (j : Int) := by omega
            have HO := Lib.hid hown
            clear hown
            go_wp2_with (at_builtin; (refine wpList_append_own _ rfl _ _ 25 rfl w.heap.size 9 i0 _ 1 16 Tryz.underlying25 hi hz0 hz1 hz2 rfl (by decide) _ _ _ rfl (HO.out.alloc _) ⟨wr.heap.size, 0, none⟩ 1 1 [.string (s.extract st j)] rfl rfl (one_new _ _ _) (fun u hu => by simp at hu; subst hu; rfl) (by unfold maxLen; omega) (by omega) (Nat.le_trans HS.out.below.size (by simp)) ?_); intro v' w1 hown1 hgrow hnil; have HO1 := Lib.hid hown1; have HG := Lib.hid hgrow; clear hown1 hgrow hnil)
            obtain ⟨q1, cp1, rfl⟩ := own_form HO1.out
            go_roundw
            case rel =>
              have hb : Below w.heap.size w w1 := (HS.out.below.alloc HS.out.below.size _).grown HG.out (Nat.le_trans HS.out.below.size (by simp)) (fun k hk => (HO.out.lt k hk).1)
              have ho := HO1.out
              rw [← HWL.out, extract_piece, HL.out] at ho
              have hnew := wordsSt_word HS.out hst (by rw [HLEN.out]; exact hjn) HC.out ho hb
              rw [HWL.out] at hnew
              exact ⟨j + 1, j + 1, W ++ [piece L st j], q1, cp1, by rw [← HWL.out]; simp, by go_num, by go_num, by omega, by omega, by simp; have := HWL.out; omega, hnew⟩
            case measure => simp [intOf]; omega
          · obtain rfl : st = j := by omega
            go_wp2
            go_roundw
            case rel => exact ⟨st + 1, st + 1, W, q, cp, by rw [HWL.out], by go_num, by go_num, by omega, by omega, by rw [HWL.out]; omega, wordsSt_none HS.out (by rw [HLEN.out]; exact hjn) HC.out⟩
            case measure => simp [intOf]; omega
      · have h20' : ¬ (wl : Int) < 20 := by omega
        have HD := Lib.hid (wordsSt_done HS.out (by rw [HWL.out]; exact hW) (.inr (by rw [HWL.out]; omega)))
        go_wp2
        go_ret
        exact ⟨_, rfl, by rw [← HD.out]; have := HS.out.own; exact this, HS.out.below⟩
    · have HD := Lib.hid (wordsSt_done HS.out (by rw [HWL.out]; exact hW) (.inl (by rw [HLEN.out]; omega)))
      go_wp2
      go_ret
      exact ⟨_, rfl, by rw [← HD.out]; have := HS.out.own; exact this, HS.out.below⟩
end Go.Proofs.YtjofbeokkainlaaGreatDoor
namespace Go.Proofs.YtjofbeokkainlaaGreatDoor
open Go.ChangeShapes Go.WideShapes Go.ChangeAt Go.RowKit
set_option linter.unusedVariables false
set_option maxRecDepth 100000

def hstep (h : Int) (c : UInt8) : Int := bits BinOp.xor IntKind.u32 h ((c.toNat : Int) % 4294967296) * 16777619 % 4294967296
def hashL (l : List UInt8) : Int := l.foldl hstep 2166136261

theorem hashL_snoc (l : List UInt8) (c : UInt8) : hashL (l ++ [c]) = hstep (hashL l) c := by
  unfold hashL; rw [List.foldl_append]; rfl

theorem hashL_bd (l : List UInt8) : 0 ≤ hashL l ∧ hashL l < 4294967296 := by
  rcases List.eq_nil_or_concat l with rfl | ⟨m, c, rfl⟩
  · exact ⟨by decide, by decide⟩
  · rw [List.concat_eq_append, hashL_snoc]; unfold hstep; omega

theorem htake_snoc (s : ByteArray) (k : Nat) (h : k < s.size) : s.data.toList.take (k + 1) = s.data.toList.take k ++ [s[k]] := by
  rw [List.take_succ_eq_append_getElem (by simpa using h)]; rfl

theorem ret_int {k : IntKind} {a b : Int} (h : a = b) : Ending.returned (.int k a) = .returned (.int k b) := by rw [h]

set_option maxHeartbeats 400000 in
theorem hash_any (s : ByteArray) (w : World) (hs : s.size ≤ maxLen) :
    Calls Tryz.prog 31 #[.string s] w fun e w' => e = .returned (.int .i64 (hashL s.data.toList)) ∧ w = w' := by
  unfold maxLen at hs
  go_enter Tryz.func31, Tryz.ntmps31
  go_wp2
  go_loop [3, 4] (fun h i => ∃ k : Nat, k ≤ s.size ∧ i = .int .i64 k ∧ h = .int .u32 (hashL (s.data.toList.take k))) (fun _ i => s.size - (intOf i).toNat)
  case atStart => exact ⟨0, Nat.zero_le _, rfl, rfl⟩
  case round =>
    obtain ⟨k, hk, rfl, rfl⟩ := hrel
    have hb := hashL_bd (s.data.toList.take k)
    by_cases hlt : k < s.size
    · have HS : Hid (hashL (s.data.toList.take (k + 1)) = hstep (hashL (s.data.toList.take k)) s[k]) := by rw [htake_snoc s k hlt]; exact hashL_snoc _ _
      go_wp2
      go_round
      case rel => exact ⟨k + 1, by omega, by go_num, by rw [HS.out]; rfl⟩
      case measure => simp [intOf]; omega
    · go_wp2
      go_ret
      exact ⟨ret_int (by rw [List.take_of_length_le (by simp; omega)]), rfl⟩

set_option maxHeartbeats 400000 in
theorem shash_any (s : ByteArray) (w : World) (hs : s.size ≤ maxLen) :
    Calls Tryz.prog 57 #[.string s] w fun e w' => e = .returned (.int .i64 (hashL s.data.toList)) ∧ w = w' := by
  unfold maxLen at hs
  go_enter Tryz.func57, Tryz.ntmps57
  go_wp2
  go_loop [3, 4] (fun h i => ∃ k : Nat, k ≤ s.size ∧ i = .int .i64 k ∧ h = .int .u32 (hashL (s.data.toList.take k))) (fun _ i => s.size - (intOf i).toNat)
  case atStart => exact ⟨0, Nat.zero_le _, rfl, rfl⟩
  case round =>
    obtain ⟨k, hk, rfl, rfl⟩ := hrel
    have hb := hashL_bd (s.data.toList.take k)
    by_cases hlt : k < s.size
    · have HS : Hid (hashL (s.data.toList.take (k + 1)) = hstep (hashL (s.data.toList.take k)) s[k]) := by rw [htake_snoc s k hlt]; exact hashL_snoc _ _
      go_wp2
      go_round
      case rel => exact ⟨k + 1, by omega, by go_num, by rw [HS.out]; rfl⟩
      case measure => simp [intOf]; omega
    · go_wp2
      go_ret
      exact ⟨ret_int (by rw [List.take_of_length_le (by simp; omega)]), rfl⟩

/-- What both part functions give: -1 outside 1 .. 3, else the rest of the hash. -/
def partN (s : ByteArray) (n : Int) : Int := if n < 1 ∨ 3 < n then -1 else hashL s.data.toList % n

set_option maxHeartbeats 400000 in
theorem part_any (s : ByteArray) (n : Int) (w : World) (hs : s.size ≤ maxLen) :
    Calls Tryz.prog 9 #[.string s, .int .i64 n] w fun e w' => e = .returned (.int .i64 (partN s n)) ∧ w = w' := by
  have hb := hashL_bd s.data.toList
  have go : ∀ n : Int, (n = 1 ∨ n = 2 ∨ n = 3) → 1 ≤ n → n ≤ 3 → Calls Tryz.prog 9 #[.string s, .int .i64 n] w fun e w' => e = .returned (.int .i64 (partN s n)) ∧ w = w' := by
    intro n hn h1 h3
    have H := Lib.hid (show partN s n = hashL s.data.toList % n by unfold partN; rw [if_neg (by omega)])
    have g1 : decide (n < 1) = false := by simp; omega
    have g3 : decide (3 < n) = false := by simp; omega
    have gz : (n == 0) = false := by simp; omega
    clear hn
    go_enter Tryz.func9, Tryz.ntmps9
    go_wp2_with (go_at_call 31; refine (hash_any _ _ hs).mono ?_; rintro e w' ⟨rfl, rfl⟩)
    go_ret
    exact ⟨ret_int H.out.symm, rfl⟩
  by_cases h1 : n < 1
  · have H := Lib.hid (show partN s n = -1 by unfold partN; rw [if_pos (by omega)])
    go_enter Tryz.func9, Tryz.ntmps9
    go_wp2
    go_ret
    exact ⟨ret_int H.out.symm, rfl⟩
  · by_cases h3 : 3 < n
    · have H := Lib.hid (show partN s n = -1 by unfold partN; rw [if_pos (by omega)])
      go_enter Tryz.func9, Tryz.ntmps9
      go_wp2
      go_ret
      exact ⟨ret_int H.out.symm, rfl⟩
    · exact go n (by omega) (by omega) (by omega)

theorem in_yes (n a b : Int) (w : World) (h1 : a ≤ n) (h2 : n ≤ b) :
    Calls Tryz.prog 25 #[.int .i64 n, .int .i64 a, .int .i64 b] w fun e w' => e = .returned (.bool true) ∧ w = w' := by
  go_enter Tryz.func25, Tryz.ntmps25
  go_wp2
  go_ret
  exact ⟨rfl, rfl⟩

theorem in_no (n a b : Int) (w : World) (h : n < a ∨ b < n) :
    Calls Tryz.prog 25 #[.int .i64 n, .int .i64 a, .int .i64 b] w fun e w' => e = .returned (.bool false) ∧ w = w' := by
  by_cases h1 : a ≤ n
  · have h2 : ¬ n ≤ b := by omega
    clear h
    go_enter Tryz.func25, Tryz.ntmps25
    go_wp2
    go_ret
    exact ⟨rfl, rfl⟩
  · clear h
    go_enter Tryz.func25, Tryz.ntmps25
    go_wp2
    go_ret
    exact ⟨rfl, rfl⟩

set_option maxHeartbeats 400000 in
theorem spart_any (s : ByteArray) (n : Int) (w : World) (hs : s.size ≤ maxLen) :
    Calls Tryz.prog 28 #[.string s, .int .i64 n] w fun e w' => e = .returned (.int .i64 (partN s n)) ∧ w = w' := by
  have hb := hashL_bd s.data.toList
  by_cases h : n < 1 ∨ 3 < n
  · have H := Lib.hid (show partN s n = -1 by unfold partN; rw [if_pos (by omega)])
    have H2 := Lib.hid h
    clear h
    go_enter Tryz.func28, Tryz.ntmps28
    go_wp2_with (go_at_call 25; refine (in_no _ _ _ _ H2.out).mono ?_; rintro e w' ⟨rfl, rfl⟩)
    go_ret
    exact ⟨ret_int H.out.symm, rfl⟩
  · have H := Lib.hid (show partN s n = hashL s.data.toList % n by unfold partN; rw [if_neg (by omega)])
    have g1 : 1 ≤ n := by omega
    have g3 : n ≤ 3 := by omega
    have gz : (n == 0) = false := by simp; omega
    clear h
    go_enter Tryz.func28, Tryz.ntmps28
    go_wp2_with (first | (go_at_call 57; refine (shash_any _ _ hs).mono ?_; rintro e w' ⟨rfl, rfl⟩) | (go_at_call 25; refine (in_yes _ _ _ _ g1 g3).mono ?_; rintro e w' ⟨rfl, rfl⟩))
    go_ret
    exact ⟨ret_int H.out.symm, rfl⟩
end Go.Proofs.YtjofbeokkainlaaGreatDoor
namespace Go.Proofs.YtjofbeokkainlaaGreatDoor
open Go.ChangeShapes Go.WideShapes Go.ChangeAt Go.RowKit
set_option linter.unusedVariables false
set_option maxRecDepth 100000

def combN (op a b : Int) : Int := if op = 1 ∨ op = 4 then wrap64 (a + b) else if op = 2 then (if b < a then b else a) else if op = 3 then (if a < b then b else a) else 0

def Same (x : Int) (w : World) (e : Ending) (w' : World) : Prop := e = .returned (.int .i64 x) ∧ w = w'
theorem comb_sum (op a b : Int) (h : op = 1 ∨ op = 4) : wrap64 (a + b) = combN op a b := by unfold combN; rw [if_pos h]
theorem comb_lo (a b : Int) (h : b < a) : b = combN 2 a b := by unfold combN; rw [if_neg (by decide), if_pos rfl, if_pos h]
theorem comb_lo' (a b : Int) (h : ¬ b < a) : a = combN 2 a b := by unfold combN; rw [if_neg (by decide), if_pos rfl, if_neg h]
theorem comb_hi (a b : Int) (h : a < b) : b = combN 3 a b := by unfold combN; rw [if_neg (by decide), if_neg (by decide), if_pos rfl, if_pos h]
theorem comb_hi' (a b : Int) (h : ¬ a < b) : a = combN 3 a b := by unfold combN; rw [if_neg (by decide), if_neg (by decide), if_pos rfl, if_neg h]
theorem comb_no (op a b : Int) (h1 : op ≠ 1) (h2 : op ≠ 2) (h3 : op ≠ 3) (h4 : op ≠ 4) : 0 = combN op a b := by
  unfold combN; rw [if_neg (by omega), if_neg h2, if_neg h3]
theorem same_of {x y : Int} {w : World} (h : x = y) : Same y w (.returned (.int .i64 x)) w := ⟨by rw [h], rfl⟩

theorem scomb_1 (a b : Int) (w : World) : Calls Tryz.prog 60 #[.int .i64 1, .int .i64 a, .int .i64 b] w (Same (combN 1 a b) w) := by
  go_enter Tryz.func60, Tryz.ntmps60
  go_wp2
  go_ret
  exact same_of (comb_sum 1 a b (.inl rfl))
theorem scomb_4 (a b : Int) (w : World) : Calls Tryz.prog 60 #[.int .i64 4, .int .i64 a, .int .i64 b] w (Same (combN 4 a b) w) := by
  go_enter Tryz.func60, Tryz.ntmps60
  go_wp2
  go_ret
  exact same_of (comb_sum 4 a b (.inr rfl))
theorem scomb_2 (a b : Int) (w : World) : Calls Tryz.prog 60 #[.int .i64 2, .int .i64 a, .int .i64 b] w (Same (combN 2 a b) w) := by
  by_cases h : b < a
  · have H := Lib.hid (comb_lo a b h)
    go_enter Tryz.func60, Tryz.ntmps60
    go_wp2
    go_ret
    first | exact same_of H.out | exact same_of (by rw [← H.out]; omega)
  · have H := Lib.hid (comb_lo' a b h)
    go_enter Tryz.func60, Tryz.ntmps60
    go_wp2
    go_ret
    first | exact same_of H.out | exact same_of (by rw [← H.out]; omega)
theorem scomb_3 (a b : Int) (w : World) : Calls Tryz.prog 60 #[.int .i64 3, .int .i64 a, .int .i64 b] w (Same (combN 3 a b) w) := by
  by_cases h : a < b
  · have H := Lib.hid (comb_hi a b h)
    go_enter Tryz.func60, Tryz.ntmps60
    go_wp2
    go_ret
    first | exact same_of H.out | exact same_of (by rw [← H.out]; omega)
  · have H := Lib.hid (comb_hi' a b h)
    go_enter Tryz.func60, Tryz.ntmps60
    go_wp2
    go_ret
    first | exact same_of H.out | exact same_of (by rw [← H.out]; omega)
theorem scomb_0 (op a b : Int) (w : World) (h1 : op ≠ 1) (h2 : op ≠ 2) (h3 : op ≠ 3) (h4 : op ≠ 4) : Calls Tryz.prog 60 #[.int .i64 op, .int .i64 a, .int .i64 b] w (Same (combN op a b) w) := by
  have H := Lib.hid (comb_no op a b h1 h2 h3 h4)
  have g1 : (op == 1) = false := by simpa using h1
  have g2 : (op == 2) = false := by simpa using h2
  have g3 : (op == 3) = false := by simpa using h3
  have g4 : (op == 4) = false := by simpa using h4
  clear h1 h2 h3 h4
  go_enter Tryz.func60, Tryz.ntmps60
  go_wp2
  go_ret
  exact same_of H.out
theorem scomb_any (op a b : Int) (w : World) : Calls Tryz.prog 60 #[.int .i64 op, .int .i64 a, .int .i64 b] w (Same (combN op a b) w) := by
  by_cases h1 : op = 1
  · subst h1; exact scomb_1 a b w
  · by_cases h2 : op = 2
    · subst h2; exact scomb_2 a b w
    · by_cases h3 : op = 3
      · subst h3; exact scomb_3 a b w
      · by_cases h4 : op = 4
        · subst h4; exact scomb_4 a b w
        · exact scomb_0 op a b w h1 h2 h3 h4

end Go.Proofs.YtjofbeokkainlaaGreatDoor
namespace Go.Proofs.YtjofbeokkainlaaGreatDoor
open Go.ChangeShapes Go.WideShapes Go.ChangeAt Go.RowKit
set_option linter.unusedVariables false
set_option maxRecDepth 100000

def opOkB (op : Int) : Bool := decide (1 ≤ op) && decide (op ≤ 4)
/-- The end of combiner: a function, and whether the op is valid. -/
def MadeComb (b : Bool) (w : World) (e : Ending) (w' : World) : Prop := ∃ f : Value, e = .returned (.tuple #[f, .bool b]) ∧ w = w'
theorem op_ways {op : Int} (h : opOkB op = true) : op = 1 ∨ op = 2 ∨ op = 3 ∨ op = 4 := by
  unfold opOkB at h
  rw [Bool.and_eq_true, decide_eq_true_eq, decide_eq_true_eq] at h
  omega
theorem op_none {op : Int} (h : opOkB op = false) : op ≠ 1 ∧ op ≠ 2 ∧ op ≠ 3 ∧ op ≠ 4 := by
  refine ⟨?_, ?_, ?_, ?_⟩ <;> rintro rfl <;> simp [opOkB] at h
set_option maxHeartbeats 2000000 in
theorem combiner_any (op : Int) (w : World) : Calls Tryz.prog 36 #[.int .i64 op] w (MadeComb (opOkB op) w) := by
  cases h : opOkB op with
  | true =>
    rcases op_ways h with rfl | rfl | rfl | rfl
    all_goals (
      clear h
      go_enter Tryz.func36, Tryz.ntmps36
      go_wp2
      go_ret2
      exact ⟨_, rfl, rfl⟩)
  | false =>
    obtain ⟨h1, h2, h3, h4⟩ := op_none h
    have g1 : (op == 1) = false := by simpa using h1
    have g2 : (op == 2) = false := by simpa using h2
    have g3 : (op == 3) = false := by simpa using h3
    have g4 : (op == 4) = false := by simpa using h4
    clear h h1 h2 h3 h4
    go_enter Tryz.func36, Tryz.ntmps36
    go_wp2
    go_ret2
    exact ⟨_, rfl, rfl⟩
set_option maxHeartbeats 1000000 in
theorem l4op_any (op : Int) (w : World) : Calls Tryz.prog 52 #[.int .i64 op] w fun e w' => e = .returned (.bool (opOkB op)) ∧ w = w' := by
  by_cases h1 : 1 ≤ op
  · have e : opOkB op = decide (op ≤ 4) := by unfold opOkB; rw [decide_eq_true h1, Bool.true_and]
    rw [e]
    clear e
    go_enter Tryz.func52, Tryz.ntmps52
    go_wp2
    go_ret
    exact ⟨rfl, rfl⟩
  · have e : opOkB op = false := by unfold opOkB; rw [decide_eq_false h1, Bool.false_and]
    rw [e]
    clear e
    go_enter Tryz.func52, Tryz.ntmps52
    go_wp2
    go_ret
    exact ⟨rfl, rfl⟩
end Go.Proofs.YtjofbeokkainlaaGreatDoor
namespace Go.Proofs.YtjofbeokkainlaaGreatDoor
open Go.ChangeShapes Go.WideShapes Go.ChangeAt Go.RowKit
set_option linter.unusedVariables false
set_option maxRecDepth 100000

abbrev Objs := List (ByteArray × Int × ByteArray)
def obj0 (l : Objs) (i : Nat) : ByteArray := (l.getD i (ByteArray.empty, 0, ByteArray.empty)).1
def obj1 (l : Objs) (i : Nat) : Int := (l.getD i (ByteArray.empty, 0, ByteArray.empty)).2.1
def obj2 (l : Objs) (i : Nat) : ByteArray := (l.getD i (ByteArray.empty, 0, ByteArray.empty)).2.2

/-- The slice (a, len, cap) holds the values l. -/
structure ObjsAt (w : World) (a : Option Addr) (len : Nat) (l : Objs) : Prop where
  length : l.length = len
  max : len ≤ maxLen
  keys : ∀ i, i < len → (obj0 l i).size ≤ maxLen ∧ (obj2 l i).size ≤ maxLen
  src : len = 0 ∨ ∃ b off, a = some ⟨b, off, none⟩ ∧ b < w.heap.size ∧ ∀ i, i < len → w.cell? ⟨b, off + i * 3, none⟩ = some (.string (obj0 l i)) ∧ w.cell? ⟨b, off + i * 3 + 1, none⟩ = some (.int .i64 (obj1 l i)) ∧ w.cell? ⟨b, off + i * 3 + 2, none⟩ = some (.string (obj2 l i))

theorem ObjsAt.keep {w w1 : World} {a : Option Addr} {len : Nat} {l : Objs} (h : ObjsAt w a len l) (hB : Below w.heap.size w w1) : ObjsAt w1 a len l := by
  refine ⟨h.length, h.max, h.keys, ?_⟩
  rcases h.src with h0 | ⟨b, off, ha, hb, hc⟩
  · exact .inl h0
  · exact .inr ⟨b, off, ha, Nat.lt_of_lt_of_le hb hB.size, fun i hi => ⟨(hB.cell (p := ⟨b, off + i * 3, none⟩) hb).trans (hc i hi).1, (hB.cell (p := ⟨b, off + i * 3 + 1, none⟩) hb).trans (hc i hi).2.1, (hB.cell (p := ⟨b, off + i * 3 + 2, none⟩) hb).trans (hc i hi).2.2⟩⟩

theorem ObjsAt.put {w : World} {a : Option Addr} {len : Nat} {l : Objs} (h : ObjsAt w a len l) {X : Nat} (hne : ∀ b off, a = some ⟨b, off, none⟩ → b ≠ X) (j : Nat) (v : Value) : ObjsAt (w.setCell ⟨X, j, none⟩ v) a len l := by
  refine ⟨h.length, h.max, h.keys, ?_⟩
  rcases h.src with h0 | ⟨b, off, ha, hb, hc⟩
  · exact .inl h0
  · have e : ∀ o, (w.setCell ⟨X, j, none⟩ v).cell? ⟨b, o, none⟩ = w.cell? ⟨b, o, none⟩ := fun o => by
      simp only [World.cell?, Below.heap_setCell w ⟨X, j, none⟩ v b (hne b off ha)]
    exact .inr ⟨b, off, ha, by simpa [World.setCell] using hb, fun i hi => by simpa only [e] using hc i hi⟩

def ObjSized1 (left : Int) (x0 : ByteArray) (x2 : ByteArray) (w : World) (e : Ending) (w' : World) : Prop :=
  ∃ x : Int, -1 ≤ x ∧ x ≤ left ∧ e = .returned (.int .i64 x) ∧ Below w.heap.size w w' ∧ (0 ≤ x → x0.size ≤ 1048576 ∧ x2.size ≤ 1048576)

def ObjSized (len : Nat) (l : Objs) (w : World) (e : Ending) (w' : World) : Prop :=
  ∃ x : Int, -1 ≤ x ∧ x ≤ 1048576 ∧ e = .returned (.int .i64 x) ∧ Below w.heap.size w w' ∧ (0 ≤ x → len ≤ 1048576 ∧ ∀ i, i < len → (obj0 l i).size ≤ 1048576 ∧ (obj2 l i).size ≤ 1048576)

def ObjLaid (cur : Array Value) (l : Objs) (k : Nat) : Prop := ∀ j, j < k → cur[j * 3]? = some (.string (obj0 l j)) ∧ cur[j * 3 + 1]? = some (.int .i64 (obj1 l j)) ∧ cur[j * 3 + 2]? = some (.string (obj2 l j))
theorem ObjLaid.step {cur : Array Value} {l : Objs} {k len : Nat} (h : ObjLaid cur l k) (hs : cur.size = len * 3) (hk : k < len) :
    ObjLaid (((cur.setIfInBounds (k * 3) (.string (obj0 l k))).setIfInBounds (k * 3 + 1) (.int .i64 (obj1 l k))).setIfInBounds (k * 3 + 2) (.string (obj2 l k))) l (k + 1) := by
  intro j hj
  rcases Nat.lt_or_ge j k with hlt | hge
  · obtain ⟨e0, e1, e2⟩ := h j hlt
    refine ⟨?_, ?_, ?_⟩
    · rw [Array.getElem?_setIfInBounds_ne (by omega), Array.getElem?_setIfInBounds_ne (by omega), Array.getElem?_setIfInBounds_ne (by omega)]; exact e0
    · rw [Array.getElem?_setIfInBounds_ne (by omega), Array.getElem?_setIfInBounds_ne (by omega), Array.getElem?_setIfInBounds_ne (by omega)]; exact e1
    · rw [Array.getElem?_setIfInBounds_ne (by omega), Array.getElem?_setIfInBounds_ne (by omega), Array.getElem?_setIfInBounds_ne (by omega)]; exact e2
  · obtain rfl : j = k := by omega
    refine ⟨?_, ?_, ?_⟩
    · rw [Array.getElem?_setIfInBounds_ne (by omega), Array.getElem?_setIfInBounds_ne (by omega)]; rw [Array.getElem?_setIfInBounds_self_of_lt (by first | omega | (simp only [Array.size_setIfInBounds]; omega))]
    · rw [Array.getElem?_setIfInBounds_ne (by omega)]; rw [Array.getElem?_setIfInBounds_self_of_lt (by first | omega | (simp only [Array.size_setIfInBounds]; omega))]
    · rw [Array.getElem?_setIfInBounds_self_of_lt (by first | omega | (simp only [Array.size_setIfInBounds]; omega))]

theorem ObjsAt.ofRow {w : World} {B len : Nat} {E : TypeId} {cur : Array Value} {l : Objs} (h : Row w B E cur) (hl : l.length = len) (hm : len ≤ maxLen) (hk : ∀ i, i < len → (obj0 l i).size ≤ maxLen ∧ (obj2 l i).size ≤ maxLen) (hlaid : ObjLaid cur l len) : ObjsAt w (some ⟨B, 0, none⟩) len l := by
  refine ⟨hl, hm, hk, .inr ⟨B, 0, rfl, h.lt, fun i hi => ?_⟩⟩
  obtain ⟨e0, e1, e2⟩ := hlaid i hi
  unfold Row at h
  simp [World.cell?, h, e0, e1, e2]

def MadeObj (x0 : ByteArray) (x1 : Int) (x2 : ByteArray) (w : World) (e : Ending) (w' : World) : Prop := e = .returned (.agg #[.string x0, .int .i64 x1, .string x2]) ∧ Below w.heap.size w w'

end Go.Proofs.YtjofbeokkainlaaGreatDoor
namespace Go.Proofs.YtjofbeokkainlaaGreatDoor
open Go.ChangeShapes Go.WideShapes Go.ChangeAt Go.RowKit
set_option linter.unusedVariables false
set_option maxRecDepth 100000

end Go.Proofs.YtjofbeokkainlaaGreatDoor
namespace Go.Proofs.YtjofbeokkainlaaGreatDoor
open Go.ChangeShapes Go.WideShapes Go.ChangeAt Go.RowKit
set_option linter.unusedVariables false
set_option maxRecDepth 100000

abbrev Gones := List (ByteArray × Int)
def gone0 (l : Gones) (i : Nat) : ByteArray := (l.getD i (ByteArray.empty, 0)).1
def gone1 (l : Gones) (i : Nat) : Int := (l.getD i (ByteArray.empty, 0)).2

/-- The slice (a, len, cap) holds the values l. -/
structure GonesAt (w : World) (a : Option Addr) (len : Nat) (l : Gones) : Prop where
  length : l.length = len
  max : len ≤ maxLen
  keys : ∀ i, i < len → (gone0 l i).size ≤ maxLen
  src : len = 0 ∨ ∃ b off, a = some ⟨b, off, none⟩ ∧ b < w.heap.size ∧ ∀ i, i < len → w.cell? ⟨b, off + i * 2, none⟩ = some (.string (gone0 l i)) ∧ w.cell? ⟨b, off + i * 2 + 1, none⟩ = some (.int .i64 (gone1 l i))

theorem GonesAt.keep {w w1 : World} {a : Option Addr} {len : Nat} {l : Gones} (h : GonesAt w a len l) (hB : Below w.heap.size w w1) : GonesAt w1 a len l := by
  refine ⟨h.length, h.max, h.keys, ?_⟩
  rcases h.src with h0 | ⟨b, off, ha, hb, hc⟩
  · exact .inl h0
  · exact .inr ⟨b, off, ha, Nat.lt_of_lt_of_le hb hB.size, fun i hi => ⟨(hB.cell (p := ⟨b, off + i * 2, none⟩) hb).trans (hc i hi).1, (hB.cell (p := ⟨b, off + i * 2 + 1, none⟩) hb).trans (hc i hi).2⟩⟩

theorem GonesAt.put {w : World} {a : Option Addr} {len : Nat} {l : Gones} (h : GonesAt w a len l) {X : Nat} (hne : ∀ b off, a = some ⟨b, off, none⟩ → b ≠ X) (j : Nat) (v : Value) : GonesAt (w.setCell ⟨X, j, none⟩ v) a len l := by
  refine ⟨h.length, h.max, h.keys, ?_⟩
  rcases h.src with h0 | ⟨b, off, ha, hb, hc⟩
  · exact .inl h0
  · have e : ∀ o, (w.setCell ⟨X, j, none⟩ v).cell? ⟨b, o, none⟩ = w.cell? ⟨b, o, none⟩ := fun o => by
      simp only [World.cell?, Below.heap_setCell w ⟨X, j, none⟩ v b (hne b off ha)]
    exact .inr ⟨b, off, ha, by simpa [World.setCell] using hb, fun i hi => by simpa only [e] using hc i hi⟩

def GoneSized1 (left : Int) (x0 : ByteArray) (w : World) (e : Ending) (w' : World) : Prop :=
  ∃ x : Int, -1 ≤ x ∧ x ≤ left ∧ e = .returned (.int .i64 x) ∧ Below w.heap.size w w' ∧ (0 ≤ x → x0.size ≤ 1048576)

def GoneSized (len : Nat) (l : Gones) (w : World) (e : Ending) (w' : World) : Prop :=
  ∃ x : Int, -1 ≤ x ∧ x ≤ 1048576 ∧ e = .returned (.int .i64 x) ∧ Below w.heap.size w w' ∧ (0 ≤ x → len ≤ 1048576 ∧ ∀ i, i < len → (gone0 l i).size ≤ 1048576)

def GoneLaid (cur : Array Value) (l : Gones) (k : Nat) : Prop := ∀ j, j < k → cur[j * 2]? = some (.string (gone0 l j)) ∧ cur[j * 2 + 1]? = some (.int .i64 (gone1 l j))
theorem GoneLaid.step {cur : Array Value} {l : Gones} {k len : Nat} (h : GoneLaid cur l k) (hs : cur.size = len * 2) (hk : k < len) :
    GoneLaid ((cur.setIfInBounds (k * 2) (.string (gone0 l k))).setIfInBounds (k * 2 + 1) (.int .i64 (gone1 l k))) l (k + 1) := by
  intro j hj
  rcases Nat.lt_or_ge j k with hlt | hge
  · obtain ⟨e0, e1⟩ := h j hlt
    refine ⟨?_, ?_⟩
    · rw [Array.getElem?_setIfInBounds_ne (by omega), Array.getElem?_setIfInBounds_ne (by omega)]; exact e0
    · rw [Array.getElem?_setIfInBounds_ne (by omega), Array.getElem?_setIfInBounds_ne (by omega)]; exact e1
  · obtain rfl : j = k := by omega
    refine ⟨?_, ?_⟩
    · rw [Array.getElem?_setIfInBounds_ne (by omega)]; rw [Array.getElem?_setIfInBounds_self_of_lt (by first | omega | (simp only [Array.size_setIfInBounds]; omega))]
    · rw [Array.getElem?_setIfInBounds_self_of_lt (by first | omega | (simp only [Array.size_setIfInBounds]; omega))]

theorem GonesAt.ofRow {w : World} {B len : Nat} {E : TypeId} {cur : Array Value} {l : Gones} (h : Row w B E cur) (hl : l.length = len) (hm : len ≤ maxLen) (hk : ∀ i, i < len → (gone0 l i).size ≤ maxLen) (hlaid : GoneLaid cur l len) : GonesAt w (some ⟨B, 0, none⟩) len l := by
  refine ⟨hl, hm, hk, .inr ⟨B, 0, rfl, h.lt, fun i hi => ?_⟩⟩
  obtain ⟨e0, e1⟩ := hlaid i hi
  unfold Row at h
  simp [World.cell?, h, e0, e1]

def MadeGone (x0 : ByteArray) (x1 : Int) (w : World) (e : Ending) (w' : World) : Prop := e = .returned (.agg #[.string x0, .int .i64 x1]) ∧ Below w.heap.size w w'

end Go.Proofs.YtjofbeokkainlaaGreatDoor
