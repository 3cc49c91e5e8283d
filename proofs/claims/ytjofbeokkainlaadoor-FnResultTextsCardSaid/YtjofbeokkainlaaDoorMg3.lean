/- Texts put together, as a claim holds at most sixty files. -/
import Derived.Test.YtjofbeokkainlaaDoorMg2
import Derived.Test.YtjofbeokkainlaaDoorMg1
import Derived.Test.YtjofbeokkainlaaDoorMg7
import Derived.Lib.Strings
import Derived.Test.YtjofbeokkainlaaDoorRows
import Derived.WalkKit
import Derived.ProofKit
import Derived.OpenShut
import Derived.WalkLawsBesides
import Derived.Deep.QuietTactic
import Derived.BigQuiet
import Derived.Lib.Hide
import Derived.Outline
import Derived.Deep.RegionWith
import Derived.Laws.BytesArg
import Derived.OwnWalk
namespace Go.Proofs.YtjofbeokkainlaaDoor
open Go.ChangeShapes Go.WideShapes Go.ChangeAt Go.RowKit
set_option linter.unusedVariables false
set_option maxRecDepth 100000

def takesB : Nat → ByteArray
  | 4 => ⟨#[84, 84]⟩ | 5 => ⟨#[84]⟩ | 6 => ⟨#[84]⟩ | 7 => ⟨#[78]⟩ | 8 => ⟨#[78, 78]⟩ | 9 => ⟨#[78, 78]⟩ | 10 => ⟨#[78, 78]⟩ | 11 => ⟨#[78, 78]⟩
  | 12 => ⟨#[84, 84]⟩ | 13 => ⟨#[84, 78]⟩ | 14 => ⟨#[84, 78, 78]⟩ | _ => ByteArray.empty
def givesB : Nat → ByteArray
  | 1 => ⟨#[84]⟩ | 2 => ⟨#[84]⟩ | 3 => ⟨#[78]⟩ | 4 => ⟨#[84]⟩ | 5 => ⟨#[78]⟩ | 6 => ⟨#[78]⟩ | 7 => ⟨#[84]⟩ | 8 => ⟨#[78]⟩ | 9 => ⟨#[78]⟩ | 10 => ⟨#[78]⟩ | 11 => ⟨#[78]⟩
  | 12 => ⟨#[78]⟩ | _ => ByteArray.empty
theorem takes_few (x : Nat) : (takesB x).size ≤ 3 := by
  unfold takesB; split <;> decide
theorem gives_few (x : Nat) : (givesB x).size ≤ 1 := by
  unfold givesB; split <;> decide

/-- The stack behind an instruction, or none. -/
def stepB (st tk gv : ByteArray) : Option ByteArray :=
  if tk.size ≤ st.size ∧ st.extract (st.size - tk.size) st.size = tk then some (st.extract 0 (st.size - tk.size) ++ gv) else none
def stk (l : Instrs) : Nat → Option ByteArray
  | 0 => some ByteArray.empty
  | k + 1 => match stk l k with
    | none => none
    | some st => if instrB (ins0 l k) (ins1 l k) (ins2 l k) = true then stepB st (takesB (ins0 l k).toNat) (givesB (ins0 l k).toNat) else none
def progB (l : Instrs) : Bool := decide (l.length ≤ 30) && decide (stk l l.length = some ByteArray.empty)

theorem stk_none {l : Instrs} {k n : Nat} (h : stk l k = none) (hk : k ≤ n) : stk l n = none := by
  induction n with
  | zero => obtain rfl : k = 0 := by omega
            exact h
  | succ n ih =>
    rcases Nat.lt_or_ge n k with h1 | h1
    · obtain rfl : k = n + 1 := by omega
      exact h
    · rw [stk, ih h1]
theorem prog_long {l : Instrs} (h : ¬ l.length ≤ 30) : progB l = false := by
  unfold progB; rw [decide_eq_false h]; rfl
theorem prog_bad {l : Instrs} {k : Nat} (hk : k ≤ l.length) (h : stk l k = none) : progB l = false := by
  unfold progB; rw [stk_none h hk]; simp
theorem prog_end {l : Instrs} {st : ByteArray} (h30 : l.length ≤ 30) (h : stk l l.length = some st) : progB l = decide (st.size = 0) := by
  unfold progB
  rw [h, decide_eq_true h30, Bool.true_and]
  by_cases hs : st.size = 0
  · have : st = ByteArray.empty := ByteArray.ext (Array.eq_empty_of_size_eq_zero hs)
    rw [this]; rfl
  · rw [decide_eq_false hs, decide_eq_false]
    intro he
    rw [Option.some.injEq] at he
    rw [he] at hs
    exact hs rfl
theorem stk_step {l : Instrs} {k : Nat} {st : ByteArray} (h : stk l k = some st) (hi : instrB (ins0 l k) (ins1 l k) (ins2 l k) = true) :
    stk l (k + 1) = stepB st (takesB (ins0 l k).toNat) (givesB (ins0 l k).toNat) := by
  rw [stk, h]; simp only [hi, if_pos]
theorem stk_wrong {l : Instrs} {k : Nat} (hi : instrB (ins0 l k) (ins1 l k) (ins2 l k) = false) : stk l (k + 1) = none := by
  rw [stk]
  split
  · rfl
  · rw [hi]; rfl
theorem step_short {st tk gv : ByteArray} (h : st.size < tk.size) : stepB st tk gv = none := by
  unfold stepB; rw [if_neg (by omega)]
theorem step_other {st tk gv : ByteArray} (h : st.extract (st.size - tk.size) st.size ≠ tk) : stepB st tk gv = none := by
  unfold stepB; rw [if_neg (fun h2 => h h2.2)]
theorem step_fits {st tk gv : ByteArray} (h0 : tk.size ≤ st.size) (h : st.extract (st.size - tk.size) st.size = tk) : stepB st tk gv = some (st.extract 0 (st.size - tk.size) ++ gv) := by
  unfold stepB; rw [if_pos ⟨h0, h⟩]
theorem step_size {st tk gv r : ByteArray} (h : stepB st tk gv = some r) (hg : gv.size ≤ 1) : r.size ≤ st.size + 1 := by
  unfold stepB at h
  split at h
  · rw [Option.some.injEq] at h
    rw [← h, ByteArray.size_append, ByteArray.size_extract]
    omega
  · cases h
theorem instr_op {op n : Int} {s : ByteArray} (h : instrB op n s = true) : 1 ≤ op ∧ op ≤ 14 := by
  unfold instrB at h
  split at h
  · omega
  · split at h
    · omega
    · split at h
      · omega
      · rw [Bool.and_eq_true, decide_eq_true_eq] at h
        omega
end Go.Proofs.YtjofbeokkainlaaDoor
namespace Go.Proofs.YtjofbeokkainlaaDoor
open Go.ChangeShapes Go.WideShapes Go.ChangeAt Go.RowKit
set_option linter.unusedVariables false
set_option maxRecDepth 100000

/-- The words so far, in a row that the call made itself. -/
structure WordsSt (L : List UInt8) (w wr : World) (v : Value) (W : List (List UInt8)) (st j : Nat) : Prop where
  own : wr.ownsRow w.heap.size 9 1 v W.length (W.map encS)
  below : Below w.heap.size w wr
  rest : W ++ wordsL (L.drop st) = wordsL L
  no : j ≤ L.length → noC 32 (piece L st j)
  past : L.length < j → st = j

/-- The end of WordsOf: the first 20 words in a row of its own. -/
def MadeWords (W : List (List UInt8)) (w : World) (e : Ending) (w' : World) : Prop :=
  ∃ v, e = .returned v ∧ w'.ownsRow w.heap.size 9 1 v W.length (W.map encS) ∧ Below w.heap.size w w'

theorem wordsSt_skip {L : List UInt8} {w wr : World} {v : Value} {W : List (List UInt8)} {st j : Nat} (h : WordsSt L w wr v W st j) (hs : st ≤ j) (hj : j < L.length) (hc : L[j] ≠ 32) : WordsSt L w wr v W st (j + 1) where
  own := h.own
  below := h.below
  rest := h.rest
  no := fun _ => by rw [piece_snoc L st j hs hj]; exact noC_snoc (h.no (by omega)) hc
  past := fun h => by omega

theorem wordsSt_none {L : List UInt8} {w wr : World} {v : Value} {W : List (List UInt8)} {j : Nat} (h : WordsSt L w wr v W j j) (hj : j ≤ L.length) (hc : ∀ hlt : j < L.length, L[j] = 32) : WordsSt L w wr v W (j + 1) (j + 1) where
  own := h.own
  below := h.below
  rest := by
    rw [← h.rest]
    rcases Nat.lt_or_ge j L.length with hlt | hge
    · rw [words_step L j j (Nat.le_refl _) hlt (by rw [piece_empty]; exact noC_nil) (hc hlt), if_pos rfl, List.nil_append]
    · have e1 : L.drop j = [] := List.drop_eq_nil_of_le hge
      have e2 : L.drop (j + 1) = [] := List.drop_eq_nil_of_le (by omega)
      rw [e1, e2]
  no := fun _ => by rw [piece_empty]; exact noC_nil
  past := fun _ => rfl

theorem wordsSt_word {L : List UInt8} {w wr w1 : World} {v v' : Value} {W : List (List UInt8)} {st j : Nat} (h : WordsSt L w wr v W st j) (hs : st < j) (hj : j ≤ L.length) (hc : ∀ hlt : j < L.length, L[j] = 32)
    (hown : w1.ownsRow w.heap.size 9 1 v' (W.length + 1) (W.map encS ++ [encS (piece L st j)])) (hb : Below w.heap.size w w1) : WordsSt L w w1 v' (W ++ [piece L st j]) (j + 1) (j + 1) where
  own := by simpa using hown
  below := hb
  rest := by
    rw [← h.rest, List.append_assoc]
    congr 1
    rcases Nat.lt_or_ge j L.length with hlt | hge
    · rw [words_step L st j (by omega) hlt (h.no hj) (hc hlt), if_neg (by omega)]
    · obtain rfl : j = L.length := by omega
      have e2 : L.drop (L.length + 1) = [] := List.drop_eq_nil_of_le (by omega)
      rw [words_end L st (by omega) (h.no hj), if_neg (by omega), e2, wordsL_nil]; rfl
  no := fun _ => by rw [piece_empty]; exact noC_nil
  past := fun _ => rfl

theorem wordsSt_done {L : List UInt8} {w wr : World} {v : Value} {W : List (List UInt8)} {st j : Nat} (h : WordsSt L w wr v W st j) (h20 : W.length ≤ 20) (hend : L.length < j ∨ W.length = 20) : W = (wordsL L).take 20 := by
  rw [← h.rest]
  rcases hend with hj | hl
  · have e : L.drop st = [] := List.drop_eq_nil_of_le (by rw [h.past hj]; omega)
    rw [e, wordsL_nil, List.append_nil, List.take_of_length_le h20]
  · rw [List.take_append_of_le_length (by omega), List.take_of_length_le (by omega)]

end Go.Proofs.YtjofbeokkainlaaDoor
namespace Go.Proofs.YtjofbeokkainlaaDoor
open Go.ChangeShapes Go.WideShapes Go.ChangeAt Go.RowKit
set_option linter.unusedVariables false
set_option maxRecDepth 100000

/-- The slice (q, length of W) holds the words W in a row from block 'base' on. -/
def Ws (base : Nat) (w : World) (q : Option Addr) (W : List (List UInt8)) : Prop :=
  W.length = 0 ∨ ∃ g cur, q = some ⟨g, 0, none⟩ ∧ base ≤ g ∧ Row w g 9 cur ∧ W.length ≤ cur.size ∧ ∀ j (h : j < W.length), cur[j]? = some (encS W[j])

theorem ws_of_own {base : Nat} {w : World} {q : Option Addr} {cp : Nat} {W V : List (List UInt8)} (h : w.ownsRow base 9 1 (.slice q W.length cp) W.length (W.map encS)) (hV : V = W.take V.length) : Ws base w q V := by
  have hle : V.length ≤ W.length := by have := congrArg List.length hV; simp at this; omega
  rcases h.2 with ⟨_, h2⟩ | ⟨g, cap, cur, hv, hb, hh, h1, _, h3, h4⟩
  · exact .inl (by omega)
  · simp only [Value.slice.injEq, true_and] at hv
    obtain ⟨rfl, rfl⟩ := hv
    refine .inr ⟨g, cur, rfl, hb, hh, by omega, fun j hj => ?_⟩
    have e : (cur.toList.take (W.length * 1))[j]? = (W.map encS)[j]? := by rw [h4]
    rw [List.getElem?_take_of_lt (by omega)] at e
    have e2 : cur[j]? = cur.toList[j]? := by simp
    rw [e2, e]
    have hVj : V[j] = W[j]'(by omega) := by
      have : V[j]? = (W.take V.length)[j]? := by rw [← hV]
      rw [List.getElem?_take_of_lt hj, List.getElem?_eq_getElem hj, List.getElem?_eq_getElem (by omega)] at this
      simpa using this
    rw [hVj]
    simp [show j < W.length by omega]

def strsOf (W : List (List UInt8)) : Strs := W.map fun b => ⟨b.toArray⟩
theorem strAt_of (W : List (List UInt8)) (j : Nat) (h : j < W.length) : strAt (strsOf W) j = ⟨W[j].toArray⟩ := by
  unfold strAt strsOf
  rw [List.getD_eq_getElem?_getD, List.getElem?_map, List.getElem?_eq_getElem h]; rfl

/-- Every word is short. -/
def Short (W : List (List UInt8)) : Prop := W.length ≤ 20 ∧ ∀ j (h : j < W.length), W[j].length ≤ maxLen

theorem strs_of_ws {base : Nat} {w : World} {q : Option Addr} {W : List (List UInt8)} (h : Ws base w q W) (hs : Short W) : StrsAt w q W.length (strsOf W) := by
  refine ⟨by simp [strsOf], by have := hs.1; unfold maxLen; omega, fun i hi => by rw [strAt_of W i hi]; exact hs.2 i hi, ?_⟩
  rcases h with h0 | ⟨g, cur, rfl, _, hr, _, hc⟩
  · exact .inl h0
  · refine .inr ⟨g, 0, rfl, hr.lt, fun i hi => ?_⟩
    rw [strAt_of W i hi]
    have := hc i hi
    unfold Row at hr
    simp [World.cell?, hr, this, encS]

theorem ws_keep {base : Nat} {w w1 : World} {q : Option Addr} {W : List (List UInt8)} (h : Ws base w q W) (hB : Below w.heap.size w w1) : Ws base w1 q W := by
  rcases h with h0 | ⟨g, cur, rfl, hb, hr, h1, h2⟩
  · exact .inl h0
  · exact .inr ⟨g, cur, rfl, hb, hr.keep hB, h1, h2⟩

theorem ws_lt {base : Nat} {w : World} {q : Option Addr} {W : List (List UInt8)} (h : Ws base w q W) (hn : 0 < W.length) : ∀ g, q = some ⟨g, 0, none⟩ → g < w.heap.size := by
  intro g hg
  rcases h with h0 | ⟨g', cur, rfl, hb, hr, h1, h2⟩
  · omega
  · simp only [Option.some.injEq, Addr.mk.injEq, and_true] at hg
    rw [← hg]; exact hr.lt

theorem ws_grown {base g : Nat} {w w1 : World} {q : Option Addr} {W : List (List UInt8)} (h : Ws base w q W) (hg : w.grownBy w1 (some g)) (hne : ∀ g', q = some ⟨g', 0, none⟩ → g' ≠ g) : Ws base w1 q W := by
  rcases h with h0 | ⟨g', cur, rfl, hb, hr, h1, h2⟩
  · exact .inl h0
  · exact .inr ⟨g', cur, rfl, hb, (hg.block g' hr.lt (by simpa using hne g' rfl)).trans hr, h1, h2⟩

theorem strs_of {base n : Nat} {w : World} {q : Option Addr} {W : List (List UInt8)} (h : Ws base w q W) (hs : Short W) (hn : W.length = n) : StrsAt w q n (strsOf W) := by
  subst hn; exact strs_of_ws h hs
end Go.Proofs.YtjofbeokkainlaaDoor
namespace Go.Proofs.YtjofbeokkainlaaDoor
open Go.ChangeShapes Go.WideShapes Go.ChangeAt Go.RowKit
set_option linter.unusedVariables false
set_option maxRecDepth 100000

end Go.Proofs.YtjofbeokkainlaaDoor
namespace Go.Proofs.YtjofbeokkainlaaDoor
open Go.ChangeShapes Go.WideShapes Go.ChangeAt Go.RowKit
set_option linter.unusedVariables false
set_option maxRecDepth 100000

/-- Block r is a reader over the bytes (a, len, cap), which lie in an older block. -/
structure Rdr (w : World) (r : Nat) (a : Option Addr) (len cap : Nat) : Prop where
  lt : r < w.heap.size
  code : w.cell? ⟨r, 0, none⟩ = some (.slice a len cap)
  pos : ∃ p : Nat, p ≤ len ∧ w.cell? ⟨r, 1, none⟩ = some (.int .i64 p)
  free : w.frozen? ⟨r, 1, none⟩ = false
  max : len ≤ maxLen
  src : len = 0 ∨ ∃ b off, a = some ⟨b, off, none⟩ ∧ b < r ∧ ∀ i, i < len → ∃ z : Nat, z < 256 ∧ w.cell? ⟨b, off + i, none⟩ = some (.int .u8 z)

theorem Rdr.below {w w' : World} {r : Nat} {a : Option Addr} {len cap : Nat} (h : Rdr w r a len cap) (hb : Below (r + 1) w w') : Rdr w' r a len cap where
  lt := Nat.lt_of_lt_of_le h.lt hb.size
  code := (hb.cell (p := ⟨r, 0, none⟩) (Nat.lt_succ_self _)).trans h.code
  pos := by obtain ⟨p, hp, hc⟩ := h.pos; exact ⟨p, hp, (hb.cell (p := ⟨r, 1, none⟩) (Nat.lt_succ_self _)).trans hc⟩
  free := (hb.frozen (p := ⟨r, 1, none⟩) (Nat.lt_succ_self _)).trans h.free
  max := h.max
  src := by
    rcases h.src with h0 | ⟨b, off, ha, hbr, hc⟩
    · exact .inl h0
    · exact .inr ⟨b, off, ha, hbr, fun i hi => by obtain ⟨z, hz, hcz⟩ := hc i hi; exact ⟨z, hz, (hb.cell (p := ⟨b, off + i, none⟩) (by show b < r + 1; omega)).trans hcz⟩⟩

theorem Rdr.alloc {w : World} {r : Nat} {a : Option Addr} {len cap : Nat} (h : Rdr w r a len cap) (o : Obj) : Rdr (w.alloc o) r a len cap := h.below ((Below.refl _ _).alloc h.lt o)
theorem Rdr.drew {w : World} {r : Nat} {a : Option Addr} {len cap : Nat} (h : Rdr w r a len cap) : Rdr w.drew r a len cap := h.below (Below.refl _ _).drew

theorem grown_trans {a b c : World} {row : Option Nat} (h : a.grownBy b row) (k : b.grownBy c row) : a.grownBy c row :=
  ⟨k.os.trans h.os, k.tape.trans h.tape, k.output.trans h.output, Nat.le_trans h.size k.size, fun i hi hn => (k.block i (Nat.lt_of_lt_of_le hi h.size) hn).trans (h.block i hi hn)⟩
theorem grown_alloc {a b : World} {row : Option Nat} (h : a.grownBy b row) (o : Obj) : a.grownBy (b.alloc o) row := grown_trans h (World.grownBy_alloc _ _ _)
theorem grown_drewN {a b : World} {row : Option Nat} (h : a.grownBy b row) (n : Nat) : a.grownBy (b.drewN n) row := grown_trans h ⟨rfl, rfl, rfl, Nat.le_refl _, fun _ _ _ => rfl⟩
theorem grown_setCell {a b : World} {r : Nat} (h : a.grownBy b (some r)) (j : Nat) (v : Value) : a.grownBy (b.setCell ⟨r, j, none⟩ v) (some r) :=
  grown_trans h ⟨rfl, rfl, rfl, by simp [World.setCell], fun k hk hn => Below.heap_setCell _ _ _ _ (fun e => hn (by rw [e]))⟩

/-- What a method of the reader does to the world. -/
structure Went (w : World) (r : Nat) (a : Option Addr) (len cap : Nat) (w' : World) : Prop where
  grown : w.grownBy w' (some r)
  rdr : Rdr w' r a len cap

theorem Went.refl {w : World} {r : Nat} {a : Option Addr} {len cap : Nat} (h : Rdr w r a len cap) : Went w r a len cap w := ⟨World.grownBy.refl _ _, h⟩
theorem Went.trans {w w1 w2 : World} {r : Nat} {a : Option Addr} {len cap : Nat} (h : Went w r a len cap w1) (k : Went w1 r a len cap w2) : Went w r a len cap w2 := ⟨grown_trans h.grown k.grown, k.rdr⟩
theorem Went.alloc {w w1 : World} {r : Nat} {a : Option Addr} {len cap : Nat} (h : Went w r a len cap w1) (o : Obj) : Went w r a len cap (w1.alloc o) := ⟨grown_alloc h.grown o, h.rdr.alloc o⟩
theorem Went.drewN {w w1 : World} {r : Nat} {a : Option Addr} {len cap : Nat} (h : Went w r a len cap w1) (n : Nat) : Went w r a len cap (w1.drewN n) := ⟨grown_drewN h.grown n, h.rdr.below (below_drewN (Below.refl _ _) n)⟩
theorem Went.size {w w1 : World} {r : Nat} {a : Option Addr} {len cap : Nat} (h : Went w r a len cap w1) : w.heap.size ≤ w1.heap.size := h.grown.size
/-- A block other than the reader's stays. -/
theorem Went.block {w w1 : World} {r : Nat} {a : Option Addr} {len cap : Nat} (h : Went w r a len cap w1) {k : Nat} {o : Obj} (hk : w.heap[k]? = some o) (hne : k ≠ r) : w1.heap[k]? = some o :=
  (h.grown.block k (lt_of_block hk) (by simpa using hne)).trans hk
theorem Went.cell {w w1 : World} {r : Nat} {a : Option Addr} {len cap : Nat} (h : Went w r a len cap w1) {p : Addr} {v : Value} (hk : w.cell? p = some v) (hne : p.block ≠ r) : w1.cell? p = some v :=
  h.grown.cell hk (by simpa using hne)
theorem Went.under {w w1 : World} {r : Nat} {a : Option Addr} {len cap : Nat} (h : Went w r a len cap w1) {B : Nat} {w0 : World} (hb : Below B w0 w) (hB : B ≤ r) (hs : B ≤ w.heap.size) : Below B w0 w1 :=
  hb.grown h.grown hs (fun k hk => by cases hk; exact hB)

/-- The end of a method that returns a number from lo to hi. -/
def RdInt (lo hi : Int) (w : World) (r : Nat) (a : Option Addr) (len cap : Nat) (e : Ending) (w' : World) : Prop := (∃ x : Int, lo ≤ x ∧ x ≤ hi ∧ e = .returned (.int .i64 x)) ∧ Went w r a len cap w'

theorem Rdr.step {w : World} {r : Nat} {a : Option Addr} {len cap : Nat} (h : Rdr w r a len cap) (q : Nat) (hq : q ≤ len) : Rdr (w.setCell ⟨r, 1, none⟩ (.int .i64 q)) r a len cap where
  lt := by simpa [World.setCell] using h.lt
  code := (World.cell?_setCell_other _ _ _ _ (by simp)).trans h.code
  pos := by obtain ⟨p, _, hc⟩ := h.pos; exact ⟨q, hq, World.cell?_setCell_same _ _ _ hc⟩
  free := by rw [World.frozen?_setCell]; exact h.free
  max := h.max
  src := by
    rcases h.src with h0 | ⟨b, off, ha, hbr, hc⟩
    · exact .inl h0
    · exact .inr ⟨b, off, ha, hbr, fun i hi => by obtain ⟨z, hz, hcz⟩ := hc i hi; exact ⟨z, hz, (World.cell?_setCell_other _ _ _ _ (by intro e; have := congrArg Addr.block e; simp at this; omega)).trans hcz⟩⟩

theorem Went.step {w w1 : World} {r : Nat} {a : Option Addr} {len cap : Nat} (h : Went w r a len cap w1) (q : Nat) (hq : q ≤ len) : Went w r a len cap (w1.setCell ⟨r, 1, none⟩ (.int .i64 q)) := ⟨grown_setCell h.grown _ _, h.rdr.step q hq⟩

theorem RdInt.mk {lo hi : Int} {w : World} {r : Nat} {a : Option Addr} {len cap : Nat} {w' : World} (x : Int) (h1 : lo ≤ x) (h2 : x ≤ hi) (hw : Went w r a len cap w') : RdInt lo hi w r a len cap (.returned (.int .i64 x)) w' := ⟨⟨x, h1, h2, rfl⟩, hw⟩

set_option maxHeartbeats 1000000 in
theorem rnext_any (w : World) (r : Nat) (a : Option Addr) (len cap : Nat) (h : Rdr w r a len cap) :
    Calls Tryd.prog 22 #[.pointer (some ⟨r, 0, none⟩)] w (RdInt 0 255 w r a len cap) := by
  obtain ⟨p, hp, hc1⟩ := h.pos
  have hc0 := h.code
  have hf := h.free
  have hm := h.max
  unfold maxLen at hm
  by_cases hlt : p < len
  · rcases h.src with h0 | ⟨b, off, rfl, hbr, hcell⟩
    · omega
    · obtain ⟨z, hz, hcz⟩ := hcell p hlt
      have hne : b ≠ r := by omega
      have H := Lib.hid h
      clear h hcell hbr
      go_enter Tryd.func22, Tryd.ntmps22
      go_wp2_with fail
      go_quiet (fail)
      go_wp2_with fail
      go_quiet (fail)
      go_wp2
      go_ret
      exact RdInt.mk _ (by omega) (by omega) ((((Went.refl H.out).drewN _).step (p + 1) hlt).drewN _)
  · have H := Lib.hid h
    have hpl : p = len := by omega
    subst hpl
    clear h
    go_enter Tryd.func22, Tryd.ntmps22
    go_wp2_with fail
    go_quiet (fail)
    go_wp2
    go_ret
    exact RdInt.mk _ (by omega) (by omega) ((Went.refl H.out).drewN _)

set_option maxHeartbeats 1000000 in
theorem below_any (n : Int) (w : World) (r : Nat) (a : Option Addr) (len cap : Nat) (h : Rdr w r a len cap) (h1 : 1 ≤ n) (h2 : n ≤ 4611686018427387904) :
    Calls Tryd.prog 12 #[.pointer (some ⟨r, 0, none⟩), .int .i64 n] w (RdInt 0 (n - 1) w r a len cap) := by
  have H := Lib.hid h
  clear h
  by_cases hn : n = 1
  · subst hn
    go_enter Tryd.func12, Tryd.ntmps12
    go_wp2
    go_ret
    exact RdInt.mk _ (by omega) (by omega) (Went.refl H.out)
  · by_cases hs : n ≤ 256
    · have g1 : ¬ n ≤ 1 := by omega
      have gz : (n == 0) = false := by simp; omega
      clear hn
      go_enter Tryd.func12, Tryd.ntmps12
      go_wp2_with (go_at_call 22; refine (rnext_any _ _ _ _ _ H.out).mono ?_; rintro e w1 ⟨⟨x, hx1, hx2, rfl⟩, hw⟩; have HW := Lib.hid hw; clear hw)
      have e1 := Int.emod_nonneg x (show n ≠ 0 by omega)
      have e2 := Int.emod_lt_of_pos x (show 0 < n by omega)
      go_ret
      exact RdInt.mk _ (by omega) (by omega) HW.out
    · have g1 : ¬ n ≤ 1 := by omega
      have gz : (n == 0) = false := by simp; omega
      clear hn
      go_enter Tryd.func12, Tryd.ntmps12
      have H0 := Lib.hid (Went.refl H.out)
      clear H
      go_wp2_with (go_at_call 22; refine (rnext_any _ _ _ _ _ H0.out.rdr).mono ?_; rintro e w1 ⟨⟨x, hx1, hx2, rfl⟩, hw⟩; have H1 := Lib.hid (H0.out.trans hw); clear hw H0; have H0 := H1; clear H1)
      rename_i x2 hx3 hx4
      have e1 := Int.emod_nonneg (x2 * 256 + x) (show n ≠ 0 by omega)
      have e2 := Int.emod_lt_of_pos (x2 * 256 + x) (show 0 < n by omega)
      go_ret
      exact RdInt.mk _ (by omega) (by omega) H0.out
end Go.Proofs.YtjofbeokkainlaaDoor
namespace Go.Proofs.YtjofbeokkainlaaDoor
open Go.ChangeShapes Go.WideShapes Go.ChangeAt Go.RowKit
set_option linter.unusedVariables false
set_option maxRecDepth 100000

def RdBool (w : World) (r : Nat) (a : Option Addr) (len cap : Nat) (e : Ending) (w' : World) : Prop := (∃ x : Bool, e = .returned (.bool x)) ∧ Went w r a len cap w'
def RdWf (k : IntKind) (w : World) (r : Nat) (a : Option Addr) (len cap : Nat) (e : Ending) (w' : World) : Prop := (∃ x : Int, (Lit.int k x).wf = true ∧ e = .returned (.int k x)) ∧ Went w r a len cap w'
def RdStr (m : Nat) (w : World) (r : Nat) (a : Option Addr) (len cap : Nat) (e : Ending) (w' : World) : Prop := (∃ s : ByteArray, s.size ≤ m ∧ e = .returned (.string s)) ∧ Went w r a len cap w'

theorem once_any (n : Int) (w : World) (r : Nat) (a : Option Addr) (len cap : Nat) (h : Rdr w r a len cap) (h1 : 1 ≤ n) (h2 : n ≤ 4611686018427387904) :
    Calls Tryd.prog 11 #[.pointer (some ⟨r, 0, none⟩), .int .i64 n] w (RdBool w r a len cap) := by
  have H := Lib.hid h
  clear h
  go_enter Tryd.func11, Tryd.ntmps11
  go_wp2_with (go_at_call 12; refine (below_any _ _ _ _ _ _ H.out h1 h2).mono ?_; rintro e w1 ⟨⟨x, hx1, hx2, rfl⟩, hw⟩; have HW := Lib.hid hw; clear hw)
  go_ret
  exact ⟨⟨_, rfl⟩, HW.out⟩

set_option maxHeartbeats 1000000 in
theorem word_any (w : World) (r : Nat) (a : Option Addr) (len cap : Nat) (h : Rdr w r a len cap) :
    Calls Tryd.prog 67 #[.pointer (some ⟨r, 0, none⟩)] w (RdWf .u64 w r a len cap) := by
  have H := Lib.hid h
  clear h
  go_enter Tryd.func67, Tryd.ntmps67
  go_wp2
  go_loopw [3, 4] (fun x i wr => ∃ k : Nat, k ≤ 8 ∧ i = .int .i64 k ∧ (∃ X : Int, (Lit.int .u64 X).wf = true ∧ x = .int .u64 X) ∧ Hid (Went w r a len cap wr)) (fun _ i _ => 8 - (intOf i).toNat)
  case atStart => exact ⟨0, by omega, rfl, ⟨0, by decide, rfl⟩, Went.refl H.out⟩
  case round =>
    obtain ⟨k, hk, rfl, ⟨X, hX, rfl⟩, hw⟩ := hrel
    have hX2 := bounds_u64 hX
    have HX := Lib.hid hX
    clear H hX
    by_cases hlt : k < 8
    · go_wp2_with (go_at_call 22; refine (rnext_any _ _ _ _ _ hw.out.rdr).mono ?_; rintro e w1 ⟨⟨y, hy1, hy2, rfl⟩, hw1⟩; have H1 := Lib.hid (hw.out.trans hw1); clear hw1 hw)
      go_roundw
      case rel => exact ⟨k + 1, by omega, by go_num, ⟨_, wf_bits _ _ _ _, rfl⟩, H1⟩
      case measure => simp [intOf]; omega
    · go_wp2
      go_ret
      exact ⟨⟨X, HX.out, rfl⟩, hw.out⟩

theorem near_math (lo hi y : Int) (h1 : lo ≤ hi) (h2 : -1152921504606846976 ≤ lo) (h3 : hi ≤ 1152921504606846976) :
    lo ≤ wrap64 (lo + wrap64 (y / 2 % (hi - lo + 1))) ∧ wrap64 (lo + wrap64 (y / 2 % (hi - lo + 1))) ≤ hi := by
  have e1 := Int.emod_nonneg (y / 2) (show hi - lo + 1 ≠ 0 by omega)
  have e2 := Int.emod_lt_of_pos (y / 2) (show 0 < hi - lo + 1 by omega)
  rw [IntWalk.wrap64_in (y / 2 % (hi - lo + 1)) (by omega), IntWalk.wrap64_in _ (by omega)]
  omega

/-- Every cell of a table is a text of at most m bytes. -/
def allStr (m : Nat) (cs : Array Value) : Bool := cs.toList.all fun v => match v with | .string s => decide (s.size ≤ m) | _ => false
theorem tab_cell {w : World} {B m : Nat} {cs : Array Value} {t : TypeId} (h : w.heap[B]? = some (.cells cs t (0, 0))) (hs : allStr m cs = true) (x : Int) (h1 : 0 ≤ x) (h2 : x < cs.size) :
    ∃ s : ByteArray, s.size ≤ m ∧ w.cell? ⟨B, x.toNat, none⟩ = some (.string s) := by
  have hj : x.toNat < cs.size := by omega
  have h3 := List.all_eq_true.1 hs cs[x.toNat] (by simp)
  have h4 : w.cell? ⟨B, x.toNat, none⟩ = some cs[x.toNat] := by simp [World.cell?, h, hj]
  revert h3 h4
  generalize cs[x.toNat] = v
  intro h3 h4
  cases v <;> simp at h3
  exact ⟨_, h3, h4⟩

/-- Every cell of a table is a number of kind k. -/
def allInt (k : IntKind) (cs : Array Value) : Bool := cs.toList.all fun v => match v with | .int k' n => k' == k && (Lit.int k n).wf | _ => false
theorem int_cell {w : World} {B : Nat} {k : IntKind} {cs : Array Value} {t : TypeId} (h : w.heap[B]? = some (.cells cs t (0, 0))) (hs : allInt k cs = true) (x : Int) (h1 : 0 ≤ x) (h2 : x < cs.size) :
    ∃ n : Int, (Lit.int k n).wf = true ∧ w.cell? ⟨B, x.toNat, none⟩ = some (.int k n) := by
  have hj : x.toNat < cs.size := by omega
  have h3 := List.all_eq_true.1 hs cs[x.toNat] (by simp)
  have h4 : w.cell? ⟨B, x.toNat, none⟩ = some cs[x.toNat] := by simp [World.cell?, h, hj]
  revert h3 h4
  generalize cs[x.toNat] = v
  intro h3 h4
  cases v <;> simp at h3
  obtain ⟨rfl, h5⟩ := h3
  exact ⟨_, h5, h4⟩

set_option maxHeartbeats 1000000 in
theorem word1_any (w : World) (r : Nat) (a : Option Addr) (len cap : Nat) (h : Rdr w r a len cap) :
    Calls Tryd.prog 54 #[.pointer (some ⟨r, 0, none⟩)] w (RdStr 5 w r a len cap) := by
  have H := Lib.hid h
  clear h
  go_enter Tryd.func54, Tryd.ntmps54
  go_wp2_with (go_at_call 12; refine (below_any _ _ _ _ _ _ (H.out.alloc _) (by omega) (by omega)).mono ?_; rintro e w1 ⟨⟨x, hx1, hx2, rfl⟩, hw⟩; obtain ⟨s, hs, hcs⟩ := tab_cell (m := 5) (hw.block (k := w.heap.size) (heap_alloc_new _ _) (Nat.ne_of_gt H.out.lt)) (by decide) x hx1 (by show x < 12; omega); have HS := Lib.hid hs; have HW := Lib.hid (((Went.refl H.out).alloc _).trans hw); clear hw hs)
  go_ret
  exact ⟨⟨s, HS.out, rfl⟩, HW.out⟩

/-- What is told of a slice of bytes that came in: each byte is there. -/
def Src (w : World) (a : Option Addr) (len : Nat) : Prop := len ≤ maxLen ∧ (len = 0 ∨ ∃ b off, a = some ⟨b, off, none⟩ ∧ b < w.heap.size ∧ ∀ i, i < len → ∃ z : Nat, z < 256 ∧ w.cell? ⟨b, off + i, none⟩ = some (.int .u8 z))

theorem Rdr.new (w : World) (a : Option Addr) (len cap : Nat) (t : TypeId) (h : Src w a len) : Rdr (w.alloc (.cells #[.slice a len cap, .int .i64 0] t)) w.heap.size a len cap where
  lt := by simp
  code := cell_two_new w (Value.slice a len cap) (Value.int IntKind.i64 0) t 0 _ rfl
  pos := ⟨0, Nat.zero_le _, cell_two_new w (Value.slice a len cap) (Value.int IntKind.i64 0) t 1 _ rfl⟩
  free := by simp only [World.frozen?, heap_alloc_new]; rfl
  max := h.1
  src := by
    rcases h.2 with h0 | ⟨b, off, ha, hb, hz⟩
    · exact .inl h0
    · refine .inr ⟨b, off, ha, hb, fun i hi => ?_⟩
      obtain ⟨z, hz1, hz2⟩ := hz i hi
      exact ⟨z, hz1, (((Below.refl w.heap.size w).alloc (Nat.le_refl _) _).cell (p := ⟨b, off + i, none⟩) hb).trans hz2⟩

theorem open_any (w : World) (a : Option Addr) (len cap : Nat) (h : Src w a len) :
    Calls Tryd.prog 8 #[.slice a len cap] w fun e w' => e = .returned (.pointer (some ⟨w.heap.size, 0, none⟩)) ∧ Below w.heap.size w w' ∧ Rdr w' w.heap.size a len cap := by
  have H := Lib.hid h
  clear h
  go_enter Tryd.func8, Tryd.ntmps8
  go_wp2
  go_ret
  exact ⟨rfl, (Below.refl _ _).alloc (Nat.le_refl _) _, Rdr.new _ _ _ _ _ H.out⟩

end Go.Proofs.YtjofbeokkainlaaDoor
namespace Go.Proofs.YtjofbeokkainlaaDoor
open Go.ChangeShapes Go.WideShapes Go.ChangeAt Go.RowKit
set_option linter.unusedVariables false
set_option maxRecDepth 100000

theorem src_of {w : World} {a : Option Addr} {len cap : Nat} {zs : List Int}
    (h : (a = none ∧ len = 0 ∧ cap = 0 ∧ zs = []) ∨ ∃ x, a = some x ∧ len ≤ cap ∧ cap ≤ maxLen ∧ zs.length = cap ∧ (∀ i, i < zs.length → w.cell? (x.add i) = some (.int .u8 (zs.getD i 0))) ∧ ∀ n ∈ zs, (Lit.int .u8 n).wf = true) : Src w a len := by
  rcases h with ⟨rfl, rfl, _, _⟩ | ⟨x, rfl, hl, hm, hz, hc, hw⟩
  · exact ⟨Nat.zero_le _, .inl rfl⟩
  · refine ⟨by omega, ?_⟩
    by_cases h0 : len = 0
    · exact .inl h0
    · obtain ⟨b, off, spot⟩ := x
      have hc0 := hc 0 (by omega)
      have hspot : spot = none := by simpa [Addr.add] using World.cell?_spot hc0
      subst hspot
      refine .inr ⟨b, off, rfl, ?_, fun i hi => ?_⟩
      · rcases Nat.lt_or_ge b w.heap.size with h' | h'
        · exact h'
        · simp [World.cell?, Addr.add, Array.getElem?_eq_none h'] at hc0
      · have h1 := hc i (by omega)
        have hmem : zs.getD i 0 ∈ zs := by
          rw [List.getD_eq_getElem?_getD, List.getElem?_eq_getElem (by omega)]
          exact List.getElem_mem _
        have hb := bounds_u8 (hw _ hmem)
        refine ⟨(zs.getD i 0).toNat, by omega, ?_⟩
        rw [Int.toNat_of_nonneg hb.1]
        by_cases hi0 : i = 0
        · subst hi0
          simpa [Addr.add] using h1
        · simpa [Addr.add, hi0] using h1

theorem Src.below {w w' : World} {a : Option Addr} {len : Nat} (h : Src w a len) (hb : Below w.heap.size w w') : Src w' a len := by
  refine ⟨h.1, ?_⟩
  rcases h.2 with h0 | ⟨b, off, ha, hlt, hc⟩
  · exact .inl h0
  · exact .inr ⟨b, off, ha, Nat.lt_of_lt_of_le hlt hb.size, fun i hi => by obtain ⟨z, hz, hcz⟩ := hc i hi; exact ⟨z, hz, (hb.cell (p := ⟨b, off + i, none⟩) hlt).trans hcz⟩⟩

theorem big_yes (a : Option Addr) (len cap : Nat) (w : World) (h : 1048576 < len) : Calls Tryd.prog 4 #[.slice a len cap] w fun e w' => e = .returned (.bool true) ∧ w = w' := by
  have hd : decide ((1048576 : Int) < (len : Int)) = true := by simp; omega
  go_enter Tryd.func4, Tryd.ntmps4
  go_wp2
  go_ret
  exact ⟨rfl, rfl⟩

theorem big_no (a : Option Addr) (len cap : Nat) (w : World) (h : ¬ 1048576 < len) : Calls Tryd.prog 4 #[.slice a len cap] w fun e w' => e = .returned (.bool false) ∧ w = w' := by
  have hd : decide ((1048576 : Int) < (len : Int)) = false := by simp; omega
  go_enter Tryd.func4, Tryd.ntmps4
  go_wp2
  go_ret
  exact ⟨rfl, rfl⟩

/-- What is drawn for PartOf. -/
def DrewPart (w : World) (e : Ending) (w' : World) : Prop := ∃ (s : ByteArray) (n : Int), s.size ≤ 5 ∧ (Lit.int .i64 n).wf = true ∧ e = .returned (.tuple #[.string s, .int .i64 n]) ∧ Below w.heap.size w w'

end Go.Proofs.YtjofbeokkainlaaDoor
namespace Go.Proofs.YtjofbeokkainlaaDoor
open Go.ChangeShapes Go.WideShapes Go.ChangeAt Go.RowKit
set_option linter.unusedVariables false
set_option maxRecDepth 100000

theorem infoByte : (Tryd.prog.info? 5).map (fun i => (i.zero, i.size, i.bytes)) = some (some (.int .u8 0), 1, 1) := by kernel_rfl

theorem zeros_text {w : World} {base g n : Nat} (hown : w.ownsRow base 5 1 (.slice (some ⟨g, 0, none⟩) n n) n (madeCells (Value.int .u8 0).cells (n * 1)).toList) :
    (convert 22 9 (.slice (some ⟨g, 0, none⟩) n n)).run Tryd.prog w = .ok (.string (strOfNums (List.replicate n 0))) w :=
  run_convert_bytes_arg _ _ _ Tryd.underlying22 Tryd.underlying5 g 0 n n (List.replicate n 0) (by simp) (fun i hi => by
    have := hown.cellAt i (by omega)
    rw [Nat.zero_add, this]
    simp [madeCells, Value.cells, hi, Nat.mod_one]
    ) _ Tryd.underlying9

/-- What is drawn: a text of at most m bytes. -/
def DrewText (m : Nat) (w : World) (e : Ending) (w' : World) : Prop := ∃ s : ByteArray, s.size ≤ m ∧ e = .returned (.string s) ∧ Below w.heap.size w w'

set_option maxHeartbeats 2000000 in
theorem lineof_any (w : World) (r : Nat) (a : Option Addr) (len cap : Nat) (h : Rdr w r a len cap) :
    Calls Tryd.prog 40 #[.pointer (some ⟨r, 0, none⟩)] w (RdStr 400 w r a len cap) := by
  have HG := Lib.hid (Went.refl h)
  clear h
  go_enter Tryd.func40, Tryd.ntmps40
  go_wp2_with fail
  refine (below_any _ _ _ _ _ _ HG.out.rdr (by decide) (by decide)).mono ?_
  rintro e w1 ⟨⟨x, hx1, hx2, rfl⟩, hw⟩
  have HG := Lib.hid (HG.out.trans hw)
  clear hw
  go_wp2_with fail
  go_loopw [3, 4] (fun t i wr => ∃ (k : Nat) (s : ByteArray), i = .int .i64 k ∧ t = .string s ∧ s.size + 6 * k ≤ 30 ∧ Hid (Went w r a len cap wr)) (fun _ i _ => (intOf i).toNat)
  case atStart => exact ⟨x.toNat, ByteArray.empty, by rw [Int.toNat_of_nonneg hx1], rfl, by show 0 + 6 * x.toNat ≤ 30; omega, HG.out⟩
  case round =>
    obtain ⟨k, s, rfl, rfl, hs, HW⟩ := hrel
    clear HG
    by_cases hk : 0 < k
    · go_wp2_with fail
      refine (word1_any _ _ _ _ _ HW.out.rdr).mono ?_
      rintro e w2 ⟨⟨u, hu, rfl⟩, hw⟩
      have HW := Lib.hid (HW.out.trans hw)
      clear hw
      obtain ⟨m, rfl⟩ : ∃ m, k = m + 1 := ⟨k - 1, by omega⟩
      have hsu : (s ++ u).size ≤ s.size + u.size := by rw [ByteArray.size_append]; exact Nat.le_refl _
      go_wp2
      go_roundw
      case rel => exact ⟨m, _, by go_num, rfl, by rw [ByteArray.size_append, ByteArray.size_append]; show s.size + u.size + 1 + 6 * m ≤ 30; omega, HW.out⟩
      case measure => simp [intOf]
    · obtain rfl : k = 0 := by omega
      go_wp2_with fail
      refine (below_any _ _ _ _ _ _ HW.out.rdr (by decide) (by decide)).mono ?_
      rintro e w2 ⟨⟨y, hy1, hy2, rfl⟩, hw⟩
      have HW := Lib.hid (HW.out.trans hw)
      clear hw
      obtain ⟨i0, hi, hz0, hz1, hz2⟩ := info_parts infoByte
      go_wp2_with fail
      · refine (below_any _ _ _ _ _ _ HW.out.rdr (by decide) (by decide)).mono ?_
        rintro e w3 ⟨⟨z, hz3, hz4, rfl⟩, hw⟩
        have HW := Lib.hid (HW.out.trans hw)
        clear hw
        obtain ⟨n, hn⟩ : ∃ n : Nat, 30 + z = (n : Int) := ⟨(30 + z).toNat, by omega⟩
        have hn49 : n ≤ 49 := by omega
        go_wp2_with (at_make; go_loud (refine wpList_make_full _ rfl _ _ 22 rfl w3.heap.size 5 i0 _ 1 Tryd.underlying22 hi hz0 hz1 .i64 .i64 _ _ n rfl rfl rfl rfl (by rw [hz2]; omega) (by unfold maxLen; omega) (Nat.le_refl _) ?_); intro w4 hown hgrow; have hzt := zeros_text hown; have hzs : (strOfNums (List.replicate n 0)).size ≤ 49 := (by simp [strOfNums, ByteArray.size]; omega); have HW4 := Lib.hid (Went.mk (grown_trans HW.out.grown ⟨hgrow.os, hgrow.tape, hgrow.output, hgrow.size, fun k hk _ => hgrow.block k hk (by simp)⟩) (HW.out.rdr.below ⟨hgrow.os, hgrow.tape, hgrow.output, hgrow.size, fun k hk => hgrow.block k (by have := HW.out.rdr.lt; omega) (by simp)⟩) : Went w r a len cap w4); clear hown hgrow)
        go_ret
        exact ⟨⟨_, by rw [ByteArray.size_append]; omega, rfl⟩, HW4.out⟩
      · go_ret
        exact ⟨⟨_, by rw [ByteArray.size_append]; show 2 + s.size ≤ 400; omega, rfl⟩, HW.out⟩
      · go_loop [3, 5] (fun t i => ∃ (k : Nat) (u : ByteArray), k ≤ 24 ∧ i = .int .i64 k ∧ t = .string u ∧ u.size ≤ 30 + 2 * k) (fun _ i => 24 - (intOf i).toNat)
        case atStart => exact ⟨0, s, by omega, rfl, rfl, by omega⟩
        case round =>
          obtain ⟨k, u, hk, rfl, rfl, hu⟩ := hrel
          by_cases hlt : k < 24
          · go_wp2
            go_round
            case rel => exact ⟨k + 1, _, by omega, by go_num, rfl, by rw [ByteArray.size_append]; show u.size + 2 ≤ 30 + 2 * (k + 1); omega⟩
            case measure => simp [intOf]; omega
          · go_wp2
            go_ret
            exact ⟨⟨_, by omega, rfl⟩, HW.out⟩
      · go_ret
        exact ⟨⟨_, by omega, rfl⟩, HW.out⟩

end Go.Proofs.YtjofbeokkainlaaDoor
namespace Go.Proofs.YtjofbeokkainlaaDoor
open Go.ChangeShapes Go.WideShapes Go.ChangeAt Go.RowKit
set_option linter.unusedVariables false
set_option maxRecDepth 100000

theorem wf_wrap64 (y : Int) : (Lit.int .i64 (wrap64 y)).wf = true := WalkArith.wf_i64 (by unfold wrap64; omega)

set_option maxHeartbeats 1000000 in
theorem num_any (w : World) (r : Nat) (a : Option Addr) (len cap : Nat) (h : Rdr w r a len cap) :
    Calls Tryd.prog 55 #[.pointer (some ⟨r, 0, none⟩)] w (RdWf .i64 w r a len cap) := by
  have H := Lib.hid h
  clear h
  go_enter Tryd.func55, Tryd.ntmps55
  go_wp2_with fail
  refine (below_any _ _ _ _ _ _ H.out (by decide) (by decide)).mono ?_
  rintro e w1 ⟨⟨x, hx1, hx2, rfl⟩, hw⟩
  have HW := Lib.hid hw
  clear hw H
  go_wp2_with fail
  · refine (word_any _ _ _ _ _ HW.out.rdr).mono ?_
    rintro e w2 ⟨⟨y, hy, rfl⟩, hw⟩
    have HW := Lib.hid (HW.out.trans hw)
    have hyb := bounds_u64 hy
    clear hw hy
    go_wp2
    go_ret
    exact ⟨⟨_, wf_wrap64 y, rfl⟩, HW.out⟩
  · refine (below_any _ _ _ _ _ _ (HW.out.rdr.alloc _) (by decide) (by decide)).mono ?_
    rintro e w2 ⟨⟨y, hy1, hy2, rfl⟩, hw⟩
    obtain ⟨z, hz, hcz⟩ := int_cell (k := .i64) (hw.block (k := w1.heap.size) (heap_alloc_new _ _) (Nat.ne_of_gt HW.out.rdr.lt)) (by decide) y hy1 (by show y < 4; omega)
    have HZ := Lib.hid hz
    have HW := Lib.hid ((HW.out.alloc _).trans hw)
    clear hw hz
    go_wp2
    go_ret
    exact ⟨⟨_, HZ.out, rfl⟩, HW.out⟩
  · refine (below_any _ _ _ _ _ _ HW.out.rdr (by decide) (by decide)).mono ?_
    rintro e w2 ⟨⟨y, hy1, hy2, rfl⟩, hw⟩
    have HW := Lib.hid (HW.out.trans hw)
    clear hw
    go_wp2
    go_ret
    exact ⟨⟨_, WalkArith.wf_i64 (by omega), rfl⟩, HW.out⟩
end Go.Proofs.YtjofbeokkainlaaDoor
namespace Go.Proofs.YtjofbeokkainlaaDoor
open Go.ChangeShapes Go.WideShapes Go.ChangeAt Go.RowKit
set_option linter.unusedVariables false
set_option maxRecDepth 100000

theorem block_alloc {w : World} {B : Nat} (h : B < w.heap.size) (o : Obj) : (w.alloc o).heap[B]? = w.heap[B]? := by
  show (w.heap.push o)[B]? = _
  rw [Array.getElem?_push, if_neg (Nat.ne_of_lt h)]

theorem frozen_none {w : World} {B : Nat} {E : TypeId} {cur : Array Value} (h : w.heap[B]? = some (.cells cur E (0, 0))) {j : Nat} : w.frozen? ⟨B, j, none⟩ = false := by simp [World.frozen?, h]

theorem block_set {w : World} {B : Nat} {E : TypeId} {cur : Array Value} (h : w.heap[B]? = some (.cells cur E (0, 0))) (j : Nat) (x : Value) : (w.setCell ⟨B, j, none⟩ x).heap[B]? = some (.cells (cur.setIfInBounds j x) E (0, 0)) := by
  have hlt := lt_of_block h
  have h' : w.heap[B] = .cells cur E (0, 0) := by simpa [Array.getElem?_eq_getElem hlt] using h
  show (w.heap.modify B _)[B]? = _
  rw [Array.getElem?_eq_getElem (by simpa using hlt), Array.getElem_modify_self, h']
  rfl

theorem Went.put {w w1 : World} {r : Nat} {a : Option Addr} {len cap : Nat} (h : Went w r a len cap w1) {B : Nat} (hB : w.heap.size ≤ B) (hr : r < B) (j : Nat) (v : Value) : Went w r a len cap (w1.setCell ⟨B, j, none⟩ v) :=
  ⟨⟨h.grown.os, h.grown.tape, h.grown.output, by simpa [World.setCell] using h.grown.size, fun k hk hn => (Below.heap_setCell _ _ _ _ (show k ≠ B by omega)).trans (h.grown.block k hk hn)⟩, h.rdr.below ((Below.refl _ _).setCell (show r + 1 ≤ B by omega) _)⟩

def RdRec (w : World) (r : Nat) (a : Option Addr) (len cap : Nat) (e : Ending) (w' : World) : Prop := (∃ (s : ByteArray) (n : Int), s.size ≤ 41 ∧ (Lit.int .i64 n).wf = true ∧ e = .returned (recV s n)) ∧ Went w r a len cap w'

end Go.Proofs.YtjofbeokkainlaaDoor
namespace Go.Proofs.YtjofbeokkainlaaDoor
open Go.ChangeShapes Go.WideShapes Go.ChangeAt Go.RowKit
set_option linter.unusedVariables false
set_option maxRecDepth 100000

/-- The slice (q, length of W) holds the texts W in a row from block 'base' on. -/
def Ks (base : Nat) (w : World) (q : Option Addr) (W : Strs) : Prop :=
  W.length = 0 ∨ ∃ g cur, q = some ⟨g, 0, none⟩ ∧ base ≤ g ∧ Row w g 9 cur ∧ W.length ≤ cur.size ∧ ∀ j (h : j < W.length), cur[j]? = some (.string W[j])

theorem ks_of_own {base : Nat} {w : World} {q : Option Addr} {cp : Nat} {W : Strs} (h : w.ownsRow base 9 1 (.slice q W.length cp) W.length (W.map Value.string)) : Ks base w q W := by
  rcases h.2 with ⟨_, h2⟩ | ⟨g, cap, cur, hv, hb, hh, h1, _, h3, h4⟩
  · exact .inl h2
  · simp only [Value.slice.injEq, true_and] at hv
    obtain ⟨rfl, rfl⟩ := hv
    refine .inr ⟨g, cur, rfl, hb, hh, by omega, fun j hj => ?_⟩
    have e : (cur.toList.take (W.length * 1))[j]? = (W.map Value.string)[j]? := by rw [h4]
    rw [List.getElem?_take_of_lt (by omega)] at e
    have e2 : cur[j]? = cur.toList[j]? := by simp
    rw [e2, e]
    simp [hj]
theorem ks_keep {base : Nat} {w w1 : World} {q : Option Addr} {W : Strs} (h : Ks base w q W) (hB : Below w.heap.size w w1) : Ks base w1 q W := by
  rcases h with h0 | ⟨g, cur, rfl, hb, hr, h1, h2⟩
  · exact .inl h0
  · exact .inr ⟨g, cur, rfl, hb, hr.keep hB, h1, h2⟩
theorem ks_lt {base : Nat} {w : World} {q : Option Addr} {W : Strs} (h : Ks base w q W) (hn : 0 < W.length) : ∀ g, q = some ⟨g, 0, none⟩ → base ≤ g ∧ g < w.heap.size := by
  intro g hg
  rcases h with h0 | ⟨g', cur, rfl, hb, hr, h1, h2⟩
  · omega
  · simp only [Option.some.injEq, Addr.mk.injEq, and_true] at hg
    rw [← hg]; exact ⟨hb, hr.lt⟩
theorem ks_grown {base g : Nat} {w w1 : World} {q : Option Addr} {W : Strs} (h : Ks base w q W) (hg : w.grownBy w1 (some g)) (hne : 0 < W.length → ∀ g', q = some ⟨g', 0, none⟩ → g' ≠ g) : Ks base w1 q W := by
  rcases h with h0 | ⟨g', cur, rfl, hb, hr, h1, h2⟩
  · exact .inl h0
  · by_cases hz : W.length = 0
    · exact .inl hz
    · exact .inr ⟨g', cur, rfl, hb, (hg.block g' hr.lt (by simpa using hne (by omega) g' rfl)).trans hr, h1, h2⟩
theorem strs_of_ks {base n : Nat} {w : World} {q : Option Addr} {W : Strs} (h : Ks base w q W) (hn : W.length = n) (hm : n ≤ maxLen) (hs : ∀ x ∈ W, x.size ≤ maxLen) : StrsAt w q n W := by
  subst hn
  have hat : ∀ i (hi : i < W.length), strAt W i = W[i] := fun i hi => by
    unfold strAt; rw [List.getD_eq_getElem?_getD, List.getElem?_eq_getElem hi]; rfl
  refine ⟨rfl, hm, fun i hi => by rw [hat i hi]; exact hs _ (List.getElem_mem hi), ?_⟩
  rcases h with h0 | ⟨g, cur, rfl, _, hr, _, hc⟩
  · exact .inl h0
  · refine .inr ⟨g, 0, rfl, hr.lt, fun i hi => ?_⟩
    rw [hat i hi]
    have := hc i hi
    unfold Row at hr
    simp [World.cell?, hr, this]

end Go.Proofs.YtjofbeokkainlaaDoor
