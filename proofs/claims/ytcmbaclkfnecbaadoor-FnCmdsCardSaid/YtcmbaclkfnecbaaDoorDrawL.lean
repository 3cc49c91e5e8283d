
/- Drawn lines and texts of lines: at most 12 texts of at most 400 bytes each; only the reader's position and new blocks change. -/
import Derived.Test.YtcmbaclkfnecbaaDoorLine
import Derived.Test.YtcmbaclkfnecbaaDoorLText
import Derived.Test.YtcmbaclkfnecbaaDoorMg1
namespace Go.Proofs.YtcmbaclkfnecbaaDoor
open Go.ChangeShapes Go.WideShapes Go.ChangeAt Go.RowKit
set_option linter.unusedVariables false
set_option maxRecDepth 100000

theorem Went.more {w w1 w2 : World} {r : Nat} {a : Option Addr} {len cap : Nat} {row : Option Nat} (h : Went w r a len cap w1) (hg : w1.grownBy w2 row) (hr : r < w.heap.size) (hrow : ∀ k, row = some k → w.heap.size ≤ k) : Went w r a len cap w2 :=
  ⟨⟨hg.os.trans h.grown.os, hg.tape.trans h.grown.tape, hg.output.trans h.grown.output, Nat.le_trans h.size hg.size, fun i hi hn => (hg.block i (Nat.lt_of_lt_of_le hi h.size) (fun e => by have := hrow i e.symm; omega)).trans (h.grown.block i hi hn)⟩,
   h.rdr.below ⟨hg.os, hg.tape, hg.output, hg.size, fun k hk => hg.block k (by have := h.rdr.lt; omega) (fun e => by have := hrow k e.symm; omega)⟩⟩
theorem own_went {w w1 : World} {base r : Nat} {a : Option Addr} {len cap : Nat} {e : TypeId} {size : Nat} {v : Value} {n : Nat} {xs : List Value} (h : w.ownsRow base e size v n xs) (hw : Went w r a len cap w1) (hr : r < base) : w1.ownsRow base e size v n xs :=
  h.kept hw.grown (by
    by_cases hv : v.ownBlock = none
    · exact .inl hv
    · refine .inr fun he => ?_
      have := (h.lt r he).1
      omega)
theorem strs_of_own {w : World} {base n : Nat} {q : Option Addr} {cp : Nat} {W : Strs} (h : w.ownsRow base 9 1 (.slice q n cp) n (W.map Value.string)) (hn : W.length = n) (hm : n ≤ maxLen) (hs : ∀ x ∈ W, x.size ≤ maxLen) : StrsAt w q n W := by
  refine ⟨hn, hm, fun i hi => ?_, ?_⟩
  · unfold strAt
    rw [List.getD_eq_getElem?_getD, List.getElem?_eq_getElem (by omega)]
    exact hs _ (List.getElem_mem _)
  · by_cases h0 : n = 0
    · exact .inl h0
    · rcases h.2 with ⟨h1, h2⟩ | ⟨g, cap, cur, hv, _, hh, _⟩
      · simp only [Value.slice.injEq] at h1; omega
      · simp only [Value.slice.injEq, true_and] at hv
        obtain ⟨rfl, rfl⟩ := hv
        refine .inr ⟨g, 0, rfl, lt_of_block hh, fun i hi => ?_⟩
        have hiW : i < W.length := by omega
        rw [Nat.zero_add, h.cellAt i (by omega)]
        unfold strAt
        rw [List.getD_eq_getElem?_getD]
        simp [hiW]

structure DrawnL (w wr : World) (r : Nat) (a : Option Addr) (len cap : Nat) (v : Value) (W : Strs) : Prop where
  own : wr.ownsRow w.heap.size 9 1 v W.length (W.map Value.string)
  went : Went w r a len cap wr
  short : ∀ x ∈ W, x.size ≤ 400

theorem DrawnL.trans {w wr w1 : World} {r : Nat} {a : Option Addr} {len cap : Nat} {v : Value} {W : Strs} (h : DrawnL w wr r a len cap v W) (hr : r < w.heap.size) (hw : Went wr r a len cap w1) : DrawnL w w1 r a len cap v W :=
  ⟨own_went h.own hw hr, h.went.trans hw, h.short⟩
theorem DrawnL.add {w wr w1 : World} {r : Nat} {a : Option Addr} {len cap : Nat} {v v' : Value} {W : Strs} {s : ByteArray} {o : Obj} (h : DrawnL w wr r a len cap v W) (hr : r < w.heap.size) (hs : s.size ≤ 400)
    (hown : w1.ownsRow w.heap.size 9 1 v' (W.length + 1) (W.map Value.string ++ [.string s])) (hg : (wr.alloc o).grownBy w1 v.ownBlock) : DrawnL w w1 r a len cap v' (W ++ [s]) :=
  ⟨by simpa using hown, (h.went.alloc o).more hg hr (fun k hk => (h.own.lt k hk).1), fun x hx => by
    rcases List.mem_append.1 hx with hx | hx
    · exact h.short x hx
    · simp at hx; subst hx; exact hs⟩

def sliceLen : Value → Nat | .slice _ n _ => n | _ => 0
/-- The end of a method that draws at most n texts of at most 400 bytes. -/
def RdLines (n : Nat) (w : World) (r : Nat) (a : Option Addr) (len cap : Nat) (e : Ending) (w' : World) : Prop :=
  ∃ (q : Option Addr) (cp : Nat) (W : Strs), e = .returned (.slice q W.length cp) ∧ W.length ≤ n ∧ DrawnL w w' r a len cap (.slice q W.length cp) W

/-- What is drawn: at most 12 texts of at most 400 bytes. -/
def DrewLines (w : World) (e : Ending) (w' : World) : Prop := ∃ (q : Option Addr) (cp : Nat) (W : Strs), e = .returned (.slice q W.length cp) ∧ W.length ≤ 12 ∧ (∀ x ∈ W, x.size ≤ 400) ∧ StrsAt w' q W.length W ∧ Below w.heap.size w w'

theorem DrawnL.strs {w wr : World} {r : Nat} {a : Option Addr} {len cap : Nat} {q : Option Addr} {cp : Nat} {W : Strs} (h : DrawnL w wr r a len cap (.slice q W.length cp) W) (h12 : W.length ≤ 12) : StrsAt wr q W.length W :=
  strs_of_own h.own rfl (by unfold maxLen; omega) (fun x hx => by have := h.short x hx; unfold maxLen; omega)

theorem linesTx_size {l : Strs} (h : l.length ≤ 12) (hs : ∀ x ∈ l, x.size ≤ 400) : (linesTx l).size ≤ 4812 := by
  unfold linesTx textTo
  rw [List.take_length]
  have := joinN_len (bytesOf l) 400 (fun x hx => by
    obtain ⟨s, hs', rfl⟩ := List.mem_map.1 hx
    simpa using hs s hs')
  have hl : (bytesOf l).length = l.length := by simp [bytesOf]
  show (joinN (bytesOf l)).length ≤ 4812
  rw [hl] at this
  omega

end Go.Proofs.YtcmbaclkfnecbaaDoor
