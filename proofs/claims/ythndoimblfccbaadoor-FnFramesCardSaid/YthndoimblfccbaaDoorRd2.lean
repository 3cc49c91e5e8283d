
/- The model's reader, more: once, word, near, off, word1, and how a reader is opened: bounds on what is returned; only the reader's position and new blocks change. -/
import Derived.Test.YthndoimblfccbaaDoorRd
namespace Go.Proofs.YthndoimblfccbaaDoor
open Go.ChangeShapes Go.WideShapes Go.ChangeAt Go.RowKit
set_option linter.unusedVariables false
set_option maxRecDepth 100000

def RdBool (w : World) (r : Nat) (a : Option Addr) (len cap : Nat) (e : Ending) (w' : World) : Prop := (∃ x : Bool, e = .returned (.bool x)) ∧ Went w r a len cap w'
def RdWf (k : IntKind) (w : World) (r : Nat) (a : Option Addr) (len cap : Nat) (e : Ending) (w' : World) : Prop := (∃ x : Int, (Lit.int k x).wf = true ∧ e = .returned (.int k x)) ∧ Went w r a len cap w'
def RdStr (m : Nat) (w : World) (r : Nat) (a : Option Addr) (len cap : Nat) (e : Ending) (w' : World) : Prop := (∃ s : ByteArray, s.size ≤ m ∧ e = .returned (.string s)) ∧ Went w r a len cap w'

theorem near_math (lo hi y : Int) (h1 : lo ≤ hi) (h2 : -1152921504606846976 ≤ lo) (h3 : hi ≤ 1152921504606846976) :
    lo ≤ wrap64 (lo + wrap64 (y / 2 % (hi - lo + 1))) ∧ wrap64 (lo + wrap64 (y / 2 % (hi - lo + 1))) ≤ hi := by
  have e1 := Int.emod_nonneg (y / 2) (show hi - lo + 1 ≠ 0 by omega)
  have e2 := Int.emod_lt_of_pos (y / 2) (show 0 < hi - lo + 1 by omega)
  rw [IntWalk.wrap64_in (y / 2 % (hi - lo + 1)) (by omega), IntWalk.wrap64_in _ (by omega)]
  omega

/-- Every cell of a table is a text of at most m bytes. -/
def allStr (m : Nat) (cs : Array Value) : Bool := cs.toList.all fun v => match v with | .string s => decide (s.size ≤ m) | _ => false
theorem tab_cell {w : World} {B m : Nat} {cs : Array Value} {t : TypeId} (h : w.heap[B]? = some (.cells cs t (0, 0))) (hs : allStr m cs = true) (x : Int) (h1 : 0 ≤ x) (h2 : x < cs.size) :
    ∃ s : ByteArray, s.size ≤ m ∧ w.cell? ⟨B, x.toNat, none⟩ = some (.string s) := by
  have hj : x.toNat < cs.size := by omega
  have h3 := List.all_eq_true.1 hs cs[x.toNat] (by simp)
  have h4 : w.cell? ⟨B, x.toNat, none⟩ = some cs[x.toNat] := by simp [World.cell?, h, hj]
  revert h3 h4
  generalize cs[x.toNat] = v
  intro h3 h4
  cases v <;> simp at h3
  exact ⟨_, h3, h4⟩

/-- Every cell of a table is a number of kind k. -/
def allInt (k : IntKind) (cs : Array Value) : Bool := cs.toList.all fun v => match v with | .int k' n => k' == k && (Lit.int k n).wf | _ => false
theorem int_cell {w : World} {B : Nat} {k : IntKind} {cs : Array Value} {t : TypeId} (h : w.heap[B]? = some (.cells cs t (0, 0))) (hs : allInt k cs = true) (x : Int) (h1 : 0 ≤ x) (h2 : x < cs.size) :
    ∃ n : Int, (Lit.int k n).wf = true ∧ w.cell? ⟨B, x.toNat, none⟩ = some (.int k n) := by
  have hj : x.toNat < cs.size := by omega
  have h3 := List.all_eq_true.1 hs cs[x.toNat] (by simp)
  have h4 : w.cell? ⟨B, x.toNat, none⟩ = some cs[x.toNat] := by simp [World.cell?, h, hj]
  revert h3 h4
  generalize cs[x.toNat] = v
  intro h3 h4
  cases v <;> simp at h3
  obtain ⟨rfl, h5⟩ := h3
  exact ⟨_, h5, h4⟩

/-- What is told of a slice of bytes that came in: each byte is there. -/
def Src (w : World) (a : Option Addr) (len : Nat) : Prop := len ≤ maxLen ∧ (len = 0 ∨ ∃ b off, a = some ⟨b, off, none⟩ ∧ b < w.heap.size ∧ ∀ i, i < len → ∃ z : Nat, z < 256 ∧ w.cell? ⟨b, off + i, none⟩ = some (.int .u8 z))

theorem Rdr.new (w : World) (a : Option Addr) (len cap : Nat) (t : TypeId) (h : Src w a len) : Rdr (w.alloc (.cells #[.slice a len cap, .int .i64 0] t)) w.heap.size a len cap where
  lt := by simp
  code := cell_two_new w (Value.slice a len cap) (Value.int IntKind.i64 0) t 0 _ rfl
  pos := ⟨0, Nat.zero_le _, cell_two_new w (Value.slice a len cap) (Value.int IntKind.i64 0) t 1 _ rfl⟩
  free := by simp only [World.frozen?, heap_alloc_new]; rfl
  max := h.1
  src := by
    rcases h.2 with h0 | ⟨b, off, ha, hb, hz⟩
    · exact .inl h0
    · refine .inr ⟨b, off, ha, hb, fun i hi => ?_⟩
      obtain ⟨z, hz1, hz2⟩ := hz i hi
      exact ⟨z, hz1, (((Below.refl w.heap.size w).alloc (Nat.le_refl _) _).cell (p := ⟨b, off + i, none⟩) hb).trans hz2⟩

theorem open_any (w : World) (a : Option Addr) (len cap : Nat) (h : Src w a len) :
    Calls Tryd.prog 21 #[.slice a len cap] w fun e w' => e = .returned (.pointer (some ⟨w.heap.size, 0, none⟩)) ∧ Below w.heap.size w w' ∧ Rdr w' w.heap.size a len cap := by
  have H := Lib.hid h
  clear h
  go_enter Tryd.func21, Tryd.ntmps21
  go_wp2
  go_ret
  exact ⟨rfl, (Below.refl _ _).alloc (Nat.le_refl _) _, Rdr.new _ _ _ _ _ H.out⟩

end Go.Proofs.YthndoimblfccbaaDoor
