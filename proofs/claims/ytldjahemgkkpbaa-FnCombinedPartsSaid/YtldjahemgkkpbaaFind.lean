
/- What FindRec computes in the program and in its model; the exact law on it, walked. Only new blocks are made. -/
import Derived.Test.YtldjahemgkkpbaaRuns5
namespace Go.Proofs.Ytldjahemgkkpbaa
open Go.ChangeShapes Go.WideShapes Go.ChangeAt Go.RowKit
set_option linter.unusedVariables false
set_option maxRecDepth 100000

def sameKey (s u : ByteArray) : Bool := s.toList == u.toList
def findAux (key : ByteArray) : Recs → Int × Bool
  | [] => (0, false)
  | r :: t => if sameKey r.1 key then (r.2, true) else findAux key t
def findB (l : Recs) (key : ByteArray) : Int × Bool := if runOkB l then findAux key l else (0, false)

theorem findAux_hit (key : ByteArray) : ∀ (l : Recs) (k : Nat), k < l.length → (∀ j, j < k → sameKey (keyAt l j) key = false) → sameKey (keyAt l k) key = true → findAux key l = (numAt l k, true)
  | [], k, hk, _, _ => by simp at hk
  | r :: t, 0, _, _, h => by
    have h' : sameKey r.1 key = true := h
    unfold findAux; rw [if_pos h']; rfl
  | r :: t, k + 1, hk, hb, h => by
    have h' : sameKey r.1 key = false := hb 0 (by omega)
    unfold findAux
    rw [if_neg (by rw [h']; simp)]
    exact findAux_hit key t k (by simpa using hk) (fun j hj => hb (j + 1) (by omega)) h
theorem findAux_none (key : ByteArray) : ∀ (l : Recs), (∀ j, j < l.length → sameKey (keyAt l j) key = false) → findAux key l = (0, false)
  | [], _ => rfl
  | r :: t, hb => by
    have h' : sameKey r.1 key = false := hb 0 (by simp)
    unfold findAux
    rw [if_neg (by rw [h']; simp)]
    exact findAux_none key t (fun j hj => hb (j + 1) (by simpa using hj))

def MadeFind (p : Int × Bool) (w : World) (e : Ending) (w' : World) : Prop := e = .returned (.tuple #[.int .i64 p.1, .bool p.2]) ∧ Below w.heap.size w w'
theorem ret_find {n : Int} {b : Bool} {p : Int × Bool} (h : p = (n, b)) : Ending.returned (.tuple #[.int .i64 n, .bool b]) = .returned (.tuple #[.int .i64 p.1, .bool p.2]) := by rw [h]

end Go.Proofs.Ytldjahemgkkpbaa
