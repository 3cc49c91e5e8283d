
/- What a command makes of a store. Plain mathematics. -/
import Derived.Test.YtblpebdjbenphaaCmdOk
import Derived.Test.YtblpebdjbenphaaL7W
import Derived.RegionTactic
import Derived.BigRegion
namespace Go.Proofs.Ytblpebdjbenphaa
open Go.ChangeShapes Go.WideShapes Go.ChangeAt Go.RowKit
set_option linter.unusedVariables false
set_option maxRecDepth 100000

def performE (kind : Int) (key : ByteArray) (ver : Int) (data : ByteArray) (E : Els) : Els × Int × Int :=
  if cmdB kind key ver data = true then (if kind = 1 then createE key data E else if kind = 2 then replE key ver data E else delE key ver E) else (E, 0, 1)
theorem del_zero (key : ByteArray) (ver : Int) (E : Els) : (delE key ver E).2.1 = 0 := by
  unfold delE
  cases lookE key E with
  | none => rfl
  | some e => dsimp only; split <;> (try split) <;> rfl
theorem cmd_true {kind : Int} {key : ByteArray} {ver : Int} {data : ByteArray} (h : cmdB kind key ver data = true) : keyB key = true ∧ ((kind = 1 ∧ ver = 0 ∧ data.size ≤ 30000) ∨ (kind = 2 ∧ inB ver 1 1000000 = true ∧ data.size ≤ 30000) ∨ (kind = 3 ∧ inB ver 1 1000000 = true)) := by
  cases hk : keyB key with
  | false => rw [cmd_key hk] at h; cases h
  | true =>
    refine ⟨rfl, ?_⟩
    by_cases h1 : kind = 1
    · subst h1
      rw [cmd_1 hk, Bool.and_eq_true] at h
      have := h.2
      simp only [decide_eq_true_eq] at this
      exact .inl ⟨rfl, of_decide_eq_true h.1, by omega⟩
    · by_cases h2 : kind = 2
      · subst h2
        rw [cmd_2 hk, Bool.and_eq_true] at h
        have := h.2
        simp only [decide_eq_true_eq] at this
        exact .inr (.inl ⟨rfl, h.1, by omega⟩)
      · by_cases h3 : kind = 3
        · subst h3
          rw [cmd_3 hk, Bool.and_eq_true] at h
          exact .inr (.inr ⟨rfl, h.1⟩)
        · rw [cmd_no h1 h2 h3] at h; cases h

theorem perf_ep {kind : Int} {key : ByteArray} {ver : Int} {data : ByteArray} {E : Els} (h : EP E) : EP (performE kind key ver data E).1 := by
  unfold performE
  cases hc : cmdB kind key ver data with
  | false => exact h
  | true =>
    obtain ⟨hk, h1 | h1 | h1⟩ := cmd_true hc
    · obtain ⟨rfl, _, hd⟩ := h1; exact ep_create h hk hd
    · obtain ⟨rfl, _, hd⟩ := h1; exact ep_repl h hk hd
    · obtain ⟨rfl, _⟩ := h1; exact ep_del h hk
theorem ep_nil : EP [] := ⟨by simp, by unfold ekeys IncT; simp, fun x hx => by cases hx⟩
/-- Three blocks of the call's own: the boxes of the store and of the command, and that of the result. -/
structure PRow (w : World) (bx cx : Array Value) (w' : World) : Prop where
  below : Below w.heap.size w w'
  box : Row w' w.heap.size 27 bx
  cmd : Row w' (w.heap.size + 1) 57 cx
  res : Row w' (w.heap.size + 2) 27 #[.slice none 0 0, .slice none 0 0]
theorem PRow.keep {w w' w'' : World} {bx cx : Array Value} (h : PRow w bx cx w') (hB : Below w'.heap.size w' w'') : PRow w bx cx w'' := ⟨below_via h.below hB, h.box.keep hB, h.cmd.keep hB, h.res.keep hB⟩
theorem PRow.ge {w w' : World} {bx cx : Array Value} (h : PRow w bx cx w') : w.heap.size + 3 ≤ w'.heap.size := h.res.lt

theorem HRS0 {w w' : World} {bx cx : Array Value} {Z : Nat} (h : PRow w bx cx w') (hz : w.heap.size + 2 = Z) : Z < w'.heap.size := by rw [← hz]; exact h.res.lt

end Go.Proofs.Ytblpebdjbenphaa
