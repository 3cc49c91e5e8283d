
/- append of records that may be read, nil or not, to a row of the call's own. -/
import Derived.Test.YtldjahemgkkpbaaMg4
import Derived.Test.YtldjahemgkkpbaaDrawLf
import Derived.Test.YtldjahemgkkpbaaMerge
import Derived.Laws.AppendOwnNone
namespace Go.Proofs.Ytldjahemgkkpbaa
open Go.ChangeShapes Go.WideShapes Go.ChangeAt Go.RowKit
set_option linter.unusedVariables false
set_option maxRecDepth 100000

theorem wpList_want {P : Program} {ops : Array Oper} {Q : Exit → Act → World → Prop} {a : Act} {w : World} {rest : List Oper} {o : Oper} (hw : Region.wanted o (yielded ops a.tmps) = true)
    (h : ∀ K : Act → World → Prop, (∀ a w, wpList P ops Q rest a w → K a w) → o.wp P a w K Q) : wpList P ops Q (o :: rest) a w :=
  wpList_step fun K hK => by rw [if_pos hw]; exact h K hK

/-- append of records that may be read, nil or not, to a row of the call's own; guarded or not. -/
theorem append_g {ops : Array Oper} {rest : List Oper} {o : Oper} {a : Act} {Q : Exit → Act → World → Prop} {w : World} (hw : Region.wanted o (yielded ops a.tmps) = true) (s x : Operand)
    (ho : o.op = .call { callee := .builtin .append, args := #[s, x], argTypes := #[24, 24] })
    (base : Nat) (v : Value) (n : Nat) (xs : List Value) (hs : a.eval s = v) (hown : w.ownsRow base 30 2 v n xs)
    (q : Option Addr) (m c : Nat) (V : Recs) (hx : a.eval x = .slice q m c) (hrec : RecsAt w q m V) (hnone : q = none → m = 0 ∧ c = 0) (h6 : n + m ≤ 100000) (hbase : base ≤ w.heap.size)
    (h : ∀ v' w', w'.ownsRow base 30 2 v' (n + m) (xs ++ cellsL V) → w.grownBy w' v.ownBlock → wpList Try.prog ops Q rest (a.put o.dst v') w') : wpList Try.prog ops Q (o :: rest) a w := by
  obtain ⟨i0, hi, hz0, hz1, hz2⟩ := info_parts infoRec
  cases q with
  | none =>
    obtain ⟨rfl, rfl⟩ := hnone rfl
    obtain rfl : V = [] := List.eq_nil_of_length_eq_zero hrec.length
    have h0 := h v w (by simpa [cellsL] using hown) (World.grownBy.refl _ _)
    refine wpList_want hw fun K hK => ?_
    have hrun := run_append_owned_none (P := Try.prog) (w := w) base 24 o.type 30 i0 2 Try.underlying24 hi v n xs hown
    unfold Oper.wp
    simp [execOp, ho, resolve, invoke, builtin, hs, hx, hrun, Result.andThen]
    exact hK _ _ h0
  | some p =>
    exact wpList_want hw fun _ hK => wp_append_own w s x 24 ho base 30 i0 _ 2 24 Try.underlying24 hi hz0 hz1 hz2 rfl (by decide) v n xs hs hown p m c (cellsL V) hx (by rw [cellsL_len, hrec.length]) (recs_cellsO hrec) (cellsL_one _) (by unfold maxLen; omega) (by omega) hbase fun v' w' h2 h3 h4 => hK _ _ (h v' w' h2 h3)
end Go.Proofs.Ytldjahemgkkpbaa
