
/- Texts appended to a row of the call's own. -/
import Derived.Test.YthnlllbanfemaaaGreatDoorMg5
import Derived.Test.YthnlllbanfemaaaGreatDoorMg4
import Derived.Laws.AppendOwnNone
namespace Go.Proofs.YthnlllbanfemaaaGreatDoor
open Go.ChangeShapes Go.WideShapes Go.ChangeAt Go.RowKit
set_option linter.unusedVariables false
set_option maxRecDepth 100000

theorem strs_cells_at {w : World} {q : Addr} {len : Nat} {l : Strs} (h : StrsAt w (some q) len l) : ∀ j u, (l.map Value.string)[j]? = some u → w.cell? (q.add j) = some u := by
  intro j u hj
  have hl := h.length
  have hjl : j < l.length := by
    obtain ⟨h1, _⟩ := List.getElem?_eq_some_iff.1 hj
    simpa using h1
  rcases h.src with h0 | ⟨b, off, ha, hb, hc⟩
  · omega
  · simp only [Option.some.injEq] at ha
    subst ha
    have hadd : (⟨b, off, none⟩ : Addr).add j = ⟨b, off + j, none⟩ := by
      unfold Addr.add
      split
      · rename_i h0; subst h0; rfl
      · rfl
    rw [hadd, hc j (by omega), ← hj]
    unfold strAt
    rw [List.getD_eq_getElem?_getD, List.getElem?_map, List.getElem?_eq_getElem hjl]
    rfl
theorem append_strs {ops : Array Oper} {rest : List Oper} {o : Oper} {a : Act} {Q : Exit → Act → World → Prop} {w : World} (hg : o.guard = none) (s x : Operand)
    (ho : o.op = .call { callee := .builtin .append, args := #[s, x], argTypes := #[23, 23] })
    (base : Nat) (v : Value) (n : Nat) (W : Strs) (hs : a.eval s = v) (hown : w.ownsRow base 9 1 v n (W.map Value.string))
    (q : Option Addr) (m c : Nat) (V : Strs) (hx : a.eval x = .slice q m c) (hrec : StrsAt w q m V) (hnone : q = none → c = 0) (h6 : n + m ≤ 100000) (hbase : base ≤ w.heap.size)
    (h : ∀ q' c' w', w'.ownsRow base 9 1 (.slice q' (n + m) c') (n + m) ((W ++ V).map Value.string) → w.grownBy w' v.ownBlock → wpList Tryz.prog ops Q rest (a.put o.dst (.slice q' (n + m) c')) w') : wpList Tryz.prog ops Q (o :: rest) a w := by
  obtain ⟨i0, hi, hz0, hz1, hz2⟩ := info_parts infoStr
  refine wpList_plain hg fun K hK => ?_
  cases q with
  | none =>
    have hc := hnone rfl
    have hm : m = 0 := by
      rcases hrec.src with h0 | ⟨b, off, ha, _⟩
      · exact h0
      · cases ha
    subst hm hc
    obtain rfl : V = [] := List.eq_nil_of_length_eq_zero hrec.length
    obtain ⟨q', c', rfl⟩ := own_form hown
    have h0 := h q' c' w (by simpa using hown) (World.grownBy.refl _ _)
    have hrun := run_append_owned_none (P := Tryz.prog) (w := w) base 23 o.type 9 i0 1 Tryz.underlying23 hi _ n _ hown
    unfold Oper.wp
    simp [execOp, ho, resolve, invoke, builtin, hs, hx, hrun, Result.andThen]
    exact hK _ _ h0
  | some p =>
    exact wp_append_own w s x 23 ho base 9 i0 _ 1 16 Tryz.underlying23 hi hz0 hz1 hz2 rfl (by decide) v n _ hs hown p m c (V.map Value.string) hx (by rw [List.length_map, hrec.length, Nat.mul_one]) (strs_cells_at hrec) (fun u hu => by obtain ⟨s, _, rfl⟩ := List.mem_map.1 hu; rfl) (by unfold maxLen; omega) (by omega) hbase fun v' w' h2 h3 h4 => by
      obtain ⟨q', c', rfl⟩ := own_form h2
      exact hK _ _ (h q' c' w' (by rw [List.map_append]; exact h2) h3)
end Go.Proofs.YthnlllbanfemaaaGreatDoor
