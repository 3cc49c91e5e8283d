
/- For every command that may be read, FnExactCmdOk returns true and leaves its argument as it was. Conditions: none. -/
import Derived.Test.YtbieabolnfpcgaaRows
import Derived.WalkKit
import Derived.ProofKit
import Derived.OpenShut
import Derived.ShutString
import Derived.ChangeOld
import Derived.Below
import Derived.Lib.SmallJoins
import Derived.Test.YtbieabolnfpcgaaCmdX
namespace Go.Proofs.Ytbieabolnfpcgaa.fnExactCmdOk
open Go.ChangeShapes Go.WideShapes Go.ChangeAt Go.RowKit Go.Joins
open Go.ChangeMaps (open_string shut_string)
set_option linter.unusedVariables false

theorem own : ownKnob Try.prog.godebug = none := by kernel_rfl
theorem laidOut : laidOutB Try.prog = true := by kernel_rfl
theorem cellsAgg0 : Try.prog.cellsOf 47 = 4 := by kernel_rfl

set_option maxRecDepth 100000 in
theorem lifted (os : Os) (started : os.Started) (H : Type) (enc : TypeId × Value → H) :
    ReturnsInHanded {} Try.checked os 7 .any (Rows.fnExactCmdOkSpec.pre6 enc Try.prog Try.f7 Rows.fnExactCmdOkRow.domain false) (Rows.fnExactCmdOkSpec.post enc Try.prog Try.f7 false true false false) := by
  refine returnsInHanded_of_change (C := Try.checked) own started (by kernel_rfl) Try.func7
    (ChangeSpec.witness6 (enc := enc) (C := Try.checked) false ⟨#[], #[.agg #[.int .i64 0, .string ByteArray.empty, .int .i64 0, .string ByteArray.empty]], []⟩ 8 (by kernel_rfl) (by kernel_rfl) (by kernel_rfl) (by kernel_rfl)) ?_
  intro W base args ds gs before hval0 hW hcnd _
  have hval : ∀ (j : Nat) t v, Try.f7.params[j]? = some t → args[j]? = some v → Value.okWide Try.prog W .any base t v := hval0
  have hW' := hW
  obtain ⟨p, q, hA0, hV, rfl, hfz, hnd⟩ := hW
  have hA : DataW.TrodAll enc Try.prog W 0 (fun _ => true) true Try.f7.params.toList args.toList ds p := hA0
  rw [Try.params7] at hA hval
  obtain ⟨v0, vs0, d0, ds0, p0, q0, hargs, rfl, rfl, h0, r0⟩ := trodAll_cons hA
  obtain ⟨rfl, rfl, rfl⟩ := trodAll_nil r0
  obtain rfl : args = #[v0] := by cases args; simp_all
  obtain ⟨rfl, rfl⟩ := trodVars_none hV
  have k0 := h0
  have lt0 : ∀ x ∈ p0, x.block < W.heap.size := by obtain ⟨m, hm⟩ := k0; exact DataW.trod_lt m _ _ _ hm
  obtain ⟨x0_0, x0_1, x0_2, x0_3, w0, rfl⟩ : ∃ (x0_0 : Int) (x0_1 : ByteArray) (x0_2 : Int) (x0_3 : ByteArray), ((Lit.int .i64 x0_0).wf = true ∧ x0_1.size ≤ maxLen ∧ (Lit.int .i64 x0_2).wf = true ∧ x0_3.size ≤ maxLen) ∧ v0 = .agg #[.int .i64 x0_0, .string x0_1, .int .i64 x0_2, .string x0_3] := by
    obtain ⟨c0, c1, c2, c3, y0, y1, y2, y3, m, rfl, _, _, hy0, hy1, hy2, hy3⟩ := open_agg4 Try.underlying47 (by kernel_rfl) cellsAgg0 (hval 0 47 v0 rfl rfl) h0
    obtain ⟨s0, e0, _, ws0⟩ := DataW.trod_int Try.underlying2 hy0
    obtain ⟨s1, e1, _, ws1⟩ := DataW.trod_string Try.underlying9 hy1
    obtain ⟨s2, e2, _, ws2⟩ := DataW.trod_int Try.underlying2 hy2
    obtain ⟨s3, e3, _, ws3⟩ := DataW.trod_string Try.underlying9 hy3
    simp at e0 e1 e2 e3
    subst e0 e1 e2 e3
    exact ⟨s0, s1, s2, s3, ⟨ws0, ws1, ws2, ws3⟩, rfl⟩
  clear hA0 hval0
  refine (fnExactCmdOk_walk x0_0 x0_1 x0_2 x0_3 W w0.2.1 w0.2.2.2).mono fun e W' ⟨he, bel⟩ => ?_
  subst he
  exact ⟨_, rfl, _, _, _, [], _, [], hW', trodAll_mk1 (shut_bool Try.underlying4 _), (trodAll_cons_mk (Below.trod laidOut (by kernel_rfl) (of_decide_eq_true (by kernel_rfl)) k0 bel lt0) trodAll_mk0), rfl, bel.frame _, fun h => by cases h⟩

theorem over : Rows.fnExactCmdOkRow.holds Try.pinned (OpenSpec.ofChange Rows.fnExactCmdOkSpec) :=
  OpenClaim.holds_of_wide 7 Try.f7 rfl rfl rfl rfl rfl rfl rfl ⟨rfl, rfl, rfl, rfl, rfl⟩ rfl rfl rfl rfl rfl (by kernel_rfl) Try.func7 (by kernel_rfl)
    (of_decide_eq_true (by kernel_rfl)) (by unfold Func.isWrapper; first | (rw [if_pos (by decide +kernel)]; kernel_rfl) | (rw [if_neg (by decide +kernel)]; exact ⟨rfl, rfl⟩))
    (fun os started H enc _ => lifted os started H enc)
end Go.Proofs.Ytbieabolnfpcgaa.fnExactCmdOk
namespace Go.Proofs.Ytbieabolnfpcgaa
/-- The given statement. -/
theorem fnExactCmdOk_proved : Rows.FnExactCmdOkSaid := fnExactCmdOk.over
#print axioms fnExactCmdOk_proved
end Go.Proofs.Ytbieabolnfpcgaa
