/- For every drawing code the law on parts returns true and leaves its argument as it was: each drawn text has the part that its hash and the number of parts say. No condition. -/
import Derived.Test.YtbcdinjlpgfoiaaRows
import Derived.WalkKit
import Derived.ProofKit
import Derived.OpenShut
import Derived.ShutString
import Derived.ChangeOld
import Derived.Below
import Derived.Test.YtbcdinjlpgfoiaaHash
import Derived.Test.YtbcdinjlpgfoiaaDraw1
namespace Go.Proofs.Ytbcdinjlpgfoiaa.fnParts
open Go.ChangeShapes Go.WideShapes Go.ChangeAt Go.RowKit
open Go.ChangeMaps (open_string shut_string)
set_option linter.unusedVariables false

theorem own : ownKnob Try.prog.godebug = none := by kernel_rfl
theorem laidOut : laidOutB Try.prog = true := by kernel_rfl

/-- WHAT THE WALK IS TOLD OF A SLICE OF INTEGERS THAT CAME IN: it is nil; or it leads to a row of 'cap' cells, the numbers 'zs' (the first 'len' are its elements, the rest its spare room), each fitting its kind. -/
def IsRow (k : IntKind) (w : World) (a : Option Addr) (len cap : Nat) (zs : List Int) : Prop :=
  (a = none ∧ len = 0 ∧ cap = 0 ∧ zs = []) ∨
  ∃ x, a = some x ∧ len ≤ cap ∧ cap ≤ maxLen ∧ zs.length = cap ∧ (∀ i, i < zs.length → w.cell? (x.add i) = some (.int k (zs.getD i 0))) ∧ ∀ n ∈ zs, (Lit.int k n).wf = true

theorem walk (a0 : Option Addr) (len0 cap0 : Nat) (z0 : List Int) (w : World) (w0 : IsRow .u8 w a0 len0 cap0 z0) :
    Calls Try.prog 3 #[.slice a0 len0 cap0] w fun e w' => e = .returned (.bool true) ∧ Below w.heap.size w w' := by
  have S := Lib.hid (src_of w0)
  clear w0
  by_cases hb : 1048576 < len0
  · go_enter Try.func3, Try.ntmps3
    go_wp2_with (go_at_call 15; refine (big_yes _ _ _ _ hb).mono ?_; rintro e w' ⟨rfl, rfl⟩)
    go_ret
    exact ⟨rfl, Below.refl _ _⟩
  · go_enter Try.func3, Try.ntmps3
    go_wp2_with (first | (go_at_call 15; refine (big_no _ _ _ _ hb).mono ?_; rintro e w' ⟨rfl, rfl⟩) | (go_at_call 16; refine (drawpart_any _ _ _ _ S.out).mono ?_; rintro e w1 ⟨s, n, hs, hn, rfl, hB⟩; have HB := Lib.hid hB; clear hB))
    have hsm : s.size ≤ maxLen := by unfold maxLen; omega
    have hx := hashL_bd s.data.toList
    have hnb := bounds_i64 hn
    clear hn
    by_cases h1 : n < 1
    · go_wp2_with (first | (go_at_call 17; refine (hash_any _ _ hsm).mono ?_; rintro e w' ⟨rfl, rfl⟩) | (go_at_call 19; refine (shash_any _ _ hsm).mono ?_; rintro e w' ⟨rfl, rfl⟩) | (go_at_call 18; refine (part_any _ _ _ hsm).mono ?_; rintro e w' ⟨rfl, rfl⟩) | (go_at_call 20; refine (spart_any _ _ _ hsm).mono ?_; rintro e w' ⟨rfl, rfl⟩))
      go_ret
      exact ⟨rfl, HB.out⟩
    · by_cases h3 : 3 < n
      · go_wp2_with (first | (go_at_call 17; refine (hash_any _ _ hsm).mono ?_; rintro e w' ⟨rfl, rfl⟩) | (go_at_call 19; refine (shash_any _ _ hsm).mono ?_; rintro e w' ⟨rfl, rfl⟩) | (go_at_call 18; refine (part_any _ _ _ hsm).mono ?_; rintro e w' ⟨rfl, rfl⟩) | (go_at_call 20; refine (spart_any _ _ _ hsm).mono ?_; rintro e w' ⟨rfl, rfl⟩))
        go_ret
        exact ⟨rfl, HB.out⟩
      · obtain ⟨h, P, hh, hP, hPn⟩ : ∃ h P : Int, h = hashL s.data.toList ∧ P = partN s n ∧ P = h % n := ⟨_, _, rfl, rfl, by unfold partN; rw [if_neg (by omega)]⟩
        have e1 : 0 ≤ P := by rw [hPn]; exact Int.emod_nonneg _ (by omega)
        have e2 : P < n := by rw [hPn]; exact Int.emod_lt_of_pos _ (by omega)
        have e3 : P ≤ h := by
          rw [hPn]
          have := Int.emod_add_mul_ediv h n
          have := Int.ediv_nonneg (show 0 ≤ h by rw [hh]; exact hx.1) (show 0 ≤ n by omega)
          have := Int.mul_nonneg (show 0 ≤ n by omega) this
          omega
        have e4 : (h - P) % n = 0 := by
          have e5 : h - P = n * (h / n) := by have := Int.emod_add_mul_ediv h n; omega
          rw [e5]; exact Int.mul_emod_right _ _
        have gz : (n == 0) = false := by simp; omega
        rw [← hh] at hx
        have HH := Lib.hid hh
        have HP := Lib.hid hP
        clear hh hP hPn
        go_wp2_with (first | (go_at_call 17; refine (hash_any _ _ hsm).mono ?_; rw [← HH.out]; rintro e w' ⟨rfl, rfl⟩) | (go_at_call 19; refine (shash_any _ _ hsm).mono ?_; rw [← HH.out]; rintro e w' ⟨rfl, rfl⟩) | (go_at_call 18; refine (part_any _ _ _ hsm).mono ?_; rw [← HP.out]; rintro e w' ⟨rfl, rfl⟩) | (go_at_call 20; refine (spart_any _ _ _ hsm).mono ?_; rw [← HP.out]; rintro e w' ⟨rfl, rfl⟩))
        go_ret
        exact ⟨rfl, HB.out⟩

set_option maxRecDepth 100000 in
theorem lifted (os : Os) (started : os.Started) (H : Type) (enc : TypeId × Value → H) :
    ReturnsInHanded {} Try.checked os 3 .any (Rows.fnPartsSpec.pre6 enc Try.prog Try.f3 Rows.fnPartsRow.domain false) (Rows.fnPartsSpec.post enc Try.prog Try.f3 false true false false) := by
  refine returnsInHanded_of_change (C := Try.checked) own started (by kernel_rfl) Try.func3
    (ChangeSpec.witness6 (enc := enc) (C := Try.checked) false ⟨#[], #[.slice none 0 0], []⟩ 8 (by kernel_rfl) (by kernel_rfl) (by kernel_rfl) (by kernel_rfl)) ?_
  intro W base args ds gs before hval0 hW hcnd _
  have hval : ∀ (j : Nat) t v, Try.f3.params[j]? = some t → args[j]? = some v → Value.okWide Try.prog W .any base t v := hval0
  have hW' := hW
  obtain ⟨p, q, hA0, hV, rfl, hfz, hnd⟩ := hW
  have hA : DataW.TrodAll enc Try.prog W 0 (fun _ => true) true Try.f3.params.toList args.toList ds p := hA0
  rw [Try.params3] at hA hval
  obtain ⟨v0, vs0, d0, ds0, p0, q0, hargs, rfl, rfl, h0, r0⟩ := trodAll_cons hA
  obtain ⟨rfl, rfl, rfl⟩ := trodAll_nil r0
  obtain rfl : args = #[v0] := by cases args; simp_all
  obtain ⟨rfl, rfl⟩ := trodVars_none hV
  obtain ⟨a0, len0, cap0, rfl⟩ := okWide_slice Try.underlying22 (hval 0 22 v0 rfl rfl)
  have k0 := h0
  have lt0 : ∀ x ∈ p0, x.block < W.heap.size := by obtain ⟨m, hm⟩ := k0; exact DataW.trod_lt m _ _ _ hm
  obtain ⟨z0, w0⟩ : ∃ zs, IsRow .u8 W a0 len0 cap0 zs := by
    obtain ⟨fuel, hf⟩ := h0
    rcases open_ints Try.underlying22 Try.underlying5 (by kernel_rfl) hf with ⟨hcs, _⟩ | ⟨x, l, c, zs, hcs, _, hl, hm, hz, _, hcell, hwz⟩
    · simp [Value.cells] at hcs
      obtain ⟨rfl, rfl, rfl⟩ := hcs
      exact ⟨[], .inl ⟨rfl, rfl, rfl, rfl⟩⟩
    · simp [Value.cells] at hcs
      obtain ⟨rfl, rfl, rfl⟩ := hcs
      exact ⟨zs, .inr ⟨_, rfl, hl, hm, by simpa using hz, hcell, hwz⟩⟩
  clear hA0 hval0
  refine (walk a0 len0 cap0 z0 W w0).mono fun e W' ⟨he, bel⟩ => ?_
  subst he
  exact ⟨_, rfl, _, _, _, [], _, [], hW', trodAll_mk1 (shut_bool Try.underlying4 _), (trodAll_cons_mk (Below.trod laidOut (by kernel_rfl) (of_decide_eq_true (by kernel_rfl)) k0 bel lt0) trodAll_mk0), rfl, bel.frame _, fun h => by cases h⟩

theorem over : Rows.fnPartsRow.holds Try.pinned (OpenSpec.ofChange Rows.fnPartsSpec) :=
  OpenClaim.holds_of_wide 3 Try.f3 rfl rfl rfl rfl rfl rfl rfl ⟨rfl, rfl, rfl, rfl, rfl⟩ rfl rfl rfl rfl rfl (by kernel_rfl) Try.func3 (by kernel_rfl)
    (of_decide_eq_true (by kernel_rfl)) (by unfold Func.isWrapper; first | (rw [if_pos (by decide +kernel)]; kernel_rfl) | (rw [if_neg (by decide +kernel)]; exact ⟨rfl, rfl⟩))
    (fun os started H enc _ => lifted os started H enc)

/-- The given statement. -/
theorem proved : Rows.FnPartsSaid := over
end Go.Proofs.Ytbcdinjlpgfoiaa.fnParts
namespace Go.Proofs.Ytbcdinjlpgfoiaa
theorem fnParts_proved : Rows.FnPartsSaid := fnParts.proved
#print axioms fnParts_proved
end Go.Proofs.Ytbcdinjlpgfoiaa
