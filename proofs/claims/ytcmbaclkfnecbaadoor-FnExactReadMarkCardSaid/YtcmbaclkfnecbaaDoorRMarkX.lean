
/- The exact law on ReadMark, walked: for every text that may be read it returns true and only makes new blocks. -/
import Derived.Test.YtcmbaclkfnecbaaDoorRMarkS
namespace Go.Proofs.YtcmbaclkfnecbaaDoor
open Go.ChangeShapes Go.WideShapes Go.ChangeAt Go.RowKit
set_option linter.unusedVariables false
set_option maxRecDepth 100000

theorem eqmark_same (a : Bool) (e u : Int) (w : World) : Calls Tryd.prog 33 #[.agg #[.bool a, .int .i64 e, .int .i64 u], .agg #[.bool a, .int .i64 e, .int .i64 u]] w (MadeBool true w) := by
  go_enter Tryd.func33, Tryd.ntmps33
  go_wp2
  go_ret
  exact ⟨rfl, below_alloc (below_alloc (Below.refl _ _) _) _⟩

def rmA : Option (Bool × Int × Int) → Bool × Int × Int
  | some x => x
  | none => (false, 0, 0)
theorem rmV_form (o : Option (Bool × Int × Int)) : rmV o = .tuple #[.agg #[.bool (rmA o).1, .int .i64 (rmA o).2.1, .int .i64 (rmA o).2.2], .bool o.isSome] := by
  cases o with
  | none => rfl
  | some x => obtain ⟨a, e, u⟩ := x; rfl

set_option maxHeartbeats 4000000 in
theorem fnExactReadMark_walk (s : ByteArray) (w : World) (hs : s.size ≤ maxLen) (hT : TabsR w) :
    Calls Tryd.prog 8 #[.string s] w fun x w' => x = .returned (.bool true) ∧ Below w.heap.size w w' := by
  unfold maxLen at hs
  by_cases hbig : (1048576 : Int) < (s.size : Int)
  · go_enter Tryd.func8, Tryd.ntmps8
    go_wp2
    go_ret
    exact ⟨rfl, Below.refl _ _⟩
  have HT := Lib.hid hT
  obtain ⟨o, ho⟩ : ∃ o, rmark s.data.toList = o := ⟨_, rfl⟩
  have HO := Lib.hid ho
  have HF := Lib.hid (rmV_form o)
  obtain ⟨a, ha⟩ : ∃ a, (rmA o).1 = a := ⟨_, rfl⟩
  obtain ⟨e, he⟩ : ∃ a, (rmA o).2.1 = a := ⟨_, rfl⟩
  obtain ⟨u, hu⟩ : ∃ a, (rmA o).2.2 = a := ⟨_, rfl⟩
  obtain ⟨b, hb⟩ : ∃ a, o.isSome = a := ⟨_, rfl⟩
  rw [ha, he, hu, hb] at HF
  clear hT ho ha he hu hb
  go_enter Tryd.func8, Tryd.ntmps8
  go_wp2_with fail
  refine (sreadmark_any s _ (by omega)).mono ?_
  rw [HO.out]
  rintro x w1 ⟨hx, hB⟩
  rw [HF.out] at hx
  subst hx
  have HB := Lib.hid (below_alloc hB (.cells #[.bool a, .int .i64 e, .int .i64 u] 32))
  have HX := Lib.hid (Row.new w1 32 #[.bool a, .int .i64 e, .int .i64 u])
  clear hB
  go_wp2_with fail
  refine (readmark_any s _ (by omega) (HT.out.keep HB.out)).mono ?_
  rw [HO.out]
  rintro x w2 ⟨hx, hB⟩
  rw [HF.out] at hx
  subst hx
  have HX := Lib.hid ((HX.out.keep hB).alloc (.cells #[.bool a, .int .i64 e, .int .i64 u] 32))
  have HB := Lib.hid (below_alloc (below_via HB.out hB) (.cells #[.bool a, .int .i64 e, .int .i64 u] 32))
  have y0 := HX.out.cell (j := 0) (by simp)
  have y1 := HX.out.cell (j := 1) (by simp)
  have y2 := HX.out.cell (j := 2) (by simp)
  simp at y0 y1 y2
  have hne : w1.heap.size ≠ w2.heap.size := Nat.ne_of_lt (Nat.lt_of_lt_of_le (by simp) hB.size)
  clear hB
  go_wp2_with fail
  refine (eqmark_same a e u _).mono ?_
  rintro x w3 ⟨rfl, hB⟩
  have HB := Lib.hid (below_via HB.out hB)
  clear hB y0 y1 y2 hne
  cases b
  all_goals
    go_wp2
    go_ret
    exact ⟨rfl, HB.out⟩
end Go.Proofs.YtcmbaclkfnecbaaDoor
