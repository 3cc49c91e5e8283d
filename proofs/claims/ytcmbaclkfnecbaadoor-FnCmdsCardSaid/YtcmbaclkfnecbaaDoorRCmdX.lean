
/- The exact law on ReadCmd, walked: for every text that may be read it returns true and only makes new blocks. -/
import Derived.Test.YtcmbaclkfnecbaaDoorRCmdS1
namespace Go.Proofs.YtcmbaclkfnecbaaDoor
open Go.ChangeShapes Go.WideShapes Go.ChangeAt Go.RowKit
set_option linter.unusedVariables false
set_option maxRecDepth 100000

theorem eqcmd_same (k : Int) (b : ByteArray) (v : Int) (d : ByteArray) (w : World) : Calls Tryd.prog 32 #[.agg #[.int .i64 k, .string b, .int .i64 v, .string d], .agg #[.int .i64 k, .string b, .int .i64 v, .string d]] w (MadeBool true w) := by
  go_enter Tryd.func32, Tryd.ntmps32
  go_wp2
  go_ret
  exact ⟨rfl, below_alloc (below_alloc (Below.refl _ _) _) _⟩

def cdA : Option RCmd → Int × ByteArray × Int × ByteArray
  | some (k, b, v, d) => (k, ba b, v, ba d)
  | none => (0, ⟨#[]⟩, 0, ⟨#[]⟩)
theorem cdV_form (o : Option RCmd) : cdV o = .tuple #[.agg #[.int .i64 (cdA o).1, .string (cdA o).2.1, .int .i64 (cdA o).2.2.1, .string (cdA o).2.2.2], .bool o.isSome] := by
  cases o with
  | none => rfl
  | some x => obtain ⟨k, b, v, d⟩ := x; rfl

set_option maxHeartbeats 4000000 in
theorem fnExactReadCmd_walk (s : ByteArray) (w : World) (hs : s.size ≤ maxLen) (hT : TabsR w) :
    Calls Tryd.prog 7 #[.string s] w fun x w' => x = .returned (.bool true) ∧ Below w.heap.size w w' := by
  unfold maxLen at hs
  by_cases hbig : (1048576 : Int) < (s.size : Int)
  · go_enter Tryd.func7, Tryd.ntmps7
    go_wp2
    go_ret
    exact ⟨rfl, Below.refl _ _⟩
  have HT := Lib.hid hT
  obtain ⟨o, ho⟩ : ∃ o, rcmd s.data.toList = o := ⟨_, rfl⟩
  have HO := Lib.hid ho
  have HF := Lib.hid (cdV_form o)
  obtain ⟨k, hk⟩ : ∃ a, (cdA o).1 = a := ⟨_, rfl⟩
  obtain ⟨y, hy⟩ : ∃ a, (cdA o).2.1 = a := ⟨_, rfl⟩
  obtain ⟨v, hv⟩ : ∃ a, (cdA o).2.2.1 = a := ⟨_, rfl⟩
  obtain ⟨d, hd⟩ : ∃ a, (cdA o).2.2.2 = a := ⟨_, rfl⟩
  obtain ⟨b, hb⟩ : ∃ a, o.isSome = a := ⟨_, rfl⟩
  rw [hk, hy, hv, hd, hb] at HF
  clear hT ho hk hy hv hd hb
  go_enter Tryd.func7, Tryd.ntmps7
  go_wp2_with fail
  refine (sreadcmd_any s _ (by omega)).mono ?_
  rw [HO.out]
  rintro x w1 ⟨hx, hB⟩
  rw [HF.out] at hx
  subst hx
  have HB := Lib.hid (below_alloc hB (.cells #[.int .i64 k, .string y, .int .i64 v, .string d] 38))
  have HX := Lib.hid (Row.new w1 38 #[.int .i64 k, .string y, .int .i64 v, .string d])
  clear hB
  go_wp2_with fail
  refine (readcmd_any s _ (by omega) (HT.out.keep HB.out)).mono ?_
  rw [HO.out]
  rintro x w2 ⟨hx, hB⟩
  rw [HF.out] at hx
  subst hx
  have HX := Lib.hid ((HX.out.keep hB).alloc (.cells #[.int .i64 k, .string y, .int .i64 v, .string d] 38))
  have HB := Lib.hid (below_alloc (below_via HB.out hB) (.cells #[.int .i64 k, .string y, .int .i64 v, .string d] 38))
  have y0 := HX.out.cell (j := 0) (by simp)
  have y1 := HX.out.cell (j := 1) (by simp)
  have y2 := HX.out.cell (j := 2) (by simp)
  have y3 := HX.out.cell (j := 3) (by simp)
  simp at y0 y1 y2 y3
  have hne : w1.heap.size ≠ w2.heap.size := Nat.ne_of_lt (Nat.lt_of_lt_of_le (by simp) hB.size)
  clear hB
  go_wp2_with fail
  refine (eqcmd_same k y v d _).mono ?_
  rintro x w3 ⟨rfl, hB⟩
  have HB := Lib.hid (below_via HB.out hB)
  clear hB y0 y1 y2 y3 hne
  cases b
  all_goals
    go_wp2
    go_ret
    exact ⟨rfl, HB.out⟩
end Go.Proofs.YtcmbaclkfnecbaaDoor
