/- Texts put together, as a claim holds at most sixty files. -/
import Derived.Test.YtbjlojmadellgaaGreatDoorRangeF
import Derived.Test.YtbjlojmadellgaaGreatDoorMg22
import Derived.Test.YtbjlojmadellgaaGreatDoorMg29
import Derived.Test.YtbjlojmadellgaaGreatDoorMg11
namespace Go.Proofs.YtbjlojmadellgaaGreatDoor
open Go.ChangeShapes Go.WideShapes Go.ChangeAt Go.RowKit Go.Shelf
set_option linter.unusedVariables false
set_option maxRecDepth 100000
attribute [local go_sem] Oper.semAt_some

/-- The tasks as the iterator yields them. -/
def encSt (l : Objs) (k : Nat) : Array Value := #[.agg (standC l (k : Int))]

set_option maxHeartbeats 4000000 in
theorem stand_stops (n : Nat) (hn : 1 ≤ n) (Bj Bs N : Nat) (p s : Option Addr) (pl pc sl sc : Nat) (e1 : Bool) (o1 n1 : Int) (li : Instrs) (ms : Strs) (a g : Option Addr) (la ca lg cg : Nat) (l : Objs) (m : Gones) (w0 w : World)
    (hj : JobAt w0 p pl li s sl ms) (hjz : ∀ i, i < sl → (strAt ms i).size ≤ 1048576) (hs : StoAt w0 a la l g lg m) (hsz : ∀ i, i < la → (obj2 l i).size ≤ 1048576) (hT : TabsRP w0) (h0 : Below w0.heap.size w0 w)
    (hBj : Row w Bj 35 #[.slice p pl pc, .bool e1, .int .i64 o1, .int .i64 n1, .slice s sl sc]) (hBs : Row w Bs 40 #[.slice a la ca, .slice g lg cg]) (hN : tasksB li o1 n1 ms sl = (N : Int)) (hN7 : N ≤ 100) :
    SeqStopsK Fence.wide n Tryz.prog 52 #[.pointer (some ⟨Bj, 0, none⟩), .pointer (some ⟨Bs, 0, none⟩)] (encSt l) (KpS w0.heap.size Bs) (fun ys => ys = List.range N) (fun pre => pre <+: List.range N) N w := by
  intro lp J Jx W hW hJ hJx hY hJ0
  have HJ := Lib.hid hj
  have HJZ := Lib.hid hjz
  have HS := Lib.hid hs
  have HSZ := Lib.hid hsz
  have HT := Lib.hid hT
  have HN := Lib.hid hN
  have HB := Lib.hid (below_via h0 hW)
  have HRJ := Lib.hid (hBj.keep hW)
  have HRS := Lib.hid (hBs.keep hW)
  have HAB := Lib.hid hJ
  have HY := Lib.hid hY
  have HJ0 := Lib.hid hJ0
  clear hj hjz hs hsz hT hN h0 hBj hBs hW hJ hY hJ0
  have j0 := HRJ.out.cell (j := 0) (by simp)
  have j1 := HRJ.out.cell (j := 1) (by simp)
  have j2 := HRJ.out.cell (j := 2) (by simp)
  have j3 := HRJ.out.cell (j := 3) (by simp)
  have j4 := HRJ.out.cell (j := 4) (by simp)
  simp at j0 j1 j2 j3 j4
  refine callsIn_of_wp Tryz.func52 rfl trivial ?_ rfl
  simp only [Tryz.ntmps52, List.size_toArray, List.length_cons, List.length_nil, Nat.reduceAdd, Nat.reduceSub, Array.replicate_succ, Array.replicate_zero, List.push_toArray, List.append_toArray, List.nil_append, List.cons_append]
  gi_wp2_with fail
  refine ⟨trivial, (callsIn_wide.2 (tasks_any p s pl pc sl sc e1 o1 n1 li ms _ (HJ.out.keep HB.out) HJZ.out (HT.out.forms.keep HB.out))).mono ?_⟩
  rw [HN.out]
  rintro e w1 ⟨rfl, hB⟩
  have HI := Lib.hid (show J (List.range 0) w1 ∧ Below w0.heap.size w0 w1 ∧ Row w1 Bs 40 #[.slice a la ca, .slice g lg cg] from ⟨HAB.out _ _ _ none HJ0.out (belowGrow hB none) (fun r e => by cases e), below_via HB.out hB, HRS.out.keep hB⟩)
  clear hB j0 j1 j2 j3 j4 HRJ HRS HJ0 HB HJ HJZ HN
  gi_wp2_with fail
  gi_loopw [7] (fun i wr => ∃ k : Nat, k ≤ N ∧ i = .int .i64 (k : Int) ∧ Hid (J (List.range k) wr ∧ Below w0.heap.size w0 wr ∧ Row wr Bs 40 #[.slice a la ca, .slice g lg cg])) (fun i _ => N - (intOf i).toNat)
  case atStart => exact ⟨0, Nat.zero_le _, rfl, HI⟩
  case round =>
    obtain ⟨k, hk, rfl, HI⟩ := hrel
    by_cases hlt : k < N
    · have hi1 : (k : Int) < (N : Int) := by omega
      have s0 := HI.out.2.2.cell (j := 0) (by simp)
      have s1 := HI.out.2.2.cell (j := 1) (by simp)
      simp at s0 s1
      gi_wp2_with fail
      refine ⟨trivial, (callsIn_wide.2 (standingof_any a g la ca lg cg l m (k : Int) _ (HS.out.keep HI.out.2.1) HSZ.out (HT.out.num.keep HI.out.2.1))).mono ?_⟩
      rintro e w4 ⟨rfl, hB⟩
      have HI4 := Lib.hid (show J (List.range k) w4 ∧ Below w0.heap.size w0 w4 ∧ Row w4 Bs 40 #[.slice a la ca, .slice g lg cg] from ⟨HAB.out _ _ _ none HI.out.1 (belowGrow hB none) (fun r e => by cases e), below_via HI.out.2.1 hB, HI.out.2.2.keep hB⟩)
      obtain ⟨fn, tmps, assign, body, hy, hR⟩ := HY.out (List.range k) k w4 HI4.out.1 (by simp; omega)
      unfold encSt at hy
      clear hB s0 s1
      gi_wp2
      refine hR.mono ?_
      rintro e W3 (⟨rfl, hJ3, hk3⟩ | ⟨rfl, hJx3⟩)
      · have HI5 := Lib.hid (show J (List.range (k + 1)) W3 ∧ Below w0.heap.size w0 W3 ∧ Row W3 Bs 40 #[.slice a la ca, .slice g lg cg] from ⟨by rw [List.range_succ]; exact hJ3, HI4.out.2.1.trans hk3.1, hk3.2 _ _ HI4.out.2.2⟩)
        clear hJ3 hk3 hy hR HI4 HI
        gi_wp2
        have hw1 : wrap64 ((k : Int) + 1) = (k : Int) + 1 := by unfold wrap64; omega
        go_roundw
        case rel => exact ⟨k + 1, by omega, by go_num, HI5⟩
        case measure => simp [intOf]; omega
      · have HX := Lib.hid (show List.range k ++ [k] <+: List.range N from by
          rw [← List.range_succ]
          exact ⟨(List.range N).drop (k + 1), by
            have h1 : List.range (k + 1) = (List.range N).take (k + 1) := by rw [List.take_range]; congr 1; omega
            rw [h1, List.take_append_drop]⟩)
        gi_wp2
        refine bodyPost_ret (results_none rfl _ _ _) rfl ?_
        exact ⟨⟨_, rfl⟩, .inr ⟨List.range k ++ [k], HX.out, hJx3⟩⟩
    · obtain rfl : k = N := by omega
      gi_wp2
      go_end0
      exact ⟨⟨_, rfl⟩, .inl ⟨List.range k, rfl, HI.out.1⟩⟩

/-- standings(j, s): both are boxed; the function value captures the boxes. -/
theorem standings_in (n : Nat) (J S : Array Value) (w : World) (hJ : ∃ a b c d e, J = #[a, b, c, d, e]) (hS : ∃ a b, S = #[a, b]) :
    CallsIn Fence.wide n Tryz.prog 30 #[.agg J, .agg S] w fun e w' => e = .returned (.func (.func 52) #[] #[.pointer (some ⟨w.heap.size, 0, none⟩), .pointer (some ⟨w.heap.size + 1, 0, none⟩)]) ∧ w' = (w.alloc (.cells J 35)).alloc (.cells S 40) := by
  obtain ⟨a, b, c, d, e, rfl⟩ := hJ
  obtain ⟨f, g, rfl⟩ := hS
  refine callsIn_of_wp Tryz.func30 rfl trivial ?_ rfl
  simp only [Tryz.ntmps30, List.size_toArray, List.length_cons, List.length_nil, Nat.reduceAdd, Nat.reduceSub, Array.replicate_succ, Array.replicate_zero, List.push_toArray, List.append_toArray, List.nil_append, List.cons_append]
  gi_wp2
  go_ret
  exact ⟨rfl, rfl⟩

/-- How many of the tasks have a mark. -/
def cntN (l : Objs) (pre : List Nat) : Int := ((pre.filter fun (k : Nat) => (markS l (k : Int)).isSome).length : Nat)
theorem cntN_snoc (l : Objs) (pre : List Nat) (k : Nat) : cntN l (pre ++ [k]) = if (markS l (k : Int)).isSome then cntN l pre + 1 else cntN l pre := by
  unfold cntN
  rw [List.filter_append, List.length_append]
  split
  · rename_i h; simp [h]
  · rename_i h; simp [h]
end Go.Proofs.YtbjlojmadellgaaGreatDoor
namespace Go.Proofs.YtbjlojmadellgaaGreatDoor
open Go.ChangeShapes Go.WideShapes Go.ChangeAt Go.RowKit Go.Shelf
set_option linter.unusedVariables false
set_option maxRecDepth 100000
attribute [local go_sem] Oper.semAt_some

theorem cntN_le (l : Objs) (pre : List Nat) : 0 ≤ cntN l pre ∧ cntN l pre ≤ (pre.length : Int) := by
  unfold cntN
  have := List.length_filter_le (fun (k : Nat) => (markS l (k : Int)).isSome) pre
  omega
set_option maxHeartbeats 8000000 in
theorem doneof_any (p s : Option Addr) (pl pc sl sc : Nat) (e1 : Bool) (o1 n1 : Int) (li : Instrs) (ms : Strs) (a g : Option Addr) (la ca lg cg : Nat) (l : Objs) (m : Gones) (N : Nat) (w : World)
    (hj : JobAt w p pl li s sl ms) (hjz : ∀ i, i < sl → (strAt ms i).size ≤ 1048576) (hs : StoAt w a la l g lg m) (hsz : ∀ i, i < la → (obj2 l i).size ≤ 1048576) (hT : TabsRP w) (hN : tasksB li o1 n1 ms sl = (N : Int)) (hN7 : N ≤ 100) :
    Calls Tryz.prog 10 #[.agg #[.slice p pl pc, .bool e1, .int .i64 o1, .int .i64 n1, .slice s sl sc], .agg #[.slice a la ca, .slice g lg cg]] w (fun e w' => e = .returned (.int .i64 (cntN l (List.range N))) ∧ Below w.heap.size w w') := by
  obtain ⟨J, hJ⟩ : ∃ x : Array Value, #[.slice p pl pc, .bool e1, .int .i64 o1, .int .i64 n1, .slice s sl sc] = x := ⟨_, rfl⟩
  obtain ⟨T, hTT⟩ : ∃ x : Array Value, #[.slice a la ca, .slice g lg cg] = x := ⟨_, rfl⟩
  obtain ⟨W0, hW0⟩ : ∃ x, ((((w.alloc (.cells J 35)).alloc (.cells T 40)).alloc (.cells #[.int .i64 0] 2)).alloc (.cells J 35)).alloc (.cells T 40) = x := ⟨_, rfl⟩
  have hB0 : Below w.heap.size w W0 := by rw [← hW0]; exact below_alloc (below_alloc (below_alloc (below_alloc (below_alloc (Below.refl _ _) _) _) _) _) _
  have hsz0 : W0.heap.size = w.heap.size + 5 := by rw [← hW0]; simp
  have hRc : Row W0 (w.heap.size + 1 + 1) 2 #[.int .i64 0] := by
    rw [← hW0]
    have := ((row_new ((w.alloc (.cells J 35)).alloc (.cells T 40)) #[.int .i64 0] 2).al (.cells J 35)).al (.cells T 40)
    simpa using this
  have hRj : Row W0 (w.heap.size + 1 + 1 + 1) 35 J := by
    rw [← hW0]
    have := (row_new (((w.alloc (.cells J 35)).alloc (.cells T 40)).alloc (.cells #[.int .i64 0] 2)) J 35).al (.cells T 40)
    simpa using this
  have hRs : Row W0 (w.heap.size + 1 + 1 + 1 + 1) 40 T := by
    rw [← hW0]
    have := row_new ((((w.alloc (.cells J 35)).alloc (.cells T 40)).alloc (.cells #[.int .i64 0] 2)).alloc (.cells J 35)) T 40
    simpa using this
  have HW0 := Lib.hid hW0
  subst hJ
  subst hTT
  clear hW0
  refine (callsIn_wide (n := 9)).1 ?_
  refine callsIn_of_wp_marks Tryz.func10 rfl trivial ?_ rfl
  simp only [Tryz.ntmps10, List.size_toArray, List.length_cons, List.length_nil, Nat.reduceAdd, Nat.reduceSub, Array.replicate_succ, Array.replicate_zero, List.push_toArray, List.append_toArray, List.nil_append, List.cons_append]
  gi_wp2_with fail
  refine ⟨trivial, (standings_in _ _ _ _ ⟨_, _, _, _, _, rfl⟩ ⟨_, _, rfl⟩).mono ?_⟩
  rintro e w' ⟨rfl, rfl⟩
  gi_wp2_with fail
  rw [HW0.out]
  have HK := Lib.hid (stand_stops 8 (by omega) (w.heap.size + 1 + 1 + 1) (w.heap.size + 1 + 1 + 1 + 1) N p s pl pc sl sc e1 o1 n1 li ms a g la ca lg cg l m w W0 hj hjz hs hsz hT hB0 hRj hRs hN hN7)
  have HN7 := Lib.hid hN7
  clear hj hjz hs hsz hT hN hN7 hRj hRs HW0
  refine wpIn_rangeFunc_ownH rfl (by omega) (gf := 52) (lb := #[.pointer (some ⟨w.heap.size + 1 + 1 + 1, 0, none⟩), .pointer (some ⟨w.heap.size + 1 + 1 + 1 + 1, 0, none⟩)]) rfl trivial (enters_of Tryz.func52 (by kernel_rfl) rfl)
    HK.out kps_t (kps_b (by omega) (by omega)) (Below.refl _ _) (fun _ => rfl)
    (fun pre W => Row W (w.heap.size + 1 + 1) 2 #[.int .i64 (cntN l pre)] ∧ (Below w.heap.size w W ∧ w.heap.size + 5 ≤ W.heap.size))
    (fun _ _ _ => False)
    (OwnFrom.and (Own.from (row_own _ _ (fun pre => #[.int .i64 (cntN l pre)])) _) (OwnFrom.and (ownFrom_below (Nat.le_refl _) (by omega)) (fun _ _ _ _ hs hg _ => Nat.le_trans hs hg.size)))
    (fun _ _ _ _ _ hs _ _ => hs)
    ⟨hRc, hB0, by omega⟩
    (fun x a' W => ∃ Bx, w.heap.size + 1 + 1 + 1 + 1 < Bx ∧ Row W Bx 71 (standC l (x : Int)) ∧ a' = { tmps := #[.agg #[.slice p pl pc, .bool e1, .int .i64 o1, .int .i64 n1, .slice s sl sc], .agg #[.slice a la ca, .slice g lg cg], .pointer (some ⟨w.heap.size, 0, none⟩), .pointer (some ⟨w.heap.size + 1, 0, none⟩), .int .i64 0, .pointer (some ⟨w.heap.size + 1 + 1, 0, none⟩), .pointer (some ⟨Bx, 0, none⟩), .agg #[.slice p pl pc, .bool e1, .int .i64 o1, .int .i64 n1, .slice s sl sc], .agg #[.slice a la ca, .slice g lg cg], .func (.func 52) #[] #[.pointer (some ⟨w.heap.size + 1 + 1 + 1, 0, none⟩), .pointer (some ⟨w.heap.size + 1 + 1 + 1 + 1, 0, none⟩)], .agg (standC l (x : Int)), undef, undef, undef, undef, undef], defers := [] })
    (fun x a' _ X Y row hs hg hr => by obtain ⟨Bx, h1, h2, h3⟩ := hs; exact ⟨Bx, h1, row_own Bx _ (fun (_ : Unit) => standC l (x : Int)) () X Y row h2 hg (fun r e => (hr r e).2), h3⟩)
    ?assign ?body ?done ?stop
  case assign =>
    rintro lp pre x W K ⟨hc, hB⟩ hK
    unfold encSt
    rw [show standC l (x : Int) = #[.int .i64 (x : Int), .bool (mGet (markS l (x : Int))).1, .int .i64 (mGet (markS l (x : Int))).2.1, .int .i64 (mGet (markS l (x : Int))).2.2, .bool (markS l (x : Int)).isSome, .int .i64 (cGet (claimS l (x : Int))).1, .int .i64 (cGet (claimS l (x : Int))).2.1, .int .i64 (cGet (claimS l (x : Int))).2.2, .bool (claimS l (x : Int)).isSome] from rfl]
    gi_wp2
    exact hK _ _ ((KeepsOthers.alloc _ _).from _) ⟨(Below.refl _ W).alloc hB.1.size _, fun T cur hr => hr.al _⟩ ⟨hc.al _, hB.1.alloc hB.1.size _, by rw [World.size_alloc]; omega⟩ ⟨W.heap.size, by omega, row_new W _ _, rfl⟩
  case body =>
    rintro lp pre x a' W hl ⟨r, hr⟩ ⟨hc, hB⟩ ⟨Bx, hBx, hX, rfl⟩ hlt
    have c0 := hc.cell (j := 0) (by simp)
    have f0 := hc.free 0
    have x4 : W.cell? ⟨Bx, 4, none⟩ = some (.bool (markS l (x : Int)).isSome) := by
      have := hX.cell (j := 4) (by simp [standC])
      simpa [standC] using this
    simp at c0
    obtain ⟨b, hb⟩ : ∃ b, (markS l (x : Int)).isSome = b := ⟨_, rfl⟩
    rw [hb] at x4
    have hcn := cntN_snoc l pre x
    rw [hb] at hcn
    cases b with
    | false =>
      rw [if_neg (by simp)] at hcn
      gi_wp2
      exact ⟨KeepsFrom.refl _ _, ⟨Below.refl _ _, fun _ _ h => h⟩, by rw [hcn]; exact hc, hB⟩
    | true =>
      rw [if_pos rfl] at hcn
      have hcb := cntN_le l pre
      have hw1 : wrap64 (cntN l pre + 1) = cntN l pre + 1 := by have := HN7.out; unfold wrap64; omega
      gi_wp2
      rw [hw1]
      exact ⟨(KeepsOthers.setCell _ _ _).from _, ⟨(Below.refl _ W).setCell (p := ⟨w.heap.size + 1 + 1, 0, none⟩) (by show w.heap.size ≤ w.heap.size + 1 + 1; omega) _, fun T cur hr => hr.put (by omega) 0 _⟩, by rw [hcn]; exact hc.set 0 _, hB.1.setCell (p := ⟨w.heap.size + 1 + 1, 0, none⟩) (by show w.heap.size ≤ w.heap.size + 1 + 1; omega) _, by have := hB.2; simpa [World.setCell] using this⟩
  case done =>
    rintro D ys W hD rfl ⟨hc, hB⟩ hK
    have c0 := hc.cell (j := 0) (by simp)
    simp at c0
    gi_wp2
    refine ⟨by simp, .inl ⟨_, _, rfl, run_takeDeferred hK, ?_⟩⟩
    exact ⟨_, results_tmp rfl _ _ _, rfl, hB.1.trans (belowK_b (w := w) (Nat.le_refl _) W D _ _ (by omega) hK rfl rfl)⟩
  case stop =>
    rintro D c pre W _ _ h _
    exact h.elim
end Go.Proofs.YtbjlojmadellgaaGreatDoor
namespace Go.Proofs.YtbjlojmadellgaaGreatDoor
open Go.ChangeShapes Go.WideShapes Go.ChangeAt Go.RowKit
set_option linter.unusedVariables false
set_option maxRecDepth 100000

theorem cntN_range (l : Objs) (k : Nat) : cntN l (List.range (k + 1)) = if (markS l (k : Int)).isSome then cntN l (List.range k) + 1 else cntN l (List.range k) := by
  rw [List.range_succ, cntN_snoc]

set_option maxHeartbeats 8000000 in
theorem sdoneof_any (p s : Option Addr) (pl pc sl sc : Nat) (e1 : Bool) (o1 n1 : Int) (li : Instrs) (ms : Strs) (a g : Option Addr) (la ca lg cg : Nat) (l : Objs) (m : Gones) (N : Nat) (w : World)
    (hj : JobAt w p pl li s sl ms) (hjz : ∀ i, i < sl → (strAt ms i).size ≤ 1048576) (hs : StoAt w a la l g lg m) (hsz : ∀ i, i < la → (obj2 l i).size ≤ 1048576) (hN : tasksB li o1 n1 ms sl = (N : Int)) (hN7 : N ≤ 100) :
    Calls Tryz.prog 7 #[.agg #[.slice p pl pc, .bool e1, .int .i64 o1, .int .i64 n1, .slice s sl sc], .agg #[.slice a la ca, .slice g lg cg]] w (fun e w' => e = .returned (.int .i64 (cntN l (List.range N))) ∧ Below w.heap.size w w') := by
  obtain ⟨B0, hB0⟩ : ∃ B, w.heap.size = B := ⟨_, rfl⟩
  obtain ⟨W0, hW0⟩ : ∃ x, (w.alloc (.cells #[.slice p pl pc, .bool e1, .int .i64 o1, .int .i64 n1, .slice s sl sc] 35)).alloc (.cells #[.slice a la ca, .slice g lg cg] 40) = x := ⟨_, rfl⟩
  have HB0 := Lib.hid (show Below w.heap.size w W0 from by rw [← hW0]; exact below_alloc (below_alloc (Below.refl _ _) _) _)
  have HX := Lib.hid (show Row W0 B0 35 #[.slice p pl pc, .bool e1, .int .i64 o1, .int .i64 n1, .slice s sl sc] from by rw [← hW0, ← hB0]; exact (row_new w _ _).al _)
  have HY := Lib.hid (show Row W0 (B0 + 1) 40 #[.slice a la ca, .slice g lg cg] from by rw [← hW0, ← hB0]; exact row_new1 w _ _ _)
  have HJ := Lib.hid (hj.keep HB0.out)
  have HS := Lib.hid (hs.keep HB0.out)
  have HJZ := Lib.hid hjz
  have HSZ := Lib.hid hsz
  have HN := Lib.hid hN
  have HW0 := Lib.hid hW0
  clear hj hjz hs hsz hN hW0
  go_enter Tryz.func7, Tryz.ntmps7
  go_wp2_with fail
  rw [HW0.out]
  try rw [hB0]
  clear hB0
  go_loopw [5, 6] (fun n t wr => ∃ k : Nat, k ≤ N ∧ t = .int .i64 (k : Int) ∧ n = .int .i64 (cntN l (List.range k)) ∧ Hid (Below W0.heap.size W0 wr)) (fun _ t _ => N - (intOf t).toNat)
  case atStart => exact ⟨0, Nat.zero_le _, rfl, rfl, Lib.hid (Below.refl _ _)⟩
  case round =>
    obtain ⟨k, hk, rfl, rfl, HB⟩ := hrel
    have HX1 := Lib.hid (HX.out.keep HB.out)
    have x0 := HX1.out.cell (j := 0) (by simp)
    have x1 := HX1.out.cell (j := 1) (by simp)
    have x2 := HX1.out.cell (j := 2) (by simp)
    have x3 := HX1.out.cell (j := 3) (by simp)
    have x4 := HX1.out.cell (j := 4) (by simp)
    simp at x0 x1 x2 x3 x4
    go_wp2_with fail
    refine (stasks_any p s pl pc sl sc e1 o1 n1 li ms _ (HJ.out.keep HB.out) HJZ.out).mono ?_
    rw [HN.out]
    rintro e w1 ⟨rfl, hB⟩
    have HB := Lib.hid (below_via HB.out hB)
    have HY1 := Lib.hid (HY.out.keep HB.out)
    have y0 := HY1.out.cell (j := 0) (by simp)
    have y1 := HY1.out.cell (j := 1) (by simp)
    simp at y0 y1
    clear hB x0 x1 x2 x3 x4 HX1
    by_cases hlt : k < N
    · have hi1 : (k : Int) < (N : Int) := by omega
      obtain ⟨b, hb⟩ : ∃ b, (markS l (k : Int)).isSome = b := ⟨_, rfl⟩
      have HMV := Lib.hid (rm_eq (markS l (k : Int)))
      have HC := Lib.hid (cntN_range l k)
      have HLE := Lib.hid (cntN_le l (List.range k))
      rw [hb] at HMV HC
      obtain ⟨q, hq⟩ : ∃ q, cntN l (List.range k) = q := ⟨_, rfl⟩
      rw [hq] at HC HLE ⊢
      have hq1 := HLE.out.1
      have hq2 : q ≤ 100 := by have := HLE.out.2; rw [List.length_range] at this; omega
      obtain ⟨⟨ma, me, mk⟩, hmg⟩ : ∃ x, mGet (markS l (k : Int)) = x := ⟨_, rfl⟩
      rw [hmg] at HMV
      clear hb hmg hq
      go_wp2_with fail
      refine (smarkin_any a g la ca lg cg l m (k : Int) _ (HS.out.keep HB.out) HSZ.out).mono ?_
      rintro e w2 ⟨he, hB⟩
      rw [HMV.out] at he
      subst he
      have HB := Lib.hid (below_via HB.out hB)
      clear hB y0 y1 HY1
      cases b with
      | false =>
        have HC2 := Lib.hid (show cntN l (List.range (k + 1)) = q by rw [HC.out, if_neg (by simp)])
        go_wp2
        go_roundw
        case rel => exact ⟨k + 1, by omega, by go_num, by rw [HC2.out], Lib.hid (below_alloc HB.out _)⟩
        case measure => simp [intOf]; omega
      | true =>
        have HC2 := Lib.hid (show cntN l (List.range (k + 1)) = q + 1 by rw [HC.out, if_pos rfl])
        go_wp2
        go_roundw
        case rel => exact ⟨k + 1, by omega, by go_num, by rw [HC2.out], Lib.hid (below_alloc HB.out _)⟩
        case measure => simp [intOf]; omega
    · obtain rfl : k = N := by omega
      go_wp2
      go_ret
      exact ⟨rfl, below_via HB0.out HB.out⟩
end Go.Proofs.YtbjlojmadellgaaGreatDoor
