/- Texts put together, as a claim holds at most sixty files. -/
import Derived.Test.YtbjlojmadellgaaGreatDoorMg30
import Derived.Test.YtbjlojmadellgaaGreatDoorMg22
import Derived.Test.YtbjlojmadellgaaGreatDoorStateOwn
import Derived.Maps.AppendAt
import Derived.Deep.Onto
import Derived.Shelf.RegionOpen
import Derived.Test.YtbjlojmadellgaaGreatDoorMg0
import Derived.Test.YtbjlojmadellgaaGreatDoorMg23
namespace Go.Proofs.YtbjlojmadellgaaGreatDoor
open Go.ChangeShapes Go.WideShapes Go.ChangeAt Go.RowKit Go.Shelf
set_option linter.unusedVariables false
set_option maxRecDepth 100000
attribute [local go_sem] Oper.semAt_some

theorem board_snoc (l : Objs) (now : Int) (pre : List Nat) (k : Nat) : boardL l now (pre ++ [k]) = boardL l now pre ++ [stateT l now (k : Int)] := by simp [boardL]
theorem own_put3 {w : World} {base : Nat} {e : TypeId} {size : Nat} {v : Value} {n : Nat} {xs : List Value} (h : w.ownsRow base e size v n xs) {X : Nat} (hX : X < base) (j : Nat) (u : Value) : (w.setCell ⟨X, j, none⟩ u).ownsRow base e size v n xs :=
  h.kept (growS (World.grownBy.refl w (some X)) j u) (by
    by_cases hv : v.ownBlock = some X
    · exact absurd (h.lt X hv).1 (by omega)
    · exact .inr hv)
theorem opIn_append {F : Fence} {n : Nat} {P : Program} (w : World) {o : Oper} {a : Act} {K : Act → World → Prop} {Q : Exit → Act → World → Prop}
    (s x : Operand) (t : TypeId) (hop : o.op = Op.call { callee := Callee.builtin Builtin.append, args := #[s, x], argTypes := #[t, t] })
    (base : Nat) (e : TypeId) (i : TypeInfo) (z : Value) (size bytes : Nat) (h1 : P.underlying t = some (.slice e)) (h2 : P.info? e = some i) (h3 : i.zero = some z) (h4 : i.size = size) (h5 : i.bytes = bytes) (h6 : z.cells.size = size) (h7 : 0 < size)
    (v : Value) (k : Nat) (xs : List Value) (hs : a.eval s = v) (hown : w.ownsRow base e size v k xs) (ad : Addr) (m c : Nat) (news : List Value) (hx : a.eval x = .slice (some ad) m c) (hn : news.length = m * size)
    (hc : ∀ j u, news[j]? = some u → w.cell? (ad.add j) = some u) (h1c : ∀ u ∈ news, u.oneCell' = true) (b1 : k + m ≤ maxLen) (b2 : (k + m) * bytes ≤ 140737488355328) (b3 : base ≤ w.heap.size)
    (hK : ∀ v' w', w'.ownsRow base e size v' (k + m) (xs ++ news) → w.grownBy w' v.ownBlock → K (a.put o.dst v') w') : o.wpIn F n P a w K Q := by
  obtain ⟨v', w', hrun, r1, r2, r3⟩ := run_append_own (P := P) w base t o.type e i z size bytes h1 h2 h3 h4 h5 h6 h7 v k xs hown ad m c news hn hc h1c b1 b2 b3
  unfold Oper.wpIn
  refine ⟨?_, ?_⟩
  · simp [Oper.about, hop, resolve, Target.leads, Sem.run_pure]
  · rw [Oper.semAt_plain F _ _ (by rw [hop]; intro c hc'; cases hc')]
    simp [execOp, hop, resolve, invoke, builtin, hs, hx, hrun, Result.andThen]
    exact hK v' w' r1 r2
/-- The end of BoardOf. -/
def MadeBd (l : Objs) (now : Int) (N : Nat) (w : World) (e : Ending) (w' : World) : Prop :=
  ∃ v, e = .returned v ∧ w'.ownsRow w.heap.size 77 3 v N (cellsState (boardL l now (List.range N))) ∧ Below w.heap.size w w'

set_option maxHeartbeats 8000000 in
theorem boardof_any (p s : Option Addr) (pl pc sl sc : Nat) (e1 : Bool) (o1 n1 : Int) (li : Instrs) (ms : Strs) (a g : Option Addr) (la ca lg cg : Nat) (l : Objs) (m : Gones) (N : Nat) (w : World)
    (hj : JobAt w p pl li s sl ms) (hjz : ∀ i, i < sl → (strAt ms i).size ≤ 1048576) (hs : StoAt w a la l g lg m) (hsz : ∀ i, i < la → (obj2 l i).size ≤ 1048576) (hT : TabsRP w) (hN : tasksB li o1 n1 ms sl = (N : Int)) (hN7 : N ≤ 100) (now : Int) :
    Calls Tryz.prog 14 #[.agg #[.slice p pl pc, .bool e1, .int .i64 o1, .int .i64 n1, .slice s sl sc], .agg #[.slice a la ca, .slice g lg cg], .int .i64 now] w (MadeBd l now N w) := by
  obtain ⟨i0, hi, hz0, hz1, hz2⟩ := info_parts infoState
  obtain ⟨J, hJ⟩ : ∃ x : Array Value, #[.slice p pl pc, .bool e1, .int .i64 o1, .int .i64 n1, .slice s sl sc] = x := ⟨_, rfl⟩
  obtain ⟨T, hTT⟩ : ∃ x : Array Value, #[.slice a la ca, .slice g lg cg] = x := ⟨_, rfl⟩
  obtain ⟨W0, hW0⟩ : ∃ x, (((((w.alloc (.cells J 35)).alloc (.cells T 40)).alloc (.cells #[.int .i64 now] 2)).alloc (.cells #[.slice none 0 0] 45)).alloc (.cells J 35)).alloc (.cells T 40) = x := ⟨_, rfl⟩
  have hB0 : Below w.heap.size w W0 := by rw [← hW0]; exact below_alloc (below_alloc (below_alloc (below_alloc (below_alloc (below_alloc (Below.refl _ _) _) _) _) _) _) _
  have hsz0 : W0.heap.size = w.heap.size + 6 := by rw [← hW0]; simp
  have hRc : Row W0 (w.heap.size + 1 + 1) 2 #[.int .i64 now] := by
    rw [← hW0]
    have := (((row_new ((w.alloc (.cells J 35)).alloc (.cells T 40)) #[.int .i64 now] 2).al (.cells #[.slice none 0 0] 45)).al (.cells J 35)).al (.cells T 40)
    simpa using this
  have hRb : Row W0 (w.heap.size + 1 + 1 + 1) 45 #[.slice none 0 0] := by
    rw [← hW0]
    have := ((row_new (((w.alloc (.cells J 35)).alloc (.cells T 40)).alloc (.cells #[.int .i64 now] 2)) #[.slice none 0 0] 45).al (.cells J 35)).al (.cells T 40)
    simpa using this
  have hRj : Row W0 (w.heap.size + 1 + 1 + 1 + 1) 35 J := by
    rw [← hW0]
    have := (row_new ((((w.alloc (.cells J 35)).alloc (.cells T 40)).alloc (.cells #[.int .i64 now] 2)).alloc (.cells #[.slice none 0 0] 45)) J 35).al (.cells T 40)
    simpa using this
  have hRs : Row W0 (w.heap.size + 1 + 1 + 1 + 1 + 1) 40 T := by
    rw [← hW0]
    have := row_new (((((w.alloc (.cells J 35)).alloc (.cells T 40)).alloc (.cells #[.int .i64 now] 2)).alloc (.cells #[.slice none 0 0] 45)).alloc (.cells J 35)) T 40
    simpa using this
  have HW0 := Lib.hid hW0
  subst hJ
  subst hTT
  clear hW0
  refine (callsIn_wide (n := 9)).1 ?_
  refine callsIn_of_wp_marks Tryz.func14 rfl trivial ?_ rfl
  simp only [Tryz.ntmps14, List.size_toArray, List.length_cons, List.length_nil, Nat.reduceAdd, Nat.reduceSub, Array.replicate_succ, Array.replicate_zero, List.push_toArray, List.append_toArray, List.nil_append, List.cons_append]
  gi_wp2_with fail
  refine ⟨trivial, (standings_in _ _ _ _ ⟨_, _, _, _, _, rfl⟩ ⟨_, _, rfl⟩).mono ?_⟩
  rintro e w' ⟨rfl, rfl⟩
  gi_wp2_with fail
  rw [HW0.out]
  have HK := Lib.hid (stand_stops 8 (by omega) (w.heap.size + 1 + 1 + 1 + 1) (w.heap.size + 1 + 1 + 1 + 1 + 1) N p s pl pc sl sc e1 o1 n1 li ms a g la ca lg cg l m w W0 hj hjz hs hsz hT hB0 hRj hRs hN hN7)
  have HN7 := Lib.hid hN7
  clear hj hjz hs hsz hT hN hN7 hRj hRs HW0
  refine wpIn_rangeFunc_ownH rfl (by omega) (gf := 52) (lb := #[.pointer (some ⟨w.heap.size + 1 + 1 + 1 + 1, 0, none⟩), .pointer (some ⟨w.heap.size + 1 + 1 + 1 + 1 + 1, 0, none⟩)]) rfl trivial (enters_of Tryz.func52 (by kernel_rfl) rfl)
    HK.out kps_t (kps_b (by omega) (by omega)) (Below.refl _ _) (fun _ => rfl)
    (fun pre W => (∃ v, Boxed W (w.heap.size + 1 + 1 + 1) 45 v ∧ W.ownsRow (w.heap.size + 6) 77 3 v pre.length (cellsState (boardL l now pre)) ∧ True) ∧ (Row W (w.heap.size + 1 + 1) 2 #[.int .i64 now] ∧ (Below w.heap.size w W ∧ w.heap.size + 6 ≤ W.heap.size)))
    (fun _ _ _ => False)
    (OwnFrom.and (Own.from (holdsRow_own (w.heap.size + 6) (w.heap.size + 1 + 1 + 1) 45 77 3 (fun (pre : List Nat) => pre.length) (fun (pre : List Nat) => cellsState (boardL l now pre)) (fun _ _ => True)) _) (OwnFrom.and (Own.from (row_own _ _ (fun _ => #[.int .i64 now])) _) (OwnFrom.and (ownFrom_below (Nat.le_refl _) (by omega)) (fun _ _ _ _ hs hg _ => Nat.le_trans hs hg.size))))
    (fun _ _ _ _ _ hs _ _ => hs)
    ⟨⟨_, hRb, World.ownsRow_nil _ _ _ _, trivial⟩, hRc, hB0, by omega⟩
    (fun x a' W => ∃ Bx, w.heap.size + 1 + 1 + 1 + 1 + 1 < Bx ∧ Row W Bx 71 (standC l (x : Int)) ∧ a' = { tmps := #[.agg #[.slice p pl pc, .bool e1, .int .i64 o1, .int .i64 n1, .slice s sl sc], .agg #[.slice a la ca, .slice g lg cg], .int .i64 now, .pointer (some ⟨w.heap.size, 0, none⟩), .pointer (some ⟨w.heap.size + 1, 0, none⟩), .pointer (some ⟨w.heap.size + 1 + 1, 0, none⟩), .slice none 0 0, .pointer (some ⟨w.heap.size + 1 + 1 + 1, 0, none⟩), .pointer (some ⟨Bx, 0, none⟩), .agg #[.slice p pl pc, .bool e1, .int .i64 o1, .int .i64 n1, .slice s sl sc], .agg #[.slice a la ca, .slice g lg cg], .func (.func 52) #[] #[.pointer (some ⟨w.heap.size + 1 + 1 + 1 + 1, 0, none⟩), .pointer (some ⟨w.heap.size + 1 + 1 + 1 + 1 + 1, 0, none⟩)], .agg (standC l (x : Int)), undef, undef, undef, undef, undef, undef, undef], defers := [] })
    (fun x a' _ X Y row hs hg hr => by obtain ⟨Bx, h1, h2, h3⟩ := hs; exact ⟨Bx, h1, row_own Bx _ (fun (_ : Unit) => standC l (x : Int)) () X Y row h2 hg (fun r e => (hr r e).2), h3⟩)
    ?assign ?body ?done ?stop
  case assign =>
    rintro lp pre x W K ⟨⟨v, hv, hrow, _⟩, hc, hB⟩ hK
    unfold encSt
    rw [show standC l (x : Int) = #[.int .i64 (x : Int), .bool (mGet (markS l (x : Int))).1, .int .i64 (mGet (markS l (x : Int))).2.1, .int .i64 (mGet (markS l (x : Int))).2.2, .bool (markS l (x : Int)).isSome, .int .i64 (cGet (claimS l (x : Int))).1, .int .i64 (cGet (claimS l (x : Int))).2.1, .int .i64 (cGet (claimS l (x : Int))).2.2, .bool (claimS l (x : Int)).isSome] from rfl]
    gi_wp2
    exact hK _ _ ((KeepsOthers.alloc _ _).from _) ⟨(Below.refl _ W).alloc hB.1.size _, fun T cur hr => hr.al _⟩ ⟨⟨v, hv.alloc _, hrow.alloc _, trivial⟩, hc.al _, hB.1.alloc hB.1.size _, by rw [World.size_alloc]; omega⟩ ⟨W.heap.size, by omega, row_new W _ _, rfl⟩
  case body =>
    rintro lp pre x a' W hl ⟨r, hr⟩ ⟨⟨v, hv, hrow, _⟩, hc, hB⟩ ⟨Bx, hBx, hX, rfl⟩ hlt
    have c0 := hc.cell (j := 0) (by simp)
    simp at c0
    have b0 := hv.cell
    have bf := hv.frozen
    have hst := fun wx => state_any (x : Int) now l wx
    obtain ⟨⟨ma, me, mk⟩, hmg⟩ : ∃ y, mGet (markS l (x : Int)) = y := ⟨_, rfl⟩
    obtain ⟨⟨c1, c2, c3⟩, hcg⟩ : ∃ y, cGet (claimS l (x : Int)) = y := ⟨_, rfl⟩
    obtain ⟨mx, hmx⟩ : ∃ y, (markS l (x : Int)).isSome = y := ⟨_, rfl⟩
    obtain ⟨cx, hcx⟩ : ∃ y, (claimS l (x : Int)).isSome = y := ⟨_, rfl⟩
    have hSS : standC l (x : Int) = #[.int .i64 (x : Int), .bool ma, .int .i64 me, .int .i64 mk, .bool mx, .int .i64 c1, .int .i64 c2, .int .i64 c3, .bool cx] := by unfold standC; rw [hmg, hcg, hmx, hcx]
    rw [hSS] at hX hst ⊢
    have hsn := board_snoc l now pre x
    obtain ⟨⟨d1, d2, d3⟩, hdd⟩ : ∃ y, stateT l now (x : Int) = y := ⟨_, rfl⟩
    rw [hdd] at hst hsn
    unfold stV at hst
    clear hmg hcg hmx hcx hSS hdd
    have x0 := hX.cell (j := 0) (by simp)
    have x1 := hX.cell (j := 1) (by simp)
    have x2 := hX.cell (j := 2) (by simp)
    have x3 := hX.cell (j := 3) (by simp)
    have x4 := hX.cell (j := 4) (by simp)
    have x5 := hX.cell (j := 5) (by simp)
    have x6 := hX.cell (j := 6) (by simp)
    have x7 := hX.cell (j := 7) (by simp)
    have x8 := hX.cell (j := 8) (by simp)
    simp at x0 x1 x2 x3 x4 x5 x6 x7 x8
    gi_wp2_with fail
    have hmix : Tryz.prog.follows .mixedOrders = true := by kernel_rfl
    have hd0 : Below W.heap.size W W.drew := below_drewN (Below.refl _ _) 1
    have hvd : Row W.drew (w.heap.size + 1 + 1 + 1) 45 #[v] := (show Row W (w.heap.size + 1 + 1 + 1) 45 #[v] from hv).keep hd0
    have hcd := hc.keep hd0
    have hrd := own_below hrow hd0
    have hzd : w.heap.size + 6 ≤ W.drew.heap.size := hB.2
    have hBd : Below w.heap.size w W.drew := below_via hB.1 hd0
    have hpl : pre.length ≤ 100 := by have := HN7.out; omega
    refine wpIn_region_any hmix ?_
    change wpAnyIn _ _ _ _ _ _ _ _ _ (World.drew _)
    refine wpAnyIn_ready (rs := [0, 1, 2]) (by kernel_rfl) (by simp) ?_
    refine AllReadyIn.cons rfl (fun K hK => ?_) ?_
    · go_simp
      refine hK _ _ ?_
      clear hK K
      refine wpAnyIn_ready (rs := [1, 2]) (by kernel_rfl) (by simp) ?_
      refine AllReadyIn.cons rfl (fun K hK => ?_) ?_
      · go_simp
        refine hK _ _ ?_
        clear hK K
        refine wpAnyIn_ready (rs := [2]) (by kernel_rfl) (by simp) ?_
        refine AllReadyIn.cons rfl (fun K hK => ?_) ?_
        · go_simp
          refine hK _ _ ?_
          clear hK K
          refine wpAnyIn_ready (rs := [3]) (by kernel_rfl) (by simp) ?_
          refine AllReadyIn.cons rfl (fun K hK => ?_) ?_
          · go_simp
            refine ⟨trivial, ?_⟩
            refine (CallsIn.inRound lp (callsIn_wide.2 (hst _))).mono ?_
            rintro e w1 ⟨rfl, hB1⟩
            have hv1 : Boxed w1 (w.heap.size + 1 + 1 + 1) 45 v := (show Row _ _ _ _ from hvd).keep hB1
            have hc1 := hcd.keep hB1
            have hr1 := own_below hrd hB1
            have hzw : w.heap.size + 6 ≤ w1.heap.size := Nat.le_trans hzd hB1.size
            have hg1 := belowGrow hB1 none
            have hbw : Below w.heap.size w w1 := below_via hBd hB1
            have hkp : ∀ T cur, Row W (w.heap.size + 1 + 1 + 1 + 1 + 1) T cur → Row w1 (w.heap.size + 1 + 1 + 1 + 1 + 1) T cur := fun T cur h => (h.keep hd0).keep hB1
            have hbW : Below w.heap.size W w1 := (below_drewN (Below.refl w.heap.size W) 1).grown hg1 (Nat.le_trans (show w.heap.size ≤ w.heap.size + 6 by omega) hzd) (fun k hk => by cases hk)
            have b1 := hv1.cell
            have b2 := (hv1.alloc (.cells #[.int .i64 d1, .int .i64 d2, .int .i64 d3] 77)).cell
            clear hB1
            refine hK _ _ ?_
            clear hK K
            refine wpAnyIn_ready (rs := [4]) (by kernel_rfl) (by simp) ?_
            refine AllReadyIn.cons rfl (fun K hK => ?_) ?_
            · go_simp
              refine hK _ _ ?_
              clear hK K
              refine wpAnyIn_ready (rs := [5]) (by kernel_rfl) (by simp) ?_
              refine BigFrame.allReadyIn_want rfl rfl (fun K hK => ?_) ?_
              · refine opIn_append _ (.tmp 13) (.tmp 17) 45 rfl (w.heap.size + 6) 77 i0 _ 3 24 Tryz.underlying45 hi hz0 hz1 hz2 rfl (by decide) v pre.length _ rfl (hr1.alloc _) ⟨w1.heap.size, 0, none⟩ 1 1 [.int .i64 d1, .int .i64 d2, .int .i64 d3] rfl rfl (bst_new _ _ _ _ _) (by intro u hu; simp at hu; rcases hu with rfl | rfl | rfl <;> rfl) (by unfold maxLen; omega) (by omega) (by simp; omega) ?_
                intro v' w2 hown' hgrow
                obtain ⟨g', cap', rfl⟩ := ownsRow_succ hown'
                obtain ⟨hv2, hv3, hr3, hk3, hb3⟩ := hv1.appended (by decide) (World.ownsRow.mono hr1 (show w.heap.size ≤ w.heap.size + 6 by omega)) hbw.size (show w.heap.size ≤ w.heap.size + 1 + 1 + 1 by omega) (World.ownsRow.mono hown' (show w.heap.size ≤ w.heap.size + 6 by omega)) hgrow
                have hc2 := hv2.cell
                have hf2 := hv2.frozen
                refine hK _ _ ?_
                clear hK K
                refine wpAnyIn_ready (rs := [6]) (by kernel_rfl) (by simp) ?_
                refine AllReadyIn.cons rfl (fun K hK => ?_) ?_
                · go_simp
                  refine hK _ _ ?_
                  clear hK K
                  refine wpAnyIn_done (by kernel_rfl) ?_ _
                  gi_wp2
                  have hne : ∀ X, X < w.heap.size + 6 → ¬ v.ownBlock = some X := fun X hX e => by have := (hr1.lt X e).1; omega
                  refine ⟨((KeepsOthers.drew W).trans ((KeepsOthers.of_grownBy hg1 (fun j o h => by cases h)).trans hk3)).from _, ⟨hbW.trans hb3, fun T cur hr => (((hkp T cur hr).al _).grown hgrow (hne _ (by omega))).put (by omega) 0 _⟩, ⟨_, hv3, ?_, trivial⟩, ((hc1.al _).grown hgrow (hne _ (by omega))).put (by omega) 0 _, hbw.trans hb3, Nat.le_trans hzw hb3.size⟩
                  rw [List.length_append, hsn, cellsState_snoc]
                  exact own_put3 hown' (show w.heap.size + 1 + 1 + 1 < w.heap.size + 6 by omega) 0 _
                refine AllReadyIn.nil
              refine AllReadyIn.nil
            refine AllReadyIn.nil
          refine AllReadyIn.nil
        refine AllReadyIn.nil
      refine AllReadyIn.cons rfl (fun K hK => ?_) ?_
      · go_simp
        refine hK _ _ ?_
        clear hK K
        refine wpAnyIn_ready (rs := [1]) (by kernel_rfl) (by simp) ?_
        refine AllReadyIn.cons rfl (fun K hK => ?_) ?_
        · go_simp
          refine hK _ _ ?_
          clear hK K
          refine wpAnyIn_ready (rs := [3]) (by kernel_rfl) (by simp) ?_
          refine AllReadyIn.cons rfl (fun K hK => ?_) ?_
          · go_simp
            refine ⟨trivial, ?_⟩
            refine (CallsIn.inRound lp (callsIn_wide.2 (hst _))).mono ?_
            rintro e w1 ⟨rfl, hB1⟩
            have hv1 : Boxed w1 (w.heap.size + 1 + 1 + 1) 45 v := (show Row _ _ _ _ from hvd).keep hB1
            have hc1 := hcd.keep hB1
            have hr1 := own_below hrd hB1
            have hzw : w.heap.size + 6 ≤ w1.heap.size := Nat.le_trans hzd hB1.size
            have hg1 := belowGrow hB1 none
            have hbw : Below w.heap.size w w1 := below_via hBd hB1
            have hkp : ∀ T cur, Row W (w.heap.size + 1 + 1 + 1 + 1 + 1) T cur → Row w1 (w.heap.size + 1 + 1 + 1 + 1 + 1) T cur := fun T cur h => (h.keep hd0).keep hB1
            have hbW : Below w.heap.size W w1 := (below_drewN (Below.refl w.heap.size W) 1).grown hg1 (Nat.le_trans (show w.heap.size ≤ w.heap.size + 6 by omega) hzd) (fun k hk => by cases hk)
            have b1 := hv1.cell
            have b2 := (hv1.alloc (.cells #[.int .i64 d1, .int .i64 d2, .int .i64 d3] 77)).cell
            clear hB1
            refine hK _ _ ?_
            clear hK K
            refine wpAnyIn_ready (rs := [4]) (by kernel_rfl) (by simp) ?_
            refine AllReadyIn.cons rfl (fun K hK => ?_) ?_
            · go_simp
              refine hK _ _ ?_
              clear hK K
              refine wpAnyIn_ready (rs := [5]) (by kernel_rfl) (by simp) ?_
              refine BigFrame.allReadyIn_want rfl rfl (fun K hK => ?_) ?_
              · refine opIn_append _ (.tmp 13) (.tmp 17) 45 rfl (w.heap.size + 6) 77 i0 _ 3 24 Tryz.underlying45 hi hz0 hz1 hz2 rfl (by decide) v pre.length _ rfl (hr1.alloc _) ⟨w1.heap.size, 0, none⟩ 1 1 [.int .i64 d1, .int .i64 d2, .int .i64 d3] rfl rfl (bst_new _ _ _ _ _) (by intro u hu; simp at hu; rcases hu with rfl | rfl | rfl <;> rfl) (by unfold maxLen; omega) (by omega) (by simp; omega) ?_
                intro v' w2 hown' hgrow
                obtain ⟨g', cap', rfl⟩ := ownsRow_succ hown'
                obtain ⟨hv2, hv3, hr3, hk3, hb3⟩ := hv1.appended (by decide) (World.ownsRow.mono hr1 (show w.heap.size ≤ w.heap.size + 6 by omega)) hbw.size (show w.heap.size ≤ w.heap.size + 1 + 1 + 1 by omega) (World.ownsRow.mono hown' (show w.heap.size ≤ w.heap.size + 6 by omega)) hgrow
                have hc2 := hv2.cell
                have hf2 := hv2.frozen
                refine hK _ _ ?_
                clear hK K
                refine wpAnyIn_ready (rs := [6]) (by kernel_rfl) (by simp) ?_
                refine AllReadyIn.cons rfl (fun K hK => ?_) ?_
                · go_simp
                  refine hK _ _ ?_
                  clear hK K
                  refine wpAnyIn_done (by kernel_rfl) ?_ _
                  gi_wp2
                  have hne : ∀ X, X < w.heap.size + 6 → ¬ v.ownBlock = some X := fun X hX e => by have := (hr1.lt X e).1; omega
                  refine ⟨((KeepsOthers.drew W).trans ((KeepsOthers.of_grownBy hg1 (fun j o h => by cases h)).trans hk3)).from _, ⟨hbW.trans hb3, fun T cur hr => (((hkp T cur hr).al _).grown hgrow (hne _ (by omega))).put (by omega) 0 _⟩, ⟨_, hv3, ?_, trivial⟩, ((hc1.al _).grown hgrow (hne _ (by omega))).put (by omega) 0 _, hbw.trans hb3, Nat.le_trans hzw hb3.size⟩
                  rw [List.length_append, hsn, cellsState_snoc]
                  exact own_put3 hown' (show w.heap.size + 1 + 1 + 1 < w.heap.size + 6 by omega) 0 _
                refine AllReadyIn.nil
              refine AllReadyIn.nil
            refine AllReadyIn.nil
          refine AllReadyIn.nil
        refine AllReadyIn.nil
      refine AllReadyIn.nil
    refine AllReadyIn.cons rfl (fun K hK => ?_) ?_
    · go_simp
      refine hK _ _ ?_
      clear hK K
      refine wpAnyIn_ready (rs := [0, 2]) (by kernel_rfl) (by simp) ?_
      refine AllReadyIn.cons rfl (fun K hK => ?_) ?_
      · go_simp
        refine hK _ _ ?_
        clear hK K
        refine wpAnyIn_ready (rs := [2]) (by kernel_rfl) (by simp) ?_
        refine AllReadyIn.cons rfl (fun K hK => ?_) ?_
        · go_simp
          refine hK _ _ ?_
          clear hK K
          refine wpAnyIn_ready (rs := [3]) (by kernel_rfl) (by simp) ?_
          refine AllReadyIn.cons rfl (fun K hK => ?_) ?_
          · go_simp
            refine ⟨trivial, ?_⟩
            refine (CallsIn.inRound lp (callsIn_wide.2 (hst _))).mono ?_
            rintro e w1 ⟨rfl, hB1⟩
            have hv1 : Boxed w1 (w.heap.size + 1 + 1 + 1) 45 v := (show Row _ _ _ _ from hvd).keep hB1
            have hc1 := hcd.keep hB1
            have hr1 := own_below hrd hB1
            have hzw : w.heap.size + 6 ≤ w1.heap.size := Nat.le_trans hzd hB1.size
            have hg1 := belowGrow hB1 none
            have hbw : Below w.heap.size w w1 := below_via hBd hB1
            have hkp : ∀ T cur, Row W (w.heap.size + 1 + 1 + 1 + 1 + 1) T cur → Row w1 (w.heap.size + 1 + 1 + 1 + 1 + 1) T cur := fun T cur h => (h.keep hd0).keep hB1
            have hbW : Below w.heap.size W w1 := (below_drewN (Below.refl w.heap.size W) 1).grown hg1 (Nat.le_trans (show w.heap.size ≤ w.heap.size + 6 by omega) hzd) (fun k hk => by cases hk)
            have b1 := hv1.cell
            have b2 := (hv1.alloc (.cells #[.int .i64 d1, .int .i64 d2, .int .i64 d3] 77)).cell
            clear hB1
            refine hK _ _ ?_
            clear hK K
            refine wpAnyIn_ready (rs := [4]) (by kernel_rfl) (by simp) ?_
            refine AllReadyIn.cons rfl (fun K hK => ?_) ?_
            · go_simp
              refine hK _ _ ?_
              clear hK K
              refine wpAnyIn_ready (rs := [5]) (by kernel_rfl) (by simp) ?_
              refine BigFrame.allReadyIn_want rfl rfl (fun K hK => ?_) ?_
              · refine opIn_append _ (.tmp 13) (.tmp 17) 45 rfl (w.heap.size + 6) 77 i0 _ 3 24 Tryz.underlying45 hi hz0 hz1 hz2 rfl (by decide) v pre.length _ rfl (hr1.alloc _) ⟨w1.heap.size, 0, none⟩ 1 1 [.int .i64 d1, .int .i64 d2, .int .i64 d3] rfl rfl (bst_new _ _ _ _ _) (by intro u hu; simp at hu; rcases hu with rfl | rfl | rfl <;> rfl) (by unfold maxLen; omega) (by omega) (by simp; omega) ?_
                intro v' w2 hown' hgrow
                obtain ⟨g', cap', rfl⟩ := ownsRow_succ hown'
                obtain ⟨hv2, hv3, hr3, hk3, hb3⟩ := hv1.appended (by decide) (World.ownsRow.mono hr1 (show w.heap.size ≤ w.heap.size + 6 by omega)) hbw.size (show w.heap.size ≤ w.heap.size + 1 + 1 + 1 by omega) (World.ownsRow.mono hown' (show w.heap.size ≤ w.heap.size + 6 by omega)) hgrow
                have hc2 := hv2.cell
                have hf2 := hv2.frozen
                refine hK _ _ ?_
                clear hK K
                refine wpAnyIn_ready (rs := [6]) (by kernel_rfl) (by simp) ?_
                refine AllReadyIn.cons rfl (fun K hK => ?_) ?_
                · go_simp
                  refine hK _ _ ?_
                  clear hK K
                  refine wpAnyIn_done (by kernel_rfl) ?_ _
                  gi_wp2
                  have hne : ∀ X, X < w.heap.size + 6 → ¬ v.ownBlock = some X := fun X hX e => by have := (hr1.lt X e).1; omega
                  refine ⟨((KeepsOthers.drew W).trans ((KeepsOthers.of_grownBy hg1 (fun j o h => by cases h)).trans hk3)).from _, ⟨hbW.trans hb3, fun T cur hr => (((hkp T cur hr).al _).grown hgrow (hne _ (by omega))).put (by omega) 0 _⟩, ⟨_, hv3, ?_, trivial⟩, ((hc1.al _).grown hgrow (hne _ (by omega))).put (by omega) 0 _, hbw.trans hb3, Nat.le_trans hzw hb3.size⟩
                  rw [List.length_append, hsn, cellsState_snoc]
                  exact own_put3 hown' (show w.heap.size + 1 + 1 + 1 < w.heap.size + 6 by omega) 0 _
                refine AllReadyIn.nil
              refine AllReadyIn.nil
            refine AllReadyIn.nil
          refine AllReadyIn.nil
        refine AllReadyIn.nil
      refine AllReadyIn.cons rfl (fun K hK => ?_) ?_
      · go_simp
        refine hK _ _ ?_
        clear hK K
        refine wpAnyIn_ready (rs := [0, 3]) (by kernel_rfl) (by simp) ?_
        refine AllReadyIn.cons rfl (fun K hK => ?_) ?_
        · go_simp
          refine hK _ _ ?_
          clear hK K
          refine wpAnyIn_ready (rs := [3]) (by kernel_rfl) (by simp) ?_
          refine AllReadyIn.cons rfl (fun K hK => ?_) ?_
          · go_simp
            refine ⟨trivial, ?_⟩
            refine (CallsIn.inRound lp (callsIn_wide.2 (hst _))).mono ?_
            rintro e w1 ⟨rfl, hB1⟩
            have hv1 : Boxed w1 (w.heap.size + 1 + 1 + 1) 45 v := (show Row _ _ _ _ from hvd).keep hB1
            have hc1 := hcd.keep hB1
            have hr1 := own_below hrd hB1
            have hzw : w.heap.size + 6 ≤ w1.heap.size := Nat.le_trans hzd hB1.size
            have hg1 := belowGrow hB1 none
            have hbw : Below w.heap.size w w1 := below_via hBd hB1
            have hkp : ∀ T cur, Row W (w.heap.size + 1 + 1 + 1 + 1 + 1) T cur → Row w1 (w.heap.size + 1 + 1 + 1 + 1 + 1) T cur := fun T cur h => (h.keep hd0).keep hB1
            have hbW : Below w.heap.size W w1 := (below_drewN (Below.refl w.heap.size W) 1).grown hg1 (Nat.le_trans (show w.heap.size ≤ w.heap.size + 6 by omega) hzd) (fun k hk => by cases hk)
            have b1 := hv1.cell
            have b2 := (hv1.alloc (.cells #[.int .i64 d1, .int .i64 d2, .int .i64 d3] 77)).cell
            clear hB1
            refine hK _ _ ?_
            clear hK K
            refine wpAnyIn_ready (rs := [4]) (by kernel_rfl) (by simp) ?_
            refine AllReadyIn.cons rfl (fun K hK => ?_) ?_
            · go_simp
              refine hK _ _ ?_
              clear hK K
              refine wpAnyIn_ready (rs := [5]) (by kernel_rfl) (by simp) ?_
              refine BigFrame.allReadyIn_want rfl rfl (fun K hK => ?_) ?_
              · refine opIn_append _ (.tmp 13) (.tmp 17) 45 rfl (w.heap.size + 6) 77 i0 _ 3 24 Tryz.underlying45 hi hz0 hz1 hz2 rfl (by decide) v pre.length _ rfl (hr1.alloc _) ⟨w1.heap.size, 0, none⟩ 1 1 [.int .i64 d1, .int .i64 d2, .int .i64 d3] rfl rfl (bst_new _ _ _ _ _) (by intro u hu; simp at hu; rcases hu with rfl | rfl | rfl <;> rfl) (by unfold maxLen; omega) (by omega) (by simp; omega) ?_
                intro v' w2 hown' hgrow
                obtain ⟨g', cap', rfl⟩ := ownsRow_succ hown'
                obtain ⟨hv2, hv3, hr3, hk3, hb3⟩ := hv1.appended (by decide) (World.ownsRow.mono hr1 (show w.heap.size ≤ w.heap.size + 6 by omega)) hbw.size (show w.heap.size ≤ w.heap.size + 1 + 1 + 1 by omega) (World.ownsRow.mono hown' (show w.heap.size ≤ w.heap.size + 6 by omega)) hgrow
                have hc2 := hv2.cell
                have hf2 := hv2.frozen
                refine hK _ _ ?_
                clear hK K
                refine wpAnyIn_ready (rs := [6]) (by kernel_rfl) (by simp) ?_
                refine AllReadyIn.cons rfl (fun K hK => ?_) ?_
                · go_simp
                  refine hK _ _ ?_
                  clear hK K
                  refine wpAnyIn_done (by kernel_rfl) ?_ _
                  gi_wp2
                  have hne : ∀ X, X < w.heap.size + 6 → ¬ v.ownBlock = some X := fun X hX e => by have := (hr1.lt X e).1; omega
                  refine ⟨((KeepsOthers.drew W).trans ((KeepsOthers.of_grownBy hg1 (fun j o h => by cases h)).trans hk3)).from _, ⟨hbW.trans hb3, fun T cur hr => (((hkp T cur hr).al _).grown hgrow (hne _ (by omega))).put (by omega) 0 _⟩, ⟨_, hv3, ?_, trivial⟩, ((hc1.al _).grown hgrow (hne _ (by omega))).put (by omega) 0 _, hbw.trans hb3, Nat.le_trans hzw hb3.size⟩
                  rw [List.length_append, hsn, cellsState_snoc]
                  exact own_put3 hown' (show w.heap.size + 1 + 1 + 1 < w.heap.size + 6 by omega) 0 _
                refine AllReadyIn.nil
              refine AllReadyIn.nil
            refine AllReadyIn.nil
          refine AllReadyIn.nil
        refine AllReadyIn.cons rfl (fun K hK => ?_) ?_
        · go_simp
          refine ⟨trivial, ?_⟩
          refine (CallsIn.inRound lp (callsIn_wide.2 (hst _))).mono ?_
          rintro e w1 ⟨rfl, hB1⟩
          have hv1 : Boxed w1 (w.heap.size + 1 + 1 + 1) 45 v := (show Row _ _ _ _ from hvd).keep hB1
          have hc1 := hcd.keep hB1
          have hr1 := own_below hrd hB1
          have hzw : w.heap.size + 6 ≤ w1.heap.size := Nat.le_trans hzd hB1.size
          have hg1 := belowGrow hB1 none
          have hbw : Below w.heap.size w w1 := below_via hBd hB1
          have hkp : ∀ T cur, Row W (w.heap.size + 1 + 1 + 1 + 1 + 1) T cur → Row w1 (w.heap.size + 1 + 1 + 1 + 1 + 1) T cur := fun T cur h => (h.keep hd0).keep hB1
          have hbW : Below w.heap.size W w1 := (below_drewN (Below.refl w.heap.size W) 1).grown hg1 (Nat.le_trans (show w.heap.size ≤ w.heap.size + 6 by omega) hzd) (fun k hk => by cases hk)
          have b1 := hv1.cell
          have b2 := (hv1.alloc (.cells #[.int .i64 d1, .int .i64 d2, .int .i64 d3] 77)).cell
          clear hB1
          refine hK _ _ ?_
          clear hK K
          refine wpAnyIn_ready (rs := [0, 4]) (by kernel_rfl) (by simp) ?_
          refine AllReadyIn.cons rfl (fun K hK => ?_) ?_
          · go_simp
            refine hK _ _ ?_
            clear hK K
            refine wpAnyIn_ready (rs := [4]) (by kernel_rfl) (by simp) ?_
            refine AllReadyIn.cons rfl (fun K hK => ?_) ?_
            · go_simp
              refine hK _ _ ?_
              clear hK K
              refine wpAnyIn_ready (rs := [5]) (by kernel_rfl) (by simp) ?_
              refine BigFrame.allReadyIn_want rfl rfl (fun K hK => ?_) ?_
              · refine opIn_append _ (.tmp 13) (.tmp 17) 45 rfl (w.heap.size + 6) 77 i0 _ 3 24 Tryz.underlying45 hi hz0 hz1 hz2 rfl (by decide) v pre.length _ rfl (hr1.alloc _) ⟨w1.heap.size, 0, none⟩ 1 1 [.int .i64 d1, .int .i64 d2, .int .i64 d3] rfl rfl (bst_new _ _ _ _ _) (by intro u hu; simp at hu; rcases hu with rfl | rfl | rfl <;> rfl) (by unfold maxLen; omega) (by omega) (by simp; omega) ?_
                intro v' w2 hown' hgrow
                obtain ⟨g', cap', rfl⟩ := ownsRow_succ hown'
                obtain ⟨hv2, hv3, hr3, hk3, hb3⟩ := hv1.appended (by decide) (World.ownsRow.mono hr1 (show w.heap.size ≤ w.heap.size + 6 by omega)) hbw.size (show w.heap.size ≤ w.heap.size + 1 + 1 + 1 by omega) (World.ownsRow.mono hown' (show w.heap.size ≤ w.heap.size + 6 by omega)) hgrow
                have hc2 := hv2.cell
                have hf2 := hv2.frozen
                refine hK _ _ ?_
                clear hK K
                refine wpAnyIn_ready (rs := [6]) (by kernel_rfl) (by simp) ?_
                refine AllReadyIn.cons rfl (fun K hK => ?_) ?_
                · go_simp
                  refine hK _ _ ?_
                  clear hK K
                  refine wpAnyIn_done (by kernel_rfl) ?_ _
                  gi_wp2
                  have hne : ∀ X, X < w.heap.size + 6 → ¬ v.ownBlock = some X := fun X hX e => by have := (hr1.lt X e).1; omega
                  refine ⟨((KeepsOthers.drew W).trans ((KeepsOthers.of_grownBy hg1 (fun j o h => by cases h)).trans hk3)).from _, ⟨hbW.trans hb3, fun T cur hr => (((hkp T cur hr).al _).grown hgrow (hne _ (by omega))).put (by omega) 0 _⟩, ⟨_, hv3, ?_, trivial⟩, ((hc1.al _).grown hgrow (hne _ (by omega))).put (by omega) 0 _, hbw.trans hb3, Nat.le_trans hzw hb3.size⟩
                  rw [List.length_append, hsn, cellsState_snoc]
                  exact own_put3 hown' (show w.heap.size + 1 + 1 + 1 < w.heap.size + 6 by omega) 0 _
                refine AllReadyIn.nil
              refine AllReadyIn.nil
            refine AllReadyIn.nil
          refine AllReadyIn.cons rfl (fun K hK => ?_) ?_
          · go_simp
            refine hK _ _ ?_
            clear hK K
            refine wpAnyIn_ready (rs := [0]) (by kernel_rfl) (by simp) ?_
            refine AllReadyIn.cons rfl (fun K hK => ?_) ?_
            · go_simp
              refine hK _ _ ?_
              clear hK K
              refine wpAnyIn_ready (rs := [5]) (by kernel_rfl) (by simp) ?_
              refine BigFrame.allReadyIn_want rfl rfl (fun K hK => ?_) ?_
              · refine opIn_append _ (.tmp 13) (.tmp 17) 45 rfl (w.heap.size + 6) 77 i0 _ 3 24 Tryz.underlying45 hi hz0 hz1 hz2 rfl (by decide) v pre.length _ rfl (hr1.alloc _) ⟨w1.heap.size, 0, none⟩ 1 1 [.int .i64 d1, .int .i64 d2, .int .i64 d3] rfl rfl (bst_new _ _ _ _ _) (by intro u hu; simp at hu; rcases hu with rfl | rfl | rfl <;> rfl) (by unfold maxLen; omega) (by omega) (by simp; omega) ?_
                intro v' w2 hown' hgrow
                obtain ⟨g', cap', rfl⟩ := ownsRow_succ hown'
                obtain ⟨hv2, hv3, hr3, hk3, hb3⟩ := hv1.appended (by decide) (World.ownsRow.mono hr1 (show w.heap.size ≤ w.heap.size + 6 by omega)) hbw.size (show w.heap.size ≤ w.heap.size + 1 + 1 + 1 by omega) (World.ownsRow.mono hown' (show w.heap.size ≤ w.heap.size + 6 by omega)) hgrow
                have hc2 := hv2.cell
                have hf2 := hv2.frozen
                refine hK _ _ ?_
                clear hK K
                refine wpAnyIn_ready (rs := [6]) (by kernel_rfl) (by simp) ?_
                refine AllReadyIn.cons rfl (fun K hK => ?_) ?_
                · go_simp
                  refine hK _ _ ?_
                  clear hK K
                  refine wpAnyIn_done (by kernel_rfl) ?_ _
                  gi_wp2
                  have hne : ∀ X, X < w.heap.size + 6 → ¬ v.ownBlock = some X := fun X hX e => by have := (hr1.lt X e).1; omega
                  refine ⟨((KeepsOthers.drew W).trans ((KeepsOthers.of_grownBy hg1 (fun j o h => by cases h)).trans hk3)).from _, ⟨hbW.trans hb3, fun T cur hr => (((hkp T cur hr).al _).grown hgrow (hne _ (by omega))).put (by omega) 0 _⟩, ⟨_, hv3, ?_, trivial⟩, ((hc1.al _).grown hgrow (hne _ (by omega))).put (by omega) 0 _, hbw.trans hb3, Nat.le_trans hzw hb3.size⟩
                  rw [List.length_append, hsn, cellsState_snoc]
                  exact own_put3 hown' (show w.heap.size + 1 + 1 + 1 < w.heap.size + 6 by omega) 0 _
                refine AllReadyIn.nil
              refine AllReadyIn.nil
            refine AllReadyIn.nil
          refine AllReadyIn.nil
        refine AllReadyIn.nil
      refine AllReadyIn.nil
    refine AllReadyIn.cons rfl (fun K hK => ?_) ?_
    · go_simp
      refine hK _ _ ?_
      clear hK K
      refine wpAnyIn_ready (rs := [0, 1]) (by kernel_rfl) (by simp) ?_
      refine AllReadyIn.cons rfl (fun K hK => ?_) ?_
      · go_simp
        refine hK _ _ ?_
        clear hK K
        refine wpAnyIn_ready (rs := [1]) (by kernel_rfl) (by simp) ?_
        refine AllReadyIn.cons rfl (fun K hK => ?_) ?_
        · go_simp
          refine hK _ _ ?_
          clear hK K
          refine wpAnyIn_ready (rs := [3]) (by kernel_rfl) (by simp) ?_
          refine AllReadyIn.cons rfl (fun K hK => ?_) ?_
          · go_simp
            refine ⟨trivial, ?_⟩
            refine (CallsIn.inRound lp (callsIn_wide.2 (hst _))).mono ?_
            rintro e w1 ⟨rfl, hB1⟩
            have hv1 : Boxed w1 (w.heap.size + 1 + 1 + 1) 45 v := (show Row _ _ _ _ from hvd).keep hB1
            have hc1 := hcd.keep hB1
            have hr1 := own_below hrd hB1
            have hzw : w.heap.size + 6 ≤ w1.heap.size := Nat.le_trans hzd hB1.size
            have hg1 := belowGrow hB1 none
            have hbw : Below w.heap.size w w1 := below_via hBd hB1
            have hkp : ∀ T cur, Row W (w.heap.size + 1 + 1 + 1 + 1 + 1) T cur → Row w1 (w.heap.size + 1 + 1 + 1 + 1 + 1) T cur := fun T cur h => (h.keep hd0).keep hB1
            have hbW : Below w.heap.size W w1 := (below_drewN (Below.refl w.heap.size W) 1).grown hg1 (Nat.le_trans (show w.heap.size ≤ w.heap.size + 6 by omega) hzd) (fun k hk => by cases hk)
            have b1 := hv1.cell
            have b2 := (hv1.alloc (.cells #[.int .i64 d1, .int .i64 d2, .int .i64 d3] 77)).cell
            clear hB1
            refine hK _ _ ?_
            clear hK K
            refine wpAnyIn_ready (rs := [4]) (by kernel_rfl) (by simp) ?_
            refine AllReadyIn.cons rfl (fun K hK => ?_) ?_
            · go_simp
              refine hK _ _ ?_
              clear hK K
              refine wpAnyIn_ready (rs := [5]) (by kernel_rfl) (by simp) ?_
              refine BigFrame.allReadyIn_want rfl rfl (fun K hK => ?_) ?_
              · refine opIn_append _ (.tmp 13) (.tmp 17) 45 rfl (w.heap.size + 6) 77 i0 _ 3 24 Tryz.underlying45 hi hz0 hz1 hz2 rfl (by decide) v pre.length _ rfl (hr1.alloc _) ⟨w1.heap.size, 0, none⟩ 1 1 [.int .i64 d1, .int .i64 d2, .int .i64 d3] rfl rfl (bst_new _ _ _ _ _) (by intro u hu; simp at hu; rcases hu with rfl | rfl | rfl <;> rfl) (by unfold maxLen; omega) (by omega) (by simp; omega) ?_
                intro v' w2 hown' hgrow
                obtain ⟨g', cap', rfl⟩ := ownsRow_succ hown'
                obtain ⟨hv2, hv3, hr3, hk3, hb3⟩ := hv1.appended (by decide) (World.ownsRow.mono hr1 (show w.heap.size ≤ w.heap.size + 6 by omega)) hbw.size (show w.heap.size ≤ w.heap.size + 1 + 1 + 1 by omega) (World.ownsRow.mono hown' (show w.heap.size ≤ w.heap.size + 6 by omega)) hgrow
                have hc2 := hv2.cell
                have hf2 := hv2.frozen
                refine hK _ _ ?_
                clear hK K
                refine wpAnyIn_ready (rs := [6]) (by kernel_rfl) (by simp) ?_
                refine AllReadyIn.cons rfl (fun K hK => ?_) ?_
                · go_simp
                  refine hK _ _ ?_
                  clear hK K
                  refine wpAnyIn_done (by kernel_rfl) ?_ _
                  gi_wp2
                  have hne : ∀ X, X < w.heap.size + 6 → ¬ v.ownBlock = some X := fun X hX e => by have := (hr1.lt X e).1; omega
                  refine ⟨((KeepsOthers.drew W).trans ((KeepsOthers.of_grownBy hg1 (fun j o h => by cases h)).trans hk3)).from _, ⟨hbW.trans hb3, fun T cur hr => (((hkp T cur hr).al _).grown hgrow (hne _ (by omega))).put (by omega) 0 _⟩, ⟨_, hv3, ?_, trivial⟩, ((hc1.al _).grown hgrow (hne _ (by omega))).put (by omega) 0 _, hbw.trans hb3, Nat.le_trans hzw hb3.size⟩
                  rw [List.length_append, hsn, cellsState_snoc]
                  exact own_put3 hown' (show w.heap.size + 1 + 1 + 1 < w.heap.size + 6 by omega) 0 _
                refine AllReadyIn.nil
              refine AllReadyIn.nil
            refine AllReadyIn.nil
          refine AllReadyIn.nil
        refine AllReadyIn.nil
      refine AllReadyIn.cons rfl (fun K hK => ?_) ?_
      · go_simp
        refine hK _ _ ?_
        clear hK K
        refine wpAnyIn_ready (rs := [0, 3]) (by kernel_rfl) (by simp) ?_
        refine AllReadyIn.cons rfl (fun K hK => ?_) ?_
        · go_simp
          refine hK _ _ ?_
          clear hK K
          refine wpAnyIn_ready (rs := [3]) (by kernel_rfl) (by simp) ?_
          refine AllReadyIn.cons rfl (fun K hK => ?_) ?_
          · go_simp
            refine ⟨trivial, ?_⟩
            refine (CallsIn.inRound lp (callsIn_wide.2 (hst _))).mono ?_
            rintro e w1 ⟨rfl, hB1⟩
            have hv1 : Boxed w1 (w.heap.size + 1 + 1 + 1) 45 v := (show Row _ _ _ _ from hvd).keep hB1
            have hc1 := hcd.keep hB1
            have hr1 := own_below hrd hB1
            have hzw : w.heap.size + 6 ≤ w1.heap.size := Nat.le_trans hzd hB1.size
            have hg1 := belowGrow hB1 none
            have hbw : Below w.heap.size w w1 := below_via hBd hB1
            have hkp : ∀ T cur, Row W (w.heap.size + 1 + 1 + 1 + 1 + 1) T cur → Row w1 (w.heap.size + 1 + 1 + 1 + 1 + 1) T cur := fun T cur h => (h.keep hd0).keep hB1
            have hbW : Below w.heap.size W w1 := (below_drewN (Below.refl w.heap.size W) 1).grown hg1 (Nat.le_trans (show w.heap.size ≤ w.heap.size + 6 by omega) hzd) (fun k hk => by cases hk)
            have b1 := hv1.cell
            have b2 := (hv1.alloc (.cells #[.int .i64 d1, .int .i64 d2, .int .i64 d3] 77)).cell
            clear hB1
            refine hK _ _ ?_
            clear hK K
            refine wpAnyIn_ready (rs := [4]) (by kernel_rfl) (by simp) ?_
            refine AllReadyIn.cons rfl (fun K hK => ?_) ?_
            · go_simp
              refine hK _ _ ?_
              clear hK K
              refine wpAnyIn_ready (rs := [5]) (by kernel_rfl) (by simp) ?_
              refine BigFrame.allReadyIn_want rfl rfl (fun K hK => ?_) ?_
              · refine opIn_append _ (.tmp 13) (.tmp 17) 45 rfl (w.heap.size + 6) 77 i0 _ 3 24 Tryz.underlying45 hi hz0 hz1 hz2 rfl (by decide) v pre.length _ rfl (hr1.alloc _) ⟨w1.heap.size, 0, none⟩ 1 1 [.int .i64 d1, .int .i64 d2, .int .i64 d3] rfl rfl (bst_new _ _ _ _ _) (by intro u hu; simp at hu; rcases hu with rfl | rfl | rfl <;> rfl) (by unfold maxLen; omega) (by omega) (by simp; omega) ?_
                intro v' w2 hown' hgrow
                obtain ⟨g', cap', rfl⟩ := ownsRow_succ hown'
                obtain ⟨hv2, hv3, hr3, hk3, hb3⟩ := hv1.appended (by decide) (World.ownsRow.mono hr1 (show w.heap.size ≤ w.heap.size + 6 by omega)) hbw.size (show w.heap.size ≤ w.heap.size + 1 + 1 + 1 by omega) (World.ownsRow.mono hown' (show w.heap.size ≤ w.heap.size + 6 by omega)) hgrow
                have hc2 := hv2.cell
                have hf2 := hv2.frozen
                refine hK _ _ ?_
                clear hK K
                refine wpAnyIn_ready (rs := [6]) (by kernel_rfl) (by simp) ?_
                refine AllReadyIn.cons rfl (fun K hK => ?_) ?_
                · go_simp
                  refine hK _ _ ?_
                  clear hK K
                  refine wpAnyIn_done (by kernel_rfl) ?_ _
                  gi_wp2
                  have hne : ∀ X, X < w.heap.size + 6 → ¬ v.ownBlock = some X := fun X hX e => by have := (hr1.lt X e).1; omega
                  refine ⟨((KeepsOthers.drew W).trans ((KeepsOthers.of_grownBy hg1 (fun j o h => by cases h)).trans hk3)).from _, ⟨hbW.trans hb3, fun T cur hr => (((hkp T cur hr).al _).grown hgrow (hne _ (by omega))).put (by omega) 0 _⟩, ⟨_, hv3, ?_, trivial⟩, ((hc1.al _).grown hgrow (hne _ (by omega))).put (by omega) 0 _, hbw.trans hb3, Nat.le_trans hzw hb3.size⟩
                  rw [List.length_append, hsn, cellsState_snoc]
                  exact own_put3 hown' (show w.heap.size + 1 + 1 + 1 < w.heap.size + 6 by omega) 0 _
                refine AllReadyIn.nil
              refine AllReadyIn.nil
            refine AllReadyIn.nil
          refine AllReadyIn.nil
        refine AllReadyIn.cons rfl (fun K hK => ?_) ?_
        · go_simp
          refine ⟨trivial, ?_⟩
          refine (CallsIn.inRound lp (callsIn_wide.2 (hst _))).mono ?_
          rintro e w1 ⟨rfl, hB1⟩
          have hv1 : Boxed w1 (w.heap.size + 1 + 1 + 1) 45 v := (show Row _ _ _ _ from hvd).keep hB1
          have hc1 := hcd.keep hB1
          have hr1 := own_below hrd hB1
          have hzw : w.heap.size + 6 ≤ w1.heap.size := Nat.le_trans hzd hB1.size
          have hg1 := belowGrow hB1 none
          have hbw : Below w.heap.size w w1 := below_via hBd hB1
          have hkp : ∀ T cur, Row W (w.heap.size + 1 + 1 + 1 + 1 + 1) T cur → Row w1 (w.heap.size + 1 + 1 + 1 + 1 + 1) T cur := fun T cur h => (h.keep hd0).keep hB1
          have hbW : Below w.heap.size W w1 := (below_drewN (Below.refl w.heap.size W) 1).grown hg1 (Nat.le_trans (show w.heap.size ≤ w.heap.size + 6 by omega) hzd) (fun k hk => by cases hk)
          have b1 := hv1.cell
          have b2 := (hv1.alloc (.cells #[.int .i64 d1, .int .i64 d2, .int .i64 d3] 77)).cell
          clear hB1
          refine hK _ _ ?_
          clear hK K
          refine wpAnyIn_ready (rs := [0, 4]) (by kernel_rfl) (by simp) ?_
          refine AllReadyIn.cons rfl (fun K hK => ?_) ?_
          · go_simp
            refine hK _ _ ?_
            clear hK K
            refine wpAnyIn_ready (rs := [4]) (by kernel_rfl) (by simp) ?_
            refine AllReadyIn.cons rfl (fun K hK => ?_) ?_
            · go_simp
              refine hK _ _ ?_
              clear hK K
              refine wpAnyIn_ready (rs := [5]) (by kernel_rfl) (by simp) ?_
              refine BigFrame.allReadyIn_want rfl rfl (fun K hK => ?_) ?_
              · refine opIn_append _ (.tmp 13) (.tmp 17) 45 rfl (w.heap.size + 6) 77 i0 _ 3 24 Tryz.underlying45 hi hz0 hz1 hz2 rfl (by decide) v pre.length _ rfl (hr1.alloc _) ⟨w1.heap.size, 0, none⟩ 1 1 [.int .i64 d1, .int .i64 d2, .int .i64 d3] rfl rfl (bst_new _ _ _ _ _) (by intro u hu; simp at hu; rcases hu with rfl | rfl | rfl <;> rfl) (by unfold maxLen; omega) (by omega) (by simp; omega) ?_
                intro v' w2 hown' hgrow
                obtain ⟨g', cap', rfl⟩ := ownsRow_succ hown'
                obtain ⟨hv2, hv3, hr3, hk3, hb3⟩ := hv1.appended (by decide) (World.ownsRow.mono hr1 (show w.heap.size ≤ w.heap.size + 6 by omega)) hbw.size (show w.heap.size ≤ w.heap.size + 1 + 1 + 1 by omega) (World.ownsRow.mono hown' (show w.heap.size ≤ w.heap.size + 6 by omega)) hgrow
                have hc2 := hv2.cell
                have hf2 := hv2.frozen
                refine hK _ _ ?_
                clear hK K
                refine wpAnyIn_ready (rs := [6]) (by kernel_rfl) (by simp) ?_
                refine AllReadyIn.cons rfl (fun K hK => ?_) ?_
                · go_simp
                  refine hK _ _ ?_
                  clear hK K
                  refine wpAnyIn_done (by kernel_rfl) ?_ _
                  gi_wp2
                  have hne : ∀ X, X < w.heap.size + 6 → ¬ v.ownBlock = some X := fun X hX e => by have := (hr1.lt X e).1; omega
                  refine ⟨((KeepsOthers.drew W).trans ((KeepsOthers.of_grownBy hg1 (fun j o h => by cases h)).trans hk3)).from _, ⟨hbW.trans hb3, fun T cur hr => (((hkp T cur hr).al _).grown hgrow (hne _ (by omega))).put (by omega) 0 _⟩, ⟨_, hv3, ?_, trivial⟩, ((hc1.al _).grown hgrow (hne _ (by omega))).put (by omega) 0 _, hbw.trans hb3, Nat.le_trans hzw hb3.size⟩
                  rw [List.length_append, hsn, cellsState_snoc]
                  exact own_put3 hown' (show w.heap.size + 1 + 1 + 1 < w.heap.size + 6 by omega) 0 _
                refine AllReadyIn.nil
              refine AllReadyIn.nil
            refine AllReadyIn.nil
          refine AllReadyIn.cons rfl (fun K hK => ?_) ?_
          · go_simp
            refine hK _ _ ?_
            clear hK K
            refine wpAnyIn_ready (rs := [0]) (by kernel_rfl) (by simp) ?_
            refine AllReadyIn.cons rfl (fun K hK => ?_) ?_
            · go_simp
              refine hK _ _ ?_
              clear hK K
              refine wpAnyIn_ready (rs := [5]) (by kernel_rfl) (by simp) ?_
              refine BigFrame.allReadyIn_want rfl rfl (fun K hK => ?_) ?_
              · refine opIn_append _ (.tmp 13) (.tmp 17) 45 rfl (w.heap.size + 6) 77 i0 _ 3 24 Tryz.underlying45 hi hz0 hz1 hz2 rfl (by decide) v pre.length _ rfl (hr1.alloc _) ⟨w1.heap.size, 0, none⟩ 1 1 [.int .i64 d1, .int .i64 d2, .int .i64 d3] rfl rfl (bst_new _ _ _ _ _) (by intro u hu; simp at hu; rcases hu with rfl | rfl | rfl <;> rfl) (by unfold maxLen; omega) (by omega) (by simp; omega) ?_
                intro v' w2 hown' hgrow
                obtain ⟨g', cap', rfl⟩ := ownsRow_succ hown'
                obtain ⟨hv2, hv3, hr3, hk3, hb3⟩ := hv1.appended (by decide) (World.ownsRow.mono hr1 (show w.heap.size ≤ w.heap.size + 6 by omega)) hbw.size (show w.heap.size ≤ w.heap.size + 1 + 1 + 1 by omega) (World.ownsRow.mono hown' (show w.heap.size ≤ w.heap.size + 6 by omega)) hgrow
                have hc2 := hv2.cell
                have hf2 := hv2.frozen
                refine hK _ _ ?_
                clear hK K
                refine wpAnyIn_ready (rs := [6]) (by kernel_rfl) (by simp) ?_
                refine AllReadyIn.cons rfl (fun K hK => ?_) ?_
                · go_simp
                  refine hK _ _ ?_
                  clear hK K
                  refine wpAnyIn_done (by kernel_rfl) ?_ _
                  gi_wp2
                  have hne : ∀ X, X < w.heap.size + 6 → ¬ v.ownBlock = some X := fun X hX e => by have := (hr1.lt X e).1; omega
                  refine ⟨((KeepsOthers.drew W).trans ((KeepsOthers.of_grownBy hg1 (fun j o h => by cases h)).trans hk3)).from _, ⟨hbW.trans hb3, fun T cur hr => (((hkp T cur hr).al _).grown hgrow (hne _ (by omega))).put (by omega) 0 _⟩, ⟨_, hv3, ?_, trivial⟩, ((hc1.al _).grown hgrow (hne _ (by omega))).put (by omega) 0 _, hbw.trans hb3, Nat.le_trans hzw hb3.size⟩
                  rw [List.length_append, hsn, cellsState_snoc]
                  exact own_put3 hown' (show w.heap.size + 1 + 1 + 1 < w.heap.size + 6 by omega) 0 _
                refine AllReadyIn.nil
              refine AllReadyIn.nil
            refine AllReadyIn.nil
          refine AllReadyIn.nil
        refine AllReadyIn.nil
      refine AllReadyIn.nil
    refine AllReadyIn.nil
  case done =>
    rintro D ys W hD rfl ⟨⟨v, hv, hrow, _⟩, hc, hB⟩ hK
    have b0 := hv.cell
    gi_wp2
    refine ⟨by simp, .inl ⟨_, _, rfl, run_takeDeferred hK, ?_⟩⟩
    rw [List.length_range] at hrow
    exact ⟨_, results_tmp rfl _ _ _, v, rfl, World.ownsRow.mono (ownsRow_putObj hrow _ hK rfl) (by omega), hB.1.trans (belowK_b (w := w) (Nat.le_refl _) W D _ _ (by omega) hK rfl rfl)⟩
  case stop =>
    rintro D c pre W _ _ h _
    exact h.elim
end Go.Proofs.YtbjlojmadellgaaGreatDoor
namespace Go.Proofs.YtbjlojmadellgaaGreatDoor
open Go.ChangeShapes Go.WideShapes Go.ChangeAt Go.RowKit
set_option linter.unusedVariables false
set_option maxRecDepth 100000

/-- Row B holds the marks from number k0 on in its first n values. -/
def MarkedObj (cur : Array Value) (k0 n : Nat) : Prop := ∀ j, j < n → cur[j * 3]? = some (.string (mtext (k0 + 3 * j + 0))) ∧ cur[j * 3 + 1]? = some (.int .i64 ((k0 + 3 * j + 1 : Nat) : Int)) ∧ cur[j * 3 + 2]? = some (.string (mtext (k0 + 3 * j + 2)))
theorem MarkedObj.step {cur : Array Value} {k0 k : Nat} (h : MarkedObj cur k0 k) (hk : k * 3 + 2 < cur.size) : MarkedObj (((cur.setIfInBounds (k * 3) (.string (mtext (k0 + 3 * k + 0)))).setIfInBounds (k * 3 + 1) (.int .i64 ((k0 + 3 * k + 1 : Nat) : Int))).setIfInBounds (k * 3 + 2) (.string (mtext (k0 + 3 * k + 2)))) k0 (k + 1) := by
  intro j hj
  rcases Nat.lt_or_ge j k with hlt | hge
  · obtain ⟨e0, e1, e2⟩ := h j hlt
    refine ⟨?_, ?_, ?_⟩
    · rw [Array.getElem?_setIfInBounds_ne (by omega), Array.getElem?_setIfInBounds_ne (by omega), Array.getElem?_setIfInBounds_ne (by omega)]; exact e0
    · rw [Array.getElem?_setIfInBounds_ne (by omega), Array.getElem?_setIfInBounds_ne (by omega), Array.getElem?_setIfInBounds_ne (by omega)]; exact e1
    · rw [Array.getElem?_setIfInBounds_ne (by omega), Array.getElem?_setIfInBounds_ne (by omega), Array.getElem?_setIfInBounds_ne (by omega)]; exact e2
  · obtain rfl : j = k := by omega
    refine ⟨?_, ?_, ?_⟩
    · rw [Array.getElem?_setIfInBounds_ne (by omega), Array.getElem?_setIfInBounds_ne (by omega)]; rw [Array.getElem?_setIfInBounds_self_of_lt (by first | omega | (simp only [Array.size_setIfInBounds]; omega))]
    · rw [Array.getElem?_setIfInBounds_ne (by omega)]; rw [Array.getElem?_setIfInBounds_self_of_lt (by first | omega | (simp only [Array.size_setIfInBounds]; omega))]
    · rw [Array.getElem?_setIfInBounds_self_of_lt (by first | omega | (simp only [Array.size_setIfInBounds]; omega))]
def MadeMarksObj (B : Nat) (E : TypeId) (k0 len n : Nat) (w : World) (e : Ending) (w' : World) : Prop :=
  e = .returned (.int .i64 ((k0 + 3 * len : Nat) : Int)) ∧ w.grownBy w' (some B) ∧ ∃ cur, Row w' B E cur ∧ cur.size = n ∧ MarkedObj cur k0 len

set_option maxHeartbeats 2000000 in
theorem markobjs_any (B len cap k0 n : Nat) (E : TypeId) (cur0 : Array Value) (w : World) (h : Row w B E cur0) (hn : cur0.size = n) (hl : len * 3 ≤ n) (h1 : 1 ≤ k0) (h2 : k0 + 3 * len ≤ 1099511627776) :
    Calls Tryz.prog 42 #[.slice (some ⟨B, 0, none⟩) len cap, .int .i64 k0] w (MadeMarksObj B E k0 len n w) := by
  have HR := Lib.hid h
  have HN := Lib.hid hn
  clear h hn
  go_enter Tryz.func42, Tryz.ntmps42
  go_wp2
  go_loopw [1, 5] (fun t i wr => ∃ k : Nat, k ≤ len ∧ i = .int .i64 k ∧ t = .int .i64 ((k0 + 3 * k : Nat) : Int) ∧ Hid (w.grownBy wr (some B) ∧ ∃ cur, Row wr B E cur ∧ cur.size = n ∧ MarkedObj cur k0 k)) (fun _ i _ => len - (intOf i).toNat)
  case atStart => exact ⟨0, Nat.zero_le _, rfl, rfl, World.grownBy.refl _ _, cur0, HR.out, HN.out, fun j hj => by omega⟩
  case round =>
    obtain ⟨k, hk, rfl, rfl, HW⟩ := hrel
    clear HR HN
    by_cases hlt : k < len
    · obtain ⟨q, hq⟩ : ∃ q, k0 + 3 * k = q := ⟨_, rfl⟩
      rw [hq]
      have hq1 : 1 ≤ q := by omega
      have hq2 : q + 3 ≤ 1099511627776 := by omega
      have HQ := Lib.hid hq
      obtain ⟨hg, cur, hr, hs, hm⟩ := HW.out
      have HG := Lib.hid hg
      have HS := Lib.hid hs
      have HM := Lib.hid hm
      have HRW := Lib.hid hr
      have HKN := Lib.hid (show k * 3 + 2 < cur.size by rw [hs]; omega)
      clear hq hg hr hs hm HW
      go_wp2_with fail
      refine (marktextI_any _ (q) _ (by omega) (by omega) (by omega)).mono ?_
      rintro e w2 ⟨rfl, hB⟩
      have HRW := Lib.hid ((HRW.out).keep hB)
      have HG := Lib.hid (grown_belowI HG.out hB)
      clear hB
      obtain ⟨v0, hA0⟩ : ∃ v, w2.cell? ⟨B, k * 3, none⟩ = some v := ⟨_, HRW.out.cell (by have := HKN.out; omega)⟩
      have hf0 := HRW.out.free (k * 3)
      obtain ⟨v1, hA1⟩ : ∃ v, w2.cell? ⟨B, k * 3 + 1, none⟩ = some v := ⟨_, HRW.out.cell (by have := HKN.out; omega)⟩
      have hf1 := HRW.out.free (k * 3 + 1)
      go_wp2_with fail
      refine (marktextI_any _ (q + 2) _ (by omega) (by omega) (by omega)).mono ?_
      rintro e w4 ⟨rfl, hB⟩
      have HRW := Lib.hid (((HRW.out.set (k * 3) (.string (mtext q))).set (k * 3 + 1) (.int .i64 ((q + 1 : Nat) : Int))).keep hB)
      have HG := Lib.hid (grown_belowI (grown_setI (grown_setI HG.out (k * 3) (.string (mtext q))) (k * 3 + 1) (.int .i64 ((q + 1 : Nat) : Int))) hB)
      clear hB
      obtain ⟨v2, hA2⟩ : ∃ v, w4.cell? ⟨B, k * 3 + 2, none⟩ = some v := ⟨_, HRW.out.cell (by simp only [Array.size_setIfInBounds]; have := HKN.out; omega)⟩
      have hf2 := HRW.out.free (k * 3 + 2)
      go_wp2
      go_roundw
      case rel => exact ⟨k + 1, by omega, by go_num, by have := HQ.out; go_num, (grown_setI HG.out _ _), _, (HRW.out.set _ _), by simpa using HS.out, by have e := HM.out.step HKN.out; rw [HQ.out] at e; exact e⟩
      case measure => simp [intOf]; omega
    · obtain rfl : k = len := by omega
      go_wp2
      go_ret
      obtain ⟨hg, cur, hr, hs, hm⟩ := HW.out
      exact ⟨rfl, hg, cur, hr, hs, hm⟩

theorem markobjs_none (q : Option Addr) (cap k0 : Nat) (w : World) : Calls Tryz.prog 42 #[.slice q 0 cap, .int .i64 k0] w fun e w' => e = .returned (.int .i64 k0) ∧ w = w' := by
  go_enter Tryz.func42, Tryz.ntmps42
  go_wp2
  go_loop [1, 5] (fun t i => t = .int .i64 k0 ∧ i = .int .i64 0) (fun _ _ => 0)
  case atStart => exact ⟨rfl, rfl⟩
  case round =>
    obtain ⟨rfl, rfl⟩ := hrel
    go_wp2
    go_ret
    exact ⟨rfl, rfl⟩
end Go.Proofs.YtbjlojmadellgaaGreatDoor
namespace Go.Proofs.YtbjlojmadellgaaGreatDoor
open Go.ChangeShapes Go.WideShapes Go.ChangeAt Go.RowKit
set_option linter.unusedVariables false
set_option maxRecDepth 100000

/-- Row B holds the marks from number k0 on in its first n values. -/
def MarkedGone (cur : Array Value) (k0 n : Nat) : Prop := ∀ j, j < n → cur[j * 2]? = some (.string (mtext (k0 + 2 * j + 0))) ∧ cur[j * 2 + 1]? = some (.int .i64 ((k0 + 2 * j + 1 : Nat) : Int))
theorem MarkedGone.step {cur : Array Value} {k0 k : Nat} (h : MarkedGone cur k0 k) (hk : k * 2 + 1 < cur.size) : MarkedGone ((cur.setIfInBounds (k * 2) (.string (mtext (k0 + 2 * k + 0)))).setIfInBounds (k * 2 + 1) (.int .i64 ((k0 + 2 * k + 1 : Nat) : Int))) k0 (k + 1) := by
  intro j hj
  rcases Nat.lt_or_ge j k with hlt | hge
  · obtain ⟨e0, e1⟩ := h j hlt
    refine ⟨?_, ?_⟩
    · rw [Array.getElem?_setIfInBounds_ne (by omega), Array.getElem?_setIfInBounds_ne (by omega)]; exact e0
    · rw [Array.getElem?_setIfInBounds_ne (by omega), Array.getElem?_setIfInBounds_ne (by omega)]; exact e1
  · obtain rfl : j = k := by omega
    refine ⟨?_, ?_⟩
    · rw [Array.getElem?_setIfInBounds_ne (by omega)]; rw [Array.getElem?_setIfInBounds_self_of_lt (by first | omega | (simp only [Array.size_setIfInBounds]; omega))]
    · rw [Array.getElem?_setIfInBounds_self_of_lt (by first | omega | (simp only [Array.size_setIfInBounds]; omega))]
def MadeMarksGone (B : Nat) (E : TypeId) (k0 len n : Nat) (w : World) (e : Ending) (w' : World) : Prop :=
  e = .returned (.int .i64 ((k0 + 2 * len : Nat) : Int)) ∧ w.grownBy w' (some B) ∧ ∃ cur, Row w' B E cur ∧ cur.size = n ∧ MarkedGone cur k0 len

set_option maxHeartbeats 2000000 in
theorem markgones_any (B len cap k0 n : Nat) (E : TypeId) (cur0 : Array Value) (w : World) (h : Row w B E cur0) (hn : cur0.size = n) (hl : len * 2 ≤ n) (h1 : 1 ≤ k0) (h2 : k0 + 2 * len ≤ 1099511627776) :
    Calls Tryz.prog 43 #[.slice (some ⟨B, 0, none⟩) len cap, .int .i64 k0] w (MadeMarksGone B E k0 len n w) := by
  have HR := Lib.hid h
  have HN := Lib.hid hn
  clear h hn
  go_enter Tryz.func43, Tryz.ntmps43
  go_wp2
  go_loopw [1, 5] (fun t i wr => ∃ k : Nat, k ≤ len ∧ i = .int .i64 k ∧ t = .int .i64 ((k0 + 2 * k : Nat) : Int) ∧ Hid (w.grownBy wr (some B) ∧ ∃ cur, Row wr B E cur ∧ cur.size = n ∧ MarkedGone cur k0 k)) (fun _ i _ => len - (intOf i).toNat)
  case atStart => exact ⟨0, Nat.zero_le _, rfl, rfl, World.grownBy.refl _ _, cur0, HR.out, HN.out, fun j hj => by omega⟩
  case round =>
    obtain ⟨k, hk, rfl, rfl, HW⟩ := hrel
    clear HR HN
    by_cases hlt : k < len
    · obtain ⟨q, hq⟩ : ∃ q, k0 + 2 * k = q := ⟨_, rfl⟩
      rw [hq]
      have hq1 : 1 ≤ q := by omega
      have hq2 : q + 2 ≤ 1099511627776 := by omega
      have HQ := Lib.hid hq
      obtain ⟨hg, cur, hr, hs, hm⟩ := HW.out
      have HG := Lib.hid hg
      have HS := Lib.hid hs
      have HM := Lib.hid hm
      have HRW := Lib.hid hr
      have HKN := Lib.hid (show k * 2 + 1 < cur.size by rw [hs]; omega)
      clear hq hg hr hs hm HW
      go_wp2_with fail
      refine (marktextI_any _ (q) _ (by omega) (by omega) (by omega)).mono ?_
      rintro e w2 ⟨rfl, hB⟩
      have HRW := Lib.hid ((HRW.out).keep hB)
      have HG := Lib.hid (grown_belowI HG.out hB)
      clear hB
      obtain ⟨v0, hA0⟩ : ∃ v, w2.cell? ⟨B, k * 2, none⟩ = some v := ⟨_, HRW.out.cell (by have := HKN.out; omega)⟩
      have hf0 := HRW.out.free (k * 2)
      obtain ⟨v1, hA1⟩ : ∃ v, w2.cell? ⟨B, k * 2 + 1, none⟩ = some v := ⟨_, HRW.out.cell (by have := HKN.out; omega)⟩
      have hf1 := HRW.out.free (k * 2 + 1)
      go_wp2
      go_roundw
      case rel => exact ⟨k + 1, by omega, by go_num, by have := HQ.out; go_num, (grown_setI (grown_setI HG.out _ _) _ _), _, ((HRW.out.set _ _).set _ _), by simpa using HS.out, by have e := HM.out.step HKN.out; rw [HQ.out] at e; exact e⟩
      case measure => simp [intOf]; omega
    · obtain rfl : k = len := by omega
      go_wp2
      go_ret
      obtain ⟨hg, cur, hr, hs, hm⟩ := HW.out
      exact ⟨rfl, hg, cur, hr, hs, hm⟩

theorem markgones_none (q : Option Addr) (cap k0 : Nat) (w : World) : Calls Tryz.prog 43 #[.slice q 0 cap, .int .i64 k0] w fun e w' => e = .returned (.int .i64 k0) ∧ w = w' := by
  go_enter Tryz.func43, Tryz.ntmps43
  go_wp2
  go_loop [1, 5] (fun t i => t = .int .i64 k0 ∧ i = .int .i64 0) (fun _ _ => 0)
  case atStart => exact ⟨rfl, rfl⟩
  case round =>
    obtain ⟨rfl, rfl⟩ := hrel
    go_wp2
    go_ret
    exact ⟨rfl, rfl⟩
end Go.Proofs.YtbjlojmadellgaaGreatDoor
