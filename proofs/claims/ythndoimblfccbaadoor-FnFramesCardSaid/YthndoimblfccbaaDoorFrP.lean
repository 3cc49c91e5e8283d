
/- The program's TakeFrames, walked. -/
import Derived.Test.YthndoimblfccbaaDoorFrI
import Derived.Test.YthndoimblfccbaaDoorStrs3
import Derived.Test.YthndoimblfccbaaDoorKs
import Derived.Maps.AppendAt
import Derived.Deep.Onto
namespace Go.Proofs.YthndoimblfccbaaDoor
open Go.ChangeShapes Go.WideShapes Go.ChangeAt Go.RowKit Go.Shelf
set_option linter.unusedVariables false
set_option maxRecDepth 100000
attribute [local go_sem] Oper.semAt_some

/-- Where the last of these frames ends. -/
def lastE (s : ByteArray) (pre : List Nat) : Int := (((pre.getLast?.map fun k => endK s (k + 1)).getD 0 : Nat) : Int)
theorem lastE_snoc (s : ByteArray) (pre : List Nat) (k : Nat) : lastE s (pre ++ [k]) = ((endK s (k + 1) : Nat) : Int) := by
  unfold lastE
  rw [List.getLast?_concat]
  rfl
theorem lastE_range (s : ByteArray) : ∀ N, lastE s (List.range N) = ((endK s N : Nat) : Int)
  | 0 => by rw [endK_zero]; rfl
  | N + 1 => by rw [List.range_succ, lastE_snoc]
def strK (s : ByteArray) (k : Nat) : Value := .string (frAt s k)
/-- The end of TakeFrames. -/
def MadeTF (s : ByteArray) (w : World) (e : Ending) (w' : World) : Prop :=
  ∃ v, e = .returned (.tuple #[v, .int .i64 ((endK s (frL s).length : Nat) : Int)]) ∧ w'.ownsRow w.heap.size 9 1 v (frL s).length ((List.range (frL s).length).map (strK s)) ∧ Below w.heap.size w w'
theorem own_put {w : World} {base : Nat} {e : TypeId} {size : Nat} {v : Value} {n : Nat} {xs : List Value} (h : w.ownsRow base e size v n xs) {X : Nat} (hX : X < base) (j : Nat) (u : Value) : (w.setCell ⟨X, j, none⟩ u).ownsRow base e size v n xs :=
  h.kept (growS (World.grownBy.refl w (some X)) j u) (by
    by_cases hv : v.ownBlock = some X
    · exact absurd (h.lt X hv).1 (by omega)
    · exact .inr hv)

set_option maxHeartbeats 8000000 in
theorem takeframes_any (s : ByteArray) (w : World) (hsz : s.size ≤ 1048576) (hT : TabsC w) : Calls Tryd.prog 9 #[.string s] w (MadeTF s w) := by
  obtain ⟨i0, hi, hz0, hz1, hz2⟩ := info_parts infoStr
  obtain ⟨W0, hW0⟩ : ∃ x, ((w.alloc (.cells #[.slice none 0 0] 24)).alloc (.cells #[.int .i64 0] 3)).alloc (.cells #[.string s] 9) = x := ⟨_, rfl⟩
  have hB0 : Below w.heap.size w W0 := by rw [← hW0]; exact below_alloc (below_alloc (below_alloc (Below.refl _ _) _) _) _
  have hs0 : W0.heap.size = w.heap.size + 3 := by rw [← hW0]; simp
  have hba : Row W0 w.heap.size 24 #[.slice none 0 0] := by rw [← hW0]; exact ((row_new w _ _).al _).al _
  have hbe : Row W0 (w.heap.size + 1) 3 #[.int .i64 0] := by rw [← hW0]; exact (row_new1 w _ _ _).al _
  have hbs : Row W0 (w.heap.size + 1 + 1) 9 #[.string s] := by
    have := row_new1 (w.alloc (.cells #[.slice none 0 0] 24)) (.cells #[.int .i64 0] 3) #[.string s] 9
    rw [← hW0]
    simpa using this
  have HW0 := Lib.hid hW0
  have HFEW := Lib.hid (frL_few s)
  have HLR := Lib.hid (lastE_range s (frL s).length)
  clear hW0
  refine (callsIn_wide (n := 9)).1 ?_
  refine callsIn_of_wp_marks Tryd.func9 rfl trivial ?_ rfl
  simp only [Tryd.ntmps9, List.size_toArray, List.length_cons, List.length_nil, Nat.reduceAdd, Nat.reduceSub, Array.replicate_succ, Array.replicate_zero, List.push_toArray, List.append_toArray, List.nil_append, List.cons_append]
  gi_wp2_with fail
  refine ⟨trivial, (frames_in _ _ _).mono ?_⟩
  rintro e w' ⟨rfl, rfl⟩
  gi_wp2_with fail
  rw [HW0.out]
  have HK := Lib.hid (frames_stops 8 (by omega) (w.heap.size + 1 + 1) s w W0 hsz hT hB0 hbs)
  clear hT hbs HW0
  refine wpIn_rangeFunc_ownG rfl (by omega) (gf := 27) (lb := #[.pointer (some ⟨w.heap.size + 1 + 1, 0, none⟩)]) rfl trivial (enters_of Tryd.func27 (by kernel_rfl) rfl)
    HK.out kps_t (kps_b (by omega) (by omega)) (Below.refl _ _) (fun _ => rfl)
    (fun pre W => (∃ v, Boxed W w.heap.size 24 v ∧ W.ownsRow (w.heap.size + 3) 9 1 v pre.length (pre.map (strK s)) ∧ True) ∧ (Boxed W (w.heap.size + 1) 3 (.int .i64 (lastE s pre)) ∧ (Below w.heap.size w W ∧ w.heap.size + 3 ≤ W.heap.size)))
    (fun _ _ _ => False)
    (OwnFrom.and (Own.from (holdsRow_own (w.heap.size + 3) w.heap.size 24 9 1 (fun (pre : List Nat) => pre.length) (fun (pre : List Nat) => pre.map (strK s)) (fun _ _ => True)) _) (OwnFrom.and (Own.from (boxed_own _ _ (fun pre => .int .i64 (lastE s pre))) _) (OwnFrom.and (ownFrom_below (Nat.le_refl _) (by omega)) (fun _ _ _ _ hs hg _ => Nat.le_trans hs hg.size))))
    (fun _ _ _ _ _ hs _ _ => hs)
    ⟨⟨_, hba, World.ownsRow_nil _ _ _ _, trivial⟩, hbe, hB0, by omega⟩
    (fun x => { tmps := #[.string s, undef, .slice none 0 0, .int .i64 0, .pointer (some ⟨w.heap.size, 0, none⟩), .pointer (some ⟨w.heap.size + 1, 0, none⟩), .string (frAt s x), .int .i64 ((endK s (x + 1) : Nat) : Int), .string s, .func (.func 27) #[] #[.pointer (some ⟨w.heap.size + 1 + 1, 0, none⟩)], .string (frAt s x), .int .i64 ((endK s (x + 1) : Nat) : Int), undef, undef, undef, undef, undef, undef, undef], defers := [] }) ?assign ?body ?done ?stop
  case assign =>
    intro lp x W K hK
    unfold encFr
    gi_wp2
    exact hK
  case body =>
    rintro lp pre x W ⟨⟨v, hv, hrow, _⟩, he, hB, hsz3⟩ hlt
    have hc := hv.cell
    have hfew := HFEW.out
    have hlow := World.ownsRow.mono hrow (show w.heap.size ≤ w.heap.size + 3 by omega)
    obtain ⟨y, hy⟩ : ∃ y, frAt s x = y := ⟨_, rfl⟩
    have hsn := lastE_snoc s pre x
    obtain ⟨z, hz⟩ : ∃ z, ((endK s (x + 1) : Nat) : Int) = z := ⟨_, rfl⟩
    rw [hz] at hsn ⊢
    rw [hy]
    gi_wp2_with (gi_at_builtin; refine wpListIn_append_own _ rfl _ _ 24 rfl (w.heap.size + 3) 9 i0 _ 1 16 Tryd.underlying24 hi hz0 hz1 hz2 rfl (by decide) _ _ _ rfl (hrow.alloc _) ⟨W.heap.size, 0, none⟩ 1 1 [.string y] rfl rfl (cell_one_new _ _ _) (by simp [Value.oneCell']) (by unfold maxLen; omega) (by omega) (by simp; omega) ?_; intro v' w1 hown' hgrow _; obtain ⟨g', cap', rfl⟩ := ownsRow_succ hown'; obtain ⟨hv1, hv2, hr2, hk2, hb2⟩ := hv.appended (by decide) hlow hB.size (Nat.le_refl _) (World.ownsRow.mono hown' (show w.heap.size ≤ w.heap.size + 3 by omega)) hgrow; have hc1 := hv1.cell; have hf1 := hv1.frozen; have hown2 := own_put hown' (show w.heap.size < w.heap.size + 3 by omega) 0 (.slice (some ⟨g', 0, none⟩) (pre.length + 1) cap'); have hge := (he.alloc (.cells #[.string y] 9)).kept hgrow (fun e => by have := ((hrow.alloc (.cells #[.string y] 9)).lt _ e.symm).1; omega); have hge2 := hge.other (show w.heap.size + 1 ≠ w.heap.size by omega) (.slice (some ⟨g', 0, none⟩) (pre.length + 1) cap'); have ec := hge2.cell; have ef := hge2.frozen)
    have hl1 : w.heap.size ≤ w.heap.size + 1 := by omega
    have hb3 := hb2.trans ((Below.refl w.heap.size _).setCell (p := ⟨w.heap.size + 1, 0, none⟩) hl1 (.int .i64 z))
    refine ⟨(hk2.trans (KeepsOthers.setCell _ _ _)).from _, ⟨hb3, fun T cur hr => (((hr.al (.cells #[.string y] 9)).grown hgrow (fun e => by have := ((hrow.alloc (.cells #[.string y] 9)).lt _ e).1; omega)).put (by omega) 0 _).put (by omega) 0 _⟩, ⟨_, hv2.other (by omega) _, ?_, trivial⟩, by rw [hsn]; exact hge2.set _, hB.trans hb3, ?_⟩
    · rw [List.length_append, List.map_append]
      have h9 := own_put hown2 (show w.heap.size + 1 < w.heap.size + 3 by omega) 0 (.int .i64 z)
      have hyk : [x].map (strK s) = [.string y] := by simp [strK, hy]
      rw [hyk]
      exact h9
    · exact Nat.le_trans hsz3 hb3.size
  case done =>
    rintro D ys W hD rfl ⟨⟨v, hv, hrow, _⟩, he, hB, hsz3⟩ hK
    have hc := hv.cell
    have hec := he.cell
    rw [HLR.out] at hec
    gi_wp2
    gi_region
    gi_wp2
    refine ⟨by simp, .inl ⟨_, _, rfl, run_takeDeferred (show W.drew.heap[D]? = some (.deferred (some [])) from hK), ?_⟩⟩
    rw [List.length_range] at hrow
    have hK2 : W.drew.heap[D]? = some (.deferred (some [])) := hK
    have hBd : Below w.heap.size w W.drew := below_drewN hB 1
    exact ⟨_, results_tmp2 rfl _ _ _, v, rfl, World.ownsRow.mono (ownsRow_putObj (show W.drew.ownsRow (w.heap.size + 3) 9 1 v (frL s).length ((List.range (frL s).length).map (strK s)) from own_below hrow (below_drewN (Below.refl _ _) 1)) _ hK2 rfl) (by omega), hBd.trans (belowK_b (w := w) (Nat.le_refl _) W.drew D _ _ (by omega) hK2 rfl rfl)⟩
  case stop =>
    rintro D c pre W _ _ h _
    exact h.elim
end Go.Proofs.YthndoimblfccbaaDoor
