
/- The program's frames: an iterator over the frames of a text, walked. -/
import Derived.Test.YthndoimblfccbaaDoorRangeF
import Derived.Test.YthndoimblfccbaaDoorFrAt
namespace Go.Proofs.YthndoimblfccbaaDoor
open Go.ChangeShapes Go.WideShapes Go.ChangeAt Go.RowKit Go.Shelf
set_option linter.unusedVariables false
set_option maxRecDepth 100000
attribute [local go_sem] Oper.semAt_some

def frAt (s : ByteArray) (k : Nat) : ByteArray := (frL s).getD k ⟨#[]⟩
theorem frAt_next {s : ByteArray} {k : Nat} (h : k < (frL s).length) : frA s (endK s k) = some (frAt s k) := by
  rw [frL_next h]
  unfold frAt
  rw [List.getD_eq_getElem?_getD, List.getElem?_eq_getElem h]
  rfl
theorem frAt_end {s : ByteArray} {k : Nat} (h : k < (frL s).length) : endK s (k + 1) = endK s k + 8 + (frAt s k).size := by
  rw [endK_succ h]
  unfold frAt
  rw [List.getD_eq_getElem?_getD, List.getElem?_eq_getElem h]
  rfl
/-- The frames as the iterator yields them. -/
def encFr (s : ByteArray) (k : Nat) : Array Value := #[.string (frAt s k), .int .i64 ((endK s (k + 1) : Nat) : Int)]

set_option maxHeartbeats 4000000 in
theorem frames_stops (n : Nat) (hn : 1 ≤ n) (Bs : Nat) (s : ByteArray) (w0 w : World) (hsz : s.size ≤ 1048576) (hT : TabsC w0) (h0 : Below w0.heap.size w0 w) (hBs : Row w Bs 9 #[.string s]) :
    SeqStopsK Fence.wide n Tryd.prog 27 #[.pointer (some ⟨Bs, 0, none⟩)] (encFr s) (KpS w0.heap.size Bs) (fun ys => ys = List.range (frL s).length) (fun pre => pre <+: List.range (frL s).length) (frL s).length w := by
  intro lp J Jx W hW hJ hJx hY hJ0
  have HT := Lib.hid hT
  have HAB := Lib.hid hJ
  have HY := Lib.hid hY
  have HI := Lib.hid (show J (List.range 0) W ∧ Below w0.heap.size w0 W ∧ Row W Bs 9 #[.string s] from ⟨hJ0, below_via h0 hW, hBs.keep hW⟩)
  have HE := Lib.hid (fun k (hk : k ≤ (frL s).length) => endK_le s k hk)
  have HNX := Lib.hid (fun k (hk : k < (frL s).length) => And.intro (frAt_next hk) (frAt_end hk))
  have HST := Lib.hid (frL_stop (s := s))
  obtain ⟨N, hN⟩ : ∃ N, (frL s).length = N := ⟨_, rfl⟩
  rw [hN] at HY HE HNX HST
  rw [hN]
  have HZ := Lib.hid (endK_zero s)
  clear hT h0 hBs hW hJ hY hJ0 hN
  refine callsIn_of_wp Tryd.func27 rfl trivial ?_ rfl
  simp only [Tryd.ntmps27, List.size_toArray, List.length_cons, List.length_nil, Nat.reduceAdd, Nat.reduceSub, Array.replicate_succ, Array.replicate_zero, List.push_toArray, List.append_toArray, List.nil_append, List.cons_append]
  gi_wp2_with fail
  gi_loopw [3] (fun i wr => ∃ k e : Nat, k ≤ N ∧ i = .int .i64 (e : Int) ∧ Hid (endK s k = e) ∧ Hid (J (List.range k) wr ∧ Below w0.heap.size w0 wr ∧ Row wr Bs 9 #[.string s])) (fun i _ => s.size - (intOf i).toNat)
  case atStart => exact ⟨0, 0, Nat.zero_le _, rfl, HZ, HI⟩
  case round =>
    clear HI
    obtain ⟨k, e, hk, rfl, HK, HI⟩ := hrel
    have he : e ≤ s.size := by rw [← HK.out]; exact HE.out k hk
    have s0 := HI.out.2.2.cell (j := 0) (by simp)
    simp at s0
    have hsl : ∀ wx, (Instr.slice 9 (.string s) (some (.int .i64 (e : Int))) none none).run Tryd.prog wx = .ok (.string (s.extract e s.size)) wx := fun wx => by
      have h := run_slice_string_l (P := Tryd.prog) wx 9 s Tryd.underlying9 .i64 (e : Int) (by omega) (by omega)
      simpa using h
    have HX := Lib.hid (frA_ext he)
    gi_wp2_with fail
    refine ⟨trivial, (callsIn_wide.2 (frameat_any (s.extract e s.size) _ (by rw [ByteArray.size_extract]; omega) (HT.out.keep HI.out.2.1))).mono ?_⟩
    rintro x w4 ⟨d, rfl, hd, hB⟩
    rw [HX.out] at hd ⊢
    have HI4 := Lib.hid (show J (List.range k) w4 ∧ Below w0.heap.size w0 w4 ∧ Row w4 Bs 9 #[.string s] from ⟨HAB.out _ _ _ none HI.out.1 (belowGrow hB none) (fun r e => by cases e), below_via HI.out.2.1 hB, HI.out.2.2.keep hB⟩)
    clear hB s0 hsl HI
    by_cases hlt : k < N
    · obtain ⟨hf, hen⟩ := HNX.out k hlt
      rw [HK.out] at hf hen
      have hdx := hd _ hf
      subst hdx
      rw [hf]
      have HEN := Lib.hid hen
      have hle : e + 8 + (frAt s k).size ≤ s.size := by rw [← hen]; exact HE.out (k + 1) hlt
      obtain ⟨y, hy0⟩ : ∃ y, frAt s k = y := ⟨_, rfl⟩
      have HYY := Lib.hid hy0
      obtain ⟨fn, tmps, assign, body, hy, hR⟩ := HY.out (List.range k) k w4 HI4.out.1 (by simp; omega)
      have hE : ((endK s (k + 1) : Nat) : Int) = (e : Int) + ((8 : Int) + (y.size : Int)) := by rw [hen, hy0]; omega
      unfold encFr at hy
      rw [hE, hy0] at hy
      rw [hy0] at hle ⊢
      have hw1 : wrap64 ((8 : Int) + (y.size : Int)) = (8 : Int) + (y.size : Int) := by unfold wrap64; omega
      have hw2 : wrap64 ((e : Int) + ((8 : Int) + (y.size : Int))) = (e : Int) + ((8 : Int) + (y.size : Int)) := by unfold wrap64; omega
      clear hd hf hen hE hy0
      gi_wp2
      refine hR.mono ?_
      rintro e5 W3 (⟨rfl, hJ3, hk3⟩ | ⟨rfl, hJx3⟩)
      · have HI5 := Lib.hid (show J (List.range (k + 1)) W3 ∧ Below w0.heap.size w0 W3 ∧ Row W3 Bs 9 #[.string s] from ⟨by rw [List.range_succ]; exact hJ3, HI4.out.2.1.trans hk3.1, hk3.2 _ _ HI4.out.2.2⟩)
        have HK2 := Lib.hid (show endK s (k + 1) = e + (8 + y.size) from by rw [HEN.out, HYY.out]; omega)
        clear hJ3 hk3 hy hR HI4
        gi_wp2
        go_roundw
        case rel => exact ⟨k + 1, e + (8 + y.size), by omega, by go_num, HK2, HI5⟩
        case measure => simp [intOf]; omega
      · have HX2 := Lib.hid (show List.range k ++ [k] <+: List.range N from by
          rw [← List.range_succ]
          exact ⟨(List.range N).drop (k + 1), by
            have h1 : List.range (k + 1) = (List.range N).take (k + 1) := by rw [List.take_range]; congr 1; omega
            rw [h1, List.take_append_drop]⟩)
        gi_wp2
        refine bodyPost_ret (results_none rfl _ _ _) rfl ?_
        exact ⟨⟨_, rfl⟩, .inr ⟨List.range k ++ [k], HX2.out, hJx3⟩⟩
    · obtain rfl : k = N := by omega
      have hf : frA s e = none := by rw [← HK.out]; exact HST.out
      rw [hf]
      gi_wp2
      refine bodyPost_ret (results_none rfl _ _ _) rfl ?_
      exact ⟨⟨_, rfl⟩, .inl ⟨List.range k, rfl, HI4.out.1⟩⟩

/-- frames(s): the text is boxed; the function value captures the box. -/
theorem frames_in (n : Nat) (s : ByteArray) (w : World) :
    CallsIn Fence.wide n Tryd.prog 19 #[.string s] w fun e w' => e = .returned (.func (.func 27) #[] #[.pointer (some ⟨w.heap.size, 0, none⟩)]) ∧ w' = w.alloc (.cells #[.string s] 9) := by
  refine callsIn_of_wp Tryd.func19 rfl trivial ?_ rfl
  simp only [Tryd.ntmps19, List.size_toArray, List.length_cons, List.length_nil, Nat.reduceAdd, Nat.reduceSub, Array.replicate_succ, Array.replicate_zero, List.push_toArray, List.append_toArray, List.nil_append, List.cons_append]
  gi_wp2
  go_ret
  exact ⟨rfl, rfl⟩
end Go.Proofs.YthndoimblfccbaaDoor
