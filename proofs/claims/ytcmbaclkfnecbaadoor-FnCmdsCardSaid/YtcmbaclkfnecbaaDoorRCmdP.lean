
/- A command read out of a text: what the program does with its pieces. Only new blocks are made. -/
import Derived.Test.YtcmbaclkfnecbaaDoorReadD
import Derived.Test.YtcmbaclkfnecbaaDoorRClaimP
import Derived.Test.YtcmbaclkfnecbaaDoorCmdOk
namespace Go.Proofs.YtcmbaclkfnecbaaDoor
open Go.ChangeShapes Go.WideShapes Go.ChangeAt Go.RowKit
set_option linter.unusedVariables false
set_option maxRecDepth 100000

abbrev RCmd := Int × List UInt8 × Int × List UInt8
def coV (k : Int) (b : List UInt8) (v : Int) (d : List UInt8) (ok : Bool) : Value := .tuple #[.agg #[.int .i64 k, .string (ba b), .int .i64 v, .string (ba d)], .bool ok]
def MadeCO (o : Option RCmd) (w : World) (e : Ending) (w' : World) : Prop := Below w.heap.size w w' ∧ ∃ k b v d, e = .returned (coV k b v d o.isSome) ∧ ∀ r, o = some r → r = (k, b, v, d)
theorem co_none {o : Option RCmd} {k v : Int} {b d : List UInt8} {w w' : World} (h : o = none) (hB : Below w.heap.size w w') : MadeCO o w (.returned (.tuple #[.agg #[.int .i64 k, .string (ba b), .int .i64 v, .string (ba d)], .bool false])) w' := by
  subst h; exact ⟨hB, k, b, v, d, rfl, fun r hr => by cases hr⟩
theorem co_some {o : Option RCmd} {k v : Int} {b d : List UInt8} {w w' : World} (h : o = some (k, b, v, d)) (hB : Below w.heap.size w w') : MadeCO o w (.returned (.tuple #[.agg #[.int .i64 k, .string (ba b), .int .i64 v, .string (ba d)], .bool true])) w' := by
  subst h; exact ⟨hB, k, b, v, d, rfl, fun r hr => by injection hr with hr; exact hr.symm⟩
theorem four {α : Type} {l : List α} (h : l.length = 4) : ∃ x y z u, l = [x, y, z, u] := by
  match l, h with
  | [x, y, z, u], _ => exact ⟨x, y, z, u, rfl⟩
theorem rp_3C (y z : List UInt8) : rpieces [wC, y, z] = (readD z).map fun d => (1, y, 0, d) := by
  unfold rpieces; simp
theorem rp_3D (y z : List UInt8) : rpieces [wD, y, z] = (numD z).map fun v => (3, y, v, []) := by
  unfold rpieces; simp only; rw [if_neg (by decide)]; simp
theorem rp_3 {x : List UInt8} (y z : List UInt8) (h1 : x ≠ wC) (h2 : x ≠ wD) : rpieces [x, y, z] = none := by
  unfold rpieces; simp only; rw [if_neg h1, if_neg h2]
theorem rp_4P (y z u : List UInt8) : rpieces [wP, y, z, u] = (match numD z, readD u with | some v, some x => some (2, y, v, x) | _, _ => none) := by
  unfold rpieces
  simp only [if_true]
  cases numD z <;> cases readD u <;> rfl
theorem rp_4 {x : List UInt8} (y z u : List UInt8) (h1 : x ≠ wP) : rpieces [x, y, z, u] = none := by
  unfold rpieces; simp only; rw [if_neg h1]
theorem rp_n {P : List (List UInt8)} (h3 : P.length ≠ 3) (h4 : P.length ≠ 4) : rpieces P = none := by
  unfold rpieces
  split
  · simp at h3
  · simp at h4
  · rfl
theorem ba_word {x y : List UInt8} (h : x ≠ y) : ba x ≠ ba y := fun e => h (by have := congrArg (fun s => s.data.toList) e; simpa [ba] using this)
theorem ba_size (l : List UInt8) : (ba l).size = l.length := by unfold ba; rfl

set_option maxHeartbeats 8000000 in
theorem cmdof_any (g : Nat) (P : List (List UInt8)) (w : World) (hP : PiecesAt w g 0 P) (hl : ∀ x ∈ P, x.length ≤ 1048576) (hn : P.length ≤ 1048577) (hT : TabsR w) :
    Calls Tryd.prog 53 #[.slice (some ⟨g, 0, none⟩) P.length P.length] w (MadeCO (rpieces P) w) := by
  have HT := Lib.hid hT
  have HLE := Lib.hid hl
  have HPI := Lib.hid hP
  clear hT hl hP
  obtain ⟨n, hnn⟩ : ∃ n, P.length = n := ⟨_, rfl⟩
  rw [hnn] at hn ⊢
  by_cases h3 : n = 3
  · subst h3
    obtain ⟨x, y, z, rfl⟩ := three hnn
    clear hnn
    have p0 := HPI.out.cell 0 (by simp)
    have p1 := HPI.out.cell 1 (by simp)
    have p2 := HPI.out.cell 2 (by simp)
    simp [encS] at p0 p1 p2
    have hgl := HPI.out.lt
    have HX := Lib.hid (Row.new w 38 #[.int .i64 0, .string ⟨#[]⟩, .int .i64 0, .string ⟨#[]⟩])
    have HB0 := Lib.hid (below_alloc (Below.refl w.heap.size w) (.cells #[.int .i64 0, .string ⟨#[]⟩, .int .i64 0, .string ⟨#[]⟩] 38))
    have HT := Lib.hid (HT.out.keep HB0.out)
    have HZ := Lib.hid (HLE.out z (by simp))
    by_cases hx : x = wC
    · subst hx
      unfold wC at p0
      clear HLE
      go_enter Tryd.func53, Tryd.ntmps53
      go_wp2_with fail
      refine (readdata_any (ba z) _ (by rw [ba_size]; exact HZ.out)).mono ?_
      rw [ba_list]
      rintro e w1 ⟨rfl, hB⟩
      have HX := Lib.hid (HX.out.keep hB)
      have HPI := Lib.hid ((HPI.out.keep HB0.out).keep hB)
      have HT := Lib.hid (HT.out.keep hB)
      have HB := Lib.hid (below_via HB0.out hB)
      replace p0 := HPI.out.cell 0 (by simp)
      replace p1 := HPI.out.cell 1 (by simp)
      replace p2 := HPI.out.cell 2 (by simp)
      simp [encS] at p0 p1 p2
      clear hB
      have y0 := HX.out.cell (j := 0) (by simp)
      have y1 := HX.out.cell (j := 1) (by simp)
      have y2 := HX.out.cell (j := 2) (by simp)
      have y3 := HX.out.cell (j := 3) (by simp)
      have f0 := HX.out.free 0
      have f1 := HX.out.free 1
      have f2 := HX.out.free 2
      have f3 := HX.out.free 3
      simp at y0 y1 y2 y3
      cases hr : readD z with
      | none =>
        have HR := Lib.hid (show rpieces [wC, y, z] = none by rw [rp_3C, hr]; rfl)
        simp only [Option.getD_none, Option.isSome_none]
        clear hr
        go_wp2
        have hbF := ((((HX.out.set 0 (.int .i64 1)).set 1 (.string ⟨y.toArray⟩)).set 2 (.int .i64 0)).set 3 (.string (ba [])))
        unfold Row at hbF
        exact bodyPost_ret (v := .tuple #[.agg #[.int .i64 1, .string ⟨y.toArray⟩, .int .i64 0, .string (ba [])], .bool false]) (by simp [results, Tryd.results53, go_sem, World.cell?, hbF]) rfl (co_none HR.out (HB.out.setCell (Nat.le_refl _) _ |>.setCell (Nat.le_refl _) _ |>.setCell (Nat.le_refl _) _ |>.setCell (Nat.le_refl _) _))
      | some d =>
        have HR := Lib.hid (show rpieces [wC, y, z] = some (1, y, 0, d) by rw [rp_3C, hr]; rfl)
        simp only [Option.getD_some, Option.isSome_some]
        clear hr
        go_wp2
        have hbF := ((((HX.out.set 0 (.int .i64 1)).set 1 (.string ⟨y.toArray⟩)).set 2 (.int .i64 0)).set 3 (.string (ba d)))
        unfold Row at hbF
        exact bodyPost_ret (v := .tuple #[.agg #[.int .i64 1, .string ⟨y.toArray⟩, .int .i64 0, .string (ba d)], .bool true]) (by simp [results, Tryd.results53, go_sem, World.cell?, hbF]) rfl (co_some HR.out (HB.out.setCell (Nat.le_refl _) _ |>.setCell (Nat.le_refl _) _ |>.setCell (Nat.le_refl _) _ |>.setCell (Nat.le_refl _) _))
    have n1k : (x == [99, 114, 101, 97, 116, 101]) = false := by rw [beq_eq_false_iff_ne]; exact hx
    have n1n : ¬ x = [99, 114, 101, 97, 116, 101] := hx
    by_cases hx2 : x = wD
    · subst hx2
      unfold wD at p0
      clear n1k n1n
      clear HLE hx
      go_enter Tryd.func53, Tryd.ntmps53
      go_wp2_with fail
      refine (decimalof_any (ba z) _ (by rw [ba_size]; exact HZ.out) HT.out).mono ?_
      rw [ba_list]
      rintro e w1 ⟨rfl, hB⟩
      have HX := Lib.hid (HX.out.keep hB)
      have HPI := Lib.hid ((HPI.out.keep HB0.out).keep hB)
      have HT := Lib.hid (HT.out.keep hB)
      have HB := Lib.hid (below_via HB0.out hB)
      replace p0 := HPI.out.cell 0 (by simp)
      replace p1 := HPI.out.cell 1 (by simp)
      replace p2 := HPI.out.cell 2 (by simp)
      simp [encS] at p0 p1 p2
      clear hB
      have y0 := HX.out.cell (j := 0) (by simp)
      have y1 := HX.out.cell (j := 1) (by simp)
      have y2 := HX.out.cell (j := 2) (by simp)
      have y3 := HX.out.cell (j := 3) (by simp)
      have f0 := HX.out.free 0
      have f1 := HX.out.free 1
      have f2 := HX.out.free 2
      have f3 := HX.out.free 3
      simp at y0 y1 y2 y3
      cases hr : numD z with
      | none =>
        have HR := Lib.hid (show rpieces [wD, y, z] = none by rw [rp_3D, hr]; rfl)
        simp only [Option.getD_none, Option.isSome_none]
        clear hr
        go_wp2
        have hbF := ((((HX.out.set 0 (.int .i64 3)).set 1 (.string ⟨y.toArray⟩)).set 2 (.int .i64 0)).set 3 (.string ⟨#[]⟩))
        unfold Row at hbF
        exact bodyPost_ret (v := .tuple #[.agg #[.int .i64 3, .string ⟨y.toArray⟩, .int .i64 0, .string ⟨#[]⟩], .bool false]) (by simp [results, Tryd.results53, go_sem, World.cell?, hbF]) rfl (co_none HR.out (HB.out.setCell (Nat.le_refl _) _ |>.setCell (Nat.le_refl _) _ |>.setCell (Nat.le_refl _) _ |>.setCell (Nat.le_refl _) _))
      | some d =>
        have HR := Lib.hid (show rpieces [wD, y, z] = some (3, y, d, []) by rw [rp_3D, hr]; rfl)
        simp only [Option.getD_some, Option.isSome_some]
        clear hr
        go_wp2
        have hbF := ((((HX.out.set 0 (.int .i64 3)).set 1 (.string ⟨y.toArray⟩)).set 2 (.int .i64 d)).set 3 (.string ⟨#[]⟩))
        unfold Row at hbF
        exact bodyPost_ret (v := .tuple #[.agg #[.int .i64 3, .string ⟨y.toArray⟩, .int .i64 d, .string ⟨#[]⟩], .bool true]) (by simp [results, Tryd.results53, go_sem, World.cell?, hbF]) rfl (co_some HR.out (HB.out.setCell (Nat.le_refl _) _ |>.setCell (Nat.le_refl _) _ |>.setCell (Nat.le_refl _) _ |>.setCell (Nat.le_refl _) _))
    have n2k : (x == [100, 101, 108]) = false := by rw [beq_eq_false_iff_ne]; exact hx2
    have n2n : ¬ x = [100, 101, 108] := hx2
    have HR0 := rp_3 y z hx hx2
    clear HLE hx hx2
    have HR := Lib.hid HR0
    clear HR0 HT
    obtain ⟨w8, hw8⟩ : ∃ w8, w.alloc (.cells #[.int .i64 0, .string ⟨#[]⟩, .int .i64 0, .string ⟨#[]⟩] 38) = w8 := ⟨_, rfl⟩
    rw [hw8] at HX HB0
    have HPI := Lib.hid (HPI.out.keep HB0.out)
    replace p0 := HPI.out.cell 0 (by simp)
    replace p1 := HPI.out.cell 1 (by simp)
    replace p2 := HPI.out.cell 2 (by simp)
    simp [encS] at p0 p1 p2
    have y0 := HX.out.cell (j := 0) (by simp)
    have y1 := HX.out.cell (j := 1) (by simp)
    have y2 := HX.out.cell (j := 2) (by simp)
    have y3 := HX.out.cell (j := 3) (by simp)
    have f0 := HX.out.free 0
    have f1 := HX.out.free 1
    have f2 := HX.out.free 2
    have f3 := HX.out.free 3
    simp at y0 y1 y2 y3
    go_enter Tryd.func53, Tryd.ntmps53
    go_wp2
    have hbF := ((((HX.out.set 0 (.int .i64 0)).set 1 (.string ⟨#[]⟩)).set 2 (.int .i64 0)).set 3 (.string ⟨#[]⟩))
    unfold Row at hbF
    exact bodyPost_ret (v := .tuple #[.agg #[.int .i64 0, .string ⟨#[]⟩, .int .i64 0, .string ⟨#[]⟩], .bool false]) (by simp [results, Tryd.results53, go_sem, World.cell?, hbF]) rfl (co_none HR.out (HB0.out.setCell (Nat.le_refl _) _ |>.setCell (Nat.le_refl _) _ |>.setCell (Nat.le_refl _) _ |>.setCell (Nat.le_refl _) _))
  by_cases h4 : n = 4
  · subst h4
    obtain ⟨x, y, z, u, rfl⟩ := four hnn
    clear hnn
    have p0 := HPI.out.cell 0 (by simp)
    have p1 := HPI.out.cell 1 (by simp)
    have p2 := HPI.out.cell 2 (by simp)
    have p3 := HPI.out.cell 3 (by simp)
    simp [encS] at p0 p1 p2 p3
    have hgl := HPI.out.lt
    have HX := Lib.hid (Row.new w 38 #[.int .i64 0, .string ⟨#[]⟩, .int .i64 0, .string ⟨#[]⟩])
    have HB0 := Lib.hid (below_alloc (Below.refl w.heap.size w) (.cells #[.int .i64 0, .string ⟨#[]⟩, .int .i64 0, .string ⟨#[]⟩] 38))
    have HT := Lib.hid (HT.out.keep HB0.out)
    have HZ := Lib.hid (HLE.out z (by simp))
    have HU := Lib.hid (HLE.out u (by simp))
    by_cases hx : x = wP
    · subst hx
      unfold wP at p0
      clear HLE
      go_enter Tryd.func53, Tryd.ntmps53
      go_wp2_with fail
      refine (decimalof_any (ba z) _ (by rw [ba_size]; exact HZ.out) HT.out).mono ?_
      rw [ba_list]
      rintro e w1 ⟨rfl, hB⟩
      have HX := Lib.hid (HX.out.keep hB)
      have HPI := Lib.hid ((HPI.out.keep HB0.out).keep hB)
      have HT := Lib.hid (HT.out.keep hB)
      have HB := Lib.hid (below_via HB0.out hB)
      replace p0 := HPI.out.cell 0 (by simp)
      replace p1 := HPI.out.cell 1 (by simp)
      replace p2 := HPI.out.cell 2 (by simp)
      replace p3 := HPI.out.cell 3 (by simp)
      simp [encS] at p0 p1 p2 p3
      clear hB
      obtain ⟨o1, ho1⟩ : ∃ o, numD z = o := ⟨_, rfl⟩
      have HO1 := Lib.hid ho1
      rw [ho1]
      clear ho1
      go_wp2_with fail
      refine (readdata_any (ba u) _ (by rw [ba_size]; exact HU.out)).mono ?_
      rw [ba_list]
      rintro e w2 ⟨rfl, hB⟩
      have HX := Lib.hid (HX.out.keep hB)
      have HPI := Lib.hid (HPI.out.keep hB)
      have HT := Lib.hid (HT.out.keep hB)
      have HB := Lib.hid (below_via HB.out hB)
      replace p0 := HPI.out.cell 0 (by simp)
      replace p1 := HPI.out.cell 1 (by simp)
      replace p2 := HPI.out.cell 2 (by simp)
      replace p3 := HPI.out.cell 3 (by simp)
      simp [encS] at p0 p1 p2 p3
      clear hB
      have y0 := HX.out.cell (j := 0) (by simp)
      have y1 := HX.out.cell (j := 1) (by simp)
      have y2 := HX.out.cell (j := 2) (by simp)
      have y3 := HX.out.cell (j := 3) (by simp)
      have f0 := HX.out.free 0
      have f1 := HX.out.free 1
      have f2 := HX.out.free 2
      have f3 := HX.out.free 3
      simp at y0 y1 y2 y3
      obtain ⟨o2, ho2⟩ : ∃ o, readD u = o := ⟨_, rfl⟩
      have HO2 := Lib.hid ho2
      rw [ho2]
      clear ho2
      cases o1 with
      | none =>
        have HR := Lib.hid (show rpieces [wP, y, z, u] = none by rw [rp_4P, HO1.out])
        simp only [Option.getD_none, Option.isSome_none]
        go_wp2
        have hbF := ((((HX.out.set 0 (.int .i64 2)).set 1 (.string ⟨y.toArray⟩)).set 2 (.int .i64 0)).set 3 (.string (ba (o2.getD []))))
        unfold Row at hbF
        exact bodyPost_ret (v := .tuple #[.agg #[.int .i64 2, .string ⟨y.toArray⟩, .int .i64 0, .string (ba (o2.getD []))], .bool false]) (by simp [results, Tryd.results53, go_sem, World.cell?, hbF]) rfl (co_none HR.out (HB.out.setCell (Nat.le_refl _) _ |>.setCell (Nat.le_refl _) _ |>.setCell (Nat.le_refl _) _ |>.setCell (Nat.le_refl _) _))
      | some v =>
        simp only [Option.getD_some, Option.isSome_some]
        cases o2 with
        | none =>
          have HR := Lib.hid (show rpieces [wP, y, z, u] = none by rw [rp_4P, HO1.out, HO2.out])
          simp only [Option.getD_none, Option.isSome_none]
          go_wp2
          have hbF := ((((HX.out.set 0 (.int .i64 2)).set 1 (.string ⟨y.toArray⟩)).set 2 (.int .i64 v)).set 3 (.string (ba [])))
          unfold Row at hbF
          exact bodyPost_ret (v := .tuple #[.agg #[.int .i64 2, .string ⟨y.toArray⟩, .int .i64 v, .string (ba [])], .bool false]) (by simp [results, Tryd.results53, go_sem, World.cell?, hbF]) rfl (co_none HR.out (HB.out.setCell (Nat.le_refl _) _ |>.setCell (Nat.le_refl _) _ |>.setCell (Nat.le_refl _) _ |>.setCell (Nat.le_refl _) _))
        | some d =>
          have HR := Lib.hid (show rpieces [wP, y, z, u] = some (2, y, v, d) by rw [rp_4P, HO1.out, HO2.out])
          simp only [Option.getD_some, Option.isSome_some]
          go_wp2
          have hbF := ((((HX.out.set 0 (.int .i64 2)).set 1 (.string ⟨y.toArray⟩)).set 2 (.int .i64 v)).set 3 (.string (ba d)))
          unfold Row at hbF
          exact bodyPost_ret (v := .tuple #[.agg #[.int .i64 2, .string ⟨y.toArray⟩, .int .i64 v, .string (ba d)], .bool true]) (by simp [results, Tryd.results53, go_sem, World.cell?, hbF]) rfl (co_some HR.out (HB.out.setCell (Nat.le_refl _) _ |>.setCell (Nat.le_refl _) _ |>.setCell (Nat.le_refl _) _ |>.setCell (Nat.le_refl _) _))
    have n1k : (x == [112, 117, 116]) = false := by rw [beq_eq_false_iff_ne]; exact hx
    have n1n : ¬ x = [112, 117, 116] := hx
    have HR0 := rp_4 y z u hx
    clear HLE hx
    have HR := Lib.hid HR0
    clear HR0 HT
    obtain ⟨w8, hw8⟩ : ∃ w8, w.alloc (.cells #[.int .i64 0, .string ⟨#[]⟩, .int .i64 0, .string ⟨#[]⟩] 38) = w8 := ⟨_, rfl⟩
    rw [hw8] at HX HB0
    have HPI := Lib.hid (HPI.out.keep HB0.out)
    replace p0 := HPI.out.cell 0 (by simp)
    replace p1 := HPI.out.cell 1 (by simp)
    replace p2 := HPI.out.cell 2 (by simp)
    replace p3 := HPI.out.cell 3 (by simp)
    simp [encS] at p0 p1 p2 p3
    have y0 := HX.out.cell (j := 0) (by simp)
    have y1 := HX.out.cell (j := 1) (by simp)
    have y2 := HX.out.cell (j := 2) (by simp)
    have y3 := HX.out.cell (j := 3) (by simp)
    have f0 := HX.out.free 0
    have f1 := HX.out.free 1
    have f2 := HX.out.free 2
    have f3 := HX.out.free 3
    simp at y0 y1 y2 y3
    go_enter Tryd.func53, Tryd.ntmps53
    go_wp2
    have hbF := ((((HX.out.set 0 (.int .i64 0)).set 1 (.string ⟨#[]⟩)).set 2 (.int .i64 0)).set 3 (.string ⟨#[]⟩))
    unfold Row at hbF
    exact bodyPost_ret (v := .tuple #[.agg #[.int .i64 0, .string ⟨#[]⟩, .int .i64 0, .string ⟨#[]⟩], .bool false]) (by simp [results, Tryd.results53, go_sem, World.cell?, hbF]) rfl (co_none HR.out (HB0.out.setCell (Nat.le_refl _) _ |>.setCell (Nat.le_refl _) _ |>.setCell (Nat.le_refl _) _ |>.setCell (Nat.le_refl _) _))
  have e3 : ((n : Int) == 3) = false := by rw [beq_eq_false_iff_ne]; omega
  have e4 : ((n : Int) == 4) = false := by rw [beq_eq_false_iff_ne]; omega
  have HR0 := rp_n (P := P) (by omega) (by omega)
  clear HLE
  have HX := Lib.hid (Row.new w 38 #[.int .i64 0, .string ⟨#[]⟩, .int .i64 0, .string ⟨#[]⟩])
  have HB0 := Lib.hid (below_alloc (Below.refl w.heap.size w) (.cells #[.int .i64 0, .string ⟨#[]⟩, .int .i64 0, .string ⟨#[]⟩] 38))
  have HT := Lib.hid (HT.out.keep HB0.out)
  have HR := Lib.hid HR0
  clear HR0 HT HPI
  obtain ⟨w8, hw8⟩ : ∃ w8, w.alloc (.cells #[.int .i64 0, .string ⟨#[]⟩, .int .i64 0, .string ⟨#[]⟩] 38) = w8 := ⟨_, rfl⟩
  rw [hw8] at HX HB0
  have y0 := HX.out.cell (j := 0) (by simp)
  have y1 := HX.out.cell (j := 1) (by simp)
  have y2 := HX.out.cell (j := 2) (by simp)
  have y3 := HX.out.cell (j := 3) (by simp)
  have f0 := HX.out.free 0
  have f1 := HX.out.free 1
  have f2 := HX.out.free 2
  have f3 := HX.out.free 3
  simp at y0 y1 y2 y3
  go_enter Tryd.func53, Tryd.ntmps53
  go_wp2
  have hbF := ((((HX.out.set 0 (.int .i64 0)).set 1 (.string ⟨#[]⟩)).set 2 (.int .i64 0)).set 3 (.string ⟨#[]⟩))
  unfold Row at hbF
  exact bodyPost_ret (v := .tuple #[.agg #[.int .i64 0, .string ⟨#[]⟩, .int .i64 0, .string ⟨#[]⟩], .bool false]) (by simp [results, Tryd.results53, go_sem, World.cell?, hbF]) rfl (co_none HR.out (HB0.out.setCell (Nat.le_refl _) _ |>.setCell (Nat.le_refl _) _ |>.setCell (Nat.le_refl _) _ |>.setCell (Nat.le_refl _) _))
end Go.Proofs.YtcmbaclkfnecbaaDoor
