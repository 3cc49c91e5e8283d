
/- An event read out of a text: what the model does; the exact law on ReadEvent, walked. Only new blocks are made. -/
import Derived.Test.YtbmhabboloficaaDoorEvRd
namespace Go.Proofs.YtbmhabboloficaaDoor
open Go.ChangeShapes Go.WideShapes Go.ChangeAt Go.RowKit
set_option linter.unusedVariables false
set_option maxRecDepth 100000

theorem lit_yes {a : ByteArray} {l : List UInt8} (h : a = ⟨l.toArray⟩) : (a.toList == l) = true := by rw [ByteArray.toList_eq, h]; simp
theorem lit_no {a : ByteArray} {l : List UInt8} (h : ¬ a = ⟨l.toArray⟩) : (a.toList == l) = false := by
  rw [ByteArray.toList_eq, beq_eq_false_iff_ne]
  intro e
  exact h (ba_eq (by rw [e]))
theorem evName_is {a : ByteArray} {k : Int} (hk : k = 1 ∨ k = 2 ∨ k = 3) (h : a = evW k) : evName a = k := by rw [h]; exact evName_W hk

set_option maxHeartbeats 8000000 in
theorem sreadevent_any (s : ByteArray) (w : World) (hs : s.size ≤ 1048576) : Calls Tryd.prog 18 #[.string s] w (MadeRE (revent s) w) := by
  have HX := Lib.hid (Row.new w 25 #[.int .i64 0, .int .i64 0])
  have HB := Lib.hid (below_alloc (Below.refl w.heap.size w) (.cells #[.int .i64 0, .int .i64 0] 25))
  by_cases h20 : (20 : Int) < (s.size : Int)
  · have HR := Lib.hid (revent_long (s := s) (by omega))
    go_enter Tryd.func18, Tryd.ntmps18
    go_wp2
    exact bodyPost_ret (v := .tuple #[.agg #[.int .i64 0, .int .i64 0], .bool false]) (by simp [results, Tryd.results18, go_sem]) rfl (re_none HR.out HB.out)
  go_enter Tryd.func18, Tryd.ntmps18
  go_wp2_with fail
  refine (cut_any s 32 _ (by unfold maxLen; omega)).mono ?_
  rintro x w1 ⟨a, r, b, rfl, hB, hr, ha, ht, hf⟩
  have HG := Lib.hid (guess_way ha ht hf)
  have hr2 : r.size ≤ maxLen := by unfold maxLen; omega
  have HX := Lib.hid ((HX.out.keep hB).alloc (.cells #[.int .i64 0, .int .i64 0] 25))
  have HY := Lib.hid (Row.new w1 25 #[.int .i64 0, .int .i64 0])
  have HB := Lib.hid (below_alloc (below_via HB.out hB) (.cells #[.int .i64 0, .int .i64 0] 25))
  have HLE := Lib.hid (Nat.le_trans (Nat.le_of_lt (Nat.lt_succ_self _)) (Nat.le_trans (by simp) hB.size) : w.heap.size ≤ w1.heap.size)
  have HNE := Lib.hid (show w.heap.size ≠ w1.heap.size from Nat.ne_of_lt (Nat.lt_of_lt_of_le (by simp) hB.size))
  clear hB hr ha ht hf
  go_wp2_with fail
  refine (l1num_any r _ hr2).mono ?_
  obtain ⟨v, hv⟩ : ∃ v, (numD r.data.toList).getD 0 = v := ⟨_, rfl⟩
  obtain ⟨q, hq⟩ : ∃ q, (numD r.data.toList).isSome = q := ⟨_, rfl⟩
  rw [hv] at HG
  rintro x w2 ⟨hx, hB⟩
  rw [hv, hq] at hx
  subst hx
  have HX := Lib.hid (HX.out.keep hB)
  have HY := Lib.hid (HY.out.keep hB)
  have HB := Lib.hid (below_via HB.out hB)
  have g1 := HY.out.cell (j := 1) (by simp)
  have f1 := HY.out.free 1
  have g0 := HY.out.cell (j := 0) (by simp)
  have f0 := HY.out.free 0
  simp at g0 g1
  clear hB hr2 hv hq
  by_cases e1 : a = evW 1
  · have c1 : (a.toList == [115, 116, 101, 112]) = true := lit_yes e1
    rw [evName_is (by omega) e1] at HG
    clear e1
    have HX := Lib.hid ((HX.out.other HNE.out 1 (.int .i64 v)))
    have HY := Lib.hid ((HY.out.set 1 (.int .i64 v)))
    have HB := Lib.hid (HB.out.setCell (p := ⟨w1.heap.size, 1, none⟩) HLE.out (.int .i64 v))
    have HX := Lib.hid ((HX.out.other HNE.out 0 (.int .i64 1)))
    have HY := Lib.hid ((HY.out.set 0 (.int .i64 1)))
    have HB := Lib.hid (HB.out.setCell (p := ⟨w1.heap.size, 0, none⟩) HLE.out (.int .i64 1))
    by_cases h0 : s.size = 0
    · have HR := Lib.hid (HG.out.2 (fun e => by omega))
      have t1 := ba_nil h0
      have y0 := HX.out.cell (j := 0) (by simp)
      have y1 := HX.out.cell (j := 1) (by simp)
      have e0 := HX.out.free 0
      have e1 := HX.out.free 1
      simp at y0 y1
      go_wp2
      have hbF := (HX.out.set 0 (.int .i64 0)).set 1 (.int .i64 0)
      unfold Row at hbF
      exact bodyPost_ret (v := .tuple #[.agg #[.int .i64 0, .int .i64 0], .bool false]) (by simp [results, Tryd.results18, go_sem, World.cell?, hbF]) rfl (re_none HR.out ((HB.out.setCell (Nat.le_refl _) _).setCell (Nat.le_refl _) _))
    have t1 := ba_some (s := s) (by omega)
    go_wp2_with fail
    clear g0 g1 f0 f1
    refine (seventtext_any 1 v _).mono ?_
    obtain ⟨T, hT⟩ : ∃ T, evTx 1 v = T := ⟨_, rfl⟩
    rw [hT] at HG ⊢
    rintro x w4 ⟨rfl, hB⟩
    have HX := Lib.hid (HX.out.keep hB)
    have HY := Lib.hid (HY.out.keep hB)
    have HB := Lib.hid (below_via HB.out hB)
    have y0 := HX.out.cell (j := 0) (by simp)
    have y1 := HX.out.cell (j := 1) (by simp)
    have f0 := HX.out.free 0
    have f1 := HX.out.free 1
    have z0 := HY.out.cell (j := 0) (by simp)
    have z1 := HY.out.cell (j := 1) (by simp)
    simp at y0 y1 z0 z1
    clear hB hT
    by_cases hgood : T = s
    · have HR := Lib.hid (HG.out.1 ⟨hgood, by omega⟩)
      have t2 := ba_eqv hgood
      clear hgood
      go_wp2
      have hbF := (HX.out.set 0 (.int .i64 1)).set 1 (.int .i64 v)
      unfold Row at hbF
      exact bodyPost_ret (v := .tuple #[.agg #[.int .i64 1, .int .i64 v], .bool true]) (by simp [results, Tryd.results18, go_sem, World.cell?, hbF]) rfl (re_some HR.out ((HB.out.setCell (Nat.le_refl _) _).setCell (Nat.le_refl _) _))
    · have HR := Lib.hid (HG.out.2 (fun e => hgood e.1))
      have t2 := ba_nev hgood
      clear hgood
      go_wp2
      have hbF := (HX.out.set 0 (.int .i64 0)).set 1 (.int .i64 0)
      unfold Row at hbF
      exact bodyPost_ret (v := .tuple #[.agg #[.int .i64 0, .int .i64 0], .bool false]) (by simp [results, Tryd.results18, go_sem, World.cell?, hbF]) rfl (re_none HR.out ((HB.out.setCell (Nat.le_refl _) _).setCell (Nat.le_refl _) _))
  have c1 : (a.toList == [115, 116, 101, 112]) = false := lit_no e1
  by_cases e2 : a = evW 2
  · have c2 : (a.toList == [99, 114, 97, 115, 104]) = true := lit_yes e2
    rw [evName_is (by omega) e2] at HG
    clear e2
    have HX := Lib.hid ((HX.out.other HNE.out 1 (.int .i64 v)))
    have HY := Lib.hid ((HY.out.set 1 (.int .i64 v)))
    have HB := Lib.hid (HB.out.setCell (p := ⟨w1.heap.size, 1, none⟩) HLE.out (.int .i64 v))
    have HX := Lib.hid ((HX.out.other HNE.out 0 (.int .i64 2)))
    have HY := Lib.hid ((HY.out.set 0 (.int .i64 2)))
    have HB := Lib.hid (HB.out.setCell (p := ⟨w1.heap.size, 0, none⟩) HLE.out (.int .i64 2))
    by_cases h0 : s.size = 0
    · have HR := Lib.hid (HG.out.2 (fun e => by omega))
      have t1 := ba_nil h0
      have y0 := HX.out.cell (j := 0) (by simp)
      have y1 := HX.out.cell (j := 1) (by simp)
      have e0 := HX.out.free 0
      have e1 := HX.out.free 1
      simp at y0 y1
      go_wp2
      have hbF := (HX.out.set 0 (.int .i64 0)).set 1 (.int .i64 0)
      unfold Row at hbF
      exact bodyPost_ret (v := .tuple #[.agg #[.int .i64 0, .int .i64 0], .bool false]) (by simp [results, Tryd.results18, go_sem, World.cell?, hbF]) rfl (re_none HR.out ((HB.out.setCell (Nat.le_refl _) _).setCell (Nat.le_refl _) _))
    have t1 := ba_some (s := s) (by omega)
    go_wp2_with fail
    clear g0 g1 f0 f1
    refine (seventtext_any 2 v _).mono ?_
    obtain ⟨T, hT⟩ : ∃ T, evTx 2 v = T := ⟨_, rfl⟩
    rw [hT] at HG ⊢
    rintro x w4 ⟨rfl, hB⟩
    have HX := Lib.hid (HX.out.keep hB)
    have HY := Lib.hid (HY.out.keep hB)
    have HB := Lib.hid (below_via HB.out hB)
    have y0 := HX.out.cell (j := 0) (by simp)
    have y1 := HX.out.cell (j := 1) (by simp)
    have f0 := HX.out.free 0
    have f1 := HX.out.free 1
    have z0 := HY.out.cell (j := 0) (by simp)
    have z1 := HY.out.cell (j := 1) (by simp)
    simp at y0 y1 z0 z1
    clear hB hT
    by_cases hgood : T = s
    · have HR := Lib.hid (HG.out.1 ⟨hgood, by omega⟩)
      have t2 := ba_eqv hgood
      clear hgood
      go_wp2
      have hbF := (HX.out.set 0 (.int .i64 2)).set 1 (.int .i64 v)
      unfold Row at hbF
      exact bodyPost_ret (v := .tuple #[.agg #[.int .i64 2, .int .i64 v], .bool true]) (by simp [results, Tryd.results18, go_sem, World.cell?, hbF]) rfl (re_some HR.out ((HB.out.setCell (Nat.le_refl _) _).setCell (Nat.le_refl _) _))
    · have HR := Lib.hid (HG.out.2 (fun e => hgood e.1))
      have t2 := ba_nev hgood
      clear hgood
      go_wp2
      have hbF := (HX.out.set 0 (.int .i64 0)).set 1 (.int .i64 0)
      unfold Row at hbF
      exact bodyPost_ret (v := .tuple #[.agg #[.int .i64 0, .int .i64 0], .bool false]) (by simp [results, Tryd.results18, go_sem, World.cell?, hbF]) rfl (re_none HR.out ((HB.out.setCell (Nat.le_refl _) _).setCell (Nat.le_refl _) _))
  have c2 : (a.toList == [99, 114, 97, 115, 104]) = false := lit_no e2
  by_cases e3 : a = evW 3
  · have c3 : (a.toList == [116, 105, 99, 107]) = true := lit_yes e3
    rw [evName_is (by omega) e3] at HG
    clear e3
    have HX := Lib.hid ((HX.out.other HNE.out 1 (.int .i64 v)))
    have HY := Lib.hid ((HY.out.set 1 (.int .i64 v)))
    have HB := Lib.hid (HB.out.setCell (p := ⟨w1.heap.size, 1, none⟩) HLE.out (.int .i64 v))
    have HX := Lib.hid ((HX.out.other HNE.out 0 (.int .i64 3)))
    have HY := Lib.hid ((HY.out.set 0 (.int .i64 3)))
    have HB := Lib.hid (HB.out.setCell (p := ⟨w1.heap.size, 0, none⟩) HLE.out (.int .i64 3))
    by_cases h0 : s.size = 0
    · have HR := Lib.hid (HG.out.2 (fun e => by omega))
      have t1 := ba_nil h0
      have y0 := HX.out.cell (j := 0) (by simp)
      have y1 := HX.out.cell (j := 1) (by simp)
      have e0 := HX.out.free 0
      have e1 := HX.out.free 1
      simp at y0 y1
      go_wp2
      have hbF := (HX.out.set 0 (.int .i64 0)).set 1 (.int .i64 0)
      unfold Row at hbF
      exact bodyPost_ret (v := .tuple #[.agg #[.int .i64 0, .int .i64 0], .bool false]) (by simp [results, Tryd.results18, go_sem, World.cell?, hbF]) rfl (re_none HR.out ((HB.out.setCell (Nat.le_refl _) _).setCell (Nat.le_refl _) _))
    have t1 := ba_some (s := s) (by omega)
    go_wp2_with fail
    clear g0 g1 f0 f1
    refine (seventtext_any 3 v _).mono ?_
    obtain ⟨T, hT⟩ : ∃ T, evTx 3 v = T := ⟨_, rfl⟩
    rw [hT] at HG ⊢
    rintro x w4 ⟨rfl, hB⟩
    have HX := Lib.hid (HX.out.keep hB)
    have HY := Lib.hid (HY.out.keep hB)
    have HB := Lib.hid (below_via HB.out hB)
    have y0 := HX.out.cell (j := 0) (by simp)
    have y1 := HX.out.cell (j := 1) (by simp)
    have f0 := HX.out.free 0
    have f1 := HX.out.free 1
    have z0 := HY.out.cell (j := 0) (by simp)
    have z1 := HY.out.cell (j := 1) (by simp)
    simp at y0 y1 z0 z1
    clear hB hT
    by_cases hgood : T = s
    · have HR := Lib.hid (HG.out.1 ⟨hgood, by omega⟩)
      have t2 := ba_eqv hgood
      clear hgood
      go_wp2
      have hbF := (HX.out.set 0 (.int .i64 3)).set 1 (.int .i64 v)
      unfold Row at hbF
      exact bodyPost_ret (v := .tuple #[.agg #[.int .i64 3, .int .i64 v], .bool true]) (by simp [results, Tryd.results18, go_sem, World.cell?, hbF]) rfl (re_some HR.out ((HB.out.setCell (Nat.le_refl _) _).setCell (Nat.le_refl _) _))
    · have HR := Lib.hid (HG.out.2 (fun e => hgood e.1))
      have t2 := ba_nev hgood
      clear hgood
      go_wp2
      have hbF := (HX.out.set 0 (.int .i64 0)).set 1 (.int .i64 0)
      unfold Row at hbF
      exact bodyPost_ret (v := .tuple #[.agg #[.int .i64 0, .int .i64 0], .bool false]) (by simp [results, Tryd.results18, go_sem, World.cell?, hbF]) rfl (re_none HR.out ((HB.out.setCell (Nat.le_refl _) _).setCell (Nat.le_refl _) _))
  have c3 : (a.toList == [116, 105, 99, 107]) = false := lit_no e3
  rw [evName_no e1 e2 e3] at HG
  clear e1 e2 e3
  have HX := Lib.hid ((HX.out.other HNE.out 1 (.int .i64 v)))
  have HY := Lib.hid ((HY.out.set 1 (.int .i64 v)))
  have HB := Lib.hid (HB.out.setCell (p := ⟨w1.heap.size, 1, none⟩) HLE.out (.int .i64 v))
  by_cases h0 : s.size = 0
  · have HR := Lib.hid (HG.out.2 (fun e => by omega))
    have t1 := ba_nil h0
    have y0 := HX.out.cell (j := 0) (by simp)
    have y1 := HX.out.cell (j := 1) (by simp)
    have e0 := HX.out.free 0
    have e1 := HX.out.free 1
    simp at y0 y1
    go_wp2
    have hbF := (HX.out.set 0 (.int .i64 0)).set 1 (.int .i64 0)
    unfold Row at hbF
    exact bodyPost_ret (v := .tuple #[.agg #[.int .i64 0, .int .i64 0], .bool false]) (by simp [results, Tryd.results18, go_sem, World.cell?, hbF]) rfl (re_none HR.out ((HB.out.setCell (Nat.le_refl _) _).setCell (Nat.le_refl _) _))
  have t1 := ba_some (s := s) (by omega)
  go_wp2_with fail
  clear g0 g1 f0 f1
  refine (seventtext_any 0 v _).mono ?_
  obtain ⟨T, hT⟩ : ∃ T, evTx 0 v = T := ⟨_, rfl⟩
  rw [hT] at HG ⊢
  rintro x w4 ⟨rfl, hB⟩
  have HX := Lib.hid (HX.out.keep hB)
  have HY := Lib.hid (HY.out.keep hB)
  have HB := Lib.hid (below_via HB.out hB)
  have y0 := HX.out.cell (j := 0) (by simp)
  have y1 := HX.out.cell (j := 1) (by simp)
  have f0 := HX.out.free 0
  have f1 := HX.out.free 1
  have z0 := HY.out.cell (j := 0) (by simp)
  have z1 := HY.out.cell (j := 1) (by simp)
  simp at y0 y1 z0 z1
  clear hB hT
  by_cases hgood : T = s
  · have HR := Lib.hid (HG.out.1 ⟨hgood, by omega⟩)
    have t2 := ba_eqv hgood
    clear hgood
    go_wp2
    have hbF := (HX.out.set 0 (.int .i64 0)).set 1 (.int .i64 v)
    unfold Row at hbF
    exact bodyPost_ret (v := .tuple #[.agg #[.int .i64 0, .int .i64 v], .bool true]) (by simp [results, Tryd.results18, go_sem, World.cell?, hbF]) rfl (re_some HR.out ((HB.out.setCell (Nat.le_refl _) _).setCell (Nat.le_refl _) _))
  · have HR := Lib.hid (HG.out.2 (fun e => hgood e.1))
    have t2 := ba_nev hgood
    clear hgood
    go_wp2
    have hbF := (HX.out.set 0 (.int .i64 0)).set 1 (.int .i64 0)
    unfold Row at hbF
    exact bodyPost_ret (v := .tuple #[.agg #[.int .i64 0, .int .i64 0], .bool false]) (by simp [results, Tryd.results18, go_sem, World.cell?, hbF]) rfl (re_none HR.out ((HB.out.setCell (Nat.le_refl _) _).setCell (Nat.le_refl _) _))

theorem eqevent_same (a e : Int) (w : World) : Calls Tryd.prog 20 #[.agg #[.int .i64 a, .int .i64 e], .agg #[.int .i64 a, .int .i64 e]] w (MadeBool true w) := by
  go_enter Tryd.func20, Tryd.ntmps20
  go_wp2
  go_ret
  exact ⟨rfl, below_alloc (below_alloc (Below.refl _ _) _) _⟩
def reA : Option (Int × Int) → Int × Int
  | some x => x
  | none => (0, 0)
theorem reV_form (o : Option (Int × Int)) : reV o = .tuple #[.agg #[.int .i64 (reA o).1, .int .i64 (reA o).2], .bool o.isSome] := by
  cases o with
  | none => rfl
  | some x => obtain ⟨a, e⟩ := x; rfl

set_option maxHeartbeats 4000000 in
theorem fnExactReadEvent_walk (s : ByteArray) (w : World) (hs : s.size ≤ maxLen) (hT : TabsER w) :
    Calls Tryd.prog 4 #[.string s] w fun x w' => x = .returned (.bool true) ∧ Below w.heap.size w w' := by
  unfold maxLen at hs
  by_cases hbig : (1048576 : Int) < (s.size : Int)
  · go_enter Tryd.func4, Tryd.ntmps4
    go_wp2
    go_ret
    exact ⟨rfl, Below.refl _ _⟩
  have HT := Lib.hid hT
  obtain ⟨o, ho⟩ : ∃ o, revent s = o := ⟨_, rfl⟩
  have HO := Lib.hid ho
  have HF := Lib.hid (reV_form o)
  obtain ⟨a, ha⟩ : ∃ a, (reA o).1 = a := ⟨_, rfl⟩
  obtain ⟨e, he⟩ : ∃ a, (reA o).2 = a := ⟨_, rfl⟩
  obtain ⟨b, hb⟩ : ∃ a, o.isSome = a := ⟨_, rfl⟩
  rw [ha, he, hb] at HF
  clear hT ho ha he hb
  go_enter Tryd.func4, Tryd.ntmps4
  go_wp2_with fail
  refine (sreadevent_any s _ (by omega)).mono ?_
  rw [HO.out]
  rintro x w1 ⟨hx, hB⟩
  rw [HF.out] at hx
  subst hx
  have HB := Lib.hid (below_alloc hB (.cells #[.int .i64 a, .int .i64 e] 25))
  have HX := Lib.hid (Row.new w1 25 #[.int .i64 a, .int .i64 e])
  clear hB
  go_wp2_with fail
  refine (readevent_any s _ (by omega) (HT.out.keep HB.out)).mono ?_
  rw [HO.out]
  rintro x w2 ⟨hx, hB⟩
  rw [HF.out] at hx
  subst hx
  have HX := Lib.hid ((HX.out.keep hB).alloc (.cells #[.int .i64 a, .int .i64 e] 25))
  have HB := Lib.hid (below_alloc (below_via HB.out hB) (.cells #[.int .i64 a, .int .i64 e] 25))
  have y0 := HX.out.cell (j := 0) (by simp)
  have y1 := HX.out.cell (j := 1) (by simp)
  simp at y0 y1
  have hne : w1.heap.size ≠ w2.heap.size := Nat.ne_of_lt (Nat.lt_of_lt_of_le (by simp) hB.size)
  clear hB
  go_wp2_with fail
  refine (eqevent_same a e _).mono ?_
  rintro x w3 ⟨rfl, hB⟩
  have HB := Lib.hid (below_via HB.out hB)
  clear hB y0 y1 hne
  cases b
  all_goals
    go_wp2
    go_ret
    exact ⟨rfl, HB.out⟩
end Go.Proofs.YtbmhabboloficaaDoor
