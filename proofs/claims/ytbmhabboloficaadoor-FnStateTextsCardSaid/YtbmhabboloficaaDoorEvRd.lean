
/- An event read out of a text: what the program does. Only new blocks are made. -/
import Derived.Test.YtbmhabboloficaaDoorEvTx
import Derived.Test.YtbmhabboloficaaDoorTabsER
import Derived.Test.YtbmhabboloficaaDoorNumP
import Derived.Test.YtbmhabboloficaaDoorLCut
namespace Go.Proofs.YtbmhabboloficaaDoor
open Go.ChangeShapes Go.WideShapes Go.ChangeAt Go.RowKit
set_option linter.unusedVariables false
set_option maxRecDepth 100000

theorem evName_no {a : ByteArray} (h1 : a ≠ evW 1) (h2 : a ≠ evW 2) (h3 : a ≠ evW 3) : evName a = 0 := by unfold evName; rw [if_neg h1, if_neg h2, if_neg h3]
def SameInt (x : Int) (w : World) (e : Ending) (w' : World) : Prop := e = .returned (.int .i64 x) ∧ w = w'
theorem ret_i64 {a b : Int} (h : a = b) : Ending.returned (.int .i64 a) = .returned (.int .i64 b) := by rw [h]
theorem ba_eqv {a b : ByteArray} (h : a = b) : (a.toList == b.toList) = true := by rw [h]; simp
theorem ba_nev {a b : ByteArray} (h : ¬ a = b) : (a.toList == b.toList) = false := by
  rw [beq_eq_false_iff_ne]
  intro e
  rw [ByteArray.toList_eq, ByteArray.toList_eq] at e
  exact h (ba_eq e)
theorem ba_some {s : ByteArray} (h : 0 < s.size) : s.toList.isEmpty = false := by
  rw [ByteArray.toList_eq]
  cases hs : s.data.toList with
  | nil =>
    have : s.size = 0 := by rw [← ByteArray.size_data, ← Array.length_toList, hs]; rfl
    omega
  | cons x t => rfl
theorem ba_nil {s : ByteArray} (h : s.size = 0) : s.toList.isEmpty = true := by
  rw [ByteArray.toList_eq]
  have : s.data.toList = [] := List.eq_nil_of_length_eq_zero (by rw [Array.length_toList]; exact h)
  rw [this]; rfl

set_option maxHeartbeats 4000000 in
theorem eventnamed_any (a : ByteArray) (w : World) (hT : TabsEv w) : Calls Tryd.prog 64 #[.string a] w (SameInt (evName a) w) := by
  have HT := Lib.hid hT
  clear hT
  go_enter Tryd.func64, Tryd.ntmps64
  go_wp2
  go_loop [3] (fun i => ∃ k : Int, (k = 1 ∨ k = 2 ∨ k = 3 ∨ k = 4) ∧ i = .int .i64 k ∧ Hid (∀ j : Int, 1 ≤ j → j < k → a ≠ evW j)) (fun i => (4 - intOf i).toNat)
  case atStart => exact ⟨1, by omega, rfl, Lib.hid fun j h1 h2 => by omega⟩
  case round =>
    obtain ⟨k, hk, rfl, HN⟩ := hrel
    rcases hk with rfl | rfl | rfl | rfl
    · obtain ⟨W, hW⟩ : ∃ W, evW 1 = W := ⟨_, rfl⟩
      have t0 : w.cell? ⟨0, 1, none⟩ = some (.string W) := by rw [← hW]; exact HT.out.words.cell 1 (by decide)
      have HWW := Lib.hid hW
      clear hW
      by_cases hq : W = a
      · have HR := Lib.hid (show evName a = 1 by rw [← hq, ← HWW.out]; decide)
        have h1 : (W.toList == a.toList) = true := ba_eqv hq
        clear hq HN
        go_wp2
        go_ret
        exact ⟨ret_i64 HR.out.symm, rfl⟩
      · have HN := Lib.hid (show ∀ j : Int, 1 ≤ j → j < 1 + 1 → a ≠ evW j from fun j h1 h2 => by
          by_cases hj : j = 1
          · subst hj; exact fun e => hq (HWW.out.symm.trans e.symm)
          · exact HN.out j h1 (by omega))
        have h1 : (W.toList == a.toList) = false := ba_nev hq
        clear hq
        go_wp2
        go_round
        case rel => exact ⟨1 + 1, by omega, rfl, HN⟩
        case measure => simp [intOf]
    · obtain ⟨W, hW⟩ : ∃ W, evW 2 = W := ⟨_, rfl⟩
      have t0 : w.cell? ⟨0, 2, none⟩ = some (.string W) := by rw [← hW]; exact HT.out.words.cell 2 (by decide)
      have HWW := Lib.hid hW
      clear hW
      by_cases hq : W = a
      · have HR := Lib.hid (show evName a = 2 by rw [← hq, ← HWW.out]; decide)
        have h1 : (W.toList == a.toList) = true := ba_eqv hq
        clear hq HN
        go_wp2
        go_ret
        exact ⟨ret_i64 HR.out.symm, rfl⟩
      · have HN := Lib.hid (show ∀ j : Int, 1 ≤ j → j < 2 + 1 → a ≠ evW j from fun j h1 h2 => by
          by_cases hj : j = 2
          · subst hj; exact fun e => hq (HWW.out.symm.trans e.symm)
          · exact HN.out j h1 (by omega))
        have h1 : (W.toList == a.toList) = false := ba_nev hq
        clear hq
        go_wp2
        go_round
        case rel => exact ⟨2 + 1, by omega, rfl, HN⟩
        case measure => simp [intOf]
    · obtain ⟨W, hW⟩ : ∃ W, evW 3 = W := ⟨_, rfl⟩
      have t0 : w.cell? ⟨0, 3, none⟩ = some (.string W) := by rw [← hW]; exact HT.out.words.cell 3 (by decide)
      have HWW := Lib.hid hW
      clear hW
      by_cases hq : W = a
      · have HR := Lib.hid (show evName a = 3 by rw [← hq, ← HWW.out]; decide)
        have h1 : (W.toList == a.toList) = true := ba_eqv hq
        clear hq HN
        go_wp2
        go_ret
        exact ⟨ret_i64 HR.out.symm, rfl⟩
      · have HN := Lib.hid (show ∀ j : Int, 1 ≤ j → j < 3 + 1 → a ≠ evW j from fun j h1 h2 => by
          by_cases hj : j = 3
          · subst hj; exact fun e => hq (HWW.out.symm.trans e.symm)
          · exact HN.out j h1 (by omega))
        have h1 : (W.toList == a.toList) = false := ba_nev hq
        clear hq
        go_wp2
        go_round
        case rel => exact ⟨3 + 1, by omega, rfl, HN⟩
        case measure => simp [intOf]
    · have HR := Lib.hid (evName_no (HN.out 1 (by omega) (by omega)) (HN.out 2 (by omega) (by omega)) (HN.out 3 (by omega) (by omega)))
      clear HN
      go_wp2
      go_ret
      exact ⟨ret_i64 HR.out.symm, rfl⟩

def reV : Option (Int × Int) → Value
  | some (a, e) => .tuple #[.agg #[.int .i64 a, .int .i64 e], .bool true]
  | none => .tuple #[.agg #[.int .i64 0, .int .i64 0], .bool false]
def MadeRE (o : Option (Int × Int)) (w : World) (e : Ending) (w' : World) : Prop := e = .returned (reV o) ∧ Below w.heap.size w w'
theorem re_none {o : Option (Int × Int)} {w w' : World} (h : o = none) (hB : Below w.heap.size w w') : MadeRE o w (.returned (.tuple #[.agg #[.int .i64 0, .int .i64 0], .bool false])) w' := by
  subst h; exact ⟨rfl, hB⟩
theorem re_some {o : Option (Int × Int)} {a e : Int} {w w' : World} (h : o = some (a, e)) (hB : Below w.heap.size w w') : MadeRE o w (.returned (.tuple #[.agg #[.int .i64 a, .int .i64 e], .bool true])) w' := by
  subst h; exact ⟨rfl, hB⟩

set_option maxHeartbeats 4000000 in
theorem readevent_any (s : ByteArray) (w : World) (hs : s.size ≤ 1048576) (hT : TabsER w) : Calls Tryd.prog 19 #[.string s] w (MadeRE (revent s) w) := by
  have HX := Lib.hid (Row.new w 25 #[.int .i64 0, .int .i64 0])
  have HB := Lib.hid (below_alloc (Below.refl w.heap.size w) (.cells #[.int .i64 0, .int .i64 0] 25))
  have HT := Lib.hid (hT.keep HB.out)
  have HSZ := Lib.hid hs
  clear hT
  go_enter Tryd.func19, Tryd.ntmps19
  go_wp2_with fail
  refine (stdcut_any s 32 _ (by unfold maxLen; omega)).mono ?_
  rintro x w1 ⟨a, r, b, rfl, hB, hr, ha, ht, hf⟩
  have HX := Lib.hid (HX.out.keep hB)
  have HT := Lib.hid (HT.out.keep hB)
  have HB := Lib.hid (below_via HB.out hB)
  have HG := Lib.hid (guess_way ha ht hf)
  have hr2 : r.size ≤ 1048576 := Nat.le_trans hr hs
  clear hB hr ha ht hf
  go_wp2_with fail
  refine (decimalof_any r _ hr2 HT.out.num).mono ?_
  obtain ⟨v, hv⟩ : ∃ v, (numD r.data.toList).getD 0 = v := ⟨_, rfl⟩
  obtain ⟨q, hq⟩ : ∃ q, (numD r.data.toList).isSome = q := ⟨_, rfl⟩
  rw [hv] at HG
  rintro x w2 ⟨hx, hB⟩
  rw [hv, hq] at hx
  subst hx
  have HX := Lib.hid (HX.out.keep hB)
  have HT := Lib.hid (HT.out.keep hB)
  have HB := Lib.hid (below_via HB.out hB)
  clear hB hr2 hv hq
  go_wp2_with fail
  refine (eventnamed_any a _ HT.out.ev).mono ?_
  obtain ⟨k, hk⟩ : ∃ k, evName a = k := ⟨_, rfl⟩
  rw [hk] at HG ⊢
  rintro x w3 ⟨rfl, rfl⟩
  clear hk
  have HX := Lib.hid (HX.out.alloc (.cells #[.int .i64 k, .int .i64 v] 25))
  have HY := Lib.hid (Row.new w2 25 #[.int .i64 k, .int .i64 v])
  have HT := Lib.hid (HT.out.keep (below_alloc (Below.refl _ _) (.cells #[.int .i64 k, .int .i64 v] 25)))
  have HB := Lib.hid (below_alloc HB.out (.cells #[.int .i64 k, .int .i64 v] 25))
  go_wp2_with fail
  refine (eventtext_any k v _ HT.out.ev).mono ?_
  obtain ⟨T, hT⟩ : ∃ T, evTx k v = T := ⟨_, rfl⟩
  rw [hT] at HG ⊢
  rintro x w4 ⟨rfl, hB⟩
  have HX := Lib.hid (HX.out.keep hB)
  have HY := Lib.hid (HY.out.keep hB)
  have HB := Lib.hid (below_via HB.out hB)
  have y0 := HX.out.cell (j := 0) (by simp)
  have y1 := HX.out.cell (j := 1) (by simp)
  have f0 := HX.out.free 0
  have f1 := HX.out.free 1
  have z0 := HY.out.cell (j := 0) (by simp)
  have z1 := HY.out.cell (j := 1) (by simp)
  simp at y0 y1 z0 z1
  clear hB hT
  by_cases hgood : T = s ∧ 0 < s.size
  · have HR := Lib.hid (HG.out.1 hgood)
    have t1 := ba_some (s := T) (by rw [hgood.1]; exact hgood.2)
    have t2 := ba_eqv hgood.1
    clear hgood
    go_wp2
    have hbF := (HX.out.set 0 (.int .i64 k)).set 1 (.int .i64 v)
    unfold Row at hbF
    exact bodyPost_ret (v := .tuple #[.agg #[.int .i64 k, .int .i64 v], .bool true]) (by simp [results, Tryd.results19, go_sem, World.cell?, hbF]) rfl (re_some HR.out ((HB.out.setCell (Nat.le_refl _) _).setCell (Nat.le_refl _) _))
  · have HR := Lib.hid (HG.out.2 hgood)
    by_cases h0 : T.size = 0
    · have t1 := ba_nil h0
      clear hgood h0
      go_wp2
      have hbF := (HX.out.set 0 (.int .i64 0)).set 1 (.int .i64 0)
      unfold Row at hbF
      exact bodyPost_ret (v := .tuple #[.agg #[.int .i64 0, .int .i64 0], .bool false]) (by simp [results, Tryd.results19, go_sem, World.cell?, hbF]) rfl (re_none HR.out ((HB.out.setCell (Nat.le_refl _) _).setCell (Nat.le_refl _) _))
    · have t1 := ba_some (s := T) (by omega)
      have t2 : (T.toList == s.toList) = false := ba_nev (fun e => hgood ⟨e, by rw [← e]; omega⟩)
      clear hgood h0
      go_wp2
      have hbF := (HX.out.set 0 (.int .i64 0)).set 1 (.int .i64 0)
      unfold Row at hbF
      exact bodyPost_ret (v := .tuple #[.agg #[.int .i64 0, .int .i64 0], .bool false]) (by simp [results, Tryd.results19, go_sem, World.cell?, hbF]) rfl (re_none HR.out ((HB.out.setCell (Nat.le_refl _) _).setCell (Nat.le_refl _) _))
end Go.Proofs.YtbmhabboloficaaDoor
