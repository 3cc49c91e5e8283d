
/- An instruction read of a word: what the program does. Only new blocks are made. -/
import Derived.Test.YthnlllbanfemaaaGreatDoorRProgM
import Derived.Test.YthnlllbanfemaaaGreatDoorCutPre
import Derived.Test.YthnlllbanfemaaaGreatDoorMg15
import Derived.Test.YthnlllbanfemaaaGreatDoorMg5
import Derived.Test.YthnlllbanfemaaaGreatDoorProgTP
import Derived.StillTailTactics
namespace Go.Proofs.YthnlllbanfemaaaGreatDoor
open Go.ChangeShapes Go.WideShapes Go.ChangeAt Go.RowKit
set_option linter.unusedVariables false
set_option maxRecDepth 100000

def txL (x : Nat) : List UInt8 := (textB x).data.toList
theorem ri_num {l r : List UInt8} {x : Nat} (hx : x = 1 ∨ x = 3) (h : l = txL x ++ r) : readLB l = (numD r).isSome ∧ readL l = ((x : Int), (numD r).getD 0, ByteArray.empty) := by
  rcases hx with rfl | rfl
  · obtain rfl : l = 102 :: r := h
    exact ⟨readB_f r, readL_f r⟩
  · obtain rfl : l = 110 :: r := h
    exact ⟨readB_n r, readL_n r⟩
theorem ri_text {l r : List UInt8} (h : l = txL 2 ++ r) : readLB l = true ∧ readL l = (2, 0, ⟨r.toArray⟩) := by
  obtain rfl : l = 116 :: 58 :: r := h
  exact ⟨readB_t r, readL_t r⟩
theorem ri_name {l : List UInt8} {x : Nat} (h4 : 4 ≤ x) (hx : x < 15) (h : l = txL x) : readLB l = true ∧ readL l = ((x : Int), 0, ByteArray.empty) := by
  obtain ⟨y, rfl⟩ : ∃ y, x = y + 4 := ⟨x - 4, by omega⟩
  subst h
  exact ⟨readB_nm (x := y) (by omega), readL_nm (x := y) (by omega)⟩
/-- The word is none of form x. -/
def NotAt (l : List UInt8) (x : Nat) : Prop := (x ≤ 3 → ∀ r, l ≠ txL x ++ r) ∧ (4 ≤ x → l ≠ txL x)
theorem ri_none {l : List UInt8} (h : ∀ j, 1 ≤ j → j < 15 → NotAt l j) : readLB l = false := by
  rcases form_ways l with ⟨x, hx, e, _⟩ | ⟨r, e, _⟩ | ⟨r, e, _⟩ | ⟨r, e, _⟩ | ⟨_, _, _, _, hf⟩
  · exact absurd e ((h (x + 4) (by omega) (by omega)).2 (by omega))
  · exact absurd e ((h 2 (by omega) (by omega)).1 (by omega) r)
  · exact absurd e ((h 1 (by omega) (by omega)).1 (by omega) r)
  · exact absurd e ((h 3 (by omega) (by omega)).1 (by omega) r)
  · exact readB_no hf

/-- The end of the program's reading of a word. -/
def MadeRI (l : List UInt8) (w : World) (e : Ending) (w' : World) : Prop :=
  ∃ op n s, e = .returned (.tuple #[.agg #[.int .i64 op, .int .i64 n, .string s], .bool (readLB l)]) ∧ (readLB l = true → readL l = (op, n, s)) ∧ Below w.heap.size w w'

theorem text_pos {x : Nat} (h1 : 1 ≤ x) (h : x < 15) : 0 < (textB x).size := by
  rcases (by omega : x = 1 ∨ x = 2 ∨ x = 3 ∨ x = 4 ∨ x = 5 ∨ x = 6 ∨ x = 7 ∨ x = 8 ∨ x = 9 ∨ x = 10 ∨ x = 11 ∨ x = 12 ∨ x = 13 ∨ x = 14) with rfl | rfl | rfl | rfl | rfl | rfl | rfl | rfl | rfl | rfl | rfl | rfl | rfl | rfl <;> decide
theorem field_txt (y : Nat) (h : y = 2) : fieldB y = ⟨#[83]⟩ := by subst h; rfl
theorem field_no83 {y : Nat} (h2 : y ≠ 2) : ¬ fieldB y = ⟨#[83]⟩ := by
  unfold fieldB; split
  · decide
  · exact absurd rfl h2
  · decide
  · decide

set_option maxHeartbeats 8000000 in
theorem readinstr_any (s : ByteArray) (w : World) (hs : s.size ≤ 1048576) (hT : TabsRP w) : Calls Tryz.prog 62 #[.string s] w (MadeRI s.data.toList w) := by
  have HX0 := Lib.hid (Row.new w 52 #[.int .i64 0, .int .i64 0, .string ByteArray.empty])
  have HB0 := Lib.hid (below_alloc (Below.refl w.heap.size w) (.cells #[.int .i64 0, .int .i64 0, .string ByteArray.empty] 52))
  have HT0 := Lib.hid hT
  clear hT
  go_enter Tryz.func62, Tryz.ntmps62
  go_wp2
  go_loopw [4] (fun i wr => ∃ k : Nat, 1 ≤ k ∧ k ≤ 15 ∧ i = .int .i64 k ∧ Hid (Below w.heap.size w wr ∧ Row wr w.heap.size 52 #[.int .i64 0, .int .i64 0, .string ByteArray.empty]) ∧ Hid (∀ j, 1 ≤ j → j < k → NotAt s.data.toList j)) (fun i _ => 15 - (intOf i).toNat)
  case atStart => exact ⟨1, by decide, by decide, rfl, Lib.hid ⟨HB0.out, HX0.out⟩, Lib.hid fun j h1 h2 => by omega⟩
  case round =>
    obtain ⟨k, hk1, hk15, rfl, HWR, HW⟩ := hrel
    clear HX0 HB0
    have HX := Lib.hid HWR.out.2
    have HB := Lib.hid HWR.out.1
    have HT := Lib.hid (HT0.out.keep HWR.out.1)
    clear HWR
    by_cases hlt : k < 15
    · have hi0 : (0 : Int) ≤ (k : Int) := by omega
      have hi1 : (k : Int) < 15 := by omega
      have hi14 : (k : Int) ≤ 14 := by omega
      have t0 := (HT.out.forms.cell k hlt).1
      have t1 := (HT.out.forms.cell k hlt).2.1
      have htp := text_pos hk1 hlt
      have ht6 := text_few k
      by_cases hp : pre s (textB k)
      · have HA := Lib.hid (pre_app hp)
        obtain ⟨v, hv⟩ : ∃ v, s.extract (textB k).size s.size = v := ⟨_, rfl⟩
        have hvs : v.size ≤ 1048576 := by rw [← hv, ByteArray.size_extract]; omega
        have HC := Lib.hid (fun w => cutpre_yes s (textB k) w hs hp)
        rw [hv] at HA HC
        clear hv hp
        by_cases hn : k = 1 ∨ k = 3
        · have HR := Lib.hid (ri_num hn HA.out)
          obtain ⟨F, hF⟩ : ∃ F, fieldB k = F := ⟨_, rfl⟩
          have q1 : (F.toList == [78]) = true := lit_yes (by rw [← hF]; exact field_num k hn)
          obtain ⟨X, hX⟩ : ∃ X, textB k = X := ⟨_, rfl⟩
          rw [hF] at t1
          rw [hX] at t0 ht6 HC
          clear hF hX hn
          go_wp2_with fail
          refine (HC.out _).mono ?_
          rintro e w1 ⟨rfl, rfl⟩
          go_wp2_with fail
          refine (decimalof_any v _ hvs HT.out.num).mono ?_
          rintro e w1 ⟨rfl, hB⟩
          have HX := Lib.hid (HX.out.keep hB)
          have HB := Lib.hid (below_via HB.out hB)
          obtain ⟨n, hn⟩ : ∃ n, (numD v.data.toList).getD 0 = n := ⟨_, rfl⟩
          obtain ⟨b, hb⟩ : ∃ b, (numD v.data.toList).isSome = b := ⟨_, rfl⟩
          rw [hn, hb] at HR ⊢
          have y0 := HX.out.cell (j := 0) (by simp)
          have y1 := HX.out.cell (j := 1) (by simp)
          have y2 := HX.out.cell (j := 2) (by simp)
          have f0 := HX.out.free 0
          have f1 := HX.out.free 1
          have f2 := HX.out.free 2
          simp at y0 y1 y2
          clear hB hn hb t0 t1
          go_wp2
          have hbF := ((HX.out.set 0 (.int .i64 k)).set 1 (.int .i64 n)).set 2 (.string ⟨#[]⟩)
          unfold Row at hbF
          exact bodyPost_ret (v := .tuple #[.agg #[.int .i64 k, .int .i64 n, .string ⟨#[]⟩], .bool b]) (by simp [results, Tryz.results62, go_sem, World.cell?, hbF]) rfl ⟨_, _, _, by rw [HR.out.1] <;> rfl, fun _ => HR.out.2, ((HB.out.setCell (Nat.le_refl _) _).setCell (Nat.le_refl _) _ |>.setCell (Nat.le_refl _) _)⟩
        · by_cases h2 : k = 2
          · have HR := Lib.hid (ri_text (l := s.data.toList) (r := v.data.toList) (by rw [HA.out, h2]; rfl))
            have q1 : ((fieldB k).toList == [78]) = false := lit_no (field_other hlt (fun e => hn (.inl e)) (fun e => hn (.inr e)))
            have q2 : ((fieldB k).toList == [83]) = true := lit_yes (field_txt k h2)
            obtain ⟨F, hF⟩ : ∃ F, fieldB k = F := ⟨_, rfl⟩
            obtain ⟨X, hX⟩ : ∃ X, textB k = X := ⟨_, rfl⟩
            rw [hF] at t1 q1 q2
            rw [hX] at t0 ht6 HC
            clear hF hX hn
            have HKK := Lib.hid (show (k : Int) = 2 by omega)
            clear h2
            have y0 := HX.out.cell (j := 0) (by simp)
            have y1 := HX.out.cell (j := 1) (by simp)
            have y2 := HX.out.cell (j := 2) (by simp)
            have f0 := HX.out.free 0
            have f1 := HX.out.free 1
            have f2 := HX.out.free 2
            simp at y0 y1 y2
            go_wp2_with fail
            refine (HC.out _).mono ?_
            rintro e w1 ⟨rfl, rfl⟩
            go_wp2
            have hbF := ((HX.out.set 0 (.int .i64 k)).set 1 (.int .i64 0)).set 2 (.string v)
            unfold Row at hbF
            exact bodyPost_ret (v := .tuple #[.agg #[.int .i64 k, .int .i64 0, .string v], .bool true]) (by simp [results, Tryz.results62, go_sem, World.cell?, hbF]) rfl ⟨_, _, _, by rw [HR.out.1] <;> rfl, fun _ => by rw [HR.out.2, HKK.out], ((HB.out.setCell (Nat.le_refl _) _).setCell (Nat.le_refl _) _ |>.setCell (Nat.le_refl _) _)⟩
          · have q1 : ((fieldB k).toList == [78]) = false := lit_no (field_other hlt (fun e => hn (.inl e)) (fun e => hn (.inr e)))
            have q2 : ((fieldB k).toList == [83]) = false := lit_no (field_no83 h2)
            by_cases hv0 : v.size = 0
            · have HR := Lib.hid (ri_name (l := s.data.toList) (x := k) (by omega) hlt (by
                have h1 := HA.out
                have h3 : v.data.toList = [] := List.eq_nil_of_length_eq_zero (by simpa using hv0)
                rw [h3, List.append_nil] at h1
                exact h1))
              have q3 := ba_nil hv0
              obtain ⟨F, hF⟩ : ∃ F, fieldB k = F := ⟨_, rfl⟩
              obtain ⟨X, hX⟩ : ∃ X, textB k = X := ⟨_, rfl⟩
              rw [hF] at t1 q1 q2
              rw [hX] at t0 ht6 HC
              clear hF hX hn h2
              have y0 := HX.out.cell (j := 0) (by simp)
              have y1 := HX.out.cell (j := 1) (by simp)
              have y2 := HX.out.cell (j := 2) (by simp)
              have f0 := HX.out.free 0
              have f1 := HX.out.free 1
              have f2 := HX.out.free 2
              simp at y0 y1 y2
              go_wp2_with fail
              refine (HC.out _).mono ?_
              rintro e w1 ⟨rfl, rfl⟩
              go_wp2
              have hbF := ((HX.out.set 0 (.int .i64 k)).set 1 (.int .i64 0)).set 2 (.string ⟨#[]⟩)
              unfold Row at hbF
              exact bodyPost_ret (v := .tuple #[.agg #[.int .i64 k, .int .i64 0, .string ⟨#[]⟩], .bool true]) (by simp [results, Tryz.results62, go_sem, World.cell?, hbF]) rfl ⟨_, _, _, by rw [HR.out.1] <;> rfl, fun _ => HR.out.2, ((HB.out.setCell (Nat.le_refl _) _).setCell (Nat.le_refl _) _ |>.setCell (Nat.le_refl _) _)⟩
            · have HN := Lib.hid (show NotAt s.data.toList k from ⟨fun h3 => by omega, fun _ e => by
                have h1 := HA.out
                rw [e] at h1
                have h4 := congrArg List.length h1
                unfold txL at h4
                rw [List.length_append] at h4
                have h5 : v.data.toList.length = v.size := by simp
                omega⟩)
              have q3 := ba_some (s := v) (by omega)
              obtain ⟨F, hF⟩ : ∃ F, fieldB k = F := ⟨_, rfl⟩
              obtain ⟨X, hX⟩ : ∃ X, textB k = X := ⟨_, rfl⟩
              rw [hF] at t1 q1 q2
              rw [hX] at t0 ht6 HC
              clear hF hX hn h2
              go_wp2_with fail
              refine (HC.out _).mono ?_
              rintro e w1 ⟨rfl, rfl⟩
              go_wp2
              go_roundw
              case rel => exact ⟨k + 1, by omega, by omega, by go_num, Lib.hid ⟨by first | exact HB.out | exact below_drewN HB.out _, by first | exact HX.out | exact HX.out.keep (below_drewN (Below.refl _ _) _)⟩, Lib.hid fun j h1 h2 => by
                rcases Nat.lt_or_ge j k with h3 | h3
                · exact HW.out j h1 h3
                · obtain rfl : j = k := by omega
                  exact HN.out⟩
              case measure => simp [intOf]; omega
      · have HN := Lib.hid (show NotAt s.data.toList k from ⟨fun h3 r e => hp (app_pre e), fun _ e => hp (app_pre (r := []) (by rw [e, List.append_nil]; rfl))⟩)
        have HC := Lib.hid (fun w => cutpre_no s (textB k) w hs (by omega) hp)
        obtain ⟨X, hX⟩ : ∃ X, textB k = X := ⟨_, rfl⟩
        rw [hX] at t0 ht6 HC
        clear hX hp
        go_wp2_with fail
        refine (HC.out _).mono ?_
        rintro e w1 ⟨rfl, rfl⟩
        go_wp2
        go_roundw
        case rel => exact ⟨k + 1, by omega, by omega, by go_num, Lib.hid ⟨by first | exact HB.out | exact below_drewN HB.out _, by first | exact HX.out | exact HX.out.keep (below_drewN (Below.refl _ _) _)⟩, Lib.hid fun j h1 h2 => by
          rcases Nat.lt_or_ge j k with h3 | h3
          · exact HW.out j h1 h3
          · obtain rfl : j = k := by omega
            exact HN.out⟩
        case measure => simp [intOf]; omega
    · obtain rfl : k = 15 := by omega
      have HR := Lib.hid (ri_none HW.out)
      have y0 := HX.out.cell (j := 0) (by simp)
      have y1 := HX.out.cell (j := 1) (by simp)
      have y2 := HX.out.cell (j := 2) (by simp)
      have f0 := HX.out.free 0
      have f1 := HX.out.free 1
      have f2 := HX.out.free 2
      simp at y0 y1 y2
      go_wp2
      have hbF := ((HX.out.set 0 (.int .i64 0)).set 1 (.int .i64 0)).set 2 (.string ⟨#[]⟩)
      unfold Row at hbF
      exact bodyPost_ret (v := .tuple #[.agg #[.int .i64 0, .int .i64 0, .string ⟨#[]⟩], .bool false]) (by simp [results, Tryz.results62, go_sem, World.cell?, hbF]) rfl ⟨0, 0, ByteArray.empty, by rw [HR.out] <;> rfl, (fun h => by rw [HR.out] at h; cases h), ((HB.out.setCell (Nat.le_refl _) _).setCell (Nat.le_refl _) _ |>.setCell (Nat.le_refl _) _)⟩
end Go.Proofs.YthnlllbanfemaaaGreatDoor
