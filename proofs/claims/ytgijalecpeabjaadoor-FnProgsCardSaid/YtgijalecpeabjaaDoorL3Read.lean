
/- An instruction read of a word: what the model does. Only new blocks are made. -/
import Derived.Test.YtgijalecpeabjaaDoorRProgM
import Derived.Test.YtgijalecpeabjaaDoorCutPre
import Derived.Test.YtgijalecpeabjaaDoorNum
import Derived.Test.YtgijalecpeabjaaDoorProgT
import Derived.StillTailTactics
namespace Go.Proofs.YtgijalecpeabjaaDoor
open Go.ChangeShapes Go.WideShapes Go.ChangeAt Go.RowKit
set_option linter.unusedVariables false
set_option maxRecDepth 100000

theorem first_at {s : ByteArray} (h0 : 0 < s.size) : s.data.toList = s[0] :: (s.extract 1 s.size).data.toList := by
  have h2 : (s.extract 1 s.size).data.toList = s.data.toList.drop 1 := by
    have : (s.extract 1 s.size).data.toList = (s.data.toList.drop 1).take (s.size - 1) := by simp
    rw [this, List.take_of_length_le (by simp)]
  rw [h2]
  cases hl : s.data.toList with
  | nil =>
    have h3 : s.data.toList.length = s.size := by simp
    rw [hl] at h3
    exact absurd h3 (by simp; omega)
  | cons c r =>
    have h1 : s.data.toList[0]'(by simpa using h0) = s[0] := rfl
    simp only [hl, List.getElem_cons_zero] at h1
    rw [h1]; rfl
theorem byte_no {c : UInt8} {n : Nat} (hn : n < 256) (h : c ≠ UInt8.ofNat n) : ((c.toNat : Int) == (n : Int)) = false := by
  rw [beq_eq_false_iff_ne]
  intro e
  exact h (byte_is (n := n) (by omega) hn)
theorem read_other {s : ByteArray} (h0 : 0 < s.size) (hn : ∀ x, x < 11 → nmL x ≠ s.data.toList) (ht : ¬ pre s ⟨#[116, 58]⟩) (hf : s[0] ≠ 102) (hnn : s[0] ≠ 110) : readL s.data.toList = (0, 0, ByteArray.empty) := by
  rcases form_ways s.data.toList with ⟨x, hx, e, _⟩ | ⟨r, e, _⟩ | ⟨r, e, _⟩ | ⟨r, e, _⟩ | ⟨_, _, _, _, h⟩
  · exact absurd e.symm (hn x hx)
  · exact absurd (app_pre (t := ⟨#[116, 58]⟩) (r := r) e) ht
  · rw [first_at h0] at e
    exact absurd (List.cons.inj e).1 hf
  · rw [first_at h0] at e
    exact absurd (List.cons.inj e).1 hnn
  · exact readL_no h
def MadeR3 (x : Int × Int × ByteArray) (w : World) (e : Ending) (w' : World) : Prop := e = .returned (.agg #[.int .i64 x.1, .int .i64 x.2.1, .string x.2.2]) ∧ Below w.heap.size w w'
theorem r3_is {o x : Int × Int × ByteArray} {w w' : World} (h : o = x) (hB : Below w.heap.size w w') : MadeR3 o w (.returned (.agg #[.int .i64 x.1, .int .i64 x.2.1, .string x.2.2])) w' := by
  subst h; exact ⟨rfl, hB⟩

set_option maxHeartbeats 8000000 in
theorem l3read_any (s : ByteArray) (w : World) (hs : s.size ≤ 1048576) : Calls Tryd.prog 47 #[.string s] w (MadeR3 (readL s.data.toList) w) := by
  have HX0 := Lib.hid (Row.new w 55 #[.int .i64 0, .int .i64 0, .string ByteArray.empty])
  have HB0 := Lib.hid (below_alloc (Below.refl w.heap.size w) (.cells #[.int .i64 0, .int .i64 0, .string ByteArray.empty] 55))
  go_enter Tryd.func47, Tryd.ntmps47
  go_wp2
  go_loopw [3] (fun i wr => ∃ k : Nat, k ≤ 11 ∧ i = .int .i64 k ∧ Hid (Below w.heap.size w wr ∧ Row wr w.heap.size 55 #[.int .i64 0, .int .i64 0, .string ByteArray.empty]) ∧ Hid (∀ j, j < k → nmL j ≠ s.data.toList)) (fun i _ => 11 - (intOf i).toNat)
  case atStart => exact ⟨0, Nat.zero_le _, rfl, Lib.hid ⟨HB0.out, HX0.out⟩, Lib.hid fun j h => by omega⟩
  case round =>
    obtain ⟨k, hk, rfl, HWR, HW⟩ := hrel
    clear HX0 HB0
    have HX := Lib.hid HWR.out.2
    have HB := Lib.hid HWR.out.1
    clear HWR
    have hi0 : (0 : Int) ≤ (k : Int) := by omega
    by_cases hlt : k < 11
    · have hi1 : (k : Int) < 11 := by omega
      go_wp2_with fail
      refine (l3names_any _).mono ?_
      rintro e w1 ⟨rfl, hc0, hB⟩
      have HX := Lib.hid (HX.out.keep hB)
      have HB := Lib.hid (below_via HB.out hB)
      clear hB hc0
      go_wp2_with fail
      refine (l3names_any _).mono ?_
      rintro e w2 ⟨rfl, hc, hB⟩
      have HX := Lib.hid (HX.out.keep hB)
      have HB := Lib.hid (below_via HB.out hB)
      have k0 := hc k hlt
      obtain ⟨G, hG⟩ : ∃ G, w1.heap.size = G := ⟨_, rfl⟩
      rw [hG] at k0 ⊢
      clear hB hc hG
      by_cases hq : textB (k + 4) = s
      · have HR := Lib.hid (show readL s.data.toList = ((k : Int) + 4, 0, ByteArray.empty) by rw [← hq]; exact readL_nm hlt)
        have q1 : ((textB (k + 4)).toList == s.toList) = true := ba_eqv hq
        obtain ⟨T, hT⟩ : ∃ T, textB (k + 4) = T := ⟨_, rfl⟩
        rw [hT] at k0 q1
        clear hq hT
        have y0 := HX.out.cell (j := 0) (by simp)
        have y1 := HX.out.cell (j := 1) (by simp)
        have y2 := HX.out.cell (j := 2) (by simp)
        have f0 := HX.out.free 0
        have f1 := HX.out.free 1
        have f2 := HX.out.free 2
        simp at y0 y1 y2
        go_wp2
        have hbF := ((HX.out.set 0 (.int .i64 ((k : Int) + 4))).set 1 (.int .i64 0)).set 2 (.string ⟨#[]⟩)
        unfold Row at hbF
        exact bodyPost_ret (v := .agg #[.int .i64 ((k : Int) + 4), .int .i64 0, .string ⟨#[]⟩]) (by simp [results, Tryd.results47, go_sem, World.cell?, hbF]) rfl (r3_is HR.out ((HB.out.setCell (Nat.le_refl _) _).setCell (Nat.le_refl _) _ |>.setCell (Nat.le_refl _) _))
      · have HN := Lib.hid (show nmL k ≠ s.data.toList from fun e => hq (ba_eq e))
        have q1 : ((textB (k + 4)).toList == s.toList) = false := ba_nev hq
        obtain ⟨T, hT⟩ : ∃ T, textB (k + 4) = T := ⟨_, rfl⟩
        rw [hT] at k0 q1
        clear hq hT
        go_wp2
        go_roundw
        case rel => exact ⟨k + 1, by omega, by go_num, Lib.hid ⟨by first | exact HB.out | exact below_drewN HB.out _, by first | exact HX.out | exact HX.out.keep (below_drewN (Below.refl _ _) _)⟩, Lib.hid fun j h => by
          rcases Nat.lt_or_ge j k with h3 | h3
          · exact HW.out j h3
          · obtain rfl : j = k := by omega
            exact HN.out⟩
        case measure => simp [intOf]; omega
    · obtain rfl : k = 11 := by omega
      go_wp2_with fail
      refine (l3names_any _).mono ?_
      rintro e w1 ⟨rfl, hc0, hB⟩
      have HX := Lib.hid (HX.out.keep hB)
      have HB := Lib.hid (below_via HB.out hB)
      clear hB hc0
      by_cases hp : pre s ⟨#[116, 58]⟩
      · have hA := pre_app hp
        have h2 : (2 : Int) ≤ (s.size : Int) := by
          have := hp.1
          have e : (⟨#[116, 58]⟩ : ByteArray).size = 2 := rfl
          omega
        have q1 : ((s.extract 0 2).toList == [116, 58]) = true := lit_yes hp.2
        obtain ⟨v, hv⟩ : ∃ v, s.extract 2 s.size = v := ⟨_, rfl⟩
        have HV := Lib.hid hv
        have HR := Lib.hid (show readL s.data.toList = (2, 0, v) by
          rw [hA]
          show readL (116 :: 58 :: (s.extract 2 s.size).data.toList) = _
          rw [hv, readL_t])
        clear hp hA hv
        have y0 := HX.out.cell (j := 0) (by simp)
        have y1 := HX.out.cell (j := 1) (by simp)
        have y2 := HX.out.cell (j := 2) (by simp)
        have f0 := HX.out.free 0
        have f1 := HX.out.free 1
        have f2 := HX.out.free 2
        simp at y0 y1 y2
        go_wp2
        rw [HV.out]
        have hbF := ((HX.out.set 0 (.int .i64 2)).set 1 (.int .i64 0)).set 2 (.string v)
        unfold Row at hbF
        exact bodyPost_ret (v := .agg #[.int .i64 2, .int .i64 0, .string v]) (by simp [results, Tryd.results47, go_sem, World.cell?, hbF]) rfl (r3_is HR.out ((HB.out.setCell (Nat.le_refl _) _).setCell (Nat.le_refl _) _ |>.setCell (Nat.le_refl _) _))
      by_cases h0 : s.size = 0
      · have HR := Lib.hid (show readL s.data.toList = (0, 0, ByteArray.empty) by
          have h3 : s.data.toList = [] := List.eq_nil_of_length_eq_zero (by simpa using h0)
          rw [h3]; exact readL_no rfl)
        have h2 : ¬ (2 : Int) ≤ (s.size : Int) := by omega
        clear hp
        have y0 := HX.out.cell (j := 0) (by simp)
        have y1 := HX.out.cell (j := 1) (by simp)
        have y2 := HX.out.cell (j := 2) (by simp)
        have f0 := HX.out.free 0
        have f1 := HX.out.free 1
        have f2 := HX.out.free 2
        simp at y0 y1 y2
        go_wp2
        have hbF := ((HX.out.set 0 (.int .i64 0)).set 1 (.int .i64 0)).set 2 (.string ⟨#[]⟩)
        unfold Row at hbF
        exact bodyPost_ret (v := .agg #[.int .i64 0, .int .i64 0, .string ⟨#[]⟩]) (by simp [results, Tryd.results47, go_sem, World.cell?, hbF]) rfl (r3_is HR.out ((HB.out.setCell (Nat.le_refl _) _).setCell (Nat.le_refl _) _ |>.setCell (Nat.le_refl _) _))
      have h0p : 0 < s.size := by omega
      have h1 : (1 : Int) ≤ (s.size : Int) := by omega
      have hne0 : ¬ (s.size : Int) = 0 := by omega
      obtain ⟨v, hv⟩ : ∃ v, s.extract 1 s.size = v := ⟨_, rfl⟩
      have HV := Lib.hid hv
      have hvs : v.size ≤ maxLen := by rw [← hv, ByteArray.size_extract]; unfold maxLen; omega
      have HA := Lib.hid (first_at h0p)
      rw [hv] at HA
      have HQ : Hid (¬ pre s ⟨#[116, 58]⟩) := Lib.hid hp
      have HPRE : (2 : Int) ≤ (s.size : Int) → ((s.extract 0 2).toList == [116, 58]) = false := fun h2 => lit_no (fun e => hp ⟨by show 2 ≤ s.size; omega, e⟩)
      clear hp h0 hv
      by_cases h2 : (2 : Int) ≤ (s.size : Int)
      · have q1 := HPRE h2
        clear HPRE
        go_wp2_with fail
        rw [HV.out]
        refine (l1num_any v _ hvs).mono ?_
        rintro e w3 ⟨rfl, hB⟩
        have HX := Lib.hid (HX.out.keep hB)
        have HB := Lib.hid (below_via HB.out hB)
        obtain ⟨n, hn⟩ : ∃ n, (numD v.data.toList).getD 0 = n := ⟨_, rfl⟩
        obtain ⟨b, hb⟩ : ∃ b, (numD v.data.toList).isSome = b := ⟨_, rfl⟩
        have HN := Lib.hid hn
        rw [hn, hb]
        have y0 := HX.out.cell (j := 0) (by simp)
        have y1 := HX.out.cell (j := 1) (by simp)
        have y2 := HX.out.cell (j := 2) (by simp)
        have f0 := HX.out.free 0
        have f1 := HX.out.free 1
        have f2 := HX.out.free 2
        simp at y0 y1 y2
        clear hB hn hb
        by_cases hf : s[0] = 102
        · have HR := Lib.hid (show readL s.data.toList = (1, n, ByteArray.empty) by rw [HA.out, hf, readL_f, HN.out])
          have z1 : ((s[0].toNat : Int) == 102) = true := by rw [hf]; rfl
          clear hf
          go_wp2
          have hbF := ((HX.out.set 0 (.int .i64 1)).set 1 (.int .i64 n)).set 2 (.string ⟨#[]⟩)
          unfold Row at hbF
          exact bodyPost_ret (v := .agg #[.int .i64 1, .int .i64 n, .string ⟨#[]⟩]) (by simp [results, Tryd.results47, go_sem, World.cell?, hbF]) rfl (r3_is HR.out ((HB.out.setCell (Nat.le_refl _) _).setCell (Nat.le_refl _) _ |>.setCell (Nat.le_refl _) _))
        have z1 : ((s[0].toNat : Int) == 102) = false := byte_no (n := 102) (by decide) hf
        by_cases hnn : s[0] = 110
        · have HR := Lib.hid (show readL s.data.toList = (3, n, ByteArray.empty) by rw [HA.out, hnn, readL_n, HN.out])
          have z2 : ((s[0].toNat : Int) == 110) = true := by rw [hnn]; rfl
          clear hf hnn
          go_wp2
          have hbF := ((HX.out.set 0 (.int .i64 3)).set 1 (.int .i64 n)).set 2 (.string ⟨#[]⟩)
          unfold Row at hbF
          exact bodyPost_ret (v := .agg #[.int .i64 3, .int .i64 n, .string ⟨#[]⟩]) (by simp [results, Tryd.results47, go_sem, World.cell?, hbF]) rfl (r3_is HR.out ((HB.out.setCell (Nat.le_refl _) _).setCell (Nat.le_refl _) _ |>.setCell (Nat.le_refl _) _))
        have z2 : ((s[0].toNat : Int) == 110) = false := byte_no (n := 110) (by decide) hnn
        have HR := Lib.hid (read_other h0p HW.out HQ.out hf hnn)
        clear hf hnn
        go_wp2
        have hbF := ((HX.out.set 0 (.int .i64 0)).set 1 (.int .i64 0)).set 2 (.string ⟨#[]⟩)
        unfold Row at hbF
        exact bodyPost_ret (v := .agg #[.int .i64 0, .int .i64 0, .string ⟨#[]⟩]) (by simp [results, Tryd.results47, go_sem, World.cell?, hbF]) rfl (r3_is HR.out ((HB.out.setCell (Nat.le_refl _) _).setCell (Nat.le_refl _) _ |>.setCell (Nat.le_refl _) _))
      · clear HPRE
        go_wp2_with fail
        rw [HV.out]
        refine (l1num_any v _ hvs).mono ?_
        rintro e w3 ⟨rfl, hB⟩
        have HX := Lib.hid (HX.out.keep hB)
        have HB := Lib.hid (below_via HB.out hB)
        obtain ⟨n, hn⟩ : ∃ n, (numD v.data.toList).getD 0 = n := ⟨_, rfl⟩
        obtain ⟨b, hb⟩ : ∃ b, (numD v.data.toList).isSome = b := ⟨_, rfl⟩
        have HN := Lib.hid hn
        rw [hn, hb]
        have y0 := HX.out.cell (j := 0) (by simp)
        have y1 := HX.out.cell (j := 1) (by simp)
        have y2 := HX.out.cell (j := 2) (by simp)
        have f0 := HX.out.free 0
        have f1 := HX.out.free 1
        have f2 := HX.out.free 2
        simp at y0 y1 y2
        clear hB hn hb
        by_cases hf : s[0] = 102
        · have HR := Lib.hid (show readL s.data.toList = (1, n, ByteArray.empty) by rw [HA.out, hf, readL_f, HN.out])
          have z1 : ((s[0].toNat : Int) == 102) = true := by rw [hf]; rfl
          clear hf
          go_wp2
          have hbF := ((HX.out.set 0 (.int .i64 1)).set 1 (.int .i64 n)).set 2 (.string ⟨#[]⟩)
          unfold Row at hbF
          exact bodyPost_ret (v := .agg #[.int .i64 1, .int .i64 n, .string ⟨#[]⟩]) (by simp [results, Tryd.results47, go_sem, World.cell?, hbF]) rfl (r3_is HR.out ((HB.out.setCell (Nat.le_refl _) _).setCell (Nat.le_refl _) _ |>.setCell (Nat.le_refl _) _))
        have z1 : ((s[0].toNat : Int) == 102) = false := byte_no (n := 102) (by decide) hf
        by_cases hnn : s[0] = 110
        · have HR := Lib.hid (show readL s.data.toList = (3, n, ByteArray.empty) by rw [HA.out, hnn, readL_n, HN.out])
          have z2 : ((s[0].toNat : Int) == 110) = true := by rw [hnn]; rfl
          clear hf hnn
          go_wp2
          have hbF := ((HX.out.set 0 (.int .i64 3)).set 1 (.int .i64 n)).set 2 (.string ⟨#[]⟩)
          unfold Row at hbF
          exact bodyPost_ret (v := .agg #[.int .i64 3, .int .i64 n, .string ⟨#[]⟩]) (by simp [results, Tryd.results47, go_sem, World.cell?, hbF]) rfl (r3_is HR.out ((HB.out.setCell (Nat.le_refl _) _).setCell (Nat.le_refl _) _ |>.setCell (Nat.le_refl _) _))
        have z2 : ((s[0].toNat : Int) == 110) = false := byte_no (n := 110) (by decide) hnn
        have HR := Lib.hid (read_other h0p HW.out HQ.out hf hnn)
        clear hf hnn
        go_wp2
        have hbF := ((HX.out.set 0 (.int .i64 0)).set 1 (.int .i64 0)).set 2 (.string ⟨#[]⟩)
        unfold Row at hbF
        exact bodyPost_ret (v := .agg #[.int .i64 0, .int .i64 0, .string ⟨#[]⟩]) (by simp [results, Tryd.results47, go_sem, World.cell?, hbF]) rfl (r3_is HR.out ((HB.out.setCell (Nat.le_refl _) _).setCell (Nat.le_refl _) _ |>.setCell (Nat.le_refl _) _))
end Go.Proofs.YtgijalecpeabjaaDoor
