
/- Numbers in decimal: what the program reads. Only new blocks are made. -/
import Derived.Test.YtbjlojmadellgaaGreatDoorMg8
import Derived.Test.YtbjlojmadellgaaGreatDoorMg9
import Derived.Test.YtbjlojmadellgaaGreatDoorTabsR
namespace Go.Proofs.YtbjlojmadellgaaGreatDoor
open Go.ChangeShapes Go.WideShapes Go.ChangeAt Go.RowKit
set_option linter.unusedVariables false
set_option maxRecDepth 100000

theorem numD_err {l : List UInt8} (h : ∀ v, Lib.parseIntB 64 l ≠ .ok v) : numD l = none := by
  unfold numD
  cases hp : Lib.parseIntB 64 l with
  | ok v => exact absurd hp (h v)
  | _ => rfl
theorem decB_eq_iff {v : Int} {s : ByteArray} : Lib.itoa v = s.data.toList ↔ decB v = s := by
  constructor
  · intro h; exact ba_eq (by rw [decB_list]; exact h)
  · rintro rfl; exact (decB_list v).symm
theorem numD_ok {s : ByteArray} {v : Int} (h : Lib.parseIntB 64 s.data.toList = .ok v) (h2 : decB v = s) : numD s.data.toList = some v := by
  unfold numD
  rw [h]
  simp only
  rw [if_pos (decB_eq_iff.2 h2)]
theorem numD_other {s : ByteArray} {v : Int} (h : Lib.parseIntB 64 s.data.toList = .ok v) (h2 : ¬ decB v = s) : numD s.data.toList = none := by
  unfold numD
  rw [h]
  simp only
  rw [if_neg (fun e => h2 (decB_eq_iff.1 e))]
theorem ba_ne {a b : ByteArray} (h : ¬ a = b) : (a.toList == b.toList) = false := by
  rw [beq_eq_false_iff_ne]
  intro e
  rw [ByteArray.toList_eq, ByteArray.toList_eq] at e
  exact h (ba_eq e)

set_option maxHeartbeats 2000000 in
theorem decimalof_any (s : ByteArray) (w : World) (hs : s.size ≤ 1048576) (hT : TabsR w) : Calls Tryz.prog 103 #[.string s] w (MadeNum (numD s.data.toList) w) := by
  have HT := Lib.hid hT
  obtain ⟨te, pe, hsyn⟩ := hT.syn
  obtain ⟨tf, pf, hrng⟩ := hT.rng
  have HSYN := Lib.hid hsyn
  have HRNG := Lib.hid hrng
  clear hT hsyn hrng
  by_cases hok : ∃ v, Lib.parseIntB 64 s.data.toList = .ok v
  · obtain ⟨v, hp⟩ := hok
    have hb := Lib.parseIntB_bounds hp
    have hv : In64 v := by
      unfold In64
      simp at hb
      omega
    have HP := Lib.hid hp
    have HV := Lib.hid hv
    by_cases hd : decB v = s
    · have HR := Lib.hid (numD_ok hp hd)
      have hd2 : ((decB v).toList == s.toList) = true := by rw [hd]; simp
      clear hb hp hv hd
      go_enter Tryz.func103, Tryz.ntmps103
      go_wp2_with fail
      refine (Tryz.strconv_ParseInt_10_at64_ok s (by omega) v HP.out _).mono ?_
      rintro e w1 ⟨rfl, hW⟩
      have HB := Lib.hid (show Below w.heap.size w w1 by
        rcases hW with rfl | ⟨t, rfl⟩
        · exact Below.refl _ _
        · exact Lib.bytesWorld_below _ _ _)
      clear hW
      go_wp2_with fail
      refine (fmt_any v HV.out _ (HT.out.pow.keep HB.out)).mono ?_
      rintro e w2 ⟨rfl, hB⟩
      have HB := Lib.hid (below_via HB.out hB)
      clear hB
      go_wp2
      go_ret2
      exact num_good HR.out HB.out
    · have HR := Lib.hid (numD_other hp hd)
      have hd2 := ba_ne hd
      clear hb hp hv hd
      go_enter Tryz.func103, Tryz.ntmps103
      go_wp2_with fail
      refine (Tryz.strconv_ParseInt_10_at64_ok s (by omega) v HP.out _).mono ?_
      rintro e w1 ⟨rfl, hW⟩
      have HB := Lib.hid (show Below w.heap.size w w1 by
        rcases hW with rfl | ⟨t, rfl⟩
        · exact Below.refl _ _
        · exact Lib.bytesWorld_below _ _ _)
      clear hW
      go_wp2_with fail
      refine (fmt_any v HV.out _ (HT.out.pow.keep HB.out)).mono ?_
      rintro e w2 ⟨rfl, hB⟩
      have HB := Lib.hid (below_via HB.out hB)
      clear hB
      go_wp2
      go_ret2
      exact num_fail HR.out HB.out
  by_cases hp : Lib.parseIntB 64 s.data.toList = .range
  · clear hok
    have HR := Lib.hid (numD_err (l := s.data.toList) (fun v e => by rw [hp] at e; cases e))
    have HP := Lib.hid hp
    clear hp
    go_enter Tryz.func103, Tryz.ntmps103
    go_wp2_with fail
    refine (Tryz.strconv_ParseInt_10_at64_range s (by omega) HP.out _ _ HRNG.out (.inr ⟨_, _, rfl⟩)).mono ?_
    rintro e w1 ⟨N, rfl, _, _, hB⟩
    have HB := Lib.hid hB
    clear hB
    obtain ⟨x, hx⟩ : ∃ x, Lib.intSat 64 s.data.toList = x := ⟨_, rfl⟩
    rw [hx]
    clear hx
    go_wp2
    go_ret2
    exact num_fail HR.out HB.out
  · have hok2 := hok
    clear hok2
    have HR := Lib.hid (numD_err (l := s.data.toList) (fun v e => hok ⟨v, e⟩))
    have HP := Lib.hid (show (∀ v, Lib.parseIntB 64 s.data.toList ≠ .ok v) ∧ Lib.parseIntB 64 s.data.toList ≠ .range from ⟨fun v e => hok ⟨v, e⟩, hp⟩)
    clear hp hok
    go_enter Tryz.func103, Tryz.ntmps103
    go_wp2_with fail
    refine (Tryz.strconv_ParseInt_10_at64_bad s (by omega) HP.out.1 HP.out.2 _ _ HSYN.out (.inr ⟨_, _, rfl⟩)).mono ?_
    rintro e w1 ⟨N, rfl, _, _, hB⟩
    have HB := Lib.hid hB
    clear hB
    go_wp2
    go_ret2
    exact num_fail HR.out HB.out
end Go.Proofs.YtbjlojmadellgaaGreatDoor
