
/- The library's Cut and Contains at one byte: no bound on the text, nothing is written. -/
import Derived.Test.YthnlllbanfemaaaGreatDoorMg20
import Derived.Test.YthnlllbanfemaaaGreatDoorShelf
import Derived.Lib.IndexLaws
namespace Go.Proofs.YthnlllbanfemaaaGreatDoor
open Go.ChangeShapes Go.WideShapes Go.ChangeAt Go.RowKit
set_option linter.unusedVariables false
set_option maxRecDepth 100000

def Same1 (x : Int) (w : World) (e : Ending) (w' : World) : Prop := e = .returned (.int .i64 x) ∧ w = w'
theorem idx_any (s : ByteArray) (c : UInt8) (x : Int) (w : World) (h : Lib.indexByte s.data.toList c = x) : Calls Tryz.prog 86 #[.string s, .string ⟨#[c]⟩] w (Same1 x w) :=
  (Tryz.stringslite_Index_one s c w).mono fun e w' ⟨he, hw⟩ => ⟨by rw [he, h], hw.symm⟩

theorem noC_of_idx {l : List UInt8} {c : UInt8} (h : Lib.indexByte l c = -1) : noC c l := by
  intro x hx hxc
  obtain ⟨k, hk, rfl⟩ := List.getElem_of_mem hx
  exact Lib.indexByte_none h k (by rw [List.getElem?_eq_getElem hk, hxc])
theorem idx_of_noC {l : List UInt8} {c : UInt8} (h : noC c l) : Lib.indexByte l c = -1 := by
  have hge := Lib.indexByte_ge l c
  by_cases hn : Lib.indexByte l c = -1
  · exact hn
  · obtain ⟨k, hk⟩ : ∃ k : Nat, Lib.indexByte l c = k := ⟨(Lib.indexByte l c).toNat, by omega⟩
    obtain ⟨h1, _⟩ := Lib.indexByte_some hk
    obtain ⟨hlt, he⟩ := List.getElem?_eq_some_iff.1 h1
    exact absurd he (h _ (List.getElem_mem hlt))

theorem cut_facts {s : ByteArray} {c : UInt8} {k : Nat} (h : Lib.indexByte s.data.toList c = k) : k < s.size ∧ noC c (s.extract 0 k).data.toList ∧ s.data.toList = (s.extract 0 k).data.toList ++ c :: (s.extract (k + 1) s.size).data.toList := by
  obtain ⟨h1, h2⟩ := Lib.indexByte_some h
  obtain ⟨hlt, he⟩ := List.getElem?_eq_some_iff.1 h1
  have hs : k < s.size := by simpa using hlt
  have e1 : (s.extract 0 k).data.toList = piece s.data.toList 0 k := by rw [extract_piece]
  have e2 : (s.extract (k + 1) s.size).data.toList = s.data.toList.drop (k + 1) := by
    rw [extract_piece, show s.size = s.data.toList.length by simp, piece_end]
  have e3 := drop_piece s.data.toList 0 k (Nat.zero_le _) hlt
  rw [List.drop_zero, he] at e3
  refine ⟨hs, ?_, by rw [e1, e2]; exact e3⟩
  rw [e1]
  intro x hx hxc
  unfold piece at hx
  obtain ⟨j, hj, hjx⟩ := List.getElem_of_mem hx
  simp at hj hjx
  refine h2 j (by omega) ?_
  rw [List.getElem?_eq_getElem (by simp; omega)]
  simp [hjx, hxc]

set_option maxHeartbeats 1000000 in
theorem lcut_any (s : ByteArray) (c : UInt8) (w : World) (hs : s.size ≤ maxLen) :
    Calls Tryz.prog 79 #[.string s, .string ⟨#[c]⟩] w (MadeCut c s w) := by
  unfold maxLen at hs
  have hge := Lib.indexByte_ge s.data.toList c
  by_cases hneg : Lib.indexByte s.data.toList c = -1
  · have HN := Lib.hid (noC_of_idx hneg)
    have HI := Lib.hid hneg
    clear hneg hge
    go_enter Tryz.func79, Tryz.ntmps79
    go_wp2_with (go_at_call 86; refine (idx_any s c (-1) _ HI.out).mono ?_; rintro e w' ⟨rfl, rfl⟩)
    go_ret3
    exact ⟨s, ByteArray.empty, false, rfl, Below.refl _ _, Nat.zero_le _, HN.out, (fun h => by cases h), fun _ => ⟨rfl, rfl⟩⟩
  · obtain ⟨k, hk⟩ : ∃ k : Nat, Lib.indexByte s.data.toList c = k := ⟨(Lib.indexByte s.data.toList c).toNat, by omega⟩
    obtain ⟨hlt, hno, hcut⟩ := cut_facts hk
    have HI := Lib.hid hk
    have HNO := Lib.hid hno
    have HCUT := Lib.hid hcut
    have hi0 : (0 : Int) ≤ (k : Int) := by omega
    have hi1 : (k : Int) ≤ (s.size : Int) := by omega
    have hj0 : (0 : Int) ≤ (k : Int) + 1 := by omega
    have hj1 : (k : Int) + 1 ≤ (s.size : Int) := by omega
    clear hk hno hcut hneg hge
    go_enter Tryz.func79, Tryz.ntmps79
    go_wp2_with (go_at_call 86; refine (idx_any s c k _ HI.out).mono ?_; rintro e w' ⟨rfl, rfl⟩)
    have hj2 : ((k : Int) + 1).toNat = k + 1 := by omega
    have hwr : IntKind.i64.wrap ((k : Int) + 1) = (k : Int) + 1 := IntWalk.i64_in _ (by omega)
    go_quiet (fail)
    clear hj2 hwr
    go_wp2
    go_ret3
    exact ⟨_, _, true, rfl, below_drewN (Below.refl _ _) _, by rw [ByteArray.size_extract]; omega, HNO.out, fun _ => HCUT.out, (fun h => by cases h)⟩

set_option maxHeartbeats 1000000 in
theorem stdcut_any (s : ByteArray) (c : UInt8) (w : World) (hs : s.size ≤ maxLen) :
    Calls Tryz.prog 61 #[.string s, .string ⟨#[c]⟩] w (MadeCut c s w) := by
  go_enter Tryz.func61, Tryz.ntmps61
  go_wp2_with fail
  refine (lcut_any s c _ hs).mono ?_
  rintro e w1 ⟨a, r, b, rfl, hB, hr, hno, hyes, hnot⟩
  have HB := Lib.hid hB
  have HR := Lib.hid hr
  have HNO := Lib.hid hno
  have HY := Lib.hid hyes
  have HN := Lib.hid hnot
  clear hB hr hno hyes hnot
  go_wp2
  go_ret3
  exact ⟨a, r, b, rfl, HB.out, HR.out, HNO.out, HY.out, HN.out⟩

def hasC (c : UInt8) (s : ByteArray) : Bool := !(s.data.toList.all fun x => x != c)
def SameB (x : Bool) (w : World) (e : Ending) (w' : World) : Prop := e = .returned (.bool x) ∧ w = w'
theorem hasC_idx (c : UInt8) (s : ByteArray) : decide (0 ≤ Lib.indexByte s.data.toList c) = hasC c s := by
  unfold hasC
  by_cases h : noC c s.data.toList
  · rw [idx_of_noC h]
    have : (s.data.toList.all fun x => x != c) = true := by rw [List.all_eq_true]; intro x hx; simpa using h x hx
    rw [this]; rfl
  · have hne : Lib.indexByte s.data.toList c ≠ -1 := fun e => h (noC_of_idx e)
    have := Lib.indexByte_ge s.data.toList c
    have h2 : (s.data.toList.all fun x => x != c) = false := by
      rw [← Bool.not_eq_true, List.all_eq_true]
      intro h3
      exact h fun x hx => by simpa using h3 x hx
    rw [h2, decide_eq_true (by omega)]; rfl
end Go.Proofs.YthnlllbanfemaaaGreatDoor
