
/- The library's CutPrefix. Nothing is written. -/
import Derived.Test.YthnlllbanfemaaaGreatDoorMg13
namespace Go.Proofs.YthnlllbanfemaaaGreatDoor
open Go.ChangeShapes Go.WideShapes Go.ChangeAt Go.RowKit
set_option linter.unusedVariables false
set_option maxRecDepth 100000

def pre (s t : ByteArray) : Prop := t.size ≤ s.size ∧ s.extract 0 t.size = t
def Same2 (s : ByteArray) (b : Bool) (w : World) (e : Ending) (w' : World) : Prop := w = w' ∧ e = .returned (.tuple #[.string s, .bool b])
set_option maxHeartbeats 2000000 in
theorem cutpre_yes (s t : ByteArray) (w : World) (hs : s.size ≤ 1048576) (h : pre s t) : Calls Tryz.prog 80 #[.string s, .string t] w (Same2 (s.extract t.size s.size) true w) := by
  have hge : (t.size : Int) ≤ (s.size : Int) := by have := h.1; omega
  have hq2 : ((s.extract 0 t.size).toList == t.toList) = true := ba_eqv h.2
  have hts := h.1
  clear h
  go_enter Tryz.func80, Tryz.ntmps80
  go_wp2
  go_ret2
  exact ⟨rfl, rfl⟩
set_option maxHeartbeats 2000000 in
theorem cutpre_no (s t : ByteArray) (w : World) (hs : s.size ≤ 1048576) (ht : t.size ≤ 1048576) (h : ¬ pre s t) : Calls Tryz.prog 80 #[.string s, .string t] w (Same2 s false w) := by
  by_cases hlt : t.size ≤ s.size
  · have hge : (t.size : Int) ≤ (s.size : Int) := by omega
    have hq2 : ((s.extract 0 t.size).toList == t.toList) = false := ba_nev (fun e => h ⟨hlt, e⟩)
    clear h
    go_enter Tryz.func80, Tryz.ntmps80
    go_wp2
    go_ret2
    exact ⟨rfl, rfl⟩
  · have hge : ¬ (t.size : Int) ≤ (s.size : Int) := by omega
    clear h
    go_enter Tryz.func80, Tryz.ntmps80
    go_wp2
    go_ret2
    exact ⟨rfl, rfl⟩
theorem pre_app {s t : ByteArray} (h : pre s t) : s.data.toList = t.data.toList ++ (s.extract t.size s.size).data.toList := by
  have h1 : (s.extract 0 t.size).data.toList = s.data.toList.take t.size := by simp
  have h2 : (s.extract t.size s.size).data.toList = s.data.toList.drop t.size := by
    have : (s.extract t.size s.size).data.toList = (s.data.toList.drop t.size).take (s.size - t.size) := by simp
    rw [this, List.take_of_length_le (by simp)]
  have h3 := h.2
  have h4 : t.data.toList = s.data.toList.take t.size := by rw [← h1, h3]
  rw [h2]
  conv => lhs; rw [← List.take_append_drop t.size s.data.toList]
  rw [← h4]
theorem app_pre {s t : ByteArray} {r : List UInt8} (h : s.data.toList = t.data.toList ++ r) : pre s t := by
  have h0 : s.size = t.size + r.length := by
    have := congrArg List.length h
    simpa using this
  refine ⟨by omega, ba_eq ?_⟩
  have h1 : (s.extract 0 t.size).data.toList = s.data.toList.take t.size := by simp
  rw [h1, h]
  have : t.size = t.data.toList.length := by simp
  rw [this, List.take_left]
end Go.Proofs.YthnlllbanfemaaaGreatDoor
