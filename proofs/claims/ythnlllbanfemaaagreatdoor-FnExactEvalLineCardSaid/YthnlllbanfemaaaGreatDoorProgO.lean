
/- ProgOk of the program and of its model. Only new blocks are made. -/
import Derived.Test.YthnlllbanfemaaaGreatDoorProgS
import Derived.Test.YthnlllbanfemaaaGreatDoorMg2
import Derived.Test.YthnlllbanfemaaaGreatDoorCat
namespace Go.Proofs.YthnlllbanfemaaaGreatDoor
open Go.ChangeShapes Go.WideShapes Go.ChangeAt Go.RowKit
set_option linter.unusedVariables false
set_option maxRecDepth 100000

theorem cell_keepP {w w' : World} {p : Addr} {v : Value} (hB : Below w.heap.size w w') (h : w.cell? p = some v) : w'.cell? p = some v := (hB.cell (World.block_lt_of_cell? _ _ h)).trans h
def CutS (s t : ByteArray) (w : World) (e : Ending) (w' : World) : Prop := w = w' ∧
  ((t.size ≤ s.size ∧ s.extract (s.size - t.size) s.size = t ∧ e = .returned (.tuple #[.string (s.extract 0 (s.size - t.size)), .bool true])) ∨
   (¬ (t.size ≤ s.size ∧ s.extract (s.size - t.size) s.size = t) ∧ e = .returned (.tuple #[.string s, .bool false])))
set_option maxHeartbeats 2000000 in
theorem cutsuf_any (s t : ByteArray) (w : World) (hs : s.size ≤ 1000) (ht : t.size ≤ 1000) : Calls Tryz.prog 54 #[.string s, .string t] w (CutS s t w) := by
  by_cases hlt : t.size ≤ s.size
  · have hsub : (s.size : Int) - (t.size : Int) = ((s.size - t.size : Nat) : Int) := by omega
    have hge : (t.size : Int) ≤ (s.size : Int) := by omega
    by_cases hq : s.extract (s.size - t.size) s.size = t
    · have HQ := Lib.hid hq
      have hq2 : ((s.extract (s.size - t.size) s.size).toList == t.toList) = true := ba_eqv hq
      clear hq
      go_enter Tryz.func54, Tryz.ntmps54
      go_wp2
      go_ret2
      exact ⟨rfl, .inl ⟨hlt, HQ.out, rfl⟩⟩
    · have HQ := Lib.hid hq
      have hq2 : ((s.extract (s.size - t.size) s.size).toList == t.toList) = false := ba_nev hq
      clear hq
      go_enter Tryz.func54, Tryz.ntmps54
      go_wp2
      go_ret2
      exact ⟨rfl, .inr ⟨fun h => HQ.out h.2, rfl⟩⟩
  · have hge : ¬ (t.size : Int) ≤ (s.size : Int) := by omega
    go_enter Tryz.func54, Tryz.ntmps54
    go_wp2
    go_ret2
    exact ⟨rfl, .inr ⟨fun h => hlt h.1, rfl⟩⟩
end Go.Proofs.YthnlllbanfemaaaGreatDoor
