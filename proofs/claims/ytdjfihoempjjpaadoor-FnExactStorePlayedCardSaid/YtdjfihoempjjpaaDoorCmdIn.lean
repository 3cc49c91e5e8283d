
/- A slice of the laws' Cmd values that came in is one that may be read. -/
import Derived.Test.YtdjfihoempjjpaaDoorMg1
import Derived.Deep.Slices
import Derived.Deep.Strs
import Derived.Lib.SmallJoins
namespace Go.Proofs.YtdjfihoempjjpaaDoor
open Go.ChangeShapes Go.WideShapes Go.ChangeAt Go.RowKit Go.Deep Go.Joins
set_option linter.unusedVariables false
set_option maxRecDepth 100000

theorem add_cmd (b off i : Nat) : (⟨b, off, none⟩ : Addr).add i = ⟨b, off + i, none⟩ := by
  unfold Addr.add; split <;> simp_all

theorem cellsCmd : Tryd.prog.cellsOf 85 = 4 := by kernel_rfl

theorem cmd_of_trod {H : Type} {enc : TypeId × Value → H} {w : World} {base : Nat} {spare : Nat → Bool} {held : Bool} {fuel : Nat} {cs : List Value} {x : DataW H × List MemPlace}
    (h : DataW.trod enc Tryd.prog w base spare held fuel 85 cs = some x) : ∃ (x0 : Int) (x1 : ByteArray) (x2 : Int) (x3 : ByteArray), cs = [.int .i64 x0, .string x1, .int .i64 x2, .string x3] ∧ x1.size ≤ maxLen ∧ x3.size ≤ maxLen := by
  obtain ⟨y0, y1, y2, y3, m, _, hl, h0, h1, h2, h3⟩ := trod_struct4 Tryd.underlying85 h
  rw [cellsCmd] at hl
  obtain ⟨x0, e0, _, _⟩ := DataW.trod_int Tryd.underlying2 h0
  obtain ⟨x1, e1, _, hs1⟩ := DataW.trod_string Tryd.underlying9 h1
  obtain ⟨x2, e2, _, _⟩ := DataW.trod_int Tryd.underlying2 h2
  obtain ⟨x3, e3, _, hs3⟩ := DataW.trod_string Tryd.underlying9 h3
  match cs, hl with
  | [c0, c1, c2, c3], _ =>
    have k0 : Tryd.prog.cellsOf 9 = 1 := by kernel_rfl
    have k1 : Tryd.prog.cellsOf 2 = 1 := by kernel_rfl
    simp [k1] at e0
    simp [k0] at e1
    simp [k1] at e2
    simp [k0] at e3
    exact ⟨x0, x1, x2, x3, by rw [e0, e1, e2, e3], hs1, hs3⟩

theorem cmds_of_trod {H : Type} {enc : TypeId × Value → H} {w : World} {base : Nat} {spare : Nat → Bool} {held : Bool} {fuel : Nat} {a : Option Addr} {len cap : Nat} {x : DataW H × List MemPlace}
    (h : DataW.trod enc Tryd.prog w base spare held fuel 42 [.slice a len cap] = some x) : ∃ l, CmdsAt w a len l := by
  rcases open_slice Tryd.underlying42 h with ⟨hcs, _⟩ | ⟨ad, len', cap', m, n, D, Pl, hcs, _, hl, hm, hmm, _, hx⟩
  · simp at hcs
    obtain ⟨rfl, rfl, rfl⟩ := hcs
    exact ⟨[], rfl, Nat.zero_le _, fun i hi => by omega, .inl rfl⟩
  · simp at hcs
    obtain ⟨rfl, rfl, rfl⟩ := hcs
    by_cases h0 : len = 0
    · subst h0
      exact ⟨[], rfl, Nat.zero_le _, fun i hi => by omega, .inl rfl⟩
    · have hlm : len ≤ m := by rw [hmm]; split <;> omega
      rw [cellsCmd] at hx
      obtain ⟨b, off, spot⟩ := ad
      have hall : ∀ i, i < len → ∃ r : Int × ByteArray × Int × ByteArray, (w.cell? (((⟨b, off, spot⟩ : Addr).add (i * 4))) = some (.int .i64 r.1) ∧ w.cell? (((⟨b, off, spot⟩ : Addr).add (i * 4)).add 1) = some (.string r.2.1) ∧ w.cell? (((⟨b, off, spot⟩ : Addr).add (i * 4)).add 2) = some (.int .i64 r.2.2.1) ∧ w.cell? (((⟨b, off, spot⟩ : Addr).add (i * 4)).add 3) = some (.string r.2.2.2)) ∧ (r.2.1.size ≤ maxLen ∧ r.2.2.2.size ≤ maxLen) := by
        intro i hi
        obtain ⟨cs', h1, h2⟩ := hx i (by omega)
        obtain ⟨x0, x1, x2, x3, rfl, hs1, hs3⟩ := cmd_of_trod h2
        obtain ⟨_, _, hc⟩ := World.cells?_some h1
        refine ⟨(x0, x1, x2, x3), ⟨?_, ?_, ?_, ?_⟩, ⟨hs1, hs3⟩⟩
        · have := hc 0 (by simp)
          simpa [Addr.add] using this
        · have := hc 1 (by simp)
          simpa [Addr.add] using this
        · have := hc 2 (by simp)
          simpa [Addr.add] using this
        · have := hc 3 (by simp)
          simpa [Addr.add] using this
      obtain ⟨R, hR⟩ := choose_lt hall
      have hspot : spot = none := by
        have := World.cell?_spot (hR 0 (by omega)).1.1
        simpa [Addr.add] using this
      subst hspot
      have hget : ∀ i, i < len → ((List.range len).map R).getD i (0, ByteArray.empty, 0, ByteArray.empty) = R i := by
        intro i hi
        rw [List.getD_eq_getElem?_getD, List.getElem?_map, List.getElem?_range hi]; rfl
      refine ⟨(List.range len).map R, by simp, by omega, fun i hi => ?_, .inr ⟨b, off, rfl, ?_, fun i hi => ?_⟩⟩
      · unfold cmd1 cmd3; rw [hget i hi]; exact (hR i hi).2
      · have := World.block_lt_of_cell? _ _ (hR 0 (by omega)).1.1
        simpa [Addr.add] using this
      · have h1 := (hR i hi).1
        unfold cmd0 cmd1 cmd2 cmd3
        rw [hget i hi]
        simpa only [add_cmd] using h1
end Go.Proofs.YtdjfihoempjjpaaDoor
