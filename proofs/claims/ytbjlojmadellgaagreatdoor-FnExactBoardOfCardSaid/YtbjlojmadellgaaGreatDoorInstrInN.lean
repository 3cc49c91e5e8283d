
/- A slice of the laws' Instr values that came in is one that may be read; its numbers are of 64 bits. -/
import Derived.Test.YtbjlojmadellgaaGreatDoorMg3
import Derived.Test.YtbjlojmadellgaaGreatDoorMg9
namespace Go.Proofs.YtbjlojmadellgaaGreatDoor
open Go.ChangeShapes Go.WideShapes Go.ChangeAt Go.RowKit Go.Deep
set_option linter.unusedVariables false
set_option maxRecDepth 100000

theorem in64_wfN {n : Int} (h : (Lit.int .i64 n).wf = true) : In64 n := by
  exact bounds_i64 h
theorem ins_of_trodN {H : Type} {enc : TypeId × Value → H} {w : World} {base : Nat} {spare : Nat → Bool} {held : Bool} {fuel : Nat} {cs : List Value} {x : DataW H × List MemPlace}
    (h : DataW.trod enc Tryz.prog w base spare held fuel 92 cs = some x) : ∃ (x0 : Int) (x1 : Int) (x2 : ByteArray), cs = [.int .i64 x0, .int .i64 x1, .string x2] ∧ x2.size ≤ maxLen ∧ In64 x1 := by
  obtain ⟨y0, y1, y2, m, _, hl, h0, h1, h2⟩ := trod_struct3 Tryz.underlying92 h
  rw [cellsInstr] at hl
  obtain ⟨x0, e0, _, _⟩ := DataW.trod_int Tryz.underlying2 h0
  obtain ⟨x1, e1, _, w1⟩ := DataW.trod_int Tryz.underlying2 h1
  obtain ⟨x2, e2, _, hs2⟩ := DataW.trod_string Tryz.underlying9 h2
  match cs, hl with
  | [c0, c1, c2], _ =>
    have k0 : Tryz.prog.cellsOf 9 = 1 := by kernel_rfl
    have k1 : Tryz.prog.cellsOf 2 = 1 := by kernel_rfl
    simp [k1] at e0
    simp [k1] at e1
    simp [k0] at e2
    exact ⟨x0, x1, x2, by rw [e0, e1, e2], hs2, in64_wfN w1⟩

theorem inss_of_trodN {H : Type} {enc : TypeId × Value → H} {w : World} {base : Nat} {spare : Nat → Bool} {held : Bool} {fuel : Nat} {a : Option Addr} {len cap : Nat} {x : DataW H × List MemPlace}
    (h : DataW.trod enc Tryz.prog w base spare held fuel 22 [.slice a len cap] = some x) : ∃ l, InstrsAt w a len l ∧ ∀ i, i < len → In64 (ins1 l i) := by
  rcases open_slice Tryz.underlying22 h with ⟨hcs, _⟩ | ⟨ad, len', cap', m, n, D, Pl, hcs, _, hl, hm, hmm, _, hx⟩
  · simp at hcs
    obtain ⟨rfl, rfl, rfl⟩ := hcs
    exact ⟨[], ⟨rfl, Nat.zero_le _, fun i hi => by omega, .inl rfl⟩, fun i hi => by omega⟩
  · simp at hcs
    obtain ⟨rfl, rfl, rfl⟩ := hcs
    by_cases h0 : len = 0
    · subst h0
      exact ⟨[], ⟨rfl, Nat.zero_le _, fun i hi => by omega, .inl rfl⟩, fun i hi => by omega⟩
    · have hlm : len ≤ m := by rw [hmm]; split <;> omega
      rw [cellsInstr] at hx
      obtain ⟨b, off, spot⟩ := ad
      have hall : ∀ i, i < len → ∃ r : Int × Int × ByteArray, (w.cell? (((⟨b, off, spot⟩ : Addr).add (i * 3))) = some (.int .i64 r.1) ∧ w.cell? (((⟨b, off, spot⟩ : Addr).add (i * 3)).add 1) = some (.int .i64 r.2.1) ∧ w.cell? (((⟨b, off, spot⟩ : Addr).add (i * 3)).add 2) = some (.string r.2.2)) ∧ (r.2.2.size ≤ maxLen ∧ In64 r.2.1) := by
        intro i hi
        obtain ⟨cs', h1, h2⟩ := hx i (by omega)
        obtain ⟨x0, x1, x2, rfl, hs2⟩ := ins_of_trodN h2
        obtain ⟨_, _, hc⟩ := World.cells?_some h1
        refine ⟨(x0, x1, x2), ⟨?_, ?_, ?_⟩, hs2⟩
        · have := hc 0 (by simp)
          simpa [Addr.add] using this
        · have := hc 1 (by simp)
          simpa [Addr.add] using this
        · have := hc 2 (by simp)
          simpa [Addr.add] using this
      obtain ⟨R, hR⟩ := choose_lt hall
      have hspot : spot = none := by
        have := World.cell?_spot (hR 0 (by omega)).1.1
        simpa [Addr.add] using this
      subst hspot
      have hget : ∀ i, i < len → ((List.range len).map R).getD i (0, 0, ByteArray.empty) = R i := by
        intro i hi
        rw [List.getD_eq_getElem?_getD, List.getElem?_map, List.getElem?_range hi]; rfl
      refine ⟨(List.range len).map R, ⟨by simp, by omega, fun i hi => ?_, .inr ⟨b, off, rfl, ?_, fun i hi => ?_⟩⟩, fun i hi => ?_⟩
      · unfold ins2; rw [hget i hi]; exact (hR i hi).2.1
      · have := World.block_lt_of_cell? _ _ (hR 0 (by omega)).1.1
        simpa [Addr.add] using this
      · have h1 := (hR i hi).1
        unfold ins0 ins1 ins2
        rw [hget i hi]
        simpa only [add_ins] using h1
      · unfold ins1; rw [hget i hi]; exact (hR i hi).2.2
end Go.Proofs.YtbjlojmadellgaaGreatDoor
