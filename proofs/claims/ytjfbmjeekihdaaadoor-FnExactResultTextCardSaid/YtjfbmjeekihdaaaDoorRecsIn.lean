
/- A slice of the laws' records that came in is one that may be read record by record. -/
import Derived.Test.YtjfbmjeekihdaaaDoorRuns
import Derived.Deep.Slices
namespace Go.Proofs.YtjfbmjeekihdaaaDoor
open Go.ChangeShapes Go.WideShapes Go.ChangeAt Go.RowKit Go.Deep
set_option linter.unusedVariables false
set_option maxRecDepth 100000

theorem cellsRec : Tryd.prog.cellsOf 131 = 2 := by kernel_rfl

theorem add_plain (b off i : Nat) : (⟨b, off, none⟩ : Addr).add i = ⟨b, off + i, none⟩ := by
  unfold Addr.add; split <;> simp_all

theorem rec_of_trod {H : Type} {enc : TypeId × Value → H} {w : World} {base : Nat} {spare : Nat → Bool} {held : Bool} {fuel : Nat} {cs : List Value} {x : DataW H × List MemPlace}
    (h : DataW.trod enc Tryd.prog w base spare held fuel 131 cs = some x) : ∃ (s : ByteArray) (n : Int), cs = [.string s, .int .i64 n] ∧ s.size ≤ maxLen := by
  obtain ⟨y0, y1, m, _, hl, h0, h1⟩ := trod_struct2 Tryd.underlying131 h
  rw [cellsRec] at hl
  obtain ⟨s, e0, _, hs⟩ := DataW.trod_string Tryd.underlying9 h0
  obtain ⟨n, e1, _, _⟩ := DataW.trod_int Tryd.underlying2 h1
  match cs, hl with
  | [c0, c1], _ =>
    have k0 : Tryd.prog.cellsOf 9 = 1 := by kernel_rfl
    have k1 : Tryd.prog.cellsOf 2 = 1 := by kernel_rfl
    simp [k0] at e0
    simp [k1] at e1
    exact ⟨s, n, by rw [e0, e1], hs⟩

theorem recs_of_trod {H : Type} {enc : TypeId × Value → H} {w : World} {base : Nat} {spare : Nat → Bool} {held : Bool} {fuel : Nat} {a : Option Addr} {len cap : Nat} {x : DataW H × List MemPlace}
    (h : DataW.trod enc Tryd.prog w base spare held fuel 100 [.slice a len cap] = some x) : ∃ l, RecsAt w a len l := by
  rcases open_slice Tryd.underlying100 h with ⟨hcs, _⟩ | ⟨ad, len', cap', m, n, D, Pl, hcs, _, hl, hm, hmm, _, hx⟩
  · simp at hcs
    obtain ⟨rfl, rfl, rfl⟩ := hcs
    exact ⟨[], rfl, Nat.zero_le _, fun i hi => by omega, .inl rfl⟩
  · simp at hcs
    obtain ⟨rfl, rfl, rfl⟩ := hcs
    by_cases h0 : len = 0
    · subst h0
      exact ⟨[], rfl, Nat.zero_le _, fun i hi => by omega, .inl rfl⟩
    · have hlm : len ≤ m := by rw [hmm]; split <;> omega
      rw [cellsRec] at hx
      have hall : ∀ i, i < len → ∃ r : ByteArray × Int, w.cell? (ad.add (i * 2)) = some (.string r.1) ∧ w.cell? ((ad.add (i * 2)).add 1) = some (.int .i64 r.2) ∧ r.1.size ≤ maxLen := by
        intro i hi
        obtain ⟨cs', h1, h2⟩ := hx i (by omega)
        obtain ⟨s, k, rfl, hs⟩ := rec_of_trod h2
        obtain ⟨_, _, hc⟩ := World.cells?_some h1
        refine ⟨(s, k), ?_, ?_, hs⟩
        · have := hc 0 (by omega)
          simpa [Addr.add] using this
        · have := hc 1 (by omega)
          simpa using this
      obtain ⟨R, hR⟩ := choose_lt hall
      obtain ⟨b, off, spot⟩ := ad
      have hspot : spot = none := by
        have := World.cell?_spot (hR 0 (by omega)).1
        simpa [Addr.add] using this
      subst hspot
      have hget : ∀ i, i < len → ((List.range len).map R).getD i (ByteArray.empty, 0) = R i := by
        intro i hi
        rw [List.getD_eq_getElem?_getD, List.getElem?_map, List.getElem?_range hi]; rfl
      refine ⟨(List.range len).map R, by simp, by omega, fun i hi => ?_, .inr ⟨b, off, rfl, ?_, fun i hi => ?_⟩⟩
      · unfold keyAt; rw [hget i hi]; exact (hR i hi).2.2
      · have := World.block_lt_of_cell? _ _ (hR 0 (by omega)).1
        simpa [Addr.add] using this
      · have h1 := (hR i hi).1
        have h2 := (hR i hi).2.1
        unfold keyAt numAt
        rw [hget i hi]
        rw [add_plain] at h1 h2
        rw [add_plain] at h2
        exact ⟨h1, h2⟩
end Go.Proofs.YtjfbmjeekihdaaaDoor
