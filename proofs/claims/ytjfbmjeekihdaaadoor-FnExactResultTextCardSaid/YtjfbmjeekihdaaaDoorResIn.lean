
/- A result that came in may be read; its numbers are of 64 bits. -/
import Derived.Test.YtjfbmjeekihdaaaDoorSSIn
import Derived.Test.YtjfbmjeekihdaaaDoorDecs
import Derived.Lib.SmallJoins
namespace Go.Proofs.YtjfbmjeekihdaaaDoor
open Go.ChangeShapes Go.WideShapes Go.ChangeAt Go.RowKit Go.Deep Go.Joins
set_option linter.unusedVariables false
set_option maxRecDepth 100000

theorem rec_of_trodN {H : Type} {enc : TypeId × Value → H} {w : World} {base : Nat} {spare : Nat → Bool} {held : Bool} {fuel : Nat} {cs : List Value} {x : DataW H × List MemPlace}
    (h : DataW.trod enc Tryd.prog w base spare held fuel 131 cs = some x) : ∃ (s : ByteArray) (n : Int), cs = [.string s, .int .i64 n] ∧ s.size ≤ maxLen ∧ In64 n := by
  obtain ⟨y0, y1, m, _, hl, h0, h1⟩ := trod_struct2 Tryd.underlying131 h
  rw [cellsRec] at hl
  obtain ⟨s, e0, _, hs⟩ := DataW.trod_string Tryd.underlying9 h0
  obtain ⟨n, e1, _, w1⟩ := DataW.trod_int Tryd.underlying2 h1
  match cs, hl with
  | [c0, c1], _ =>
    have k0 : Tryd.prog.cellsOf 9 = 1 := by kernel_rfl
    have k1 : Tryd.prog.cellsOf 2 = 1 := by kernel_rfl
    simp [k0] at e0
    simp [k1] at e1
    exact ⟨s, n, by rw [e0, e1], hs, bounds_i64 w1⟩

theorem recs_of_trodN {H : Type} {enc : TypeId × Value → H} {w : World} {base : Nat} {spare : Nat → Bool} {held : Bool} {fuel : Nat} {a : Option Addr} {len cap : Nat} {x : DataW H × List MemPlace}
    (h : DataW.trod enc Tryd.prog w base spare held fuel 100 [.slice a len cap] = some x) : ∃ l, RecsAt w a len l ∧ ∀ r ∈ l, In64 r.2 := by
  rcases open_slice Tryd.underlying100 h with ⟨hcs, _⟩ | ⟨ad, len', cap', m, n, D, Pl, hcs, _, hl, hm, hmm, _, hx⟩
  · simp at hcs
    obtain ⟨rfl, rfl, rfl⟩ := hcs
    exact ⟨[], ⟨rfl, Nat.zero_le _, fun i hi => by omega, .inl rfl⟩, fun r hr => by cases hr⟩
  · simp at hcs
    obtain ⟨rfl, rfl, rfl⟩ := hcs
    by_cases h0 : len = 0
    · subst h0
      exact ⟨[], ⟨rfl, Nat.zero_le _, fun i hi => by omega, .inl rfl⟩, fun r hr => by cases hr⟩
    · have hlm : len ≤ m := by rw [hmm]; split <;> omega
      rw [cellsRec] at hx
      have hall : ∀ i, i < len → ∃ r : ByteArray × Int, w.cell? (ad.add (i * 2)) = some (.string r.1) ∧ w.cell? ((ad.add (i * 2)).add 1) = some (.int .i64 r.2) ∧ r.1.size ≤ maxLen ∧ In64 r.2 := by
        intro i hi
        obtain ⟨cs', h1, h2⟩ := hx i (by omega)
        obtain ⟨s, k, rfl, hs, hk⟩ := rec_of_trodN h2
        obtain ⟨_, _, hc⟩ := World.cells?_some h1
        refine ⟨(s, k), ?_, ?_, hs, hk⟩
        · have := hc 0 (by omega)
          simpa [Addr.add] using this
        · have := hc 1 (by omega)
          simpa using this
      obtain ⟨R, hR⟩ := choose_lt hall
      obtain ⟨b, off, spot⟩ := ad
      have hspot : spot = none := by
        have := World.cell?_spot (hR 0 (by omega)).1
        simpa [Addr.add] using this
      subst hspot
      have hget : ∀ i, i < len → ((List.range len).map R).getD i (ByteArray.empty, 0) = R i := by
        intro i hi
        rw [List.getD_eq_getElem?_getD, List.getElem?_map, List.getElem?_range hi]; rfl
      refine ⟨(List.range len).map R, ⟨by simp, by omega, fun i hi => ?_, .inr ⟨b, off, rfl, ?_, fun i hi => ?_⟩⟩, fun r hr => ?_⟩
      · unfold keyAt; rw [hget i hi]; exact (hR i hi).2.2.1
      · have := World.block_lt_of_cell? _ _ (hR 0 (by omega)).1
        simpa [Addr.add] using this
      · have h1 := (hR i hi).1
        have h2 := (hR i hi).2.1
        unfold keyAt numAt
        rw [hget i hi]
        rw [add_plain] at h1 h2
        rw [add_plain] at h2
        exact ⟨h1, h2⟩
      · obtain ⟨i, hi, rfl⟩ := List.mem_map.1 hr
        exact (hR i (List.mem_range.1 hi)).2.2.2

theorem recss_of_trodN {H : Type} {enc : TypeId × Value → H} {w : World} {base : Nat} {spare : Nat → Bool} {held : Bool} {fuel : Nat} {a : Option Addr} {len cap : Nat} {x : DataW H × List MemPlace}
    (h : DataW.trod enc Tryd.prog w base spare held fuel 28 [.slice a len cap] = some x) : ∃ LS, RunLs w a len LS ∧ ∀ V ∈ LS, ∀ r ∈ V, In64 r.2 := by
  rcases open_slice Tryd.underlying28 h with ⟨hcs, _⟩ | ⟨ad, len', cap', m, n, D, Pl, hcs, _, hl, hm, hmm, _, hx⟩
  · simp at hcs
    obtain ⟨rfl, rfl, rfl⟩ := hcs
    exact ⟨[], ⟨rfl, Nat.zero_le _, .inl rfl⟩, fun V hV => by cases hV⟩
  · simp at hcs
    obtain ⟨rfl, rfl, rfl⟩ := hcs
    by_cases h0 : len = 0
    · subst h0
      exact ⟨[], ⟨rfl, Nat.zero_le _, .inl rfl⟩, fun V hV => by cases hV⟩
    · have hlm : len ≤ m := by rw [hmm]; split <;> omega
      rw [cellsRecS] at hx
      have hall : ∀ i, i < len → ∃ r : (Option Addr × Nat × Nat) × Recs, w.cell? (ad.add i) = some (.slice r.1.1 r.1.2.1 r.1.2.2) ∧ RecsAt w r.1.1 r.1.2.1 r.2 ∧ ∀ x ∈ r.2, In64 x.2 := by
        intro i hi
        obtain ⟨cs', h1, h2⟩ := hx i (by omega)
        obtain ⟨_, hsz, hc⟩ := World.cells?_some h1
        obtain ⟨q, k, c, rfl⟩ : ∃ q k c, cs' = [.slice q k c] := by
          rcases open_slice Tryd.underlying100 h2 with ⟨hcs, _⟩ | ⟨ad', l', c', _, _, _, _, hcs, _⟩
          · exact ⟨_, _, _, hcs⟩
          · exact ⟨_, _, _, hcs⟩
        obtain ⟨l, hr, hn⟩ := recs_of_trodN h2
        exact ⟨((q, k, c), l), by have := hc 0 (by omega); simpa [Addr.add] using this, hr, hn⟩
      obtain ⟨R, hR⟩ := choose_lt hall
      obtain ⟨b, off, spot⟩ := ad
      have hspot : spot = none := by
        have := World.cell?_spot (hR 0 (by omega)).1
        simpa [Addr.add] using this
      subst hspot
      have hget : ∀ i, i < len → ((List.range len).map fun i => (R i).2).getD i [] = (R i).2 := by
        intro i hi
        rw [List.getD_eq_getElem?_getD, List.getElem?_map, List.getElem?_range hi]; rfl
      refine ⟨(List.range len).map fun i => (R i).2, ⟨by simp, by omega, .inr ⟨b, off, rfl, ?_, fun i hi => ?_⟩⟩, fun V hV => ?_⟩
      · have := World.block_lt_of_cell? _ _ (hR 0 (by omega)).1
        simpa [Addr.add] using this
      · obtain ⟨h1, h2, _⟩ := hR i hi
        rw [add_plain] at h1
        exact ⟨_, _, _, h1, by rw [hget i hi]; exact h2⟩
      · obtain ⟨i, hi, rfl⟩ := List.mem_map.1 hV
        exact (hR i (List.mem_range.1 hi)).2.2

theorem recss_sliceN {H : Type} {enc : TypeId × Value → H} {w : World} {base : Nat} {spare : Nat → Bool} {held : Bool} {fuel : Nat} {c : Value} {x : DataW H × List MemPlace}
    (h : DataW.trod enc Tryd.prog w base spare held fuel 28 [c] = some x) : ∃ a la ca LS, c = .slice a la ca ∧ RunLs w a la LS ∧ ∀ V ∈ LS, ∀ r ∈ V, In64 r.2 := by
  have h' := h
  rcases open_slice Tryd.underlying28 h with ⟨hcs, _⟩ | ⟨ad, len', cap', m, n, D, Pl, hcs, _⟩
  · simp at hcs
    subst hcs
    obtain ⟨l, hl⟩ := recss_of_trodN h'
    exact ⟨_, _, _, l, rfl, hl⟩
  · simp at hcs
    subst hcs
    obtain ⟨l, hl⟩ := recss_of_trodN h'
    exact ⟨_, _, _, l, rfl, hl⟩
theorem cellsResult : Tryd.prog.cellsOf 30 = 4 := by kernel_rfl
theorem res_of_trodN {H : Type} {enc : TypeId × Value → H} {w : World} {base : Nat} {spare : Nat → Bool} {held : Bool} {r : Reach} {b0 : Nat} {v : Value} {d : DataW H} {ps : List MemPlace}
    (hv : Value.okWide Tryd.prog w r b0 30 v) (h : DataW.Trod enc Tryd.prog w base spare held 30 v d ps) :
    ∃ (e1 e2 : Bool) (n1 : Int) (q : Option Addr) (n cp : Nat) (LS : List Recs), RunLs w q n LS ∧ (∀ V ∈ LS, ∀ r ∈ V, In64 r.2) ∧ In64 n1 ∧ v = .agg #[.bool e1, .bool e2, .int .i64 n1, .slice q n cp] := by
  obtain ⟨c0, c1, c2, c3, y0, y1, y2, y3, m, rfl, _, _, h0, h1, h2, h3⟩ := open_agg4 Tryd.underlying30 (by kernel_rfl) cellsResult hv h
  obtain ⟨e1, q1, _⟩ := DataW.trod_bool Tryd.underlying4 h0
  obtain ⟨e2, q2, _⟩ := DataW.trod_bool Tryd.underlying4 h1
  obtain ⟨n1, q3, _, w3⟩ := DataW.trod_int Tryd.underlying2 h2
  obtain ⟨q, n, cp, LS, rfl, hl, hn⟩ := recss_sliceN h3
  simp at q1 q2 q3
  subst q1 q2 q3
  exact ⟨e1, e2, n1, q, n, cp, LS, hl, hn, bounds_i64 w3, rfl⟩
end Go.Proofs.YtjfbmjeekihdaaaDoor
