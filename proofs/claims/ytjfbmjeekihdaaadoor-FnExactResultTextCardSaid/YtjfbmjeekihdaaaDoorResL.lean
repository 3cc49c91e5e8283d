
/- Results that the laws measure, copy and compare. -/
import Derived.Test.YtjfbmjeekihdaaaDoorSzR
import Derived.Test.YtjfbmjeekihdaaaDoorSS2
import Derived.Test.YtjfbmjeekihdaaaDoorRecG
import Derived.Test.YtjfbmjeekihdaaaDoorOwn
namespace Go.Proofs.YtjfbmjeekihdaaaDoor
open Go.ChangeShapes Go.WideShapes Go.ChangeAt Go.RowKit
set_option linter.unusedVariables false
set_option maxRecDepth 100000

theorem RunLs.outs {w : World} {a : Option Addr} {n : Nat} {LS : List Recs} (h : RunLs w a n LS) : OutsAt w a n LS := ⟨h.1, h.2.1, h.2.2⟩

set_option maxHeartbeats 2000000 in
theorem szresult_any (d f : Bool) (task left : Int) (q : Option Addr) (n cp : Nat) (LS : List Recs) (w : World) (h : RunLs w q n LS) (h0 : 0 ≤ left) (h1 : left ≤ 1048576) :
    Calls Tryd.prog 12 #[.agg #[.bool d, .bool f, .int .i64 task, .slice q n cp], .int .i64 left] w (SizedSK n LS w) := by
  obtain ⟨B, hB⟩ : ∃ B, w.heap.size = B := ⟨_, rfl⟩
  obtain ⟨w1, hw1⟩ : ∃ x, w.alloc (.cells #[.bool d, .bool f, .int .i64 task, .slice q n cp] 30) = x := ⟨_, rfl⟩
  have HB := Lib.hid (show Below w.heap.size w w1 from hw1 ▸ below_alloc (Below.refl _ _) _)
  have HR := Lib.hid (show Row w1 B 30 #[.bool d, .bool f, .int .i64 task, .slice q n cp] from by rw [← hw1, ← hB]; exact Row.new w _ _)
  have HO := Lib.hid (show RunLs w1 q n LS from h.keep HB.out)
  have k3 := HR.out.cell (j := 3) (by simp)
  simp at k3
  clear h
  go_enter Tryd.func12, Tryd.ntmps12
  go_wp2_with fail
  refine (szrecssK_any _ _ _ _ _ _ HO.out h0 h1).mono ?_
  rintro e w2 ⟨x, hx1, hx2, rfl, hB2, hsz⟩
  have HB2 := Lib.hid (below_via HB.out hB2)
  have HS := Lib.hid hsz
  clear hB2 hsz
  by_cases hneg : x < 0
  · go_wp2
    go_ret
    exact ⟨-1, by omega, by omega, rfl, HB2.out, fun h => by omega⟩
  · go_wp2
    go_ret
    exact ⟨x, hx1, hx2, rfl, HB2.out, HS.out⟩

set_option maxHeartbeats 4000000 in
theorem eqresult_same (d f : Bool) (task : Int) (q q2 : Option Addr) (n cp cp2 : Nat) (LS : List Recs) (w : World) (h : RunLs w q n LS) (h2 : RunLs w q2 n LS) :
    Calls Tryd.prog 16 #[.agg #[.bool d, .bool f, .int .i64 task, .slice q n cp], .agg #[.bool d, .bool f, .int .i64 task, .slice q2 n cp2]] w (MadeBool true w) := by
  obtain ⟨B, hB⟩ : ∃ B, w.heap.size = B := ⟨_, rfl⟩
  obtain ⟨w1, hw1⟩ : ∃ x, w.alloc (.cells #[.bool d, .bool f, .int .i64 task, .slice q n cp] 35) = x := ⟨_, rfl⟩
  have HB := Lib.hid (show Below w.heap.size w w1 from hw1 ▸ below_alloc (Below.refl _ _) _)
  have HR := Lib.hid (show Row w1 B 35 #[.bool d, .bool f, .int .i64 task, .slice q n cp] from by rw [← hw1, ← hB]; exact Row.new w _ _)
  obtain ⟨B2, hB2⟩ : ∃ B, w1.heap.size = B := ⟨_, rfl⟩
  obtain ⟨w2, hw2⟩ : ∃ x, w1.alloc (.cells #[.bool d, .bool f, .int .i64 task, .slice q2 n cp2] 35) = x := ⟨_, rfl⟩
  have HBA := Lib.hid (show Below w1.heap.size w1 w2 from hw2 ▸ below_alloc (Below.refl _ _) _)
  have HR2 := Lib.hid (show Row w2 B2 35 #[.bool d, .bool f, .int .i64 task, .slice q2 n cp2] from by rw [← hw2, ← hB2]; exact Row.new w1 _ _)
  have HR := Lib.hid (HR.out.keep HBA.out)
  have HB := Lib.hid (below_via HB.out HBA.out)
  have HO := Lib.hid (h.keep HB.out)
  have HO2 := Lib.hid (h2.keep HB.out)
  have k0 := HR.out.cell (j := 0) (by simp)
  have k1 := HR.out.cell (j := 1) (by simp)
  have k2 := HR.out.cell (j := 2) (by simp)
  have k3 := HR.out.cell (j := 3) (by simp)
  have y0 := HR2.out.cell (j := 0) (by simp)
  have y1 := HR2.out.cell (j := 1) (by simp)
  have y2 := HR2.out.cell (j := 2) (by simp)
  have y3 := HR2.out.cell (j := 3) (by simp)
  simp at k0 k1 k2 k3 y0 y1 y2 y3
  clear h h2
  go_enter Tryd.func16, Tryd.ntmps16
  go_wp2_with fail
  refine (eqss_same _ _ _ _ _ _ _ HO.out HO2.out).mono ?_
  rintro e w3 ⟨rfl, hB3⟩
  have HB3 := Lib.hid (below_via HB.out hB3)
  clear hB3
  go_wp2
  go_ret
  exact ⟨rfl, HB3.out⟩

/-- A result that was copied. -/
def MadeRes (d f : Bool) (task : Int) (n : Nat) (LS : List Recs) (w : World) (e : Ending) (w' : World) : Prop :=
  ∃ q, e = .returned (.agg #[.bool d, .bool f, .int .i64 task, .slice q n n]) ∧ Below w.heap.size w w' ∧ RunLs w' q n LS
theorem runls_set {w : World} {G n C j : Nat} {LS : List Recs} {v : Value} (h : RunLs w (some ⟨G, 0, none⟩) n LS) (hG : G ≠ C) (hin : ∀ i p m c b off, i < n → w.cell? ⟨G, 0 + i, none⟩ = some (.slice p m c) → p = some ⟨b, off, none⟩ → b ≠ C) : RunLs (w.setCell ⟨C, j, none⟩ v) (some ⟨G, 0, none⟩) n LS := by
  refine ⟨h.1, h.2.1, ?_⟩
  rcases h.2.2 with h0 | ⟨b, off, ha, hb, hc⟩
  · exact .inl h0
  · simp only [Option.some.injEq, Addr.mk.injEq, and_true] at ha
    obtain ⟨rfl, rfl⟩ := ha
    refine .inr ⟨G, 0, rfl, by simpa [World.setCell] using hb, fun i hi => ?_⟩
    obtain ⟨p, m, c, h1, h2⟩ := hc i hi
    refine ⟨p, m, c, (World.cell?_setCell_other _ _ _ _ (by simp)).trans h1, ?_⟩
    refine recs_grown h2 (growS (World.grownBy.refl _ _) j v) (fun h0 b off e => ?_)
    have := hin i p m c b off hi h1 e
    simp
    omega
structure RG (w : World) (G lo n : Nat) (LS : List Recs) : Prop where
  runs : RunLs w (some ⟨G, 0, none⟩) n LS
  far : ∀ i p m c b off, i < n → w.cell? ⟨G, 0 + i, none⟩ = some (.slice p m c) → p = some ⟨b, off, none⟩ → lo ≤ b
theorem RG.set {w : World} {G lo n C : Nat} {LS : List Recs} (h : RG w G lo n LS) (hC : C < lo) (hG : G ≠ C) (j : Nat) (v : Value) : RG (w.setCell ⟨C, j, none⟩ v) G lo n LS :=
  ⟨runls_set h.runs hG (fun i p m c b off hi hc e => by have := h.far i p m c b off hi hc e; omega), fun i p m c b off hi hc e =>
    h.far i p m c b off hi (((World.cell?_setCell_other _ _ _ _ (by simp)).symm).trans hc) e⟩

set_option maxHeartbeats 4000000 in
theorem toresult_any (d f : Bool) (task : Int) (q : Option Addr) (n cp : Nat) (LS : List Recs) (w : World) (h : RunLs w q n LS) (hfew : n ≤ 1048576) (hsh : ∀ i, i < n → nAt LS i ≤ 1048576) :
    Calls Tryd.prog 14 #[.agg #[.bool d, .bool f, .int .i64 task, .slice q n cp]] w (MadeRes d f task n LS w) := by
  obtain ⟨B, hB⟩ : ∃ B, w.heap.size = B := ⟨_, rfl⟩
  obtain ⟨w1, hw1⟩ : ∃ x, w.alloc (.cells #[.bool d, .bool f, .int .i64 task, .slice q n cp] 30) = x := ⟨_, rfl⟩
  have HB := Lib.hid (show Below w.heap.size w w1 from hw1 ▸ below_alloc (Below.refl _ _) _)
  have HR := Lib.hid (show Row w1 B 30 #[.bool d, .bool f, .int .i64 task, .slice q n cp] from by rw [← hw1, ← hB]; exact Row.new w _ _)
  have HO := Lib.hid (h.keep HB.out)
  have HSH := Lib.hid hsh
  have HL := Lib.hid h.1
  have k0 := HR.out.cell (j := 0) (by simp)
  have k1 := HR.out.cell (j := 1) (by simp)
  have k2 := HR.out.cell (j := 2) (by simp)
  have k3 := HR.out.cell (j := 3) (by simp)
  simp at k0 k1 k2 k3
  have hBl := HR.out.lt
  have n0 : ∀ o : Obj, ((w1.alloc (.cells #[.bool false, .bool false, .int .i64 0, .slice none 0 0] 35)).alloc o).cell? ⟨B, 0, none⟩ = some (.bool d) := fun o => ((below_alloc (below_alloc (Below.refl _ _) _) o).cell (p := ⟨B, 0, none⟩) hBl).trans k0
  have n1 : ∀ o : Obj, ((w1.alloc (.cells #[.bool false, .bool false, .int .i64 0, .slice none 0 0] 35)).alloc o).cell? ⟨B, 1, none⟩ = some (.bool f) := fun o => ((below_alloc (below_alloc (Below.refl _ _) _) o).cell (p := ⟨B, 1, none⟩) hBl).trans k1
  have n2 : ∀ o : Obj, ((w1.alloc (.cells #[.bool false, .bool false, .int .i64 0, .slice none 0 0] 35)).alloc o).cell? ⟨B, 2, none⟩ = some (.int .i64 task) := fun o => ((below_alloc (below_alloc (Below.refl _ _) _) o).cell (p := ⟨B, 2, none⟩) hBl).trans k2
  have n3 : ∀ o : Obj, ((w1.alloc (.cells #[.bool false, .bool false, .int .i64 0, .slice none 0 0] 35)).alloc o).cell? ⟨B, 3, none⟩ = some (.slice q n cp) := fun o => ((below_alloc (below_alloc (Below.refl _ _) _) o).cell (p := ⟨B, 3, none⟩) hBl).trans k3
  clear h hsh k0 k1 k2 k3 hBl
  go_enter Tryd.func14, Tryd.ntmps14
  go_wp2_with fail
  have HZ := Lib.hid (below_alloc (below_alloc (Below.refl w1.heap.size w1) (.cells #[.bool false, .bool false, .int .i64 0, .slice none 0 0] 35)) (.cells #[.bool d, .bool f, .int .i64 task, .slice none 0 0] 35))
  have R1 := Lib.hid ((Row.new w1 35 #[.bool false, .bool false, .int .i64 0, .slice none 0 0]).alloc (.cells #[.bool d, .bool f, .int .i64 task, .slice none 0 0] 35))
  have R2 := Lib.hid (show Row _ (w1.heap.size + 1) 35 #[.bool d, .bool f, .int .i64 task, .slice none 0 0] from by
    have := Row.new (w1.alloc (.cells #[.bool false, .bool false, .int .i64 0, .slice none 0 0] 35)) 35 #[.bool d, .bool f, .int .i64 task, .slice none 0 0]
    rwa [World.size_alloc] at this)
  clear n0 n1 n2 n3
  obtain ⟨C, hC⟩ : ∃ C, w1.heap.size = C := ⟨_, rfl⟩
  obtain ⟨w4, hw4⟩ : ∃ x, (w1.alloc (.cells #[.bool false, .bool false, .int .i64 0, .slice none 0 0] 35)).alloc (.cells #[.bool d, .bool f, .int .i64 task, .slice none 0 0] 35) = x := ⟨_, rfl⟩
  rw [hw4, hC] at R1 R2
  rw [hw4] at HZ
  have HB4 := Lib.hid (below_via HB.out HZ.out)
  have HO4 := Lib.hid (HO.out.keep HZ.out)
  have HCW := Lib.hid (show w.heap.size ≤ C from by rw [← hC]; exact HB.out.size)
  rw [hw4, hC]
  refine (torecss_any _ _ _ _ _ HO4.out hfew HSH.out).mono ?_
  rintro e w5 ⟨rfl, hB5, cur, hrow, hcs, hin⟩
  have R1 := Lib.hid (R1.out.keep hB5)
  have R2 := Lib.hid (R2.out.keep hB5)
  have HB5 := Lib.hid (below_via HB4.out hB5)
  have hC4 : C + 1 < w4.heap.size := by
    rw [← hw4, ← hC, World.size_alloc, World.size_alloc]; omega
  obtain ⟨G, hG⟩ : ∃ G, w4.heap.size = G := ⟨_, rfl⟩
  rw [hG] at hrow hin hC4 ⊢
  have HS := Lib.hid (sc_of_made HL.out hrow hcs hin HSH.out)
  have HG := Lib.hid (show RG w5 G (G + 1) n LS from ⟨⟨HS.out.1, by unfold maxLen; omega, by
    rcases HS.out.2 with h0 | ⟨b, off, e, hb, hc⟩
    · exact .inl h0
    · exact .inr ⟨b, off, e, hb, fun i hi => by
        obtain ⟨p, m, c, h1, h2, _⟩ := hc i hi
        exact ⟨p, m, c, h1, h2⟩⟩⟩, fun i p m c b off hi hc e => by
    obtain ⟨g, rc, e1, hlo, _⟩ := hin i hi
    have hx : w5.cell? ⟨G, 0 + i, none⟩ = some (.slice (some ⟨g, 0, none⟩) (nAt LS i) (nAt LS i)) := by
      unfold Row at hrow
      simp [World.cell?, hrow, e1]
    rw [hx] at hc
    simp only [Option.some.injEq, Value.slice.injEq] at hc
    rw [e] at hc
    simp at hc
    omega⟩)
  have o0 := R2.out.cell (j := 0) (by simp)
  have o1 := R2.out.cell (j := 1) (by simp)
  have o2 := R2.out.cell (j := 2) (by simp)
  have o3 := R2.out.cell (j := 3) (by simp)
  have p0 := R1.out.cell (j := 0) (by simp)
  have p1 := R1.out.cell (j := 1) (by simp)
  have p2 := R1.out.cell (j := 2) (by simp)
  have p3 := R1.out.cell (j := 3) (by simp)
  have fo3 := R2.out.free 3
  have f0 := R1.out.free 0
  have f1 := R1.out.free 1
  have f2 := R1.out.free 2
  have f3 := R1.out.free 3
  simp at o0 o1 o2 o3 p0 p1 p2 p3
  clear hrow hcs hin hC hw4 hG hB5 cur
  go_wp2_with fail
  have hb := (((((R1.out.other (r := C + 1) (by omega) 3 (.slice (some ⟨G, 0, none⟩) n n)).set 0 (.bool d)).set 1 (.bool f)).set 2 (.int .i64 task)).set 3 (.slice (some ⟨G, 0, none⟩) n n))
  unfold Row at hb
  refine bodyPost_ret (v := .agg #[.bool d, .bool f, .int .i64 task, .slice (some ⟨G, 0, none⟩) n n]) (by simp [results, Tryd.results14, go_sem, World.cell?, hb]) rfl ⟨some ⟨G, 0, none⟩, rfl, ?_, ?_⟩
  · exact ((((HB5.out.setCell (p := ⟨C + 1, 3, none⟩) (by show w.heap.size ≤ C + 1; have := HCW.out; omega) _).setCell (p := ⟨C, 0, none⟩) HCW.out _).setCell (p := ⟨C, 1, none⟩) HCW.out _).setCell (p := ⟨C, 2, none⟩) HCW.out _).setCell (p := ⟨C, 3, none⟩) HCW.out _
  · exact (((((HG.out.set (C := C + 1) (by omega) (by omega) 3 _).set (C := C) (by omega) (by omega) 0 _).set (C := C) (by omega) (by omega) 1 _).set (C := C) (by omega) (by omega) 2 _).set (C := C) (by omega) (by omega) 3 _).runs
end Go.Proofs.YtjfbmjeekihdaaaDoor
