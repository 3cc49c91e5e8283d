
/- Stores that may be read: the laws' measures, copies and comparisons of them. Only new blocks are made. -/
import Derived.Test.YtkgapmbpeplhlaaObjEq
import Derived.Test.YtkgapmbpeplhlaaGoneEq
namespace Go.Proofs.Ytkgapmbpeplhlaa
open Go.ChangeShapes Go.WideShapes Go.ChangeAt Go.RowKit
set_option linter.unusedVariables false
set_option maxRecDepth 100000

theorem Row.put {w : World} {B : Nat} {E : TypeId} {cur : Array Value} (h : Row w B E cur) {X : Nat} (hne : B ≠ X) (j : Nat) (v : Value) : Row (w.setCell ⟨X, j, none⟩ v) B E cur := (Below.heap_setCell w ⟨X, j, none⟩ v B hne).trans h

def stoV (a : Option Addr) (la ca : Nat) (g : Option Addr) (lg cg : Nat) : Value := .agg #[.slice a la ca, .slice g lg cg]
/-- A store that may be read: its objects and its versions of deleted ones. -/
structure StoAt (w : World) (a : Option Addr) (la : Nat) (l : Objs) (g : Option Addr) (lg : Nat) (m : Gones) : Prop where
  o : ObjsAt w a la l
  d : GonesAt w g lg m
theorem StoAt.keep {w w1 : World} {a g : Option Addr} {la lg : Nat} {l : Objs} {m : Gones} (h : StoAt w a la l g lg m) (hB : Below w.heap.size w w1) : StoAt w1 a la l g lg m := ⟨h.o.keep hB, h.d.keep hB⟩

def StoSized (la : Nat) (l : Objs) (lg : Nat) (m : Gones) (w : World) (e : Ending) (w' : World) : Prop :=
  ∃ x : Int, -1 ≤ x ∧ x ≤ 1048576 ∧ e = .returned (.int .i64 x) ∧ Below w.heap.size w w' ∧ (0 ≤ x → (la ≤ 1048576 ∧ ∀ i, i < la → (obj0 l i).size ≤ 1048576 ∧ (obj2 l i).size ≤ 1048576) ∧ (lg ≤ 1048576 ∧ ∀ i, i < lg → (gone0 m i).size ≤ 1048576))

set_option maxHeartbeats 1000000 in
theorem szsto_any (a g : Option Addr) (la ca lg cg : Nat) (l : Objs) (m : Gones) (left : Int) (w : World) (h : StoAt w a la l g lg m) (h0 : 0 ≤ left) (h1 : left ≤ 1048576) :
    Calls Try.prog 6 #[.agg #[.slice a la ca, .slice g lg cg], .int .i64 left] w (StoSized la l lg m w) := by
  have HB := Lib.hid (below_alloc (Below.refl w.heap.size w) (.cells #[.slice a la ca, .slice g lg cg] 25))
  have HX := Lib.hid (Box2.new w (.slice a la ca) (.slice g lg cg) 25)
  have HS := Lib.hid (h.keep HB.out)
  clear h
  go_enter Try.func6, Try.ntmps6
  go_wp2_with fail
  refine (szobjs_any _ _ _ _ _ _ HS.out.o h0 h1).mono ?_
  rintro e w1 ⟨x, hx0, hx1, rfl, hB, hf⟩
  have HF := Lib.hid hf
  have HX := Lib.hid (HX.out.keep hB)
  have HS := Lib.hid (HS.out.keep hB)
  have HB := Lib.hid (below_via HB.out hB)
  have c0 := HX.out.c0
  have c1 := HX.out.c1
  clear hB hf
  by_cases hn : x < 0
  · go_wp2
    go_ret
    exact ⟨-1, by omega, by omega, rfl, HB.out, fun h => by omega⟩
  · go_wp2_with fail
    refine (szgones_any _ _ _ _ _ _ HS.out.d (by omega) hx1).mono ?_
    rintro e w2 ⟨y, hy0, hy1, rfl, hB, hf⟩
    have HF2 := Lib.hid hf
    have HB := Lib.hid (below_via HB.out hB)
    clear hB hf
    by_cases hn2 : y < 0
    · go_wp2
      go_ret
      exact ⟨-1, by omega, by omega, rfl, HB.out, fun h => by omega⟩
    · go_wp2
      go_ret
      exact ⟨y, hy0, hy1, rfl, HB.out, fun h => ⟨HF.out (by omega), HF2.out (by omega)⟩⟩

/-- The end of the laws' copy of a store. -/
def MadeSto (la : Nat) (l : Objs) (lg : Nat) (m : Gones) (w : World) (e : Ending) (w' : World) : Prop :=
  ∃ B C : Nat, e = .returned (.agg #[.slice (some ⟨B, 0, none⟩) la la, .slice (some ⟨C, 0, none⟩) lg lg]) ∧ StoAt w' (some ⟨B, 0, none⟩) la l (some ⟨C, 0, none⟩) lg m ∧ Below w.heap.size w w' ∧
    w.heap.size ≤ B ∧ B < C ∧ (∃ cur, Row w' B 40 cur ∧ cur.size = la * 3) ∧ ∃ cur, Row w' C 55 cur ∧ cur.size = lg * 2

set_option maxHeartbeats 2000000 in
theorem tosto_any (a g : Option Addr) (la ca lg cg : Nat) (l : Objs) (m : Gones) (w : World) (h : StoAt w a la l g lg m) (hla : la ≤ 1048576) (hlg : lg ≤ 1048576) :
    Calls Try.prog 8 #[.agg #[.slice a la ca, .slice g lg cg]] w (MadeSto la l lg m w) := by
  obtain ⟨W0, hW0⟩ : ∃ W0, ((w.alloc (.cells #[.slice a la ca, .slice g lg cg] 25)).alloc (.cells #[.slice none 0 0, .slice none 0 0] 31)).alloc (.cells #[.slice none 0 0, .slice none 0 0] 31) = W0 := ⟨_, rfl⟩
  have hB0 : Below w.heap.size w W0 := by rw [← hW0]; exact below_alloc (below_alloc (below_alloc (Below.refl w.heap.size w) _) _) _
  have hX0 : Row W0 w.heap.size 25 #[.slice a la ca, .slice g lg cg] := by
    have := heap_alloc_new w (.cells #[.slice a la ca, .slice g lg cg] 25)
    have k : Row (w.alloc (.cells #[.slice a la ca, .slice g lg cg] 25)) w.heap.size 25 #[.slice a la ca, .slice g lg cg] := by simpa [Row] using this
    rw [← hW0]
    exact (k.keep (below_alloc (Below.refl _ _) _)).keep (below_alloc (Below.refl _ _) _)
  have hR0 : Row W0 (w.heap.size + 1) 31 #[.slice none 0 0, .slice none 0 0] := by
    have := heap_alloc_new (w.alloc (.cells #[.slice a la ca, .slice g lg cg] 25)) (.cells #[.slice none 0 0, .slice none 0 0] 31)
    have k : Row ((w.alloc (.cells #[.slice a la ca, .slice g lg cg] 25)).alloc (.cells #[.slice none 0 0, .slice none 0 0] 31)) (w.heap.size + 1) 31 #[.slice none 0 0, .slice none 0 0] := by simpa [Row] using this
    rw [← hW0]
    exact k.keep (below_alloc (Below.refl _ _) _)
  have hO0 : Row W0 (w.heap.size + 1 + 1) 31 #[.slice none 0 0, .slice none 0 0] := by
    have := heap_alloc_new ((w.alloc (.cells #[.slice a la ca, .slice g lg cg] 25)).alloc (.cells #[.slice none 0 0, .slice none 0 0] 31)) (.cells #[.slice none 0 0, .slice none 0 0] 31)
    rw [← hW0]
    simpa [Row] using this
  have HB := Lib.hid hB0
  have HX := Lib.hid hX0
  have HR := Lib.hid hR0
  have HO := Lib.hid hO0
  have HS := Lib.hid h
  have HW := Lib.hid hW0
  have HZ := Lib.hid (show w.heap.size + 1 + 1 < W0.heap.size from hO0.lt)
  clear h hB0 hX0 hR0 hO0 hW0
  go_enter Try.func8, Try.ntmps8
  go_wp2_with fail
  rw [HW.out]
  refine (toobjs_any _ _ _ _ _ (HS.out.keep HB.out).o hla).mono ?_
  rintro e w1 ⟨rfl, hO, hB, cur1, hr1, hs1⟩
  obtain ⟨B, hBe⟩ : ∃ B, W0.heap.size = B := ⟨_, rfl⟩
  rw [hBe] at hO hr1 ⊢
  have HBB := Lib.hid (show w.heap.size + 1 + 1 < B by rw [← hBe]; exact HZ.out)
  have HX := Lib.hid (HX.out.keep hB)
  have HO := Lib.hid (HO.out.keep hB)
  have HR := Lib.hid (HR.out.keep hB)
  have HB := Lib.hid (below_via HB.out hB)
  have HOO := Lib.hid hO
  have HR1 := Lib.hid hr1
  have HS1 := Lib.hid hs1
  have c0 := HX.out.cell (j := 0) (by simp)
  have c1 := HX.out.cell (j := 1) (by simp)
  have d0 := HO.out.cell (j := 0) (by simp)
  have d1 := HO.out.cell (j := 1) (by simp)
  have f0 := HO.out.free 0
  have f1 := HO.out.free 1
  simp at c0 c1 d0 d1
  clear hB hO hr1 hs1 hBe
  go_wp2_with fail
  refine (togones_any _ _ _ _ _ (HS.out.keep (HB.out.setCell (by show w.heap.size ≤ w.heap.size + 1 + 1; omega) _)).d hlg).mono ?_
  rintro e w2 ⟨rfl, hG, hB, cur2, hr2, hs2⟩
  obtain ⟨C, hCe⟩ : ∃ C, (w1.setCell ⟨w.heap.size + 1 + 1, 0, none⟩ (.slice (some ⟨B, 0, none⟩) la la)).heap.size = C := ⟨_, rfl⟩
  rw [hCe] at hG hr2 ⊢
  have HBC := Lib.hid (show B < C by rw [← hCe]; simpa [World.setCell] using HR1.out.lt)
  have HOO := Lib.hid ((HOO.out.put (X := w.heap.size + 1 + 1) (fun b off e => by simp only [Option.some.injEq, Addr.mk.injEq] at e; have := HBB.out; omega) 0 (.slice (some ⟨B, 0, none⟩) la la)).keep hB)
  have HR1 := Lib.hid ((HR1.out.put (X := w.heap.size + 1 + 1) (by have := HBB.out; omega) 0 (.slice (some ⟨B, 0, none⟩) la la)).keep hB)
  have HR := Lib.hid ((HR.out.put (X := w.heap.size + 1 + 1) (by omega) 0 (.slice (some ⟨B, 0, none⟩) la la)).keep hB)
  have HO := Lib.hid ((HO.out.set 0 (.slice (some ⟨B, 0, none⟩) la la)).keep hB)
  have HB := Lib.hid (below_via (HB.out.setCell (p := ⟨w.heap.size + 1 + 1, 0, none⟩) (by show w.heap.size ≤ w.heap.size + 1 + 1; omega) (.slice (some ⟨B, 0, none⟩) la la)) hB)
  have HGG := Lib.hid hG
  have HR2 := Lib.hid hr2
  have HS2 := Lib.hid hs2
  clear hB hG hr2 hs2 hCe c0 c1 d0 d1 f0 f1
  have d0 := HO.out.cell (j := 0) (by simp)
  have d1 := HO.out.cell (j := 1) (by simp)
  have f0 := HO.out.free 0
  have f1 := HO.out.free 1
  have r0 := HR.out.cell (j := 0) (by simp)
  have r1 := HR.out.cell (j := 1) (by simp)
  have s0 := HR.out.free 0
  have s1 := HR.out.free 1
  simp at d0 d1 r0 r1
  have hne1 : B ≠ w.heap.size + 1 + 1 := by have := HBB.out; omega
  have hne2 : B ≠ w.heap.size + 1 := by have := HBB.out; omega
  have hne3 : C ≠ w.heap.size + 1 + 1 := by have := HBB.out; have := HBC.out; omega
  have hne4 : C ≠ w.heap.size + 1 := by have := HBB.out; have := HBC.out; omega
  have HN := Lib.hid (And.intro (And.intro hne1 hne2) (And.intro hne3 hne4))
  clear hne1 hne2 hne3 hne4
  go_wp2_with fail
  obtain ⟨⟨hne1, hne2⟩, hne3, hne4⟩ := HN.out
  have hb := ((HR.out.put (X := w.heap.size + 1 + 1) (by omega) 1 (.slice (some ⟨C, 0, none⟩) lg lg)).set 0 (.slice (some ⟨B, 0, none⟩) la la)).set 1 (.slice (some ⟨C, 0, none⟩) lg lg)
  unfold Row at hb
  refine bodyPost_ret (v := .agg #[.slice (some ⟨B, 0, none⟩) la la, .slice (some ⟨C, 0, none⟩) lg lg]) (by simp [results, Try.results8, go_sem, World.cell?, hb]) rfl ⟨B, C, rfl, ⟨?_, ?_⟩, ?_, ?_, HBC.out, ⟨cur1, ?_, HS1.out⟩, cur2, ?_, HS2.out⟩
  · have e1 : ∀ b off, (some (⟨B, 0, none⟩ : Addr)) = some ⟨b, off, none⟩ → b ≠ w.heap.size + 1 + 1 := fun b off e => by simp only [Option.some.injEq, Addr.mk.injEq] at e; omega
    have e2 : ∀ b off, (some (⟨B, 0, none⟩ : Addr)) = some ⟨b, off, none⟩ → b ≠ w.heap.size + 1 := fun b off e => by simp only [Option.some.injEq, Addr.mk.injEq] at e; omega
    exact ((HOO.out.put e1 _ _).put e2 _ _).put e2 _ _
  · have e1 : ∀ b off, (some (⟨C, 0, none⟩ : Addr)) = some ⟨b, off, none⟩ → b ≠ w.heap.size + 1 + 1 := fun b off e => by simp only [Option.some.injEq, Addr.mk.injEq] at e; omega
    have e2 : ∀ b off, (some (⟨C, 0, none⟩ : Addr)) = some ⟨b, off, none⟩ → b ≠ w.heap.size + 1 := fun b off e => by simp only [Option.some.injEq, Addr.mk.injEq] at e; omega
    exact ((HGG.out.put e1 _ _).put e2 _ _).put e2 _ _
  · exact ((HB.out.setCell (by show w.heap.size ≤ w.heap.size + 1 + 1; omega) _).setCell (by show w.heap.size ≤ w.heap.size + 1; omega) _).setCell (by show w.heap.size ≤ w.heap.size + 1; omega) _
  · have := HBB.out; omega
  · exact ((HR1.out.put hne1 _ _).put hne2 _ _).put hne2 _ _
  · exact ((HR2.out.put hne3 _ _).put hne4 _ _).put hne4 _ _

set_option maxHeartbeats 1000000 in
theorem eqsto_same (a1 g1 a2 g2 : Option Addr) (la c1 c2 lg d1 d2 : Nat) (l : Objs) (m : Gones) (w : World) (h1 : StoAt w a1 la l g1 lg m) (h2 : StoAt w a2 la l g2 lg m) :
    Calls Try.prog 10 #[.agg #[.slice a1 la c1, .slice g1 lg d1], .agg #[.slice a2 la c2, .slice g2 lg d2]] w (MadeBool true w) := by
  have hB1 := below_alloc (Below.refl w.heap.size w) (.cells #[.slice a1 la c1, .slice g1 lg d1] 31)
  have HB := Lib.hid (below_alloc hB1 (.cells #[.slice a2 la c2, .slice g2 lg d2] 31))
  have HX := Lib.hid ((Box2.new w (.slice a1 la c1) (.slice g1 lg d1) 31).alloc (.cells #[.slice a2 la c2, .slice g2 lg d2] 31))
  have HY := Lib.hid (Box2.new1 w (.cells #[.slice a1 la c1, .slice g1 lg d1] 31) (.slice a2 la c2) (.slice g2 lg d2) 31)
  have HS1 := Lib.hid (h1.keep HB.out)
  have HS2 := Lib.hid (h2.keep HB.out)
  clear h1 h2 hB1
  go_enter Try.func10, Try.ntmps10
  go_wp2_with fail
  refine (eqobjs_same _ _ _ _ _ _ _ HS1.out.o HS2.out.o).mono ?_
  rintro e w1 ⟨rfl, hB⟩
  have HX := Lib.hid (HX.out.keep hB)
  have HY := Lib.hid (HY.out.keep hB)
  have HS1 := Lib.hid (HS1.out.keep hB)
  have HS2 := Lib.hid (HS2.out.keep hB)
  have HB := Lib.hid (below_via HB.out hB)
  have c0 := HX.out.c0
  have c1 := HX.out.c1
  have d0 := HY.out.c0
  have d1 := HY.out.c1
  clear hB
  go_wp2_with fail
  refine (eqgones_same _ _ _ _ _ _ _ HS1.out.d HS2.out.d).mono ?_
  rintro e w2 ⟨rfl, hB⟩
  have HB := Lib.hid (below_via HB.out hB)
  clear hB
  go_wp2
  go_ret
  exact ⟨rfl, HB.out⟩
end Go.Proofs.Ytkgapmbpeplhlaa
