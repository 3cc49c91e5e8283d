/- Texts put together, as a claim holds at most sixty files. -/
import Derived.Test.YtbjlojmadellgaaGreatDoorMg0
namespace Go.Proofs.YtbjlojmadellgaaGreatDoor
open Go.ChangeShapes Go.WideShapes Go.ChangeAt Go.RowKit
set_option linter.unusedVariables false
set_option maxRecDepth 100000


def stoV (a : Option Addr) (la ca : Nat) (g : Option Addr) (lg cg : Nat) : Value := .agg #[.slice a la ca, .slice g lg cg]
/-- A store that may be read: its objects and its versions of deleted ones. -/
structure StoAt (w : World) (a : Option Addr) (la : Nat) (l : Objs) (g : Option Addr) (lg : Nat) (m : Gones) : Prop where
  o : ObjsAt w a la l
  d : GonesAt w g lg m
theorem StoAt.keep {w w1 : World} {a g : Option Addr} {la lg : Nat} {l : Objs} {m : Gones} (h : StoAt w a la l g lg m) (hB : Below w.heap.size w w1) : StoAt w1 a la l g lg m := ⟨h.o.keep hB, h.d.keep hB⟩

def StoSized (la : Nat) (l : Objs) (lg : Nat) (m : Gones) (w : World) (e : Ending) (w' : World) : Prop :=
  ∃ x : Int, -1 ≤ x ∧ x ≤ 1048576 ∧ e = .returned (.int .i64 x) ∧ Below w.heap.size w w' ∧ (0 ≤ x → (la ≤ 1048576 ∧ ∀ i, i < la → (obj0 l i).size ≤ 1048576 ∧ (obj2 l i).size ≤ 1048576) ∧ (lg ≤ 1048576 ∧ ∀ i, i < lg → (gone0 m i).size ≤ 1048576))

set_option maxHeartbeats 1000000 in
theorem szsto_any (a g : Option Addr) (la ca lg cg : Nat) (l : Objs) (m : Gones) (left : Int) (w : World) (h : StoAt w a la l g lg m) (h0 : 0 ≤ left) (h1 : left ≤ 1048576) :
    Calls Tryz.prog 6 #[.agg #[.slice a la ca, .slice g lg cg], .int .i64 left] w (StoSized la l lg m w) := by
  have HB := Lib.hid (below_alloc (Below.refl w.heap.size w) (.cells #[.slice a la ca, .slice g lg cg] 29))
  have HX := Lib.hid (Box2.new w (.slice a la ca) (.slice g lg cg) 29)
  have HS := Lib.hid (h.keep HB.out)
  clear h
  go_enter Tryz.func6, Tryz.ntmps6
  go_wp2_with fail
  refine (szobjs_any _ _ _ _ _ _ HS.out.o h0 h1).mono ?_
  rintro e w1 ⟨x, hx0, hx1, rfl, hB, hf⟩
  have HF := Lib.hid hf
  have HX := Lib.hid (HX.out.keep hB)
  have HS := Lib.hid (HS.out.keep hB)
  have HB := Lib.hid (below_via HB.out hB)
  have c0 := HX.out.c0
  have c1 := HX.out.c1
  clear hB hf
  by_cases hn : x < 0
  · go_wp2
    go_ret
    exact ⟨-1, by omega, by omega, rfl, HB.out, fun h => by omega⟩
  · go_wp2_with fail
    refine (szgones_any _ _ _ _ _ _ HS.out.d (by omega) hx1).mono ?_
    rintro e w2 ⟨y, hy0, hy1, rfl, hB, hf⟩
    have HF2 := Lib.hid hf
    have HB := Lib.hid (below_via HB.out hB)
    clear hB hf
    by_cases hn2 : y < 0
    · go_wp2
      go_ret
      exact ⟨-1, by omega, by omega, rfl, HB.out, fun h => by omega⟩
    · go_wp2
      go_ret
      exact ⟨y, hy0, hy1, rfl, HB.out, fun h => ⟨HF.out (by omega), HF2.out (by omega)⟩⟩

/-- The end of the laws' copy of a store. -/
def MadeSto (la : Nat) (l : Objs) (lg : Nat) (m : Gones) (w : World) (e : Ending) (w' : World) : Prop :=
  ∃ B C : Nat, e = .returned (.agg #[.slice (some ⟨B, 0, none⟩) la la, .slice (some ⟨C, 0, none⟩) lg lg]) ∧ StoAt w' (some ⟨B, 0, none⟩) la l (some ⟨C, 0, none⟩) lg m ∧ Below w.heap.size w w' ∧
    w.heap.size ≤ B ∧ B < C ∧ (∃ cur, Row w' B 79 cur ∧ cur.size = la * 3) ∧ ∃ cur, Row w' C 103 cur ∧ cur.size = lg * 2

set_option maxHeartbeats 2000000 in
theorem tosto_any (a g : Option Addr) (la ca lg cg : Nat) (l : Objs) (m : Gones) (w : World) (h : StoAt w a la l g lg m) (hla : la ≤ 1048576) (hlg : lg ≤ 1048576) :
    Calls Tryz.prog 9 #[.agg #[.slice a la ca, .slice g lg cg]] w (MadeSto la l lg m w) := by
  obtain ⟨W0, hW0⟩ : ∃ W0, ((w.alloc (.cells #[.slice a la ca, .slice g lg cg] 29)).alloc (.cells #[.slice none 0 0, .slice none 0 0] 40)).alloc (.cells #[.slice none 0 0, .slice none 0 0] 40) = W0 := ⟨_, rfl⟩
  have hB0 : Below w.heap.size w W0 := by rw [← hW0]; exact below_alloc (below_alloc (below_alloc (Below.refl w.heap.size w) _) _) _
  have hX0 : Row W0 w.heap.size 29 #[.slice a la ca, .slice g lg cg] := by
    have := heap_alloc_new w (.cells #[.slice a la ca, .slice g lg cg] 29)
    have k : Row (w.alloc (.cells #[.slice a la ca, .slice g lg cg] 29)) w.heap.size 29 #[.slice a la ca, .slice g lg cg] := by simpa [Row] using this
    rw [← hW0]
    exact (k.keep (below_alloc (Below.refl _ _) _)).keep (below_alloc (Below.refl _ _) _)
  have hR0 : Row W0 (w.heap.size + 1) 40 #[.slice none 0 0, .slice none 0 0] := by
    have := heap_alloc_new (w.alloc (.cells #[.slice a la ca, .slice g lg cg] 29)) (.cells #[.slice none 0 0, .slice none 0 0] 40)
    have k : Row ((w.alloc (.cells #[.slice a la ca, .slice g lg cg] 29)).alloc (.cells #[.slice none 0 0, .slice none 0 0] 40)) (w.heap.size + 1) 40 #[.slice none 0 0, .slice none 0 0] := by simpa [Row] using this
    rw [← hW0]
    exact k.keep (below_alloc (Below.refl _ _) _)
  have hO0 : Row W0 (w.heap.size + 1 + 1) 40 #[.slice none 0 0, .slice none 0 0] := by
    have := heap_alloc_new ((w.alloc (.cells #[.slice a la ca, .slice g lg cg] 29)).alloc (.cells #[.slice none 0 0, .slice none 0 0] 40)) (.cells #[.slice none 0 0, .slice none 0 0] 40)
    rw [← hW0]
    simpa [Row] using this
  have HB := Lib.hid hB0
  have HX := Lib.hid hX0
  have HR := Lib.hid hR0
  have HO := Lib.hid hO0
  have HS := Lib.hid h
  have HW := Lib.hid hW0
  have HZ := Lib.hid (show w.heap.size + 1 + 1 < W0.heap.size from hO0.lt)
  clear h hB0 hX0 hR0 hO0 hW0
  go_enter Tryz.func9, Tryz.ntmps9
  go_wp2_with fail
  rw [HW.out]
  refine (toobjs_any _ _ _ _ _ (HS.out.keep HB.out).o hla).mono ?_
  rintro e w1 ⟨rfl, hO, hB, cur1, hr1, hs1⟩
  obtain ⟨B, hBe⟩ : ∃ B, W0.heap.size = B := ⟨_, rfl⟩
  rw [hBe] at hO hr1 ⊢
  have HBB := Lib.hid (show w.heap.size + 1 + 1 < B by rw [← hBe]; exact HZ.out)
  have HX := Lib.hid (HX.out.keep hB)
  have HO := Lib.hid (HO.out.keep hB)
  have HR := Lib.hid (HR.out.keep hB)
  have HB := Lib.hid (below_via HB.out hB)
  have HOO := Lib.hid hO
  have HR1 := Lib.hid hr1
  have HS1 := Lib.hid hs1
  have c0 := HX.out.cell (j := 0) (by simp)
  have c1 := HX.out.cell (j := 1) (by simp)
  have d0 := HO.out.cell (j := 0) (by simp)
  have d1 := HO.out.cell (j := 1) (by simp)
  have f0 := HO.out.free 0
  have f1 := HO.out.free 1
  simp at c0 c1 d0 d1
  clear hB hO hr1 hs1 hBe
  go_wp2_with fail
  refine (togones_any _ _ _ _ _ (HS.out.keep (HB.out.setCell (by show w.heap.size ≤ w.heap.size + 1 + 1; omega) _)).d hlg).mono ?_
  rintro e w2 ⟨rfl, hG, hB, cur2, hr2, hs2⟩
  obtain ⟨C, hCe⟩ : ∃ C, (w1.setCell ⟨w.heap.size + 1 + 1, 0, none⟩ (.slice (some ⟨B, 0, none⟩) la la)).heap.size = C := ⟨_, rfl⟩
  rw [hCe] at hG hr2 ⊢
  have HBC := Lib.hid (show B < C by rw [← hCe]; simpa [World.setCell] using HR1.out.lt)
  have HOO := Lib.hid ((HOO.out.put (X := w.heap.size + 1 + 1) (fun b off e => by simp only [Option.some.injEq, Addr.mk.injEq] at e; have := HBB.out; omega) 0 (.slice (some ⟨B, 0, none⟩) la la)).keep hB)
  have HR1 := Lib.hid ((HR1.out.put (X := w.heap.size + 1 + 1) (by have := HBB.out; omega) 0 (.slice (some ⟨B, 0, none⟩) la la)).keep hB)
  have HR := Lib.hid ((HR.out.put (X := w.heap.size + 1 + 1) (by omega) 0 (.slice (some ⟨B, 0, none⟩) la la)).keep hB)
  have HO := Lib.hid ((HO.out.set 0 (.slice (some ⟨B, 0, none⟩) la la)).keep hB)
  have HB := Lib.hid (below_via (HB.out.setCell (p := ⟨w.heap.size + 1 + 1, 0, none⟩) (by show w.heap.size ≤ w.heap.size + 1 + 1; omega) (.slice (some ⟨B, 0, none⟩) la la)) hB)
  have HGG := Lib.hid hG
  have HR2 := Lib.hid hr2
  have HS2 := Lib.hid hs2
  clear hB hG hr2 hs2 hCe c0 c1 d0 d1 f0 f1
  have d0 := HO.out.cell (j := 0) (by simp)
  have d1 := HO.out.cell (j := 1) (by simp)
  have f0 := HO.out.free 0
  have f1 := HO.out.free 1
  have r0 := HR.out.cell (j := 0) (by simp)
  have r1 := HR.out.cell (j := 1) (by simp)
  have s0 := HR.out.free 0
  have s1 := HR.out.free 1
  simp at d0 d1 r0 r1
  have hne1 : B ≠ w.heap.size + 1 + 1 := by have := HBB.out; omega
  have hne2 : B ≠ w.heap.size + 1 := by have := HBB.out; omega
  have hne3 : C ≠ w.heap.size + 1 + 1 := by have := HBB.out; have := HBC.out; omega
  have hne4 : C ≠ w.heap.size + 1 := by have := HBB.out; have := HBC.out; omega
  have HN := Lib.hid (And.intro (And.intro hne1 hne2) (And.intro hne3 hne4))
  clear hne1 hne2 hne3 hne4
  go_wp2_with fail
  obtain ⟨⟨hne1, hne2⟩, hne3, hne4⟩ := HN.out
  have hb := ((HR.out.put (X := w.heap.size + 1 + 1) (by omega) 1 (.slice (some ⟨C, 0, none⟩) lg lg)).set 0 (.slice (some ⟨B, 0, none⟩) la la)).set 1 (.slice (some ⟨C, 0, none⟩) lg lg)
  unfold Row at hb
  refine bodyPost_ret (v := .agg #[.slice (some ⟨B, 0, none⟩) la la, .slice (some ⟨C, 0, none⟩) lg lg]) (by simp [results, Tryz.results9, go_sem, World.cell?, hb]) rfl ⟨B, C, rfl, ⟨?_, ?_⟩, ?_, ?_, HBC.out, ⟨cur1, ?_, HS1.out⟩, cur2, ?_, HS2.out⟩
  · have e1 : ∀ b off, (some (⟨B, 0, none⟩ : Addr)) = some ⟨b, off, none⟩ → b ≠ w.heap.size + 1 + 1 := fun b off e => by simp only [Option.some.injEq, Addr.mk.injEq] at e; omega
    have e2 : ∀ b off, (some (⟨B, 0, none⟩ : Addr)) = some ⟨b, off, none⟩ → b ≠ w.heap.size + 1 := fun b off e => by simp only [Option.some.injEq, Addr.mk.injEq] at e; omega
    exact ((HOO.out.put e1 _ _).put e2 _ _).put e2 _ _
  · have e1 : ∀ b off, (some (⟨C, 0, none⟩ : Addr)) = some ⟨b, off, none⟩ → b ≠ w.heap.size + 1 + 1 := fun b off e => by simp only [Option.some.injEq, Addr.mk.injEq] at e; omega
    have e2 : ∀ b off, (some (⟨C, 0, none⟩ : Addr)) = some ⟨b, off, none⟩ → b ≠ w.heap.size + 1 := fun b off e => by simp only [Option.some.injEq, Addr.mk.injEq] at e; omega
    exact ((HGG.out.put e1 _ _).put e2 _ _).put e2 _ _
  · exact ((HB.out.setCell (by show w.heap.size ≤ w.heap.size + 1 + 1; omega) _).setCell (by show w.heap.size ≤ w.heap.size + 1; omega) _).setCell (by show w.heap.size ≤ w.heap.size + 1; omega) _
  · have := HBB.out; omega
  · exact ((HR1.out.put hne1 _ _).put hne2 _ _).put hne2 _ _
  · exact ((HR2.out.put hne3 _ _).put hne4 _ _).put hne4 _ _

set_option maxHeartbeats 1000000 in
theorem eqsto_same (a1 g1 a2 g2 : Option Addr) (la c1 c2 lg d1 d2 : Nat) (l : Objs) (m : Gones) (w : World) (h1 : StoAt w a1 la l g1 lg m) (h2 : StoAt w a2 la l g2 lg m) :
    Calls Tryz.prog 12 #[.agg #[.slice a1 la c1, .slice g1 lg d1], .agg #[.slice a2 la c2, .slice g2 lg d2]] w (MadeBool true w) := by
  have hB1 := below_alloc (Below.refl w.heap.size w) (.cells #[.slice a1 la c1, .slice g1 lg d1] 40)
  have HB := Lib.hid (below_alloc hB1 (.cells #[.slice a2 la c2, .slice g2 lg d2] 40))
  have HX := Lib.hid ((Box2.new w (.slice a1 la c1) (.slice g1 lg d1) 40).alloc (.cells #[.slice a2 la c2, .slice g2 lg d2] 40))
  have HY := Lib.hid (Box2.new1 w (.cells #[.slice a1 la c1, .slice g1 lg d1] 40) (.slice a2 la c2) (.slice g2 lg d2) 40)
  have HS1 := Lib.hid (h1.keep HB.out)
  have HS2 := Lib.hid (h2.keep HB.out)
  clear h1 h2 hB1
  go_enter Tryz.func12, Tryz.ntmps12
  go_wp2_with fail
  refine (eqobjs_same _ _ _ _ _ _ _ HS1.out.o HS2.out.o).mono ?_
  rintro e w1 ⟨rfl, hB⟩
  have HX := Lib.hid (HX.out.keep hB)
  have HY := Lib.hid (HY.out.keep hB)
  have HS1 := Lib.hid (HS1.out.keep hB)
  have HS2 := Lib.hid (HS2.out.keep hB)
  have HB := Lib.hid (below_via HB.out hB)
  have c0 := HX.out.c0
  have c1 := HX.out.c1
  have d0 := HY.out.c0
  have d1 := HY.out.c1
  clear hB
  go_wp2_with fail
  refine (eqgones_same _ _ _ _ _ _ _ HS1.out.d HS2.out.d).mono ?_
  rintro e w2 ⟨rfl, hB⟩
  have HB := Lib.hid (below_via HB.out hB)
  clear hB
  go_wp2
  go_ret
  exact ⟨rfl, HB.out⟩
end Go.Proofs.YtbjlojmadellgaaGreatDoor
namespace Go.Proofs.YtbjlojmadellgaaGreatDoor
open Go.ChangeShapes Go.WideShapes Go.ChangeAt Go.RowKit
set_option linter.unusedVariables false
set_option maxRecDepth 100000

def sameT (s u : ByteArray) : Bool := s.toList == u.toList
def getAux (key : ByteArray) : Objs → (ByteArray × Int × ByteArray) × Bool
  | [] => ((⟨#[]⟩, 0, ⟨#[]⟩), false)
  | r :: t => if sameT r.1 key then (r, true) else getAux key t
theorem getAux_hit (key : ByteArray) : ∀ (l : Objs) (k : Nat), k < l.length → (∀ j, j < k → sameT (obj0 l j) key = false) → sameT (obj0 l k) key = true → getAux key l = ((obj0 l k, obj1 l k, obj2 l k), true)
  | [], k, hk, _, _ => by simp at hk
  | r :: t, 0, _, _, h => by
    have h' : sameT r.1 key = true := h
    unfold getAux; rw [if_pos h']; rfl
  | r :: t, k + 1, hk, hb, h => by
    have h' : sameT r.1 key = false := hb 0 (by omega)
    unfold getAux
    rw [if_neg (by rw [h']; simp)]
    exact getAux_hit key t k (by simpa using hk) (fun j hj => hb (j + 1) (by omega)) h
theorem getAux_none (key : ByteArray) : ∀ (l : Objs), (∀ j, j < l.length → sameT (obj0 l j) key = false) → getAux key l = ((⟨#[]⟩, 0, ⟨#[]⟩), false)
  | [], _ => rfl
  | r :: t, hb => by
    have h' : sameT r.1 key = false := hb 0 (by simp)
    unfold getAux
    rw [if_neg (by rw [h']; simp)]
    exact getAux_none key t (fun j hj => hb (j + 1) (by simpa using hj))
def goneAux (key : ByteArray) : Gones → Int
  | [] => 0
  | r :: t => if sameT r.1 key then r.2 else goneAux key t
theorem goneAux_hit (key : ByteArray) : ∀ (l : Gones) (k : Nat), k < l.length → (∀ j, j < k → sameT (gone0 l j) key = false) → sameT (gone0 l k) key = true → goneAux key l = gone1 l k
  | [], k, hk, _, _ => by simp at hk
  | r :: t, 0, _, _, h => by
    have h' : sameT r.1 key = true := h
    unfold goneAux; rw [if_pos h']; rfl
  | r :: t, k + 1, hk, hb, h => by
    have h' : sameT r.1 key = false := hb 0 (by omega)
    unfold goneAux
    rw [if_neg (by rw [h']; simp)]
    exact goneAux_hit key t k (by simpa using hk) (fun j hj => hb (j + 1) (by omega)) h
theorem goneAux_none (key : ByteArray) : ∀ (l : Gones), (∀ j, j < l.length → sameT (gone0 l j) key = false) → goneAux key l = 0
  | [], _ => rfl
  | r :: t, hb => by
    have h' : sameT r.1 key = false := hb 0 (by simp)
    unfold goneAux
    rw [if_neg (by rw [h']; simp)]
    exact goneAux_none key t (fun j hj => hb (j + 1) (by simpa using hj))
def verB (key : ByteArray) (l : Objs) (m : Gones) : Int := if (getAux key l).2 then (getAux key l).1.2.1 else goneAux key m


def MadeGet (p : (ByteArray × Int × ByteArray) × Bool) (w : World) (e : Ending) (w' : World) : Prop := e = .returned (.tuple #[.agg #[.string p.1.1, .int .i64 p.1.2.1, .string p.1.2.2], .bool p.2]) ∧ Below w.heap.size w w'
structure GC (w : World) (bx rs : Array Value) (wr : World) : Prop where
  below : Below w.heap.size w wr
  box : Row wr w.heap.size 40 bx
  res : Row wr (w.heap.size + 1) 79 rs
theorem GC.al {w wr : World} {bx rs : Array Value} (h : GC w bx rs wr) (o : Obj) : GC w bx rs (wr.alloc o) := ⟨below_alloc h.below _, h.box.al o, h.res.al o⟩
theorem ret_get {s d : ByteArray} {v : Int} {b : Bool} {p : (ByteArray × Int × ByteArray) × Bool} (h : p = ((s, v, d), b)) : Ending.returned (.tuple #[.agg #[.string s, .int .i64 v, .string d], .bool b]) = .returned (.tuple #[.agg #[.string p.1.1, .int .i64 p.1.2.1, .string p.1.2.2], .bool p.2]) := by rw [h]

set_option maxHeartbeats 1000000 in
theorem sget_any (a g : Option Addr) (la ca lg cg : Nat) (l : Objs) (m : Gones) (key : ByteArray) (w : World) (h : StoAt w a la l g lg m) :
    Calls Tryz.prog 35 #[.agg #[.slice a la ca, .slice g lg cg], .string key] w (MadeGet (getAux key l) w) := by
  have hm := h.o.max
  unfold maxLen at hm
  have HS := Lib.hid h
  have HL := Lib.hid h.o.length
  clear h
  go_enter Tryz.func35, Tryz.ntmps35
  go_wp2
  go_loopw [6] (fun i wr => ∃ k : Nat, k ≤ la ∧ i = .int .i64 k ∧ Hid (GC w #[.slice a la ca, .slice g lg cg] #[.string ByteArray.empty, .int .i64 0, .string ByteArray.empty] wr ∧ ∀ j, j < k → sameT (obj0 l j) key = false)) (fun i _ => la - (intOf i).toNat)
  case atStart => exact ⟨0, Nat.zero_le _, rfl, ⟨below_alloc (below_alloc (Below.refl _ _) _) _, (row_new _ _ _).al _, row_new1 _ _ _ _⟩, fun j hj => by omega⟩
  case round =>
    obtain ⟨k, hk, rfl, HW⟩ := hrel
    have b0 := HW.out.1.box.cell (j := 0) (by simp)
    have r0 := HW.out.1.res.cell (j := 0) (by simp)
    have r1 := HW.out.1.res.cell (j := 1) (by simp)
    have r2 := HW.out.1.res.cell (j := 2) (by simp)
    have f0 := HW.out.1.res.free 0
    have f1 := HW.out.1.res.free 1
    have f2 := HW.out.1.res.free 2
    simp at b0 r0 r1 r2
    by_cases hlt : k < la
    · rcases HS.out.o.src with hz | ⟨b, off, rfl, hb, hc⟩
      · omega
      · have c0 := (HW.out.1.below.cell (p := ⟨b, off + k * 3, none⟩) hb).trans (hc k hlt).1
        have c1 := (HW.out.1.below.cell (p := ⟨b, off + k * 3 + 1, none⟩) hb).trans (hc k hlt).2.1
        have c2 := (HW.out.1.below.cell (p := ⟨b, off + k * 3 + 2, none⟩) hb).trans (hc k hlt).2.2
        clear hc hb
        cases hsk : sameT (obj0 l k) key with
        | true =>
          have HQ := Lib.hid (getAux_hit key l k (by rw [HL.out]; exact hlt) HW.out.2 hsk)
          have hs2 : ((obj0 l k).toList == key.toList) = true := hsk
          clear hsk
          go_wp2
          have hb := ((HW.out.1.res.set 0 (.string (obj0 l k))).set 1 (.int .i64 (obj1 l k))).set 2 (.string (obj2 l k))
          unfold Row at hb
          exact bodyPost_ret (v := .tuple #[.agg #[.string (obj0 l k), .int .i64 (obj1 l k), .string (obj2 l k)], .bool true]) (by simp [results, Tryz.results35, go_sem, World.cell?, hb]) rfl ⟨ret_get HQ.out, ((HW.out.1.below.setCell (by show w.heap.size ≤ w.heap.size + 1; omega) _).setCell (by show w.heap.size ≤ w.heap.size + 1; omega) _).setCell (by show w.heap.size ≤ w.heap.size + 1; omega) _⟩
        | false =>
          have HQ := Lib.hid hsk
          have hs2 : ((obj0 l k).toList == key.toList) = false := hsk
          clear hsk
          go_wp2
          go_roundw
          case rel => exact ⟨k + 1, by omega, by go_num, HW.out.1, fun j hj => by
            rcases Nat.lt_or_ge j k with h | h
            · exact HW.out.2 j h
            · obtain rfl : j = k := by omega
              exact HQ.out⟩
          case measure => simp [intOf]; omega
    · obtain rfl : k = la := by omega
      have HQ := Lib.hid (getAux_none key l (by rw [HL.out]; exact HW.out.2))
      go_wp2
      have hb := ((HW.out.1.res.set 0 (.string ⟨#[]⟩)).set 1 (.int .i64 0)).set 2 (.string ⟨#[]⟩)
      unfold Row at hb
      exact bodyPost_ret (v := .tuple #[.agg #[.string ⟨#[]⟩, .int .i64 0, .string ⟨#[]⟩], .bool false]) (by simp [results, Tryz.results35, go_sem, World.cell?, hb]) rfl ⟨ret_get HQ.out, ((HW.out.1.below.setCell (by show w.heap.size ≤ w.heap.size + 1; omega) _).setCell (by show w.heap.size ≤ w.heap.size + 1; omega) _).setCell (by show w.heap.size ≤ w.heap.size + 1; omega) _⟩

set_option maxHeartbeats 1000000 in
theorem get_any (a g : Option Addr) (la ca lg cg : Nat) (l : Objs) (m : Gones) (key : ByteArray) (w : World) (h : StoAt w a la l g lg m) :
    Calls Tryz.prog 82 #[.agg #[.slice a la ca, .slice g lg cg], .string key] w (MadeGet (getAux key l) w) := by
  have hm := h.o.max
  unfold maxLen at hm
  have HS := Lib.hid h
  have HL := Lib.hid h.o.length
  clear h
  go_enter Tryz.func82, Tryz.ntmps82
  go_wp2
  go_loopw [11] (fun i wr => ∃ k : Nat, k ≤ la ∧ i = .int .i64 k ∧ Hid (GC w #[.slice a la ca, .slice g lg cg] #[.string ByteArray.empty, .int .i64 0, .string ByteArray.empty] wr ∧ ∀ j, j < k → sameT (obj0 l j) key = false)) (fun i _ => la - (intOf i).toNat)
  case atStart => exact ⟨0, Nat.zero_le _, rfl, ⟨below_alloc (below_alloc (Below.refl _ _) _) _, (row_new _ _ _).al _, row_new1 _ _ _ _⟩, fun j hj => by omega⟩
  case round =>
    obtain ⟨k, hk, rfl, HW⟩ := hrel
    have r0 := HW.out.1.res.cell (j := 0) (by simp)
    have r1 := HW.out.1.res.cell (j := 1) (by simp)
    have r2 := HW.out.1.res.cell (j := 2) (by simp)
    have f0 := HW.out.1.res.free 0
    have f1 := HW.out.1.res.free 1
    have f2 := HW.out.1.res.free 2
    have hz := HW.out.1.res.lt
    simp at r0 r1 r2
    by_cases hlt : k < la
    · rcases HS.out.o.src with hz | ⟨b, off, rfl, hb, hc⟩
      · omega
      · have c0 := (HW.out.1.below.cell (p := ⟨b, off + k * 3, none⟩) hb).trans (hc k hlt).1
        have c1 := (HW.out.1.below.cell (p := ⟨b, off + k * 3 + 1, none⟩) hb).trans (hc k hlt).2.1
        have c2 := (HW.out.1.below.cell (p := ⟨b, off + k * 3 + 2, none⟩) hb).trans (hc k hlt).2.2
        clear hc hb
        cases hsk : sameT (obj0 l k) key with
        | true =>
          have HQ := Lib.hid (getAux_hit key l k (by rw [HL.out]; exact hlt) HW.out.2 hsk)
          have hs2 : ((obj0 l k).toList == key.toList) = true := hsk
          clear hsk
          go_wp2
          have hb := (((HW.out.1.res.set 0 (.string (obj0 l k))).set 1 (.int .i64 (obj1 l k))).set 2 (.string (obj2 l k))).al (.cells #[.string (obj0 l k), .int .i64 (obj1 l k), .string (obj2 l k)] 79)
          unfold Row at hb
          exact bodyPost_ret (v := .tuple #[.agg #[.string (obj0 l k), .int .i64 (obj1 l k), .string (obj2 l k)], .bool true]) (by simp [results, Tryz.results82, go_sem, World.cell?, hb]) rfl ⟨ret_get HQ.out, below_alloc (((HW.out.1.below.setCell (by show w.heap.size ≤ w.heap.size + 1; omega) _).setCell (by show w.heap.size ≤ w.heap.size + 1; omega) _).setCell (by show w.heap.size ≤ w.heap.size + 1; omega) _) _⟩
        | false =>
          have HQ := Lib.hid hsk
          have hs2 : ((obj0 l k).toList == key.toList) = false := hsk
          clear hsk
          go_wp2
          go_roundw
          case rel => exact ⟨k + 1, by omega, by go_num, HW.out.1.al _, fun j hj => by
            rcases Nat.lt_or_ge j k with h | h
            · exact HW.out.2 j h
            · obtain rfl : j = k := by omega
              exact HQ.out⟩
          case measure => simp [intOf]; omega
    · obtain rfl : k = la := by omega
      have HQ := Lib.hid (getAux_none key l (by rw [HL.out]; exact HW.out.2))
      go_wp2
      have hb := ((HW.out.1.res.set 0 (.string ⟨#[]⟩)).set 1 (.int .i64 0)).set 2 (.string ⟨#[]⟩)
      unfold Row at hb
      exact bodyPost_ret (v := .tuple #[.agg #[.string ⟨#[]⟩, .int .i64 0, .string ⟨#[]⟩], .bool false]) (by simp [results, Tryz.results82, go_sem, World.cell?, hb]) rfl ⟨ret_get HQ.out, ((HW.out.1.below.setCell (by show w.heap.size ≤ w.heap.size + 1; omega) _).setCell (by show w.heap.size ≤ w.heap.size + 1; omega) _).setCell (by show w.heap.size ≤ w.heap.size + 1; omega) _⟩

structure GD (w : World) (bx : Array Value) (wr : World) : Prop where
  below : Below w.heap.size w wr
  box : Row wr w.heap.size 40 bx

theorem ver_yes {key : ByteArray} {l : Objs} {m : Gones} {q : (ByteArray × Int × ByteArray) × Bool} (h : getAux key l = q) (hb : q.2 = true) : verB key l m = q.1.2.1 := by unfold verB; rw [h, hb]; rfl
theorem ver_no {key : ByteArray} {l : Objs} {m : Gones} {q : (ByteArray × Int × ByteArray) × Bool} (h : getAux key l = q) (hb : q.2 = false) : verB key l m = goneAux key m := by unfold verB; rw [h, hb]; rfl

end Go.Proofs.YtbjlojmadellgaaGreatDoor
