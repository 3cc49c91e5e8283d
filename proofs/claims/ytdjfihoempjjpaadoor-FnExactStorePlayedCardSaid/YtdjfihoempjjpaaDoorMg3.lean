/- Texts put together, as a claim holds at most sixty files. -/
import Derived.Test.YtdjfihoempjjpaaDoorMg2
import Derived.Test.YtdjfihoempjjpaaDoorMg1
import Derived.Lib.Strings
namespace Go.Proofs.YtdjfihoempjjpaaDoor
open Go.ChangeShapes Go.WideShapes Go.ChangeAt Go.RowKit
set_option linter.unusedVariables false
set_option maxRecDepth 100000

theorem Row.put {w : World} {B : Nat} {E : TypeId} {cur : Array Value} (h : Row w B E cur) {X : Nat} (hne : B ≠ X) (j : Nat) (v : Value) : Row (w.setCell ⟨X, j, none⟩ v) B E cur := (Below.heap_setCell w ⟨X, j, none⟩ v B hne).trans h

def stoV (a : Option Addr) (la ca : Nat) (g : Option Addr) (lg cg : Nat) : Value := .agg #[.slice a la ca, .slice g lg cg]
/-- A store that may be read: its objects and its versions of deleted ones. -/
structure StoAt (w : World) (a : Option Addr) (la : Nat) (l : Objs) (g : Option Addr) (lg : Nat) (m : Gones) : Prop where
  o : ObjsAt w a la l
  d : GonesAt w g lg m
theorem StoAt.keep {w w1 : World} {a g : Option Addr} {la lg : Nat} {l : Objs} {m : Gones} (h : StoAt w a la l g lg m) (hB : Below w.heap.size w w1) : StoAt w1 a la l g lg m := ⟨h.o.keep hB, h.d.keep hB⟩

def StoSized (la : Nat) (l : Objs) (lg : Nat) (m : Gones) (w : World) (e : Ending) (w' : World) : Prop :=
  ∃ x : Int, -1 ≤ x ∧ x ≤ 1048576 ∧ e = .returned (.int .i64 x) ∧ Below w.heap.size w w' ∧ (0 ≤ x → (la ≤ 1048576 ∧ ∀ i, i < la → (obj0 l i).size ≤ 1048576 ∧ (obj2 l i).size ≤ 1048576) ∧ (lg ≤ 1048576 ∧ ∀ i, i < lg → (gone0 m i).size ≤ 1048576))

set_option maxHeartbeats 1000000 in
theorem szsto_any (a g : Option Addr) (la ca lg cg : Nat) (l : Objs) (m : Gones) (left : Int) (w : World) (h : StoAt w a la l g lg m) (h0 : 0 ≤ left) (h1 : left ≤ 1048576) :
    Calls Tryd.prog 11 #[.agg #[.slice a la ca, .slice g lg cg], .int .i64 left] w (StoSized la l lg m w) := by
  have HB := Lib.hid (below_alloc (Below.refl w.heap.size w) (.cells #[.slice a la ca, .slice g lg cg] 25))
  have HX := Lib.hid (Box2.new w (.slice a la ca) (.slice g lg cg) 25)
  have HS := Lib.hid (h.keep HB.out)
  clear h
  go_enter Tryd.func11, Tryd.ntmps11
  go_wp2_with fail
  refine (szobjs_any _ _ _ _ _ _ HS.out.o h0 h1).mono ?_
  rintro e w1 ⟨x, hx0, hx1, rfl, hB, hf⟩
  have HF := Lib.hid hf
  have HX := Lib.hid (HX.out.keep hB)
  have HS := Lib.hid (HS.out.keep hB)
  have HB := Lib.hid (below_via HB.out hB)
  have c0 := HX.out.c0
  have c1 := HX.out.c1
  clear hB hf
  by_cases hn : x < 0
  · go_wp2
    go_ret
    exact ⟨-1, by omega, by omega, rfl, HB.out, fun h => by omega⟩
  · go_wp2_with fail
    refine (szgones_any _ _ _ _ _ _ HS.out.d (by omega) hx1).mono ?_
    rintro e w2 ⟨y, hy0, hy1, rfl, hB, hf⟩
    have HF2 := Lib.hid hf
    have HB := Lib.hid (below_via HB.out hB)
    clear hB hf
    by_cases hn2 : y < 0
    · go_wp2
      go_ret
      exact ⟨-1, by omega, by omega, rfl, HB.out, fun h => by omega⟩
    · go_wp2
      go_ret
      exact ⟨y, hy0, hy1, rfl, HB.out, fun h => ⟨HF.out (by omega), HF2.out (by omega)⟩⟩

/-- The end of the laws' copy of a store. -/
def MadeSto (la : Nat) (l : Objs) (lg : Nat) (m : Gones) (w : World) (e : Ending) (w' : World) : Prop :=
  ∃ B C : Nat, e = .returned (.agg #[.slice (some ⟨B, 0, none⟩) la la, .slice (some ⟨C, 0, none⟩) lg lg]) ∧ StoAt w' (some ⟨B, 0, none⟩) la l (some ⟨C, 0, none⟩) lg m ∧ Below w.heap.size w w' ∧
    w.heap.size ≤ B ∧ B < C ∧ (∃ cur, Row w' B 60 cur ∧ cur.size = la * 3) ∧ ∃ cur, Row w' C 101 cur ∧ cur.size = lg * 2

set_option maxHeartbeats 2000000 in
theorem tosto_any (a g : Option Addr) (la ca lg cg : Nat) (l : Objs) (m : Gones) (w : World) (h : StoAt w a la l g lg m) (hla : la ≤ 1048576) (hlg : lg ≤ 1048576) :
    Calls Tryd.prog 13 #[.agg #[.slice a la ca, .slice g lg cg]] w (MadeSto la l lg m w) := by
  obtain ⟨W0, hW0⟩ : ∃ W0, ((w.alloc (.cells #[.slice a la ca, .slice g lg cg] 25)).alloc (.cells #[.slice none 0 0, .slice none 0 0] 30)).alloc (.cells #[.slice none 0 0, .slice none 0 0] 30) = W0 := ⟨_, rfl⟩
  have hB0 : Below w.heap.size w W0 := by rw [← hW0]; exact below_alloc (below_alloc (below_alloc (Below.refl w.heap.size w) _) _) _
  have hX0 : Row W0 w.heap.size 25 #[.slice a la ca, .slice g lg cg] := by
    have := heap_alloc_new w (.cells #[.slice a la ca, .slice g lg cg] 25)
    have k : Row (w.alloc (.cells #[.slice a la ca, .slice g lg cg] 25)) w.heap.size 25 #[.slice a la ca, .slice g lg cg] := by simpa [Row] using this
    rw [← hW0]
    exact (k.keep (below_alloc (Below.refl _ _) _)).keep (below_alloc (Below.refl _ _) _)
  have hR0 : Row W0 (w.heap.size + 1) 30 #[.slice none 0 0, .slice none 0 0] := by
    have := heap_alloc_new (w.alloc (.cells #[.slice a la ca, .slice g lg cg] 25)) (.cells #[.slice none 0 0, .slice none 0 0] 30)
    have k : Row ((w.alloc (.cells #[.slice a la ca, .slice g lg cg] 25)).alloc (.cells #[.slice none 0 0, .slice none 0 0] 30)) (w.heap.size + 1) 30 #[.slice none 0 0, .slice none 0 0] := by simpa [Row] using this
    rw [← hW0]
    exact k.keep (below_alloc (Below.refl _ _) _)
  have hO0 : Row W0 (w.heap.size + 1 + 1) 30 #[.slice none 0 0, .slice none 0 0] := by
    have := heap_alloc_new ((w.alloc (.cells #[.slice a la ca, .slice g lg cg] 25)).alloc (.cells #[.slice none 0 0, .slice none 0 0] 30)) (.cells #[.slice none 0 0, .slice none 0 0] 30)
    rw [← hW0]
    simpa [Row] using this
  have HB := Lib.hid hB0
  have HX := Lib.hid hX0
  have HR := Lib.hid hR0
  have HO := Lib.hid hO0
  have HS := Lib.hid h
  have HW := Lib.hid hW0
  have HZ := Lib.hid (show w.heap.size + 1 + 1 < W0.heap.size from hO0.lt)
  clear h hB0 hX0 hR0 hO0 hW0
  go_enter Tryd.func13, Tryd.ntmps13
  go_wp2_with fail
  rw [HW.out]
  refine (toobjs_any _ _ _ _ _ (HS.out.keep HB.out).o hla).mono ?_
  rintro e w1 ⟨rfl, hO, hB, cur1, hr1, hs1⟩
  obtain ⟨B, hBe⟩ : ∃ B, W0.heap.size = B := ⟨_, rfl⟩
  rw [hBe] at hO hr1 ⊢
  have HBB := Lib.hid (show w.heap.size + 1 + 1 < B by rw [← hBe]; exact HZ.out)
  have HX := Lib.hid (HX.out.keep hB)
  have HO := Lib.hid (HO.out.keep hB)
  have HR := Lib.hid (HR.out.keep hB)
  have HB := Lib.hid (below_via HB.out hB)
  have HOO := Lib.hid hO
  have HR1 := Lib.hid hr1
  have HS1 := Lib.hid hs1
  have c0 := HX.out.cell (j := 0) (by simp)
  have c1 := HX.out.cell (j := 1) (by simp)
  have d0 := HO.out.cell (j := 0) (by simp)
  have d1 := HO.out.cell (j := 1) (by simp)
  have f0 := HO.out.free 0
  have f1 := HO.out.free 1
  simp at c0 c1 d0 d1
  clear hB hO hr1 hs1 hBe
  go_wp2_with fail
  refine (togones_any _ _ _ _ _ (HS.out.keep (HB.out.setCell (by show w.heap.size ≤ w.heap.size + 1 + 1; omega) _)).d hlg).mono ?_
  rintro e w2 ⟨rfl, hG, hB, cur2, hr2, hs2⟩
  obtain ⟨C, hCe⟩ : ∃ C, (w1.setCell ⟨w.heap.size + 1 + 1, 0, none⟩ (.slice (some ⟨B, 0, none⟩) la la)).heap.size = C := ⟨_, rfl⟩
  rw [hCe] at hG hr2 ⊢
  have HBC := Lib.hid (show B < C by rw [← hCe]; simpa [World.setCell] using HR1.out.lt)
  have HOO := Lib.hid ((HOO.out.put (X := w.heap.size + 1 + 1) (fun b off e => by simp only [Option.some.injEq, Addr.mk.injEq] at e; have := HBB.out; omega) 0 (.slice (some ⟨B, 0, none⟩) la la)).keep hB)
  have HR1 := Lib.hid ((HR1.out.put (X := w.heap.size + 1 + 1) (by have := HBB.out; omega) 0 (.slice (some ⟨B, 0, none⟩) la la)).keep hB)
  have HR := Lib.hid ((HR.out.put (X := w.heap.size + 1 + 1) (by omega) 0 (.slice (some ⟨B, 0, none⟩) la la)).keep hB)
  have HO := Lib.hid ((HO.out.set 0 (.slice (some ⟨B, 0, none⟩) la la)).keep hB)
  have HB := Lib.hid (below_via (HB.out.setCell (p := ⟨w.heap.size + 1 + 1, 0, none⟩) (by show w.heap.size ≤ w.heap.size + 1 + 1; omega) (.slice (some ⟨B, 0, none⟩) la la)) hB)
  have HGG := Lib.hid hG
  have HR2 := Lib.hid hr2
  have HS2 := Lib.hid hs2
  clear hB hG hr2 hs2 hCe c0 c1 d0 d1 f0 f1
  have d0 := HO.out.cell (j := 0) (by simp)
  have d1 := HO.out.cell (j := 1) (by simp)
  have f0 := HO.out.free 0
  have f1 := HO.out.free 1
  have r0 := HR.out.cell (j := 0) (by simp)
  have r1 := HR.out.cell (j := 1) (by simp)
  have s0 := HR.out.free 0
  have s1 := HR.out.free 1
  simp at d0 d1 r0 r1
  have hne1 : B ≠ w.heap.size + 1 + 1 := by have := HBB.out; omega
  have hne2 : B ≠ w.heap.size + 1 := by have := HBB.out; omega
  have hne3 : C ≠ w.heap.size + 1 + 1 := by have := HBB.out; have := HBC.out; omega
  have hne4 : C ≠ w.heap.size + 1 := by have := HBB.out; have := HBC.out; omega
  have HN := Lib.hid (And.intro (And.intro hne1 hne2) (And.intro hne3 hne4))
  clear hne1 hne2 hne3 hne4
  go_wp2_with fail
  obtain ⟨⟨hne1, hne2⟩, hne3, hne4⟩ := HN.out
  have hb := ((HR.out.put (X := w.heap.size + 1 + 1) (by omega) 1 (.slice (some ⟨C, 0, none⟩) lg lg)).set 0 (.slice (some ⟨B, 0, none⟩) la la)).set 1 (.slice (some ⟨C, 0, none⟩) lg lg)
  unfold Row at hb
  refine bodyPost_ret (v := .agg #[.slice (some ⟨B, 0, none⟩) la la, .slice (some ⟨C, 0, none⟩) lg lg]) (by simp [results, Tryd.results13, go_sem, World.cell?, hb]) rfl ⟨B, C, rfl, ⟨?_, ?_⟩, ?_, ?_, HBC.out, ⟨cur1, ?_, HS1.out⟩, cur2, ?_, HS2.out⟩
  · have e1 : ∀ b off, (some (⟨B, 0, none⟩ : Addr)) = some ⟨b, off, none⟩ → b ≠ w.heap.size + 1 + 1 := fun b off e => by simp only [Option.some.injEq, Addr.mk.injEq] at e; omega
    have e2 : ∀ b off, (some (⟨B, 0, none⟩ : Addr)) = some ⟨b, off, none⟩ → b ≠ w.heap.size + 1 := fun b off e => by simp only [Option.some.injEq, Addr.mk.injEq] at e; omega
    exact ((HOO.out.put e1 _ _).put e2 _ _).put e2 _ _
  · have e1 : ∀ b off, (some (⟨C, 0, none⟩ : Addr)) = some ⟨b, off, none⟩ → b ≠ w.heap.size + 1 + 1 := fun b off e => by simp only [Option.some.injEq, Addr.mk.injEq] at e; omega
    have e2 : ∀ b off, (some (⟨C, 0, none⟩ : Addr)) = some ⟨b, off, none⟩ → b ≠ w.heap.size + 1 := fun b off e => by simp only [Option.some.injEq, Addr.mk.injEq] at e; omega
    exact ((HGG.out.put e1 _ _).put e2 _ _).put e2 _ _
  · exact ((HB.out.setCell (by show w.heap.size ≤ w.heap.size + 1 + 1; omega) _).setCell (by show w.heap.size ≤ w.heap.size + 1; omega) _).setCell (by show w.heap.size ≤ w.heap.size + 1; omega) _
  · have := HBB.out; omega
  · exact ((HR1.out.put hne1 _ _).put hne2 _ _).put hne2 _ _
  · exact ((HR2.out.put hne3 _ _).put hne4 _ _).put hne4 _ _

set_option maxHeartbeats 1000000 in
theorem eqsto_same (a1 g1 a2 g2 : Option Addr) (la c1 c2 lg d1 d2 : Nat) (l : Objs) (m : Gones) (w : World) (h1 : StoAt w a1 la l g1 lg m) (h2 : StoAt w a2 la l g2 lg m) :
    Calls Tryd.prog 15 #[.agg #[.slice a1 la c1, .slice g1 lg d1], .agg #[.slice a2 la c2, .slice g2 lg d2]] w (MadeBool true w) := by
  have hB1 := below_alloc (Below.refl w.heap.size w) (.cells #[.slice a1 la c1, .slice g1 lg d1] 30)
  have HB := Lib.hid (below_alloc hB1 (.cells #[.slice a2 la c2, .slice g2 lg d2] 30))
  have HX := Lib.hid ((Box2.new w (.slice a1 la c1) (.slice g1 lg d1) 30).alloc (.cells #[.slice a2 la c2, .slice g2 lg d2] 30))
  have HY := Lib.hid (Box2.new1 w (.cells #[.slice a1 la c1, .slice g1 lg d1] 30) (.slice a2 la c2) (.slice g2 lg d2) 30)
  have HS1 := Lib.hid (h1.keep HB.out)
  have HS2 := Lib.hid (h2.keep HB.out)
  clear h1 h2 hB1
  go_enter Tryd.func15, Tryd.ntmps15
  go_wp2_with fail
  refine (eqobjs_same _ _ _ _ _ _ _ HS1.out.o HS2.out.o).mono ?_
  rintro e w1 ⟨rfl, hB⟩
  have HX := Lib.hid (HX.out.keep hB)
  have HY := Lib.hid (HY.out.keep hB)
  have HS1 := Lib.hid (HS1.out.keep hB)
  have HS2 := Lib.hid (HS2.out.keep hB)
  have HB := Lib.hid (below_via HB.out hB)
  have c0 := HX.out.c0
  have c1 := HX.out.c1
  have d0 := HY.out.c0
  have d1 := HY.out.c1
  clear hB
  go_wp2_with fail
  refine (eqgones_same _ _ _ _ _ _ _ HS1.out.d HS2.out.d).mono ?_
  rintro e w2 ⟨rfl, hB⟩
  have HB := Lib.hid (below_via HB.out hB)
  clear hB
  go_wp2
  go_ret
  exact ⟨rfl, HB.out⟩
end Go.Proofs.YtdjfihoempjjpaaDoor
namespace Go.Proofs.YtdjfihoempjjpaaDoor
open Go.ChangeShapes Go.WideShapes Go.ChangeAt Go.RowKit
set_option linter.unusedVariables false
set_option maxRecDepth 100000

def kbB (c : Int) : Bool := decide (97 ≤ c ∧ c ≤ 122 ∨ 48 ≤ c ∧ c ≤ 57 ∨ c = 45 ∨ c = 47)
def keyB (s : ByteArray) : Bool := decide (1 ≤ s.size ∧ s.size ≤ 40) && s.data.toList.all fun c => kbB c.toNat
def inB (n lo hi : Int) : Bool := decide (lo ≤ n ∧ n ≤ hi)
theorem inB_iff {n lo hi : Int} : inB n lo hi = true ↔ lo ≤ n ∧ n ≤ hi := by unfold inB; simp
def SameBool (b : Bool) (w : World) (e : Ending) (w' : World) : Prop := e = .returned (.bool b) ∧ w = w'

theorem within_any (n lo hi : Int) (w : World) : Calls Tryd.prog 112 #[.int .i64 n, .int .i64 lo, .int .i64 hi] w (SameBool (inB n lo hi) w) := by
  by_cases h1 : lo ≤ n
  · have H := Lib.hid (show inB n lo hi = decide (n ≤ hi) by unfold inB; simp [h1])
    go_enter Tryd.func112, Tryd.ntmps112
    go_wp2
    go_ret
    exact ⟨ret_bool H.out.symm, rfl⟩
  · have H := Lib.hid (show inB n lo hi = false by unfold inB; simp [h1])
    go_enter Tryd.func112, Tryd.ntmps112
    go_wp2
    go_ret
    exact ⟨ret_bool H.out.symm, rfl⟩
theorem l1in_any (n lo hi : Int) (w : World) : Calls Tryd.prog 81 #[.int .i64 n, .int .i64 lo, .int .i64 hi] w (SameBool (inB n lo hi) w) := by
  by_cases h1 : lo ≤ n
  · have H := Lib.hid (show inB n lo hi = decide (n ≤ hi) by unfold inB; simp [h1])
    go_enter Tryd.func81, Tryd.ntmps81
    go_wp2
    go_ret
    exact ⟨ret_bool H.out.symm, rfl⟩
  · have H := Lib.hid (show inB n lo hi = false by unfold inB; simp [h1])
    go_enter Tryd.func81, Tryd.ntmps81
    go_wp2
    go_ret
    exact ⟨ret_bool H.out.symm, rfl⟩
theorem verok_any (n : Int) (w : World) : Calls Tryd.prog 98 #[.int .i64 n] w (SameBool (inB n 1 1000000) w) := by
  go_enter Tryd.func98, Tryd.ntmps98
  go_wp2_with (go_at_call 112; refine (within_any _ _ _ _).mono ?_; rintro e w' ⟨rfl, rfl⟩)
  go_ret
  exact ⟨rfl, rfl⟩
theorem l7ver_any (n : Int) (w : World) : Calls Tryd.prog 55 #[.int .i64 n] w (SameBool (inB n 1 1000000) w) := by
  go_enter Tryd.func55, Tryd.ntmps55
  go_wp2_with (go_at_call 81; refine (l1in_any _ _ _ _).mono ?_; rintro e w' ⟨rfl, rfl⟩)
  go_ret
  exact ⟨rfl, rfl⟩
theorem dataok_any (s : ByteArray) (w : World) : Calls Tryd.prog 99 #[.string s] w (SameBool (decide ((s.size : Int) ≤ 30000)) w) := by
  go_enter Tryd.func99, Tryd.ntmps99
  go_wp2
  go_ret
  exact ⟨rfl, rfl⟩

set_option maxHeartbeats 1000000 in
theorem keybyte_any (c : Int) (h0 : 0 ≤ c) (h1 : c ≤ 255) (w : World) : Calls Tryd.prog 111 #[.int .u8 c] w (SameBool (kbB c) w) := by
  cases h : kbB c with
  | true =>
    have hc : 97 ≤ c ∧ c ≤ 122 ∨ 48 ≤ c ∧ c ≤ 57 ∨ c = 45 ∨ c = 47 := by unfold kbB at h; simpa using h
    clear h
    go_enter Tryd.func111, Tryd.ntmps111
    go_wp2
    all_goals
      go_ret
      refine ⟨ret_bool ?_, rfl⟩
      first | rfl | (exact decide_eq_true (by omega)) | (rw [beq_iff_eq]; omega) | (simp only [Bool.or_eq_true, beq_iff_eq]; omega)
  | false =>
    have hc : ¬ (97 ≤ c ∧ c ≤ 122 ∨ 48 ≤ c ∧ c ≤ 57 ∨ c = 45 ∨ c = 47) := by unfold kbB at h; simpa using h
    clear h
    go_enter Tryd.func111, Tryd.ntmps111
    go_wp2
    all_goals
      go_ret
      refine ⟨ret_bool ?_, rfl⟩
      first | rfl | (exact decide_eq_false (by omega)) | (rw [beq_eq_false_iff_ne]; omega) | (simp only [Bool.or_eq_false_iff, decide_eq_false_iff_not, beq_eq_false_iff_ne, ne_eq]; omega)

theorem get_list (s : ByteArray) (k : Nat) (h : k < s.size) : s.data.toList[k]'(by simpa using h) = s[k] := rfl
theorem key_all {s : ByteArray} (h1 : 1 ≤ s.size) (h2 : s.size ≤ 40) (h : ∀ k, (hk : k < s.size) → kbB s[k].toNat = true) : keyB s = true := by
  unfold keyB
  rw [decide_eq_true ⟨h1, h2⟩, Bool.true_and, List.all_eq_true]
  intro c hc
  obtain ⟨k, hk, rfl⟩ := List.mem_iff_getElem.1 hc
  exact h k (by simpa using hk)
theorem key_bad {s : ByteArray} {k : Nat} (hk : k < s.size) (h : kbB s[k].toNat = false) : keyB s = false := by
  unfold keyB
  rw [Bool.and_eq_false_iff]
  refine .inr ?_
  rw [List.all_eq_false]
  exact ⟨s[k], by rw [← get_list s k hk]; exact List.getElem_mem _, by rw [h]; simp⟩
theorem key_size {s : ByteArray} (h : ¬ (1 ≤ s.size ∧ s.size ≤ 40)) : keyB s = false := by
  unfold keyB
  rw [decide_eq_false h]; rfl
theorem key_len {s : ByteArray} (h : keyB s = true) : 1 ≤ s.size ∧ s.size ≤ 40 := by
  unfold keyB at h
  rw [Bool.and_eq_true, decide_eq_true_eq] at h
  exact h.1
theorem empty_of_size {s : ByteArray} (h : s.size = 0) : s.toList = [] := by
  have : s.data.toList = [] := List.length_eq_zero_iff.1 (by simpa using h)
  rw [Lib.toList_data]; exact this
theorem not_empty {s : ByteArray} (h : 1 ≤ s.size) : ¬ s.toList = [] := fun e => by
  rw [Lib.toList_data] at e
  have e' : s.data.toList.length = 0 := by rw [e]; rfl
  have e2 : s.size = s.data.toList.length := by simp
  omega

set_option maxHeartbeats 1000000 in
theorem keyok_any (s : ByteArray) (w : World) (hs : s.size ≤ maxLen) : Calls Tryd.prog 97 #[.string s] w (SameBool (keyB s) w) := by
  unfold maxLen at hs
  by_cases h0 : s.size = 0
  · have HK := Lib.hid (key_size (s := s) (by omega))
    have he := empty_of_size h0
    have he2 : s.toList.isEmpty = true := by simpa using he
    clear h0
    go_enter Tryd.func97, Tryd.ntmps97
    go_wp2
    go_ret
    exact ⟨ret_bool HK.out.symm, rfl⟩
  · have he := not_empty (s := s) (by omega)
    have he2 : s.toList.isEmpty = false := by simpa using he
    by_cases h1 : 40 < s.size
    · have HK := Lib.hid (key_size (s := s) (by omega))
      have h2 : (40 : Int) < (s.size : Int) := by omega
      go_enter Tryd.func97, Tryd.ntmps97
      go_wp2
      go_ret
      exact ⟨ret_bool HK.out.symm, rfl⟩
    · have h2 : (s.size : Int) ≤ 40 := by omega
      go_enter Tryd.func97, Tryd.ntmps97
      go_wp2
      go_loop [3] (fun i => ∃ k : Nat, k ≤ s.size ∧ i = .int .i64 k ∧ Hid (∀ j, (hj : j < s.size) → j < k → kbB s[j].toNat = true)) (fun i => s.size - (intOf i).toNat)
      case atStart => exact ⟨0, Nat.zero_le _, rfl, Lib.hid fun j _ h => by omega⟩
      case round =>
        obtain ⟨k, hk, rfl, HW⟩ := hrel
        by_cases hlt : k < s.size
        · have hb0 : (0 : Int) ≤ (s[k].toNat : Int) := by omega
          have hb1 : (s[k].toNat : Int) ≤ 255 := by have := s[k].toNat_lt; omega
          cases hq : kbB s[k].toNat with
          | true =>
            have HQ := Lib.hid hq
            clear hq
            go_wp2_with (go_at_call 111; refine (keybyte_any _ hb0 hb1 _).mono ?_; rw [HQ.out]; rintro e w' ⟨rfl, rfl⟩)
            go_round
            case rel => exact ⟨k + 1, by omega, by go_num, Lib.hid fun j hj h => by
              rcases Nat.lt_or_ge j k with h | h
              · exact HW.out j hj h
              · obtain rfl : j = k := by omega
                exact HQ.out⟩
            case measure => simp [intOf]; omega
          | false =>
            have HQ := Lib.hid hq
            have HK := Lib.hid (key_bad hlt hq)
            clear hq
            go_wp2_with (go_at_call 111; refine (keybyte_any _ hb0 hb1 _).mono ?_; rw [HQ.out]; rintro e w' ⟨rfl, rfl⟩)
            go_ret
            exact ⟨ret_bool HK.out.symm, rfl⟩
        · have HK := Lib.hid (key_all (s := s) (by omega) (by omega) (fun j hj => HW.out j hj (by omega)))
          go_wp2
          go_ret
          exact ⟨ret_bool HK.out.symm, rfl⟩

set_option maxHeartbeats 2000000 in
theorem l7key_any (s : ByteArray) (w : World) (hs : s.size ≤ maxLen) : Calls Tryd.prog 43 #[.string s] w (SameBool (keyB s) w) := by
  unfold maxLen at hs
  go_enter Tryd.func43, Tryd.ntmps43
  go_wp2
  go_loop [3] (fun i => ∃ k : Nat, k ≤ s.size ∧ i = .int .i64 k ∧ Hid (∀ j, (hj : j < s.size) → j < k → kbB s[j].toNat = true)) (fun i => s.size - (intOf i).toNat)
  case atStart => exact ⟨0, Nat.zero_le _, rfl, Lib.hid fun j _ h => by omega⟩
  case round =>
    obtain ⟨k, hk, rfl, HW⟩ := hrel
    by_cases hlt : k < s.size
    · have hb0 : (0 : Int) ≤ (s[k].toNat : Int) := by omega
      have hb1 : (s[k].toNat : Int) ≤ 255 := by have := s[k].toNat_lt; omega
      cases hq : kbB s[k].toNat with
      | true =>
        have hc : 97 ≤ (s[k].toNat : Int) ∧ (s[k].toNat : Int) ≤ 122 ∨ 48 ≤ (s[k].toNat : Int) ∧ (s[k].toNat : Int) ≤ 57 ∨ (s[k].toNat : Int) = 45 ∨ (s[k].toNat : Int) = 47 := by unfold kbB at hq; simpa using hq
        have HQ := Lib.hid hq
        clear hq
        go_wp2
        all_goals first
          | (exfalso; omega)
          | (exfalso; simp only [Bool.not_eq_true', beq_eq_false_iff_ne, ne_eq] at *; omega)
          | (go_round
             case rel => exact ⟨k + 1, by omega, by go_num, Lib.hid fun j hj h => by
               rcases Nat.lt_or_ge j k with h | h
               · exact HW.out j hj h
               · obtain rfl : j = k := by omega
                 exact HQ.out⟩
             case measure => simp [intOf]; omega)
      | false =>
        have hc : ¬ (97 ≤ (s[k].toNat : Int) ∧ (s[k].toNat : Int) ≤ 122 ∨ 48 ≤ (s[k].toNat : Int) ∧ (s[k].toNat : Int) ≤ 57 ∨ (s[k].toNat : Int) = 45 ∨ (s[k].toNat : Int) = 47) := by unfold kbB at hq; simpa using hq
        have HK := Lib.hid (key_bad hlt hq)
        clear hq
        have e45 : ((s[k].toNat : Int) == 45) = false := by rw [beq_eq_false_iff_ne]; omega
        have e47 : ((s[k].toNat : Int) == 47) = false := by rw [beq_eq_false_iff_ne]; omega
        rcases (show (97 ≤ (s[k].toNat : Int) ∧ 122 < (s[k].toNat : Int) ∧ 48 ≤ (s[k].toNat : Int) ∧ 57 < (s[k].toNat : Int)) ∨ ((s[k].toNat : Int) < 97 ∧ (s[k].toNat : Int) < 48) ∨ ((s[k].toNat : Int) < 97 ∧ 48 ≤ (s[k].toNat : Int) ∧ 57 < (s[k].toNat : Int)) by omega) with ⟨a1, a2, a3, a4⟩ | ⟨a1, a2⟩ | ⟨a1, a2, a3⟩
        · have d1 : decide ((s[k].toNat : Int) ≤ 122) = false := decide_eq_false (by omega)
          have d2 : decide ((s[k].toNat : Int) ≤ 57) = false := decide_eq_false (by omega)
          clear hc
          go_wp2
          go_ret
          exact ⟨ret_bool HK.out.symm, rfl⟩
        · clear hc
          go_wp2
          go_ret
          exact ⟨ret_bool HK.out.symm, rfl⟩
        · have d2 : decide ((s[k].toNat : Int) ≤ 57) = false := decide_eq_false (by omega)
          clear hc
          go_wp2
          go_ret
          exact ⟨ret_bool HK.out.symm, rfl⟩
    · have HK := Lib.hid (show inB s.size 1 40 = keyB s by
        by_cases h : 1 ≤ s.size ∧ s.size ≤ 40
        · rw [key_all (s := s) h.1 h.2 (fun j hj => HW.out j hj (by omega)), inB_iff]; omega
        · rw [key_size h]; unfold inB; exact decide_eq_false (by omega))
      go_wp2_with (go_at_call 81; refine (l1in_any _ _ _ _).mono ?_; rintro e w' ⟨rfl, rfl⟩)
      go_ret
      exact ⟨ret_bool HK.out, rfl⟩
end Go.Proofs.YtdjfihoempjjpaaDoor
namespace Go.Proofs.YtdjfihoempjjpaaDoor
open Go.ChangeShapes Go.WideShapes Go.ChangeAt Go.RowKit
set_option linter.unusedVariables false
set_option maxRecDepth 100000

theorem bltIff (x y : List UInt8) : Op.bytesLess x y = true ↔ x < y := by
  induction x generalizing y with
  | nil => cases y <;> simp [Op.bytesLess]
  | cons a x ih =>
    cases y with
    | nil => simp [Op.bytesLess]
    | cons b y =>
      rw [List.cons_lt_cons_iff, ← ih y]
      rw [show Op.bytesLess (a :: x) (b :: y) = (decide (a < b) || a == b && Op.bytesLess x y) from rfl]
      by_cases h1 : a < b
      · simp [h1]
      · by_cases h2 : a = b
        · subst h2; simp
        · simp [h1, h2]

abbrev Txts := List ByteArray
def ltT (s u : ByteArray) : Bool := Op.bytesLess s.toList u.toList
theorem ltT_iff {s u : ByteArray} : ltT s u = true ↔ s.toList < u.toList := bltIff _ _
def leT (a b : ByteArray) : Bool := !ltT b a
theorem leT_iff {a b : ByteArray} : leT a b = true ↔ ¬ b.toList < a.toList := by unfold leT; rw [Bool.not_eq_true', ← Bool.not_eq_true, ltT_iff]
def mergeT (l k : Txts) : Txts := List.merge l k leT
theorem mergeT_b {W A B : Txts} {x y : ByteArray} (h : ltT y x = true) : W ++ mergeT (x :: A) (y :: B) = (W ++ [y]) ++ mergeT (x :: A) B := by
  have h' : leT x y = false := by unfold leT; rw [h]; rfl
  unfold mergeT
  rw [List.cons_merge_cons, h', if_neg (by simp), List.append_assoc]; rfl
theorem mergeT_a {W A B : Txts} {x y : ByteArray} (h : ltT y x = false) : W ++ mergeT (x :: A) (y :: B) = (W ++ [x]) ++ mergeT A (y :: B) := by
  have h' : leT x y = true := by unfold leT; rw [h]; rfl
  unfold mergeT
  rw [List.cons_merge_cons, h', if_pos rfl, List.append_assoc]; rfl
theorem mergeT_nil {A B : Txts} (h : A = [] ∨ B = []) : mergeT A B = A ++ B := by
  unfold mergeT
  rcases h with rfl | rfl
  · rw [List.nil_merge]; rfl
  · rw [List.merge_right, List.append_nil]
theorem mergeT_len (l k : Txts) : (mergeT l k).length = l.length + k.length := by
  have := (List.merge_perm_append leT (xs := l) (ys := k)).length_eq
  rw [List.length_append] at this
  exact this
theorem mergeT_mem (l k : Txts) (x : ByteArray) : x ∈ mergeT l k ↔ x ∈ l ∨ x ∈ k := by
  show x ∈ List.merge l k leT ↔ _
  rw [(List.merge_perm_append leT (xs := l) (ys := k)).mem_iff, List.mem_append]

/-- Strictly increasing. -/
def IncT (l : Txts) : Prop := l.Pairwise (fun a b => a.toList < b.toList)
theorem inc_cons {x : ByteArray} {l : Txts} : IncT (x :: l) ↔ (∀ y ∈ l, x.toList < y.toList) ∧ IncT l := List.pairwise_cons
theorem inc_merge : ∀ (n : Nat) (l k : Txts), l.length + k.length ≤ n → (IncT (mergeT l k) ↔ IncT l ∧ IncT k ∧ ∀ a ∈ l, ∀ b ∈ k, a.toList ≠ b.toList) := by
  intro n
  induction n with
  | zero =>
    intro l k h
    obtain rfl : l = [] := List.length_eq_zero_iff.1 (by omega)
    obtain rfl : k = [] := List.length_eq_zero_iff.1 (by omega)
    rw [mergeT_nil (.inl rfl)]
    simp [IncT]
  | succ n ih =>
    intro l k h
    cases l with
    | nil =>
      rw [mergeT_nil (.inl rfl)]
      simp [IncT]
    | cons x A =>
      cases k with
      | nil =>
        rw [mergeT_nil (.inr rfl), List.append_nil]
        simp [IncT]
      | cons y B =>
        simp only [List.length_cons] at h
        cases hxy : ltT y x with
        | true =>
          have e := mergeT_b (W := []) (A := A) (B := B) hxy
          simp only [List.nil_append, List.singleton_append] at e
          rw [e, inc_cons, ih _ _ (by simp only [List.length_cons]; omega), inc_cons, inc_cons]
          have hyx := ltT_iff.1 hxy
          constructor
          · rintro ⟨h1, ⟨h2, h3⟩, h4, h5⟩
            refine ⟨⟨h2, h3⟩, ⟨fun b hb => h1 b ((mergeT_mem _ _ _).2 (.inr hb)), h4⟩, ?_⟩
            intro a ha b hb
            rcases List.mem_cons.1 hb with rfl | hb
            · have := h1 a ((mergeT_mem _ _ _).2 (.inl ha))
              intro he
              rw [he] at this
              exact List.lt_irrefl _ this
            · exact h5 a ha b hb
          · rintro ⟨⟨h2, h3⟩, ⟨h4, h5⟩, h6⟩
            refine ⟨?_, ⟨h2, h3⟩, h5, fun a ha b hb => h6 a ha b (List.mem_cons_of_mem _ hb)⟩
            intro b hb
            rcases (mergeT_mem _ _ _).1 hb with hb | hb
            · rcases List.mem_cons.1 hb with rfl | hb
              · exact hyx
              · exact List.lt_trans hyx (h2 b hb)
            · exact h4 b hb
        | false =>
          have e := mergeT_a (W := []) (A := A) (B := B) hxy
          simp only [List.nil_append, List.singleton_append] at e
          rw [e, inc_cons, ih _ _ (by simp only [List.length_cons]; omega), inc_cons, inc_cons]
          have hyx : ¬ y.toList < x.toList := by rw [← ltT_iff, hxy]; simp
          constructor
          · rintro ⟨h1, h2, ⟨h3, h4⟩, h5⟩
            refine ⟨⟨fun a ha => h1 a ((mergeT_mem _ _ _).2 (.inl ha)), h2⟩, ⟨h3, h4⟩, ?_⟩
            intro a ha b hb
            rcases List.mem_cons.1 ha with rfl | ha
            · have := h1 b ((mergeT_mem _ _ _).2 (.inr hb))
              intro he
              rw [he] at this
              exact List.lt_irrefl _ this
            · exact h5 a ha b hb
          · rintro ⟨⟨h1, h2⟩, ⟨h3, h4⟩, h5⟩
            have hlt : x.toList < y.toList := by
              by_cases hl : x.toList < y.toList
              · exact hl
              · exact absurd (List.le_antisymm hyx hl) (h5 x (List.mem_cons_self ..) y (List.mem_cons_self ..))
            refine ⟨?_, h2, ⟨h3, h4⟩, fun a ha b hb => h5 a (List.mem_cons_of_mem _ ha) b hb⟩
            intro b hb
            rcases (mergeT_mem _ _ _).1 hb with hb | hb
            · exact h1 b hb
            · rcases List.mem_cons.1 hb with rfl | hb
              · exact hlt
              · exact List.lt_trans hlt (h3 b hb)

def txt (l : Txts) (i : Nat) : ByteArray := l.getD i ByteArray.empty
theorem txt_get (l : Txts) (i : Nat) (h : i < l.length) : l[i] = txt l i := by unfold txt; rw [List.getD_eq_getElem?_getD, List.getElem?_eq_getElem h]; rfl
/-- Neighbours in order: all in order. -/
theorem inc_adj : ∀ {l : Txts}, (∀ i, i + 1 < l.length → (txt l i).toList < (txt l (i + 1)).toList) → IncT l
  | [], _ => List.Pairwise.nil
  | [x], _ => List.pairwise_singleton _ _
  | x :: y :: t, h => by
    have ih : IncT (y :: t) := inc_adj (fun i hi => by
      have := h (i + 1) (by simpa using hi)
      simpa [txt] using this)
    have h0 : x.toList < y.toList := by
      have := h 0 (by simp)
      simpa [txt] using this
    refine inc_cons.2 ⟨fun z hz => ?_, ih⟩
    rcases List.mem_cons.1 hz with rfl | hz
    · exact h0
    · exact List.lt_trans h0 ((inc_cons.1 ih).1 z hz)
theorem inc_at {l : Txts} (h : IncT l) {i j : Nat} (hij : i < j) (hj : j < l.length) : (txt l i).toList < (txt l j).toList := by
  have := List.pairwise_iff_getElem.1 h i j (by omega) hj hij
  rw [txt_get _ _ (by omega), txt_get _ _ hj] at this
  exact this
theorem inc_not {l : Txts} {i : Nat} (hi : i + 1 < l.length) (h : ltT (txt l i) (txt l (i + 1)) = false) : ¬ IncT l := fun hl => by
  have := inc_at hl (Nat.lt_succ_self i) hi
  rw [← ltT_iff, h] at this
  cases this

/-- Where a text stands in a list that is in order, or would stand. -/
def posT (l : Txts) (key : ByteArray) : Nat := (l.takeWhile (ltT · key)).length
def isT (l : Txts) (key : ByteArray) : Bool := decide (posT l key < l.length) && (txt l (posT l key)).toList == key.toList
theorem posT_le (l : Txts) (key : ByteArray) : posT l key ≤ l.length := (List.takeWhile_prefix _).length_le
theorem posT_eq : ∀ {l : Txts} {key : ByteArray} {k : Nat}, k ≤ l.length → (∀ j, j < k → ltT (txt l j) key = true) → (k < l.length → ltT (txt l k) key = false) → posT l key = k
  | [], key, k, hk, _, _ => by
    have : k = 0 := by simpa using hk
    subst this; rfl
  | x :: t, key, 0, hk, _, h2 => by
    have : ltT x key = false := h2 (by simp)
    unfold posT
    rw [List.takeWhile_cons, this]; rfl
  | x :: t, key, k + 1, hk, h1, h2 => by
    have h0 : ltT x key = true := h1 0 (by omega)
    have ih := posT_eq (l := t) (key := key) (k := k) (by simpa using hk) (fun j hj => h1 (j + 1) (by omega)) (fun hl => h2 (by simpa using hl))
    unfold posT at ih ⊢
    rw [List.takeWhile_cons, h0]
    simp [ih]
theorem posT_before : ∀ {l : Txts} {key : ByteArray} {j : Nat}, j < posT l key → ltT (txt l j) key = true
  | [], key, j, h => by simp [posT] at h
  | x :: t, key, j, h => by
    unfold posT at h
    rw [List.takeWhile_cons] at h
    cases hx : ltT x key with
    | false => rw [hx] at h; simp at h
    | true =>
      rw [hx] at h
      simp at h
      cases j with
      | zero => exact hx
      | succ j => exact posT_before (l := t) (by unfold posT; omega)
theorem posT_at : ∀ {l : Txts} {key : ByteArray}, posT l key < l.length → ltT (txt l (posT l key)) key = false
  | [], key, h => by simp at h
  | x :: t, key, h => by
    cases hx : ltT x key with
    | false =>
      have : posT (x :: t) key = 0 := by unfold posT; rw [List.takeWhile_cons, hx]; rfl
      rw [this]; exact hx
    | true =>
      have e : posT (x :: t) key = posT t key + 1 := by unfold posT; rw [List.takeWhile_cons, hx]; rfl
      rw [e] at h ⊢
      exact posT_at (l := t) (by simpa using h)
theorem isT_iff {l : Txts} {key : ByteArray} (h : IncT l) : isT l key = true ↔ ∃ s ∈ l, s.toList = key.toList := by
  unfold isT
  rw [Bool.and_eq_true, decide_eq_true_eq, beq_iff_eq]
  constructor
  · rintro ⟨h1, h2⟩
    refine ⟨txt l (posT l key), ?_, h2⟩
    rw [← txt_get l _ h1]
    exact List.getElem_mem _
  · rintro ⟨s, hs, he⟩
    obtain ⟨i, hi, rfl⟩ := List.getElem_of_mem hs
    rw [txt_get _ _ hi] at he
    have hp : posT l key = i := posT_eq (by omega) (fun j hj => by rw [ltT_iff, ← he]; exact inc_at h hj hi) (fun _ => by
      rw [← Bool.not_eq_true, ltT_iff, he]; exact List.lt_irrefl _)
    rw [hp]
    exact ⟨hi, he⟩

def okeys (l : Objs) : Txts := l.map (·.1)
def gkeys (m : Gones) : Txts := m.map (·.1)
theorem okeys_len (l : Objs) : (okeys l).length = l.length := by unfold okeys; simp
theorem gkeys_len (m : Gones) : (gkeys m).length = m.length := by unfold gkeys; simp
theorem okeys_at (l : Objs) (i : Nat) : txt (okeys l) i = obj0 l i := by
  unfold txt okeys obj0
  rw [List.getD_eq_getElem?_getD, List.getD_eq_getElem?_getD, List.getElem?_map]
  cases l[i]? <;> rfl
theorem gkeys_at (m : Gones) (i : Nat) : txt (gkeys m) i = gone0 m i := by
  unfold txt gkeys gone0
  rw [List.getD_eq_getElem?_getD, List.getD_eq_getElem?_getD, List.getElem?_map]
  cases m[i]? <;> rfl

def objOk (l : Objs) (i : Nat) : Prop := keyB (obj0 l i) = true ∧ inB (obj1 l i) 1 1000000 = true ∧ (obj2 l i).size ≤ 30000
def gonOk (m : Gones) (i : Nat) : Prop := keyB (gone0 m i) = true ∧ inB (gone1 m i) 1 1000000 = true
/-- A valid store. -/
structure StoP (l : Objs) (m : Gones) : Prop where
  few : l.length + m.length ≤ 1100
  objs : ∀ i, i < l.length → objOk l i
  gons : ∀ i, i < m.length → gonOk m i
  oinc : IncT (okeys l)
  ginc : IncT (gkeys m)
  apart : ∀ a ∈ okeys l, ∀ b ∈ gkeys m, a.toList ≠ b.toList
/-- A bool that says whether p. -/
def SaysB (p : Prop) (w : World) (e : Ending) (w' : World) : Prop := ∃ b : Bool, e = .returned (.bool b) ∧ (b = true ↔ p) ∧ Below w.heap.size w w'
end Go.Proofs.YtdjfihoempjjpaaDoor
