/- Texts put together, as a claim holds at most sixty files. -/
import Derived.Test.YtblpebdjbenphaaGreatDoorMg1
import Derived.Test.YtblpebdjbenphaaGreatDoorMg2
import Derived.Test.YtblpebdjbenphaaGreatDoorMg0
import Derived.WalkKit
import Derived.ProofKit
import Derived.OpenShut
import Derived.WalkLawsBesides
import Derived.Deep.QuietTactic
import Derived.BigQuiet
import Derived.Deep.RegionHeld3
import Derived.Lib.Hide
import Derived.Outline
namespace Go.Proofs.YtblpebdjbenphaaGreatDoor
open Go.ChangeShapes Go.WideShapes Go.ChangeAt Go.RowKit
set_option linter.unusedVariables false
set_option maxRecDepth 100000

theorem Went.more {w w1 w2 : World} {r : Nat} {a : Option Addr} {len cap : Nat} {row : Option Nat} (h : Went w r a len cap w1) (hg : w1.grownBy w2 row) (hr : r < w.heap.size) (hrow : ∀ k, row = some k → w.heap.size ≤ k) : Went w r a len cap w2 :=
  ⟨⟨hg.os.trans h.grown.os, hg.tape.trans h.grown.tape, hg.output.trans h.grown.output, Nat.le_trans h.size hg.size, fun i hi hn => (hg.block i (Nat.lt_of_lt_of_le hi h.size) (fun e => by have := hrow i e.symm; omega)).trans (h.grown.block i hi hn)⟩,
   h.rdr.below ⟨hg.os, hg.tape, hg.output, hg.size, fun k hk => hg.block k (by have := h.rdr.lt; omega) (fun e => by have := hrow k e.symm; omega)⟩⟩
theorem own_went {w w1 : World} {base r : Nat} {a : Option Addr} {len cap : Nat} {e : TypeId} {size : Nat} {v : Value} {n : Nat} {xs : List Value} (h : w.ownsRow base e size v n xs) (hw : Went w r a len cap w1) (hr : r < base) : w1.ownsRow base e size v n xs :=
  h.kept hw.grown (by
    by_cases hv : v.ownBlock = none
    · exact .inl hv
    · refine .inr fun he => ?_
      have := (h.lt r he).1
      omega)
end Go.Proofs.YtblpebdjbenphaaGreatDoor
namespace Go.Proofs.YtblpebdjbenphaaGreatDoor
open Go.ChangeShapes Go.WideShapes Go.ChangeAt Go.RowKit
set_option linter.unusedVariables false
set_option maxRecDepth 100000

def RdCmd (w : World) (r : Nat) (a : Option Addr) (len cap : Nat) (e : Ending) (w' : World) : Prop :=
  ∃ (k : Int) (b : ByteArray) (v : Int) (d : ByteArray), b.size ≤ 3 ∧ d.size ≤ 30001 ∧ e = .returned (.agg #[.int .i64 k, .string b, .int .i64 v, .string d]) ∧ Went w r a len cap w'
theorem went_set {w wr : World} {r : Nat} {a : Option Addr} {len cap C : Nat} (h : Went w r a len cap wr) (hr : r < w.heap.size) (hC : w.heap.size ≤ C) (j : Nat) (v : Value) : Went w r a len cap (wr.setCell ⟨C, j, none⟩ v) :=
  h.more (row := some C) (grown_setCell (World.grownBy.refl _ _) j v) hr (fun k hk => by injection hk with hk; omega)
/-- What the walk holds: the reader, the store's box, the result's place. -/
structure DC (w wr : World) (r : Nat) (a : Option Addr) (len cap : Nat) (C : Nat) (A : Array Value) : Prop where
  went : Went w r a len cap wr
  box : Row wr w.heap.size 27 #[.slice none 0 0, .slice none 0 0]
  res : Row wr (w.heap.size + 1) 52 #[.int .i64 0, .string ⟨#[]⟩, .int .i64 0, .string ⟨#[]⟩]
  row : Row wr C 52 A
theorem DC.step {w wr w1 : World} {r : Nat} {a : Option Addr} {len cap C : Nat} {A : Array Value} (h : DC w wr r a len cap C A) (hr : r < w.heap.size) (hC : w.heap.size < C) (hw : Went wr r a len cap w1) : DC w w1 r a len cap C A :=
  ⟨h.went.trans hw, h.box.grown hw.grown (by intro e; injection e with e; omega), h.res.grown hw.grown (by intro e; injection e with e; omega), h.row.grown hw.grown (by intro e; injection e with e; omega)⟩
theorem DC.set {w wr : World} {r : Nat} {a : Option Addr} {len cap C : Nat} {A : Array Value} (h : DC w wr r a len cap C A) (hr : r < w.heap.size) (hC : w.heap.size + 1 < C) (j : Nat) (v : Value) : DC w (wr.setCell ⟨C, j, none⟩ v) r a len cap C (A.setIfInBounds j v) :=
  ⟨went_set h.went hr (by omega) j v, h.box.other (by omega) j v, h.res.other (by omega) j v, h.row.set j v⟩

set_option maxHeartbeats 4000000 in
theorem drawcmd_any (w : World) (r : Nat) (a : Option Addr) (len cap : Nat) (h : Rdr w r a len cap) :
    Calls Tryz.prog 36 #[.pointer (some ⟨r, 0, none⟩), .agg #[.slice none 0 0, .slice none 0 0]] w (RdCmd w r a len cap) := by
  have H := Lib.hid h
  have HR := Lib.hid h.lt
  have HBX := Lib.hid ((Row.new w 27 #[.slice none 0 0, .slice none 0 0]).alloc (.cells #[.int .i64 0, .string ⟨#[]⟩, .int .i64 0, .string ⟨#[]⟩] 52))
  have HRS := Lib.hid (show Row _ (w.heap.size + 1) 52 _ from by
    have := Row.new (w.alloc (.cells #[.slice none 0 0, .slice none 0 0] 27)) 52 #[.int .i64 0, .string ⟨#[]⟩, .int .i64 0, .string ⟨#[]⟩]
    simpa using this)
  have HW := Lib.hid (((Went.refl h).alloc (.cells #[.slice none 0 0, .slice none 0 0] 27)).alloc (.cells #[.int .i64 0, .string ⟨#[]⟩, .int .i64 0, .string ⟨#[]⟩] 52))
  clear h
  go_enter Tryz.func36, Tryz.ntmps36
  go_wp2_with fail
  refine (below_any _ _ _ _ _ _ HW.out.rdr (by decide) (by decide)).mono ?_
  rintro e w1 ⟨⟨x, hx1, hx2, rfl⟩, hw⟩
  have hne1 : some r ≠ some w.heap.size := by intro e; injection e with e; have := HR.out; omega
  have hne2 : some r ≠ some (w.heap.size + 1) := by intro e; injection e with e; have := HR.out; omega
  have HBX := Lib.hid (HBX.out.grown hw.grown hne1)
  have HRS := Lib.hid (HRS.out.grown hw.grown hne2)
  have HW := Lib.hid (HW.out.trans hw)
  clear hw
  go_wp2_with fail
  refine (name_any _ _ _ _ _ HW.out.rdr).mono ?_
  rintro e w2 ⟨⟨b, hb, rfl⟩, hw⟩
  have HBX := Lib.hid (HBX.out.grown hw.grown hne1)
  have HRS := Lib.hid (HRS.out.grown hw.grown hne2)
  have HW := Lib.hid (HW.out.trans hw)
  have HNB := Lib.hid hb
  have hCw : w.heap.size + 1 < w2.heap.size := HRS.out.lt
  clear hw hb
  -- from here on written by gen_drawcm.py
  rcases (by omega : x = 0 ∨ x = 1 ∨ x = 2) with rfl | rfl | rfl
  · skip
    have HD := Lib.hid (show DC w (w2.alloc (.cells #[.int .i64 0, .string ⟨#[]⟩, .int .i64 0, .string ⟨#[]⟩] 52)) r a len cap w2.heap.size #[.int .i64 0, .string ⟨#[]⟩, .int .i64 0, .string ⟨#[]⟩] from ⟨HW.out.alloc _, HBX.out.alloc _, HRS.out.alloc _, Row.new _ _ _⟩)
    obtain ⟨C, hC⟩ : ∃ C, w2.heap.size = C := ⟨_, rfl⟩
    rw [hC] at HD hCw
    obtain ⟨w3, hw3⟩ : ∃ w3, w2.alloc (.cells #[.int .i64 0, .string ⟨#[]⟩, .int .i64 0, .string ⟨#[]⟩] 52) = w3 := ⟨_, rfl⟩
    rw [hw3] at HD
    have hCw0 : w.heap.size < C := by omega
    clear HBX HRS HW
    have bx0 := HD.out.box.cell (j := 0) (by simp)
    have bx1 := HD.out.box.cell (j := 1) (by simp)
    simp at bx0 bx1
    have c0 := HD.out.row.cell (j := 0) (by simp)
    have c1 := HD.out.row.cell (j := 1) (by simp)
    have c2 := HD.out.row.cell (j := 2) (by simp)
    have c3 := HD.out.row.cell (j := 3) (by simp)
    have fr0 := HD.out.row.free 0
    have fr1 := HD.out.row.free 1
    have fr2 := HD.out.row.free 2
    have fr3 := HD.out.row.free 3
    simp at c0 c1 c2 c3
    have y0 := HD.out.res.cell (j := 0) (by simp)
    have y1 := HD.out.res.cell (j := 1) (by simp)
    have y2 := HD.out.res.cell (j := 2) (by simp)
    have y3 := HD.out.res.cell (j := 3) (by simp)
    have f0 := HD.out.res.free 0
    have f1 := HD.out.res.free 1
    have f2 := HD.out.res.free 2
    have f3 := HD.out.res.free 3
    simp at y0 y1 y2 y3
    have HD := Lib.hid ((((HD.out.set HR.out hCw 0 (.int .i64 1)).set HR.out hCw 1 (.string b)).set HR.out hCw 2 (.int .i64 0)).set HR.out hCw 3 (.string ⟨#[]⟩))
    go_wp2_with fail
    clear bx0 bx1 c0 c1 c2 c3 fr0 fr1 fr2 fr3 y0 y1 y2 y3 f0 f1 f2 f3
    refine (data_any _ _ _ _ _ HD.out.went.rdr).mono ?_
    rintro e w5 ⟨⟨d, hd, rfl⟩, hw⟩
    have HD := Lib.hid (HD.out.step HR.out hCw0 hw)
    have HDZ := Lib.hid hd
    clear hw hd
    have c0 := HD.out.row.cell (j := 0) (by simp)
    have c1 := HD.out.row.cell (j := 1) (by simp)
    have c2 := HD.out.row.cell (j := 2) (by simp)
    have c3 := HD.out.row.cell (j := 3) (by simp)
    have fr0 := HD.out.row.free 0
    have fr1 := HD.out.row.free 1
    have fr2 := HD.out.row.free 2
    have fr3 := HD.out.row.free 3
    simp at c0 c1 c2 c3
    have y0 := HD.out.res.cell (j := 0) (by simp)
    have y1 := HD.out.res.cell (j := 1) (by simp)
    have y2 := HD.out.res.cell (j := 2) (by simp)
    have y3 := HD.out.res.cell (j := 3) (by simp)
    have f0 := HD.out.res.free 0
    have f1 := HD.out.res.free 1
    have f2 := HD.out.res.free 2
    have f3 := HD.out.res.free 3
    simp at y0 y1 y2 y3
    have HD := Lib.hid (HD.out.set HR.out hCw 3 (.string d))
    go_wp2
    have hbF := ((((HD.out.res.set 0 (.int .i64 1)).set 1 (.string b)).set 2 (.int .i64 0)).set 3 (.string d))
    unfold Row at hbF
    exact bodyPost_ret (v := .agg #[.int .i64 1, .string b, .int .i64 0, .string d]) (by simp [results, Tryz.results36, go_sem, World.cell?, hbF]) rfl ⟨_, _, _, _, HNB.out, HDZ.out, rfl, went_set (went_set (went_set (went_set HD.out.went HR.out (by omega) 0 _) HR.out (by omega) 1 _) HR.out (by omega) 2 _) HR.out (by omega) 3 _⟩
  · skip
    have HD := Lib.hid (show DC w (w2.alloc (.cells #[.int .i64 0, .string ⟨#[]⟩, .int .i64 0, .string ⟨#[]⟩] 52)) r a len cap w2.heap.size #[.int .i64 0, .string ⟨#[]⟩, .int .i64 0, .string ⟨#[]⟩] from ⟨HW.out.alloc _, HBX.out.alloc _, HRS.out.alloc _, Row.new _ _ _⟩)
    obtain ⟨C, hC⟩ : ∃ C, w2.heap.size = C := ⟨_, rfl⟩
    rw [hC] at HD hCw
    obtain ⟨w3, hw3⟩ : ∃ w3, w2.alloc (.cells #[.int .i64 0, .string ⟨#[]⟩, .int .i64 0, .string ⟨#[]⟩] 52) = w3 := ⟨_, rfl⟩
    rw [hw3] at HD
    have hCw0 : w.heap.size < C := by omega
    clear HBX HRS HW
    have bx0 := HD.out.box.cell (j := 0) (by simp)
    have bx1 := HD.out.box.cell (j := 1) (by simp)
    simp at bx0 bx1
    have c0 := HD.out.row.cell (j := 0) (by simp)
    have c1 := HD.out.row.cell (j := 1) (by simp)
    have c2 := HD.out.row.cell (j := 2) (by simp)
    have c3 := HD.out.row.cell (j := 3) (by simp)
    have fr0 := HD.out.row.free 0
    have fr1 := HD.out.row.free 1
    have fr2 := HD.out.row.free 2
    have fr3 := HD.out.row.free 3
    simp at c0 c1 c2 c3
    have y0 := HD.out.res.cell (j := 0) (by simp)
    have y1 := HD.out.res.cell (j := 1) (by simp)
    have y2 := HD.out.res.cell (j := 2) (by simp)
    have y3 := HD.out.res.cell (j := 3) (by simp)
    have f0 := HD.out.res.free 0
    have f1 := HD.out.res.free 1
    have f2 := HD.out.res.free 2
    have f3 := HD.out.res.free 3
    simp at y0 y1 y2 y3
    have HD := Lib.hid ((((HD.out.set HR.out hCw 0 (.int .i64 2)).set HR.out hCw 1 (.string b)).set HR.out hCw 2 (.int .i64 0)).set HR.out hCw 3 (.string ⟨#[]⟩))
    go_wp2_with fail
    clear bx0 bx1 c0 c1 c2 c3 fr0 fr1 fr2 fr3 y0 y1 y2 y3 f0 f1 f2 f3
    refine (below_any _ _ _ _ _ _ HD.out.went.rdr (by decide) (by decide)).mono ?_
    rintro e w4 ⟨⟨y, hy1', hy2', rfl⟩, hw⟩
    have HD := Lib.hid (HD.out.step HR.out hCw0 hw)
    clear hw
    have c0 := HD.out.row.cell (j := 0) (by simp)
    have c1 := HD.out.row.cell (j := 1) (by simp)
    have c2 := HD.out.row.cell (j := 2) (by simp)
    have c3 := HD.out.row.cell (j := 3) (by simp)
    have fr0 := HD.out.row.free 0
    have fr1 := HD.out.row.free 1
    have fr2 := HD.out.row.free 2
    have fr3 := HD.out.row.free 3
    simp at c0 c1 c2 c3
    have y0 := HD.out.res.cell (j := 0) (by simp)
    have y1 := HD.out.res.cell (j := 1) (by simp)
    have y2 := HD.out.res.cell (j := 2) (by simp)
    have y3 := HD.out.res.cell (j := 3) (by simp)
    have f0 := HD.out.res.free 0
    have f1 := HD.out.res.free 1
    have f2 := HD.out.res.free 2
    have f3 := HD.out.res.free 3
    simp at y0 y1 y2 y3
    have HD := Lib.hid (HD.out.set HR.out hCw 2 (.int .i64 (1 + y)))
    go_wp2_with fail
    clear c0 c1 c2 c3 fr0 fr1 fr2 fr3 y0 y1 y2 y3 f0 f1 f2 f3
    refine (data_any _ _ _ _ _ HD.out.went.rdr).mono ?_
    rintro e w5 ⟨⟨d, hd, rfl⟩, hw⟩
    have HD := Lib.hid (HD.out.step HR.out hCw0 hw)
    have HDZ := Lib.hid hd
    clear hw hd
    have c0 := HD.out.row.cell (j := 0) (by simp)
    have c1 := HD.out.row.cell (j := 1) (by simp)
    have c2 := HD.out.row.cell (j := 2) (by simp)
    have c3 := HD.out.row.cell (j := 3) (by simp)
    have fr0 := HD.out.row.free 0
    have fr1 := HD.out.row.free 1
    have fr2 := HD.out.row.free 2
    have fr3 := HD.out.row.free 3
    simp at c0 c1 c2 c3
    have y0 := HD.out.res.cell (j := 0) (by simp)
    have y1 := HD.out.res.cell (j := 1) (by simp)
    have y2 := HD.out.res.cell (j := 2) (by simp)
    have y3 := HD.out.res.cell (j := 3) (by simp)
    have f0 := HD.out.res.free 0
    have f1 := HD.out.res.free 1
    have f2 := HD.out.res.free 2
    have f3 := HD.out.res.free 3
    simp at y0 y1 y2 y3
    have HD := Lib.hid (HD.out.set HR.out hCw 3 (.string d))
    go_wp2
    have hbF := ((((HD.out.res.set 0 (.int .i64 2)).set 1 (.string b)).set 2 (.int .i64 (1 + y))).set 3 (.string d))
    unfold Row at hbF
    exact bodyPost_ret (v := .agg #[.int .i64 2, .string b, .int .i64 (1 + y), .string d]) (by simp [results, Tryz.results36, go_sem, World.cell?, hbF]) rfl ⟨_, _, _, _, HNB.out, HDZ.out, rfl, went_set (went_set (went_set (went_set HD.out.went HR.out (by omega) 0 _) HR.out (by omega) 1 _) HR.out (by omega) 2 _) HR.out (by omega) 3 _⟩
  · skip
    have HD := Lib.hid (show DC w (w2.alloc (.cells #[.int .i64 0, .string ⟨#[]⟩, .int .i64 0, .string ⟨#[]⟩] 52)) r a len cap w2.heap.size #[.int .i64 0, .string ⟨#[]⟩, .int .i64 0, .string ⟨#[]⟩] from ⟨HW.out.alloc _, HBX.out.alloc _, HRS.out.alloc _, Row.new _ _ _⟩)
    obtain ⟨C, hC⟩ : ∃ C, w2.heap.size = C := ⟨_, rfl⟩
    rw [hC] at HD hCw
    obtain ⟨w3, hw3⟩ : ∃ w3, w2.alloc (.cells #[.int .i64 0, .string ⟨#[]⟩, .int .i64 0, .string ⟨#[]⟩] 52) = w3 := ⟨_, rfl⟩
    rw [hw3] at HD
    have hCw0 : w.heap.size < C := by omega
    clear HBX HRS HW
    have bx0 := HD.out.box.cell (j := 0) (by simp)
    have bx1 := HD.out.box.cell (j := 1) (by simp)
    simp at bx0 bx1
    have c0 := HD.out.row.cell (j := 0) (by simp)
    have c1 := HD.out.row.cell (j := 1) (by simp)
    have c2 := HD.out.row.cell (j := 2) (by simp)
    have c3 := HD.out.row.cell (j := 3) (by simp)
    have fr0 := HD.out.row.free 0
    have fr1 := HD.out.row.free 1
    have fr2 := HD.out.row.free 2
    have fr3 := HD.out.row.free 3
    simp at c0 c1 c2 c3
    have y0 := HD.out.res.cell (j := 0) (by simp)
    have y1 := HD.out.res.cell (j := 1) (by simp)
    have y2 := HD.out.res.cell (j := 2) (by simp)
    have y3 := HD.out.res.cell (j := 3) (by simp)
    have f0 := HD.out.res.free 0
    have f1 := HD.out.res.free 1
    have f2 := HD.out.res.free 2
    have f3 := HD.out.res.free 3
    simp at y0 y1 y2 y3
    have HD := Lib.hid ((((HD.out.set HR.out hCw 0 (.int .i64 3)).set HR.out hCw 1 (.string b)).set HR.out hCw 2 (.int .i64 0)).set HR.out hCw 3 (.string ⟨#[]⟩))
    go_wp2_with fail
    clear bx0 bx1 c0 c1 c2 c3 fr0 fr1 fr2 fr3 y0 y1 y2 y3 f0 f1 f2 f3
    refine (below_any _ _ _ _ _ _ HD.out.went.rdr (by decide) (by decide)).mono ?_
    rintro e w4 ⟨⟨y, hy1', hy2', rfl⟩, hw⟩
    have HD := Lib.hid (HD.out.step HR.out hCw0 hw)
    clear hw
    have c0 := HD.out.row.cell (j := 0) (by simp)
    have c1 := HD.out.row.cell (j := 1) (by simp)
    have c2 := HD.out.row.cell (j := 2) (by simp)
    have c3 := HD.out.row.cell (j := 3) (by simp)
    have fr0 := HD.out.row.free 0
    have fr1 := HD.out.row.free 1
    have fr2 := HD.out.row.free 2
    have fr3 := HD.out.row.free 3
    simp at c0 c1 c2 c3
    have y0 := HD.out.res.cell (j := 0) (by simp)
    have y1 := HD.out.res.cell (j := 1) (by simp)
    have y2 := HD.out.res.cell (j := 2) (by simp)
    have y3 := HD.out.res.cell (j := 3) (by simp)
    have f0 := HD.out.res.free 0
    have f1 := HD.out.res.free 1
    have f2 := HD.out.res.free 2
    have f3 := HD.out.res.free 3
    simp at y0 y1 y2 y3
    have HD := Lib.hid (HD.out.set HR.out hCw 2 (.int .i64 (1 + y)))
    go_wp2
    have hbF := ((((HD.out.res.set 0 (.int .i64 3)).set 1 (.string b)).set 2 (.int .i64 (1 + y))).set 3 (.string ⟨#[]⟩))
    unfold Row at hbF
    exact bodyPost_ret (v := .agg #[.int .i64 3, .string b, .int .i64 (1 + y), .string ⟨#[]⟩]) (by simp [results, Tryz.results36, go_sem, World.cell?, hbF]) rfl ⟨_, _, _, _, HNB.out, (by decide), rfl, went_set (went_set (went_set (went_set HD.out.went HR.out (by omega) 0 _) HR.out (by omega) 1 _) HR.out (by omega) 2 _) HR.out (by omega) 3 _⟩
end Go.Proofs.YtblpebdjbenphaaGreatDoor
namespace Go.Proofs.YtblpebdjbenphaaGreatDoor
open Go.ChangeShapes Go.WideShapes Go.ChangeAt Go.RowKit
set_option linter.unusedVariables false
set_option maxRecDepth 100000

/-- A record as a value. -/
def recV (s : ByteArray) (n : Int) : Value := .agg #[.string s, .int .i64 n]
def okB (s : ByteArray) : Bool := decide (s.size ≤ 40)
def lessB (s : ByteArray) (n : Int) (u : ByteArray) (m : Int) : Bool := Op.bytesLess s.toList u.toList || (s.toList == u.toList && decide (n < m))

theorem okB_yes {s : ByteArray} (h : s.size ≤ 40) : okB s = true := by unfold okB; simpa using h
theorem okB_no {s : ByteArray} (h : ¬ s.size ≤ 40) : okB s = false := by unfold okB; simpa using h

theorem okB_int (s : ByteArray) : decide ((s.size : Int) ≤ 40) = okB s := by
  unfold okB
  by_cases h : s.size ≤ 40
  · rw [decide_eq_true h, decide_eq_true (by omega)]
  · rw [decide_eq_false h, decide_eq_false (by omega)]

/-- The end of a function that returns a record and makes at most new blocks. -/
def MadeRec (s : ByteArray) (n : Int) (w : World) (e : Ending) (w' : World) : Prop := e = .returned (.agg #[.string s, .int .i64 n]) ∧ Below w.heap.size w w'

def sz1 (left : Int) (s : ByteArray) : Int := if left < s.size then -1 else left - s.size
/-- The end of a function that returns the number x and makes at most new blocks. -/
def MadeInt (x : Int) (w : World) (e : Ending) (w' : World) : Prop := e = .returned (.int .i64 x) ∧ Below w.heap.size w w'
theorem ret_int' {k : IntKind} {a b : Int} (h : a = b) : Ending.returned (.int k a) = .returned (.int k b) := by rw [h]

theorem bytesLess_irrefl (l : List UInt8) : Op.bytesLess l l = false := by
  induction l with
  | nil => rfl
  | cons a l ih => simp [Op.bytesLess, ih]
theorem less_ne {s u : ByteArray} {n m : Int} (h : (!s.toList == u.toList) = true) : Op.bytesLess s.toList u.toList = lessB s n u m := by
  unfold lessB
  rw [Bool.not_eq_true'] at h
  rw [h]; simp
theorem less_eq {s u : ByteArray} {n m : Int} (h : (!s.toList == u.toList) = false) : decide (n < m) = lessB s n u m := by
  unfold lessB
  rw [Bool.not_eq_false'] at h
  rw [h, eq_of_beq h, bytesLess_irrefl]; simp

theorem less_1 {s u : ByteArray} {n m : Int} (h : Op.bytesLess s.toList u.toList = true) : true = lessB s n u m := by
  unfold lessB; rw [h]; rfl
theorem less_2 {s u : ByteArray} {n m : Int} (h : ¬ Op.bytesLess s.toList u.toList = true) (h2 : s.toList = u.toList) : decide (n < m) = lessB s n u m := by
  unfold lessB; rw [Bool.not_eq_true] at h; rw [h, h2]; simp
theorem less_3 {s u : ByteArray} {n m : Int} (h : ¬ Op.bytesLess s.toList u.toList = true) (h2 : ¬ s.toList = u.toList) : false = lessB s n u m := by
  unfold lessB; rw [Bool.not_eq_true] at h; rw [h]; simp [h2]

/-- A block of two cells. -/
structure Box2 (w : World) (b : Nat) (x y : Value) : Prop where
  lt : b < w.heap.size
  c0 : w.cell? ⟨b, 0, none⟩ = some x
  c1 : w.cell? ⟨b, 1, none⟩ = some y
theorem Box2.keep {w w1 : World} {b : Nat} {x y : Value} (h : Box2 w b x y) (hB : Below w.heap.size w w1) : Box2 w1 b x y :=
  ⟨Nat.lt_of_lt_of_le h.lt hB.size, (hB.cell (p := ⟨b, 0, none⟩) h.lt).trans h.c0, (hB.cell (p := ⟨b, 1, none⟩) h.lt).trans h.c1⟩
theorem Box2.new (w : World) (x y : Value) (t : TypeId) : Box2 (w.alloc (.cells #[x, y] t)) w.heap.size x y :=
  ⟨by simp, cell_two_new w x y t 0 _ rfl, cell_two_new w x y t 1 _ rfl⟩
theorem Box2.new1 (w : World) (o : Obj) (x y : Value) (t : TypeId) : Box2 ((w.alloc o).alloc (.cells #[x, y] t)) (w.heap.size + 1) x y := by
  have h := Box2.new (w.alloc o) x y t
  have e : (w.alloc o).heap.size = w.heap.size + 1 := by simp
  rw [e] at h
  exact h
theorem Box2.alloc {w : World} {b : Nat} {x y : Value} (h : Box2 w b x y) (o : Obj) : Box2 (w.alloc o) b x y := h.keep ((Below.refl _ _).alloc (Nat.le_refl _) o)

end Go.Proofs.YtblpebdjbenphaaGreatDoor
