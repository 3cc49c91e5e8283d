/- Texts put together, as a claim holds at most sixty files. -/
import Derived.Test.YtblpebdjbenphaaMg1
import Derived.Lib.Strings
import Derived.Test.YtblpebdjbenphaaMg0
namespace Go.Proofs.Ytblpebdjbenphaa
open Go.ChangeShapes Go.WideShapes Go.ChangeAt Go.RowKit
set_option linter.unusedVariables false
set_option maxRecDepth 100000

theorem infoStr : (Try.prog.info? 9).map (fun i => (i.zero, i.size, i.bytes)) = some (some (.string ByteArray.empty), 1, 16) := by kernel_rfl

theorem one_new (w : World) (x : Value) (t : TypeId) : ∀ j u, [x][j]? = some u → (w.alloc (.cells #[x] t)).cell? ((⟨w.heap.size, 0, none⟩ : Addr).add j) = some u := by
  intro j u hj
  match j, hj with
  | 0, hj => simp at hj; subst hj; simp [Addr.add]
theorem own_form {w : World} {base : Nat} {e : TypeId} {size : Nat} {v : Value} {n : Nat} {xs : List Value} (h : w.ownsRow base e size v n xs) : ∃ q cp, v = .slice q n cp := by
  rcases h.2 with ⟨rfl, rfl⟩ | ⟨g, cap, cur, rfl, _⟩
  · exact ⟨_, _, rfl⟩
  · exact ⟨_, _, rfl⟩
theorem own_below {w w1 : World} {base : Nat} {e : TypeId} {size : Nat} {v : Value} {n : Nat} {xs : List Value} (h : w.ownsRow base e size v n xs) (hB : Below w.heap.size w w1) : w1.ownsRow base e size v n xs :=
  h.kept (row := none) ⟨hB.os, hB.tape, hB.output, hB.size, fun k hk _ => hB.block k hk⟩ (by by_cases hv : v.ownBlock = none; exact .inl hv; exact .inr hv)
theorem growT {a b c : World} {row : Option Nat} (h : a.grownBy b row) (k : b.grownBy c row) : a.grownBy c row :=
  ⟨k.os.trans h.os, k.tape.trans h.tape, k.output.trans h.output, Nat.le_trans h.size k.size, fun i hi hn => (k.block i (Nat.lt_of_lt_of_le hi h.size) hn).trans (h.block i hi hn)⟩
theorem growB {a b c : World} {row : Option Nat} (h : a.grownBy b row) (k : Below b.heap.size b c) : a.grownBy c row :=
  ⟨k.os.trans h.os, k.tape.trans h.tape, k.output.trans h.output, Nat.le_trans h.size k.size, fun i hi hn => (k.block i (Nat.lt_of_lt_of_le hi h.size)).trans (h.block i hi hn)⟩
theorem growA {a b : World} {row : Option Nat} (h : a.grownBy b row) (o : Obj) : a.grownBy (b.alloc o) row := growT h (World.grownBy_alloc _ _ _)
theorem growD {a b : World} {row : Option Nat} (h : a.grownBy b row) (n : Nat) : a.grownBy (b.drewN n) row := growT h ⟨rfl, rfl, rfl, Nat.le_refl _, fun _ _ _ => rfl⟩
theorem growS {a b : World} {r : Nat} (h : a.grownBy b (some r)) (j : Nat) (v : Value) : a.grownBy (b.setCell ⟨r, j, none⟩ v) (some r) :=
  growT h ⟨rfl, rfl, rfl, by simp [World.setCell], fun k hk hn => Below.heap_setCell _ _ _ _ (fun e => hn (by rw [e]))⟩
theorem growP {a b : World} {row : Option Nat} (h : a.grownBy b row) {B : Nat} (hB : a.heap.size ≤ B) (j : Nat) (v : Value) : a.grownBy (b.setCell ⟨B, j, none⟩ v) row :=
  ⟨h.os, h.tape, h.output, by have := h.size; simpa [World.setCell] using this, fun k hk hn => (Below.heap_setCell _ _ _ _ (show k ≠ B by omega)).trans (h.block k hk hn)⟩
/-- A row of the call's own grows: nothing that was there before the call has changed. -/
theorem growO {a b c : World} {row row' : Option Nat} (h : a.grownBy b row) (k : b.grownBy c row') (hr : ∀ i, row' = some i → a.heap.size ≤ i) : a.grownBy c row :=
  ⟨k.os.trans h.os, k.tape.trans h.tape, k.output.trans h.output, Nat.le_trans h.size k.size, fun i hi hn => (k.block i (Nat.lt_of_lt_of_le hi h.size) (fun e => by have := hr i e.symm; omega)).trans (h.block i hi hn)⟩
theorem growBelow {a b : World} {row : Option Nat} (h : a.grownBy b row) (hr : ∀ i, row = some i → a.heap.size ≤ i) : Below a.heap.size a b :=
  ⟨h.os, h.tape, h.output, h.size, fun i hi => h.block i hi (fun e => by have := hr i e.symm; omega)⟩
theorem belowGrow {a b : World} (h : Below a.heap.size a b) (row : Option Nat) : a.grownBy b row := ⟨h.os, h.tape, h.output, h.size, fun i hi _ => h.block i hi⟩
theorem Row.other {w : World} {B r : Nat} {E : TypeId} {cur : Array Value} (h : Row w B E cur) (hne : B ≠ r) (j : Nat) (x : Value) : Row (w.setCell ⟨r, j, none⟩ x) B E cur := (Below.heap_setCell _ _ _ _ hne).trans h
theorem Row.grown {w w1 : World} {B : Nat} {row : Option Nat} {E : TypeId} {cur : Array Value} (h : Row w B E cur) (hg : w.grownBy w1 row) (hne : row ≠ some B) : Row w1 B E cur := (hg.block B h.lt (Ne.symm hne)).trans h
theorem Row.drewN {w : World} {B : Nat} {E : TypeId} {cur : Array Value} (h : Row w B E cur) (n : Nat) : Row (w.drewN n) B E cur := h.keep (below_drewN (Below.refl _ _) _)
theorem Row.alloc {w : World} {B : Nat} {E : TypeId} {cur : Array Value} (h : Row w B E cur) (o : Obj) : Row (w.alloc o) B E cur := h.keep (below_alloc (Below.refl _ _) o)
theorem Row.new (w : World) (E : TypeId) (cur : Array Value) : Row (w.alloc (.cells cur E (0, 0))) w.heap.size E cur := heap_alloc_new _ _
end Go.Proofs.Ytblpebdjbenphaa
namespace Go.Proofs.Ytblpebdjbenphaa
open Go.ChangeShapes Go.WideShapes Go.ChangeAt Go.RowKit
set_option linter.unusedVariables false
set_option maxRecDepth 100000

theorem Went.more {w w1 w2 : World} {r : Nat} {a : Option Addr} {len cap : Nat} {row : Option Nat} (h : Went w r a len cap w1) (hg : w1.grownBy w2 row) (hr : r < w.heap.size) (hrow : ∀ k, row = some k → w.heap.size ≤ k) : Went w r a len cap w2 :=
  ⟨⟨hg.os.trans h.grown.os, hg.tape.trans h.grown.tape, hg.output.trans h.grown.output, Nat.le_trans h.size hg.size, fun i hi hn => (hg.block i (Nat.lt_of_lt_of_le hi h.size) (fun e => by have := hrow i e.symm; omega)).trans (h.grown.block i hi hn)⟩,
   h.rdr.below ⟨hg.os, hg.tape, hg.output, hg.size, fun k hk => hg.block k (by have := h.rdr.lt; omega) (fun e => by have := hrow k e.symm; omega)⟩⟩
theorem own_went {w w1 : World} {base r : Nat} {a : Option Addr} {len cap : Nat} {e : TypeId} {size : Nat} {v : Value} {n : Nat} {xs : List Value} (h : w.ownsRow base e size v n xs) (hw : Went w r a len cap w1) (hr : r < base) : w1.ownsRow base e size v n xs :=
  h.kept hw.grown (by
    by_cases hv : v.ownBlock = none
    · exact .inl hv
    · refine .inr fun he => ?_
      have := (h.lt r he).1
      omega)
end Go.Proofs.Ytblpebdjbenphaa
namespace Go.Proofs.Ytblpebdjbenphaa
open Go.ChangeShapes Go.WideShapes Go.ChangeAt Go.RowKit
set_option linter.unusedVariables false
set_option maxRecDepth 100000

def RdCmd (w : World) (r : Nat) (a : Option Addr) (len cap : Nat) (e : Ending) (w' : World) : Prop :=
  ∃ (k : Int) (b : ByteArray) (v : Int) (d : ByteArray), b.size ≤ 3 ∧ d.size ≤ 30001 ∧ e = .returned (.agg #[.int .i64 k, .string b, .int .i64 v, .string d]) ∧ Went w r a len cap w'
theorem went_set {w wr : World} {r : Nat} {a : Option Addr} {len cap C : Nat} (h : Went w r a len cap wr) (hr : r < w.heap.size) (hC : w.heap.size ≤ C) (j : Nat) (v : Value) : Went w r a len cap (wr.setCell ⟨C, j, none⟩ v) :=
  h.more (row := some C) (grown_setCell (World.grownBy.refl _ _) j v) hr (fun k hk => by injection hk with hk; omega)
/-- What the walk holds: the reader, the store's box, the result's place. -/
structure DC (w wr : World) (r : Nat) (a : Option Addr) (len cap : Nat) (C : Nat) (A : Array Value) : Prop where
  went : Went w r a len cap wr
  box : Row wr w.heap.size 27 #[.slice none 0 0, .slice none 0 0]
  res : Row wr (w.heap.size + 1) 57 #[.int .i64 0, .string ⟨#[]⟩, .int .i64 0, .string ⟨#[]⟩]
  row : Row wr C 57 A
theorem DC.step {w wr w1 : World} {r : Nat} {a : Option Addr} {len cap C : Nat} {A : Array Value} (h : DC w wr r a len cap C A) (hr : r < w.heap.size) (hC : w.heap.size < C) (hw : Went wr r a len cap w1) : DC w w1 r a len cap C A :=
  ⟨h.went.trans hw, h.box.grown hw.grown (by intro e; injection e with e; omega), h.res.grown hw.grown (by intro e; injection e with e; omega), h.row.grown hw.grown (by intro e; injection e with e; omega)⟩
theorem DC.set {w wr : World} {r : Nat} {a : Option Addr} {len cap C : Nat} {A : Array Value} (h : DC w wr r a len cap C A) (hr : r < w.heap.size) (hC : w.heap.size + 1 < C) (j : Nat) (v : Value) : DC w (wr.setCell ⟨C, j, none⟩ v) r a len cap C (A.setIfInBounds j v) :=
  ⟨went_set h.went hr (by omega) j v, h.box.other (by omega) j v, h.res.other (by omega) j v, h.row.set j v⟩

set_option maxHeartbeats 4000000 in
theorem drawcmd_any (w : World) (r : Nat) (a : Option Addr) (len cap : Nat) (h : Rdr w r a len cap) :
    Calls Try.prog 30 #[.pointer (some ⟨r, 0, none⟩), .agg #[.slice none 0 0, .slice none 0 0]] w (RdCmd w r a len cap) := by
  have H := Lib.hid h
  have HR := Lib.hid h.lt
  have HBX := Lib.hid ((Row.new w 27 #[.slice none 0 0, .slice none 0 0]).alloc (.cells #[.int .i64 0, .string ⟨#[]⟩, .int .i64 0, .string ⟨#[]⟩] 57))
  have HRS := Lib.hid (show Row _ (w.heap.size + 1) 57 _ from by
    have := Row.new (w.alloc (.cells #[.slice none 0 0, .slice none 0 0] 27)) 57 #[.int .i64 0, .string ⟨#[]⟩, .int .i64 0, .string ⟨#[]⟩]
    simpa using this)
  have HW := Lib.hid (((Went.refl h).alloc (.cells #[.slice none 0 0, .slice none 0 0] 27)).alloc (.cells #[.int .i64 0, .string ⟨#[]⟩, .int .i64 0, .string ⟨#[]⟩] 57))
  clear h
  go_enter Try.func30, Try.ntmps30
  go_wp2_with fail
  refine (below_any _ _ _ _ _ _ HW.out.rdr (by decide) (by decide)).mono ?_
  rintro e w1 ⟨⟨x, hx1, hx2, rfl⟩, hw⟩
  have hne1 : some r ≠ some w.heap.size := by intro e; injection e with e; have := HR.out; omega
  have hne2 : some r ≠ some (w.heap.size + 1) := by intro e; injection e with e; have := HR.out; omega
  have HBX := Lib.hid (HBX.out.grown hw.grown hne1)
  have HRS := Lib.hid (HRS.out.grown hw.grown hne2)
  have HW := Lib.hid (HW.out.trans hw)
  clear hw
  go_wp2_with fail
  refine (name_any _ _ _ _ _ HW.out.rdr).mono ?_
  rintro e w2 ⟨⟨b, hb, rfl⟩, hw⟩
  have HBX := Lib.hid (HBX.out.grown hw.grown hne1)
  have HRS := Lib.hid (HRS.out.grown hw.grown hne2)
  have HW := Lib.hid (HW.out.trans hw)
  have HNB := Lib.hid hb
  have hCw : w.heap.size + 1 < w2.heap.size := HRS.out.lt
  clear hw hb
  -- from here on written by gen_drawcm.py
  rcases (by omega : x = 0 ∨ x = 1 ∨ x = 2) with rfl | rfl | rfl
  · skip
    have HD := Lib.hid (show DC w (w2.alloc (.cells #[.int .i64 0, .string ⟨#[]⟩, .int .i64 0, .string ⟨#[]⟩] 57)) r a len cap w2.heap.size #[.int .i64 0, .string ⟨#[]⟩, .int .i64 0, .string ⟨#[]⟩] from ⟨HW.out.alloc _, HBX.out.alloc _, HRS.out.alloc _, Row.new _ _ _⟩)
    obtain ⟨C, hC⟩ : ∃ C, w2.heap.size = C := ⟨_, rfl⟩
    rw [hC] at HD hCw
    obtain ⟨w3, hw3⟩ : ∃ w3, w2.alloc (.cells #[.int .i64 0, .string ⟨#[]⟩, .int .i64 0, .string ⟨#[]⟩] 57) = w3 := ⟨_, rfl⟩
    rw [hw3] at HD
    have hCw0 : w.heap.size < C := by omega
    clear HBX HRS HW
    have bx0 := HD.out.box.cell (j := 0) (by simp)
    have bx1 := HD.out.box.cell (j := 1) (by simp)
    simp at bx0 bx1
    have c0 := HD.out.row.cell (j := 0) (by simp)
    have c1 := HD.out.row.cell (j := 1) (by simp)
    have c2 := HD.out.row.cell (j := 2) (by simp)
    have c3 := HD.out.row.cell (j := 3) (by simp)
    have fr0 := HD.out.row.free 0
    have fr1 := HD.out.row.free 1
    have fr2 := HD.out.row.free 2
    have fr3 := HD.out.row.free 3
    simp at c0 c1 c2 c3
    have y0 := HD.out.res.cell (j := 0) (by simp)
    have y1 := HD.out.res.cell (j := 1) (by simp)
    have y2 := HD.out.res.cell (j := 2) (by simp)
    have y3 := HD.out.res.cell (j := 3) (by simp)
    have f0 := HD.out.res.free 0
    have f1 := HD.out.res.free 1
    have f2 := HD.out.res.free 2
    have f3 := HD.out.res.free 3
    simp at y0 y1 y2 y3
    have HD := Lib.hid ((((HD.out.set HR.out hCw 0 (.int .i64 1)).set HR.out hCw 1 (.string b)).set HR.out hCw 2 (.int .i64 0)).set HR.out hCw 3 (.string ⟨#[]⟩))
    go_wp2_with fail
    clear bx0 bx1 c0 c1 c2 c3 fr0 fr1 fr2 fr3 y0 y1 y2 y3 f0 f1 f2 f3
    refine (data_any _ _ _ _ _ HD.out.went.rdr).mono ?_
    rintro e w5 ⟨⟨d, hd, rfl⟩, hw⟩
    have HD := Lib.hid (HD.out.step HR.out hCw0 hw)
    have HDZ := Lib.hid hd
    clear hw hd
    have c0 := HD.out.row.cell (j := 0) (by simp)
    have c1 := HD.out.row.cell (j := 1) (by simp)
    have c2 := HD.out.row.cell (j := 2) (by simp)
    have c3 := HD.out.row.cell (j := 3) (by simp)
    have fr0 := HD.out.row.free 0
    have fr1 := HD.out.row.free 1
    have fr2 := HD.out.row.free 2
    have fr3 := HD.out.row.free 3
    simp at c0 c1 c2 c3
    have y0 := HD.out.res.cell (j := 0) (by simp)
    have y1 := HD.out.res.cell (j := 1) (by simp)
    have y2 := HD.out.res.cell (j := 2) (by simp)
    have y3 := HD.out.res.cell (j := 3) (by simp)
    have f0 := HD.out.res.free 0
    have f1 := HD.out.res.free 1
    have f2 := HD.out.res.free 2
    have f3 := HD.out.res.free 3
    simp at y0 y1 y2 y3
    have HD := Lib.hid (HD.out.set HR.out hCw 3 (.string d))
    go_wp2
    have hbF := ((((HD.out.res.set 0 (.int .i64 1)).set 1 (.string b)).set 2 (.int .i64 0)).set 3 (.string d))
    unfold Row at hbF
    exact bodyPost_ret (v := .agg #[.int .i64 1, .string b, .int .i64 0, .string d]) (by simp [results, Try.results30, go_sem, World.cell?, hbF]) rfl ⟨_, _, _, _, HNB.out, HDZ.out, rfl, went_set (went_set (went_set (went_set HD.out.went HR.out (by omega) 0 _) HR.out (by omega) 1 _) HR.out (by omega) 2 _) HR.out (by omega) 3 _⟩
  · skip
    have HD := Lib.hid (show DC w (w2.alloc (.cells #[.int .i64 0, .string ⟨#[]⟩, .int .i64 0, .string ⟨#[]⟩] 57)) r a len cap w2.heap.size #[.int .i64 0, .string ⟨#[]⟩, .int .i64 0, .string ⟨#[]⟩] from ⟨HW.out.alloc _, HBX.out.alloc _, HRS.out.alloc _, Row.new _ _ _⟩)
    obtain ⟨C, hC⟩ : ∃ C, w2.heap.size = C := ⟨_, rfl⟩
    rw [hC] at HD hCw
    obtain ⟨w3, hw3⟩ : ∃ w3, w2.alloc (.cells #[.int .i64 0, .string ⟨#[]⟩, .int .i64 0, .string ⟨#[]⟩] 57) = w3 := ⟨_, rfl⟩
    rw [hw3] at HD
    have hCw0 : w.heap.size < C := by omega
    clear HBX HRS HW
    have bx0 := HD.out.box.cell (j := 0) (by simp)
    have bx1 := HD.out.box.cell (j := 1) (by simp)
    simp at bx0 bx1
    have c0 := HD.out.row.cell (j := 0) (by simp)
    have c1 := HD.out.row.cell (j := 1) (by simp)
    have c2 := HD.out.row.cell (j := 2) (by simp)
    have c3 := HD.out.row.cell (j := 3) (by simp)
    have fr0 := HD.out.row.free 0
    have fr1 := HD.out.row.free 1
    have fr2 := HD.out.row.free 2
    have fr3 := HD.out.row.free 3
    simp at c0 c1 c2 c3
    have y0 := HD.out.res.cell (j := 0) (by simp)
    have y1 := HD.out.res.cell (j := 1) (by simp)
    have y2 := HD.out.res.cell (j := 2) (by simp)
    have y3 := HD.out.res.cell (j := 3) (by simp)
    have f0 := HD.out.res.free 0
    have f1 := HD.out.res.free 1
    have f2 := HD.out.res.free 2
    have f3 := HD.out.res.free 3
    simp at y0 y1 y2 y3
    have HD := Lib.hid ((((HD.out.set HR.out hCw 0 (.int .i64 2)).set HR.out hCw 1 (.string b)).set HR.out hCw 2 (.int .i64 0)).set HR.out hCw 3 (.string ⟨#[]⟩))
    go_wp2_with fail
    clear bx0 bx1 c0 c1 c2 c3 fr0 fr1 fr2 fr3 y0 y1 y2 y3 f0 f1 f2 f3
    refine (below_any _ _ _ _ _ _ HD.out.went.rdr (by decide) (by decide)).mono ?_
    rintro e w4 ⟨⟨y, hy1', hy2', rfl⟩, hw⟩
    have HD := Lib.hid (HD.out.step HR.out hCw0 hw)
    clear hw
    have c0 := HD.out.row.cell (j := 0) (by simp)
    have c1 := HD.out.row.cell (j := 1) (by simp)
    have c2 := HD.out.row.cell (j := 2) (by simp)
    have c3 := HD.out.row.cell (j := 3) (by simp)
    have fr0 := HD.out.row.free 0
    have fr1 := HD.out.row.free 1
    have fr2 := HD.out.row.free 2
    have fr3 := HD.out.row.free 3
    simp at c0 c1 c2 c3
    have y0 := HD.out.res.cell (j := 0) (by simp)
    have y1 := HD.out.res.cell (j := 1) (by simp)
    have y2 := HD.out.res.cell (j := 2) (by simp)
    have y3 := HD.out.res.cell (j := 3) (by simp)
    have f0 := HD.out.res.free 0
    have f1 := HD.out.res.free 1
    have f2 := HD.out.res.free 2
    have f3 := HD.out.res.free 3
    simp at y0 y1 y2 y3
    have HD := Lib.hid (HD.out.set HR.out hCw 2 (.int .i64 (1 + y)))
    go_wp2_with fail
    clear c0 c1 c2 c3 fr0 fr1 fr2 fr3 y0 y1 y2 y3 f0 f1 f2 f3
    refine (data_any _ _ _ _ _ HD.out.went.rdr).mono ?_
    rintro e w5 ⟨⟨d, hd, rfl⟩, hw⟩
    have HD := Lib.hid (HD.out.step HR.out hCw0 hw)
    have HDZ := Lib.hid hd
    clear hw hd
    have c0 := HD.out.row.cell (j := 0) (by simp)
    have c1 := HD.out.row.cell (j := 1) (by simp)
    have c2 := HD.out.row.cell (j := 2) (by simp)
    have c3 := HD.out.row.cell (j := 3) (by simp)
    have fr0 := HD.out.row.free 0
    have fr1 := HD.out.row.free 1
    have fr2 := HD.out.row.free 2
    have fr3 := HD.out.row.free 3
    simp at c0 c1 c2 c3
    have y0 := HD.out.res.cell (j := 0) (by simp)
    have y1 := HD.out.res.cell (j := 1) (by simp)
    have y2 := HD.out.res.cell (j := 2) (by simp)
    have y3 := HD.out.res.cell (j := 3) (by simp)
    have f0 := HD.out.res.free 0
    have f1 := HD.out.res.free 1
    have f2 := HD.out.res.free 2
    have f3 := HD.out.res.free 3
    simp at y0 y1 y2 y3
    have HD := Lib.hid (HD.out.set HR.out hCw 3 (.string d))
    go_wp2
    have hbF := ((((HD.out.res.set 0 (.int .i64 2)).set 1 (.string b)).set 2 (.int .i64 (1 + y))).set 3 (.string d))
    unfold Row at hbF
    exact bodyPost_ret (v := .agg #[.int .i64 2, .string b, .int .i64 (1 + y), .string d]) (by simp [results, Try.results30, go_sem, World.cell?, hbF]) rfl ⟨_, _, _, _, HNB.out, HDZ.out, rfl, went_set (went_set (went_set (went_set HD.out.went HR.out (by omega) 0 _) HR.out (by omega) 1 _) HR.out (by omega) 2 _) HR.out (by omega) 3 _⟩
  · skip
    have HD := Lib.hid (show DC w (w2.alloc (.cells #[.int .i64 0, .string ⟨#[]⟩, .int .i64 0, .string ⟨#[]⟩] 57)) r a len cap w2.heap.size #[.int .i64 0, .string ⟨#[]⟩, .int .i64 0, .string ⟨#[]⟩] from ⟨HW.out.alloc _, HBX.out.alloc _, HRS.out.alloc _, Row.new _ _ _⟩)
    obtain ⟨C, hC⟩ : ∃ C, w2.heap.size = C := ⟨_, rfl⟩
    rw [hC] at HD hCw
    obtain ⟨w3, hw3⟩ : ∃ w3, w2.alloc (.cells #[.int .i64 0, .string ⟨#[]⟩, .int .i64 0, .string ⟨#[]⟩] 57) = w3 := ⟨_, rfl⟩
    rw [hw3] at HD
    have hCw0 : w.heap.size < C := by omega
    clear HBX HRS HW
    have bx0 := HD.out.box.cell (j := 0) (by simp)
    have bx1 := HD.out.box.cell (j := 1) (by simp)
    simp at bx0 bx1
    have c0 := HD.out.row.cell (j := 0) (by simp)
    have c1 := HD.out.row.cell (j := 1) (by simp)
    have c2 := HD.out.row.cell (j := 2) (by simp)
    have c3 := HD.out.row.cell (j := 3) (by simp)
    have fr0 := HD.out.row.free 0
    have fr1 := HD.out.row.free 1
    have fr2 := HD.out.row.free 2
    have fr3 := HD.out.row.free 3
    simp at c0 c1 c2 c3
    have y0 := HD.out.res.cell (j := 0) (by simp)
    have y1 := HD.out.res.cell (j := 1) (by simp)
    have y2 := HD.out.res.cell (j := 2) (by simp)
    have y3 := HD.out.res.cell (j := 3) (by simp)
    have f0 := HD.out.res.free 0
    have f1 := HD.out.res.free 1
    have f2 := HD.out.res.free 2
    have f3 := HD.out.res.free 3
    simp at y0 y1 y2 y3
    have HD := Lib.hid ((((HD.out.set HR.out hCw 0 (.int .i64 3)).set HR.out hCw 1 (.string b)).set HR.out hCw 2 (.int .i64 0)).set HR.out hCw 3 (.string ⟨#[]⟩))
    go_wp2_with fail
    clear bx0 bx1 c0 c1 c2 c3 fr0 fr1 fr2 fr3 y0 y1 y2 y3 f0 f1 f2 f3
    refine (below_any _ _ _ _ _ _ HD.out.went.rdr (by decide) (by decide)).mono ?_
    rintro e w4 ⟨⟨y, hy1', hy2', rfl⟩, hw⟩
    have HD := Lib.hid (HD.out.step HR.out hCw0 hw)
    clear hw
    have c0 := HD.out.row.cell (j := 0) (by simp)
    have c1 := HD.out.row.cell (j := 1) (by simp)
    have c2 := HD.out.row.cell (j := 2) (by simp)
    have c3 := HD.out.row.cell (j := 3) (by simp)
    have fr0 := HD.out.row.free 0
    have fr1 := HD.out.row.free 1
    have fr2 := HD.out.row.free 2
    have fr3 := HD.out.row.free 3
    simp at c0 c1 c2 c3
    have y0 := HD.out.res.cell (j := 0) (by simp)
    have y1 := HD.out.res.cell (j := 1) (by simp)
    have y2 := HD.out.res.cell (j := 2) (by simp)
    have y3 := HD.out.res.cell (j := 3) (by simp)
    have f0 := HD.out.res.free 0
    have f1 := HD.out.res.free 1
    have f2 := HD.out.res.free 2
    have f3 := HD.out.res.free 3
    simp at y0 y1 y2 y3
    have HD := Lib.hid (HD.out.set HR.out hCw 2 (.int .i64 (1 + y)))
    go_wp2
    have hbF := ((((HD.out.res.set 0 (.int .i64 3)).set 1 (.string b)).set 2 (.int .i64 (1 + y))).set 3 (.string ⟨#[]⟩))
    unfold Row at hbF
    exact bodyPost_ret (v := .agg #[.int .i64 3, .string b, .int .i64 (1 + y), .string ⟨#[]⟩]) (by simp [results, Try.results30, go_sem, World.cell?, hbF]) rfl ⟨_, _, _, _, HNB.out, (by decide), rfl, went_set (went_set (went_set (went_set HD.out.went HR.out (by omega) 0 _) HR.out (by omega) 1 _) HR.out (by omega) 2 _) HR.out (by omega) 3 _⟩
end Go.Proofs.Ytblpebdjbenphaa
