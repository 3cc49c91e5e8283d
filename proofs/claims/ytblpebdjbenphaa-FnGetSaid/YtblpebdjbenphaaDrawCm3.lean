
/- A command drawn as it was or hurt. -/
import Derived.Test.YtblpebdjbenphaaMg2
namespace Go.Proofs.Ytblpebdjbenphaa
open Go.ChangeShapes Go.WideShapes Go.ChangeAt Go.RowKit
set_option linter.unusedVariables false
set_option maxRecDepth 100000

def RdHurt (w : World) (r : Nat) (a : Option Addr) (len cap : Nat) (e : Ending) (w' : World) : Prop :=
  ∃ (k : Int) (b : ByteArray) (v : Int) (d : ByteArray), b.size ≤ 41 ∧ d.size ≤ 30001 ∧ e = .returned (.agg #[.int .i64 k, .string b, .int .i64 v, .string d]) ∧ Went w r a len cap w'
structure DH (w wr : World) (r : Nat) (a : Option Addr) (len cap : Nat) (A : Array Value) : Prop where
  went : Went w r a len cap wr
  box : Row wr w.heap.size 57 A
  res : Row wr (w.heap.size + 1) 57 #[.int .i64 0, .string ⟨#[]⟩, .int .i64 0, .string ⟨#[]⟩]
theorem DH.step {w wr w1 : World} {r : Nat} {a : Option Addr} {len cap : Nat} {A : Array Value} (h : DH w wr r a len cap A) (hr : r < w.heap.size) (hw : Went wr r a len cap w1) : DH w w1 r a len cap A :=
  ⟨h.went.trans hw, h.box.grown hw.grown (by intro e; injection e with e; omega), h.res.grown hw.grown (by intro e; injection e with e; omega)⟩
theorem DH.alloc {w wr : World} {r : Nat} {a : Option Addr} {len cap : Nat} {A : Array Value} (h : DH w wr r a len cap A) (o : Obj) : DH w (wr.alloc o) r a len cap A :=
  ⟨h.went.alloc _, h.box.alloc _, h.res.alloc _⟩
theorem DH.set {w wr : World} {r : Nat} {a : Option Addr} {len cap : Nat} {A : Array Value} (h : DH w wr r a len cap A) (hr : r < w.heap.size) (j : Nat) (v : Value) : DH w (wr.setCell ⟨w.heap.size, j, none⟩ v) r a len cap (A.setIfInBounds j v) :=
  ⟨went_set h.went hr (Nat.le_refl _) j v, h.box.set j v, h.res.other (by omega) j v⟩

set_option maxHeartbeats 4000000 in
theorem hurtcmd_any (k : Int) (b : ByteArray) (v : Int) (d : ByteArray) (w : World) (r : Nat) (a : Option Addr) (len cap : Nat) (h : Rdr w r a len cap) (hb : b.size ≤ 41) (hd : d.size ≤ 30001) :
    Calls Try.prog 29 #[.pointer (some ⟨r, 0, none⟩), .agg #[.int .i64 k, .string b, .int .i64 v, .string d]] w (RdHurt w r a len cap) := by
  have HR := Lib.hid h.lt
  have HBS := Lib.hid hb
  have HDS := Lib.hid hd
  have HD := Lib.hid (show DH w ((w.alloc (.cells #[.int .i64 k, .string b, .int .i64 v, .string d] 57)).alloc (.cells #[.int .i64 0, .string ⟨#[]⟩, .int .i64 0, .string ⟨#[]⟩] 57)) r a len cap #[.int .i64 k, .string b, .int .i64 v, .string d] from
    ⟨((Went.refl h).alloc _).alloc _, (Row.new w 57 #[.int .i64 k, .string b, .int .i64 v, .string d]).alloc _, by
      have := Row.new (w.alloc (.cells #[.int .i64 k, .string b, .int .i64 v, .string d] 57)) 57 #[.int .i64 0, .string ⟨#[]⟩, .int .i64 0, .string ⟨#[]⟩]
      simpa using this⟩)
  clear h hb hd
  go_enter Try.func29, Try.ntmps29
  go_wp2_with fail
  refine (below_any _ _ _ _ _ _ HD.out.went.rdr (by decide) (by decide)).mono ?_
  rintro e w1 ⟨⟨x, hx1, hx2, rfl⟩, hw⟩
  have HD := Lib.hid (HD.out.step HR.out hw)
  clear hw
  by_cases e0 : x = 0
  · subst e0
    go_wp2_with fail
    refine (off_any _ _ _ _ _ _ _ HD.out.went.rdr (by decide) (by decide) (by decide)).mono ?_
    rintro e w2 ⟨⟨z, hz, rfl⟩, hw⟩
    have HD := Lib.hid (HD.out.step HR.out hw)
    clear hw hz
    have c0 := HD.out.box.cell (j := 0) (by simp)
    have c1 := HD.out.box.cell (j := 1) (by simp)
    have c2 := HD.out.box.cell (j := 2) (by simp)
    have c3 := HD.out.box.cell (j := 3) (by simp)
    have fr0 := HD.out.box.free 0
    have fr1 := HD.out.box.free 1
    have fr2 := HD.out.box.free 2
    have fr3 := HD.out.box.free 3
    simp at c0 c1 c2 c3
    have y0 := HD.out.res.cell (j := 0) (by simp)
    have y1 := HD.out.res.cell (j := 1) (by simp)
    have y2 := HD.out.res.cell (j := 2) (by simp)
    have y3 := HD.out.res.cell (j := 3) (by simp)
    have f0 := HD.out.res.free 0
    have f1 := HD.out.res.free 1
    have f2 := HD.out.res.free 2
    have f3 := HD.out.res.free 3
    simp at y0 y1 y2 y3
    have HD := Lib.hid (HD.out.set HR.out 0 (.int .i64 z))
    go_wp2
    have hbF := ((((HD.out.res.set 0 (.int .i64 z)).set 1 (.string b)).set 2 (.int .i64 v)).set 3 (.string d))
    unfold Row at hbF
    exact bodyPost_ret (v := .agg #[.int .i64 z, .string b, .int .i64 v, .string d]) (by simp [results, Try.results29, go_sem, World.cell?, hbF]) rfl ⟨_, _, _, _, HBS.out, HDS.out, rfl, went_set (went_set (went_set (went_set HD.out.went HR.out (by omega) 0 _) HR.out (by omega) 1 _) HR.out (by omega) 2 _) HR.out (by omega) 3 _⟩
  have n0 : (x == 0) = false := by rw [beq_eq_false_iff_ne]; exact e0
  by_cases e1 : x = 1
  · subst e1
    go_wp2_with fail
    refine (below_any _ _ _ _ _ _ (HD.out.went.rdr.alloc _) (by decide) (by decide)).mono ?_
    rintro e w2 ⟨⟨y, hy1, hy2, rfl⟩, hw⟩
    obtain ⟨t, ht, hct⟩ := tab_cell (m := 41) (hw.block (k := w1.heap.size) (heap_alloc_new _ _) (Nat.ne_of_gt HD.out.went.rdr.lt)) (by decide) y hy1 (by show y < 5; omega)
    have HD := Lib.hid ((HD.out.alloc _).step HR.out hw)
    have HT := Lib.hid ht
    clear hw ht
    have c0 := HD.out.box.cell (j := 0) (by simp)
    have c1 := HD.out.box.cell (j := 1) (by simp)
    have c2 := HD.out.box.cell (j := 2) (by simp)
    have c3 := HD.out.box.cell (j := 3) (by simp)
    have fr0 := HD.out.box.free 0
    have fr1 := HD.out.box.free 1
    have fr2 := HD.out.box.free 2
    have fr3 := HD.out.box.free 3
    simp at c0 c1 c2 c3
    have y0 := HD.out.res.cell (j := 0) (by simp)
    have y1 := HD.out.res.cell (j := 1) (by simp)
    have y2 := HD.out.res.cell (j := 2) (by simp)
    have y3 := HD.out.res.cell (j := 3) (by simp)
    have f0 := HD.out.res.free 0
    have f1 := HD.out.res.free 1
    have f2 := HD.out.res.free 2
    have f3 := HD.out.res.free 3
    simp at y0 y1 y2 y3
    have HD := Lib.hid (HD.out.set HR.out 1 (.string t))
    go_wp2
    have hbF := ((((HD.out.res.set 0 (.int .i64 k)).set 1 (.string t)).set 2 (.int .i64 v)).set 3 (.string d))
    unfold Row at hbF
    exact bodyPost_ret (v := .agg #[.int .i64 k, .string t, .int .i64 v, .string d]) (by simp [results, Try.results29, go_sem, World.cell?, hbF]) rfl ⟨_, _, _, _, HT.out, HDS.out, rfl, went_set (went_set (went_set (went_set HD.out.went HR.out (by omega) 0 _) HR.out (by omega) 1 _) HR.out (by omega) 2 _) HR.out (by omega) 3 _⟩
  have n1 : (x == 1) = false := by rw [beq_eq_false_iff_ne]; exact e1
  by_cases e2 : x = 2
  · subst e2
    go_wp2_with fail
    refine (off_any _ _ _ _ _ _ _ HD.out.went.rdr (by decide) (by decide) (by decide)).mono ?_
    rintro e w2 ⟨⟨z, hz, rfl⟩, hw⟩
    have HD := Lib.hid (HD.out.step HR.out hw)
    clear hw hz
    have c0 := HD.out.box.cell (j := 0) (by simp)
    have c1 := HD.out.box.cell (j := 1) (by simp)
    have c2 := HD.out.box.cell (j := 2) (by simp)
    have c3 := HD.out.box.cell (j := 3) (by simp)
    have fr0 := HD.out.box.free 0
    have fr1 := HD.out.box.free 1
    have fr2 := HD.out.box.free 2
    have fr3 := HD.out.box.free 3
    simp at c0 c1 c2 c3
    have y0 := HD.out.res.cell (j := 0) (by simp)
    have y1 := HD.out.res.cell (j := 1) (by simp)
    have y2 := HD.out.res.cell (j := 2) (by simp)
    have y3 := HD.out.res.cell (j := 3) (by simp)
    have f0 := HD.out.res.free 0
    have f1 := HD.out.res.free 1
    have f2 := HD.out.res.free 2
    have f3 := HD.out.res.free 3
    simp at y0 y1 y2 y3
    have HD := Lib.hid (HD.out.set HR.out 2 (.int .i64 z))
    go_wp2
    have hbF := ((((HD.out.res.set 0 (.int .i64 k)).set 1 (.string b)).set 2 (.int .i64 z)).set 3 (.string d))
    unfold Row at hbF
    exact bodyPost_ret (v := .agg #[.int .i64 k, .string b, .int .i64 z, .string d]) (by simp [results, Try.results29, go_sem, World.cell?, hbF]) rfl ⟨_, _, _, _, HBS.out, HDS.out, rfl, went_set (went_set (went_set (went_set HD.out.went HR.out (by omega) 0 _) HR.out (by omega) 1 _) HR.out (by omega) 2 _) HR.out (by omega) 3 _⟩
  have n2 : (x == 2) = false := by rw [beq_eq_false_iff_ne]; exact e2
  by_cases e3 : x = 3
  · subst e3
    go_wp2_with fail
    refine (data_any _ _ _ _ _ HD.out.went.rdr).mono ?_
    rintro e w2 ⟨⟨z, hz, rfl⟩, hw⟩
    have HD := Lib.hid (HD.out.step HR.out hw)
    have HZ := Lib.hid hz
    clear hw hz
    have c0 := HD.out.box.cell (j := 0) (by simp)
    have c1 := HD.out.box.cell (j := 1) (by simp)
    have c2 := HD.out.box.cell (j := 2) (by simp)
    have c3 := HD.out.box.cell (j := 3) (by simp)
    have fr0 := HD.out.box.free 0
    have fr1 := HD.out.box.free 1
    have fr2 := HD.out.box.free 2
    have fr3 := HD.out.box.free 3
    simp at c0 c1 c2 c3
    have y0 := HD.out.res.cell (j := 0) (by simp)
    have y1 := HD.out.res.cell (j := 1) (by simp)
    have y2 := HD.out.res.cell (j := 2) (by simp)
    have y3 := HD.out.res.cell (j := 3) (by simp)
    have f0 := HD.out.res.free 0
    have f1 := HD.out.res.free 1
    have f2 := HD.out.res.free 2
    have f3 := HD.out.res.free 3
    simp at y0 y1 y2 y3
    have HD := Lib.hid (HD.out.set HR.out 3 (.string z))
    go_wp2
    have hbF := ((((HD.out.res.set 0 (.int .i64 k)).set 1 (.string b)).set 2 (.int .i64 v)).set 3 (.string z))
    unfold Row at hbF
    exact bodyPost_ret (v := .agg #[.int .i64 k, .string b, .int .i64 v, .string z]) (by simp [results, Try.results29, go_sem, World.cell?, hbF]) rfl ⟨_, _, _, _, HBS.out, HZ.out, rfl, went_set (went_set (went_set (went_set HD.out.went HR.out (by omega) 0 _) HR.out (by omega) 1 _) HR.out (by omega) 2 _) HR.out (by omega) 3 _⟩
  have n3 : (x == 3) = false := by rw [beq_eq_false_iff_ne]; exact e3
  have c0 := HD.out.box.cell (j := 0) (by simp)
  have c1 := HD.out.box.cell (j := 1) (by simp)
  have c2 := HD.out.box.cell (j := 2) (by simp)
  have c3 := HD.out.box.cell (j := 3) (by simp)
  have fr0 := HD.out.box.free 0
  have fr1 := HD.out.box.free 1
  have fr2 := HD.out.box.free 2
  have fr3 := HD.out.box.free 3
  simp at c0 c1 c2 c3
  have y0 := HD.out.res.cell (j := 0) (by simp)
  have y1 := HD.out.res.cell (j := 1) (by simp)
  have y2 := HD.out.res.cell (j := 2) (by simp)
  have y3 := HD.out.res.cell (j := 3) (by simp)
  have f0 := HD.out.res.free 0
  have f1 := HD.out.res.free 1
  have f2 := HD.out.res.free 2
  have f3 := HD.out.res.free 3
  simp at y0 y1 y2 y3
  go_wp2
  have hbF := ((((HD.out.res.set 0 (.int .i64 k)).set 1 (.string b)).set 2 (.int .i64 v)).set 3 (.string d))
  unfold Row at hbF
  exact bodyPost_ret (v := .agg #[.int .i64 k, .string b, .int .i64 v, .string d]) (by simp [results, Try.results29, go_sem, World.cell?, hbF]) rfl ⟨_, _, _, _, HBS.out, HDS.out, rfl, went_set (went_set (went_set (went_set HD.out.went HR.out (by omega) 0 _) HR.out (by omega) 1 _) HR.out (by omega) 2 _) HR.out (by omega) 3 _⟩
end Go.Proofs.Ytblpebdjbenphaa
