
/- A drawn claim, a drawn mark, and drawn texts of them: only new blocks are made. -/
import Derived.Test.YtcmbaclkfnecbaaDoorDraw1
import Derived.Test.YtcmbaclkfnecbaaDoorRd4
import Derived.Test.YtcmbaclkfnecbaaDoorClaim
namespace Go.Proofs.YtcmbaclkfnecbaaDoor
open Go.ChangeShapes Go.WideShapes Go.ChangeAt Go.RowKit
set_option linter.unusedVariables false
set_option maxRecDepth 100000

/-- A world in which a struct of three cells stands at the block of base's end, and a reader stands. -/
structure DC (W : World) (t : TypeId) (cur : Array Value) (r : Nat) (a : Option Addr) (len cap : Nat) (w : World) : Prop where
  below : Below W.heap.size W w
  rdr : Rdr w r a len cap
  blk : w.heap[W.heap.size]? = some (.cells cur t (0, 0))
  lt : W.heap.size < r
  src : len = 0 ∨ ∃ b off, a = some ⟨b, off, none⟩ ∧ b < W.heap.size
theorem DC.call {W w w' : World} {t : TypeId} {cur : Array Value} {r : Nat} {a : Option Addr} {len cap : Nat} (h : DC W t cur r a len cap w) (k : Went w r a len cap w') : DC W t cur r a len cap w' :=
  ⟨k.under h.below (Nat.le_of_lt h.lt) h.below.size, k.rdr, k.block h.blk (Nat.ne_of_lt h.lt), h.lt, h.src⟩
theorem DC.alloc {W w : World} {t : TypeId} {cur : Array Value} {r : Nat} {a : Option Addr} {len cap : Nat} (h : DC W t cur r a len cap w) (o : Obj) : DC W t cur r a len cap (w.alloc o) :=
  ⟨below_alloc h.below o, h.rdr.alloc o, (block_alloc (lt_of_block h.blk) o).trans h.blk, h.lt, h.src⟩
theorem cell_setO {w : World} {B j : Nat} {v : Value} {p : Addr} (hne : p.block ≠ B) : (w.setCell ⟨B, j, none⟩ v).cell? p = w.cell? p := by
  have := Below.heap_setCell w ⟨B, j, none⟩ v p.block hne
  unfold World.cell?
  rw [this]
theorem Rdr.putO {w : World} {B r : Nat} {a : Option Addr} {len cap : Nat} (h : Rdr w r a len cap) (hB : B < r) (hs : len = 0 ∨ ∃ b off, a = some ⟨b, off, none⟩ ∧ b < B) (j : Nat) (v : Value) : Rdr (w.setCell ⟨B, j, none⟩ v) r a len cap where
  lt := by simpa [World.setCell] using h.lt
  code := (cell_setO (p := ⟨r, 0, none⟩) (Nat.ne_of_gt hB)).trans h.code
  pos := by obtain ⟨p, hp, hc⟩ := h.pos; exact ⟨p, hp, (cell_setO (p := ⟨r, 1, none⟩) (Nat.ne_of_gt hB)).trans hc⟩
  free := by rw [World.frozen?_setCell]; exact h.free
  max := h.max
  src := by
    rcases h.src with h0 | ⟨b, off, ha, hb, hc⟩
    · exact .inl h0
    · rcases hs with h0 | ⟨b2, off2, ha2, hb2⟩
      · exact .inl h0
      · rw [ha] at ha2
        cases ha2
        exact .inr ⟨b, off, ha, hb, fun i hi => by obtain ⟨z, hz, hcz⟩ := hc i hi; exact ⟨z, hz, (cell_setO (p := ⟨b, off + i, none⟩) (Nat.ne_of_lt hb2)).trans hcz⟩⟩
theorem DC.put {W w : World} {t : TypeId} {cur : Array Value} {r : Nat} {a : Option Addr} {len cap : Nat} (h : DC W t cur r a len cap w) (j : Nat) (v : Value) : DC W t (cur.setIfInBounds j v) r a len cap (w.setCell ⟨W.heap.size, j, none⟩ v) :=
  ⟨h.below.setCell (Nat.le_refl _) v, h.rdr.putO h.lt h.src j v, block_set h.blk j v, h.lt, h.src⟩
theorem DC.other {W w : World} {t : TypeId} {cur : Array Value} {r : Nat} {a : Option Addr} {len cap : Nat} (h : DC W t cur r a len cap w) {B : Nat} (hB : r < B) (j : Nat) (v : Value) : DC W t cur r a len cap (w.setCell ⟨B, j, none⟩ v) :=
  ⟨h.below.setCell (Nat.le_of_lt (Nat.lt_trans h.lt hB)) v, h.rdr.below ((Below.refl _ _).setCell hB v), (Below.heap_setCell w ⟨B, j, none⟩ v _ (Nat.ne_of_lt (Nat.lt_trans h.lt hB))).trans h.blk, h.lt, h.src⟩
theorem DC.cell {W w : World} {t : TypeId} {cur : Array Value} {r : Nat} {a : Option Addr} {len cap : Nat} (h : DC W t cur r a len cap w) {j : Nat} (hj : j < cur.size) : w.cell? ⟨W.heap.size, j, none⟩ = some cur[j] := by
  have := h.blk
  simp [World.cell?, this, hj]
theorem DC.free {W w : World} {t : TypeId} {cur : Array Value} {r : Nat} {a : Option Addr} {len cap : Nat} (h : DC W t cur r a len cap w) {j : Nat} : w.frozen? ⟨W.heap.size, j, none⟩ = false := frozen_none h.blk

def DrewCl (w : World) (e : Ending) (w' : World) : Prop := ∃ x y z : Int, e = .returned (.agg #[.int .i64 x, .int .i64 y, .int .i64 z]) ∧ Below w.heap.size w w'

set_option maxHeartbeats 2000000 in
theorem drawclaim_any (w : World) (a : Option Addr) (len cap : Nat) (h : Src w a len) :
    Calls Tryd.prog 10 #[.slice a len cap] w (DrewCl w) := by
  have H := Lib.hid h
  clear h
  go_enter Tryd.func10, Tryd.ntmps10
  go_wp2_with fail
  refine (open_any _ _ _ _ (H.out.below ((Below.refl _ _).alloc (Nat.le_refl _) _))).mono ?_
  rintro e w1 ⟨rfl, hb, hr⟩
  have HD : Hid (DC w 25 #[.int .i64 0, .int .i64 0, .int .i64 0] (w.heap.size + 1) a len cap w1) := Lib.hid (by
    have h1 := hb.mono (show w.heap.size ≤ _ by simp)
    refine ⟨((Below.refl w.heap.size w).alloc (Nat.le_refl _) _).trans h1, by simpa using hr, (hb.block _ (by simp)).trans (heap_alloc_new _ _), by omega, ?_⟩
    rcases H.out.2 with h0 | ⟨b, off, ha, hlt, _⟩
    · exact .inl h0
    · exact .inr ⟨b, off, ha, hlt⟩)
  clear hb hr
  have e0 : (w.alloc (Obj.cells #[Value.int IntKind.i64 0, Value.int IntKind.i64 0, Value.int IntKind.i64 0] 25)).heap.size = w.heap.size + 1 := by simp
  rw [e0]
  have c0 := HD.out.cell (j := 0) (by decide)
  have c1 := HD.out.cell (j := 1) (by decide)
  have c2 := HD.out.cell (j := 2) (by decide)
  have f0 := HD.out.free (j := 0)
  have f1 := HD.out.free (j := 1)
  have f2 := HD.out.free (j := 2)
  go_wp2_with fail
  refine (below_any _ _ _ _ _ _ HD.out.rdr (by decide) (by decide)).mono ?_
  rintro e w2 ⟨⟨x, hx1, hx2, rfl⟩, hw⟩
  have HD := Lib.hid (HD.out.call hw)
  clear hw c0 c1 c2 f0 f1 f2
  go_wp2_with fail
  refine (below_any _ _ _ _ _ _ HD.out.rdr (by decide) (by decide)).mono ?_
  rintro e w3 ⟨⟨y, hy1, hy2, rfl⟩, hw⟩
  have HD := Lib.hid (HD.out.call hw)
  clear hw
  go_wp2_with fail
  refine (below_any _ _ _ _ _ _ HD.out.rdr (by decide) (by decide)).mono ?_
  rintro e w4 ⟨⟨z, hz1, hz2, rfl⟩, hw⟩
  have HD := Lib.hid (HD.out.call hw)
  clear hw
  go_wp2_with fail
  have hlt : Hid (w.heap.size + 1 < w4.heap.size ∧ w.heap.size < w4.heap.size) := Lib.hid ⟨HD.out.rdr.lt, Nat.lt_trans (Nat.lt_succ_self _) HD.out.rdr.lt⟩
  refine (below_any _ _ _ _ _ _ (HD.out.rdr.alloc _) (by decide) (by decide)).mono ?_
  rintro e w5 ⟨⟨k, hk1, hk2, rfl⟩, hw⟩
  have hc := hw.block (heap_alloc_new _ _) (Nat.ne_of_gt hlt.out.1)
  have HD := Lib.hid ((HD.out.alloc _).call hw)
  clear hw
  have HC := Lib.hid hc
  have hne1 : w.heap.size ≠ w4.heap.size := Nat.ne_of_lt hlt.out.2
  have b0 : w5.cell? ⟨w4.heap.size, 0, none⟩ = some (.int .i64 x) := by simp [World.cell?, hc]
  have b1 : w5.cell? ⟨w4.heap.size, 1, none⟩ = some (.int .i64 (1 + y)) := by simp [World.cell?, hc]
  have b2 : w5.cell? ⟨w4.heap.size, 2, none⟩ = some (.int .i64 z) := by simp [World.cell?, hc]
  have g0 : w5.frozen? ⟨w4.heap.size, 0, none⟩ = false := frozen_none hc
  have g1 : w5.frozen? ⟨w4.heap.size, 1, none⟩ = false := frozen_none hc
  have g2 : w5.frozen? ⟨w4.heap.size, 2, none⟩ = false := frozen_none hc
  have c0 := HD.out.cell (j := 0) (by decide)
  have c1 := HD.out.cell (j := 1) (by decide)
  have c2 := HD.out.cell (j := 2) (by decide)
  have f0 := HD.out.free (j := 0)
  have f1 := HD.out.free (j := 1)
  have f2 := HD.out.free (j := 2)
  simp only [List.getElem_toArray, List.getElem_cons_zero, List.getElem_cons_succ] at c0 c1 c2
  clear hc
  go_wp2_with fail
  · refine (off_any _ _ _ _ _ _ _ HD.out.rdr (by decide) (by decide) (by decide)).mono ?_
    rintro e w6 ⟨⟨v, hv, rfl⟩, hw⟩
    have hc := hw.block HC.out (Nat.ne_of_gt hlt.out.1)
    have HD := Lib.hid (HD.out.call hw)
    clear hw hv b0 b1 b2 g0 g1 g2 c0 c1 c2 f0 f1 f2
    have HC := Lib.hid hc
    have hne1 : w.heap.size ≠ w4.heap.size := Nat.ne_of_lt hlt.out.2
    have b0 : w6.cell? ⟨w4.heap.size, 0, none⟩ = some (.int .i64 x) := by simp [World.cell?, hc]
    have b1 : w6.cell? ⟨w4.heap.size, 1, none⟩ = some (.int .i64 (1 + y)) := by simp [World.cell?, hc]
    have b2 : w6.cell? ⟨w4.heap.size, 2, none⟩ = some (.int .i64 z) := by simp [World.cell?, hc]
    have g0 : w6.frozen? ⟨w4.heap.size, 0, none⟩ = false := frozen_none hc
    have g1 : w6.frozen? ⟨w4.heap.size, 1, none⟩ = false := frozen_none hc
    have g2 : w6.frozen? ⟨w4.heap.size, 2, none⟩ = false := frozen_none hc
    have c0 := HD.out.cell (j := 0) (by decide)
    have c1 := HD.out.cell (j := 1) (by decide)
    have c2 := HD.out.cell (j := 2) (by decide)
    have f0 := HD.out.free (j := 0)
    have f1 := HD.out.free (j := 1)
    have f2 := HD.out.free (j := 2)
    simp only [List.getElem_toArray, List.getElem_cons_zero, List.getElem_cons_succ] at c0 c1 c2
    clear hc
    go_wp2_with fail
    have hd := (((HD.out.other hlt.out.1 0 (.int .i64 v)).put 0 (.int .i64 (v))).put 1 (.int .i64 (1 + y))).put 2 (.int .i64 (z))
    have hb := hd.blk
    exact bodyPost_ret (v := .agg #[.int .i64 (v), .int .i64 (1 + y), .int .i64 (z)]) (by simp [results, Tryd.results10, go_sem, World.cell?, hb]) rfl ⟨_, _, _, rfl, hd.below⟩
  · refine (off_any _ _ _ _ _ _ _ HD.out.rdr (by decide) (by decide) (by decide)).mono ?_
    rintro e w6 ⟨⟨v, hv, rfl⟩, hw⟩
    have hc := hw.block HC.out (Nat.ne_of_gt hlt.out.1)
    have HD := Lib.hid (HD.out.call hw)
    clear hw hv b0 b1 b2 g0 g1 g2 c0 c1 c2 f0 f1 f2
    have HC := Lib.hid hc
    have hne1 : w.heap.size ≠ w4.heap.size := Nat.ne_of_lt hlt.out.2
    have b0 : w6.cell? ⟨w4.heap.size, 0, none⟩ = some (.int .i64 x) := by simp [World.cell?, hc]
    have b1 : w6.cell? ⟨w4.heap.size, 1, none⟩ = some (.int .i64 (1 + y)) := by simp [World.cell?, hc]
    have b2 : w6.cell? ⟨w4.heap.size, 2, none⟩ = some (.int .i64 z) := by simp [World.cell?, hc]
    have g0 : w6.frozen? ⟨w4.heap.size, 0, none⟩ = false := frozen_none hc
    have g1 : w6.frozen? ⟨w4.heap.size, 1, none⟩ = false := frozen_none hc
    have g2 : w6.frozen? ⟨w4.heap.size, 2, none⟩ = false := frozen_none hc
    have c0 := HD.out.cell (j := 0) (by decide)
    have c1 := HD.out.cell (j := 1) (by decide)
    have c2 := HD.out.cell (j := 2) (by decide)
    have f0 := HD.out.free (j := 0)
    have f1 := HD.out.free (j := 1)
    have f2 := HD.out.free (j := 2)
    simp only [List.getElem_toArray, List.getElem_cons_zero, List.getElem_cons_succ] at c0 c1 c2
    clear hc
    go_wp2_with fail
    have hd := (((HD.out.other hlt.out.1 1 (.int .i64 v)).put 0 (.int .i64 (x))).put 1 (.int .i64 (v))).put 2 (.int .i64 (z))
    have hb := hd.blk
    exact bodyPost_ret (v := .agg #[.int .i64 (x), .int .i64 (v), .int .i64 (z)]) (by simp [results, Tryd.results10, go_sem, World.cell?, hb]) rfl ⟨_, _, _, rfl, hd.below⟩
  · refine (off_any _ _ _ _ _ _ _ HD.out.rdr (by decide) (by decide) (by decide)).mono ?_
    rintro e w6 ⟨⟨v, hv, rfl⟩, hw⟩
    have hc := hw.block HC.out (Nat.ne_of_gt hlt.out.1)
    have HD := Lib.hid (HD.out.call hw)
    clear hw hv b0 b1 b2 g0 g1 g2 c0 c1 c2 f0 f1 f2
    have HC := Lib.hid hc
    have hne1 : w.heap.size ≠ w4.heap.size := Nat.ne_of_lt hlt.out.2
    have b0 : w6.cell? ⟨w4.heap.size, 0, none⟩ = some (.int .i64 x) := by simp [World.cell?, hc]
    have b1 : w6.cell? ⟨w4.heap.size, 1, none⟩ = some (.int .i64 (1 + y)) := by simp [World.cell?, hc]
    have b2 : w6.cell? ⟨w4.heap.size, 2, none⟩ = some (.int .i64 z) := by simp [World.cell?, hc]
    have g0 : w6.frozen? ⟨w4.heap.size, 0, none⟩ = false := frozen_none hc
    have g1 : w6.frozen? ⟨w4.heap.size, 1, none⟩ = false := frozen_none hc
    have g2 : w6.frozen? ⟨w4.heap.size, 2, none⟩ = false := frozen_none hc
    have c0 := HD.out.cell (j := 0) (by decide)
    have c1 := HD.out.cell (j := 1) (by decide)
    have c2 := HD.out.cell (j := 2) (by decide)
    have f0 := HD.out.free (j := 0)
    have f1 := HD.out.free (j := 1)
    have f2 := HD.out.free (j := 2)
    simp only [List.getElem_toArray, List.getElem_cons_zero, List.getElem_cons_succ] at c0 c1 c2
    clear hc
    go_wp2_with fail
    have hd := (((HD.out.other hlt.out.1 2 (.int .i64 v)).put 0 (.int .i64 (x))).put 1 (.int .i64 (1 + y))).put 2 (.int .i64 (v))
    have hb := hd.blk
    exact bodyPost_ret (v := .agg #[.int .i64 (x), .int .i64 (1 + y), .int .i64 (v)]) (by simp [results, Tryd.results10, go_sem, World.cell?, hb]) rfl ⟨_, _, _, rfl, hd.below⟩
  · have hd := ((HD.out.put 0 (.int .i64 (x))).put 1 (.int .i64 (1 + y))).put 2 (.int .i64 (z))
    have hb := hd.blk
    exact bodyPost_ret (v := .agg #[.int .i64 (x), .int .i64 (1 + y), .int .i64 (z)]) (by simp [results, Tryd.results10, go_sem, World.cell?, hb]) rfl ⟨_, _, _, rfl, hd.below⟩
end Go.Proofs.YtcmbaclkfnecbaaDoor
