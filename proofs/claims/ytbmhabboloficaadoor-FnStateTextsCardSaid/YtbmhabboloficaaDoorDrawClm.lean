
/- A drawn claim, a drawn mark, and drawn texts of them: only new blocks are made. -/
import Derived.Test.YtbmhabboloficaaDoorDraw1
import Derived.Test.YtbmhabboloficaaDoorRd4
import Derived.Test.YtbmhabboloficaaDoorClaim
namespace Go.Proofs.YtbmhabboloficaaDoor
open Go.ChangeShapes Go.WideShapes Go.ChangeAt Go.RowKit
set_option linter.unusedVariables false
set_option maxRecDepth 100000

/-- A world in which a struct of three cells stands at the block of base's end, and a reader stands. -/
structure DC (W : World) (t : TypeId) (cur : Array Value) (r : Nat) (a : Option Addr) (len cap : Nat) (w : World) : Prop where
  below : Below W.heap.size W w
  rdr : Rdr w r a len cap
  blk : w.heap[W.heap.size]? = some (.cells cur t (0, 0))
  lt : W.heap.size < r
  src : len = 0 ∨ ∃ b off, a = some ⟨b, off, none⟩ ∧ b < W.heap.size
theorem DC.call {W w w' : World} {t : TypeId} {cur : Array Value} {r : Nat} {a : Option Addr} {len cap : Nat} (h : DC W t cur r a len cap w) (k : Went w r a len cap w') : DC W t cur r a len cap w' :=
  ⟨k.under h.below (Nat.le_of_lt h.lt) h.below.size, k.rdr, k.block h.blk (Nat.ne_of_lt h.lt), h.lt, h.src⟩
theorem DC.alloc {W w : World} {t : TypeId} {cur : Array Value} {r : Nat} {a : Option Addr} {len cap : Nat} (h : DC W t cur r a len cap w) (o : Obj) : DC W t cur r a len cap (w.alloc o) :=
  ⟨below_alloc h.below o, h.rdr.alloc o, (block_alloc (lt_of_block h.blk) o).trans h.blk, h.lt, h.src⟩
theorem cell_setO {w : World} {B j : Nat} {v : Value} {p : Addr} (hne : p.block ≠ B) : (w.setCell ⟨B, j, none⟩ v).cell? p = w.cell? p := by
  have := Below.heap_setCell w ⟨B, j, none⟩ v p.block hne
  unfold World.cell?
  rw [this]
theorem Rdr.putO {w : World} {B r : Nat} {a : Option Addr} {len cap : Nat} (h : Rdr w r a len cap) (hB : B < r) (hs : len = 0 ∨ ∃ b off, a = some ⟨b, off, none⟩ ∧ b < B) (j : Nat) (v : Value) : Rdr (w.setCell ⟨B, j, none⟩ v) r a len cap where
  lt := by simpa [World.setCell] using h.lt
  code := (cell_setO (p := ⟨r, 0, none⟩) (Nat.ne_of_gt hB)).trans h.code
  pos := by obtain ⟨p, hp, hc⟩ := h.pos; exact ⟨p, hp, (cell_setO (p := ⟨r, 1, none⟩) (Nat.ne_of_gt hB)).trans hc⟩
  free := by rw [World.frozen?_setCell]; exact h.free
  max := h.max
  src := by
    rcases h.src with h0 | ⟨b, off, ha, hb, hc⟩
    · exact .inl h0
    · rcases hs with h0 | ⟨b2, off2, ha2, hb2⟩
      · exact .inl h0
      · rw [ha] at ha2
        cases ha2
        exact .inr ⟨b, off, ha, hb, fun i hi => by obtain ⟨z, hz, hcz⟩ := hc i hi; exact ⟨z, hz, (cell_setO (p := ⟨b, off + i, none⟩) (Nat.ne_of_lt hb2)).trans hcz⟩⟩
theorem DC.put {W w : World} {t : TypeId} {cur : Array Value} {r : Nat} {a : Option Addr} {len cap : Nat} (h : DC W t cur r a len cap w) (j : Nat) (v : Value) : DC W t (cur.setIfInBounds j v) r a len cap (w.setCell ⟨W.heap.size, j, none⟩ v) :=
  ⟨h.below.setCell (Nat.le_refl _) v, h.rdr.putO h.lt h.src j v, block_set h.blk j v, h.lt, h.src⟩
theorem DC.other {W w : World} {t : TypeId} {cur : Array Value} {r : Nat} {a : Option Addr} {len cap : Nat} (h : DC W t cur r a len cap w) {B : Nat} (hB : r < B) (j : Nat) (v : Value) : DC W t cur r a len cap (w.setCell ⟨B, j, none⟩ v) :=
  ⟨h.below.setCell (Nat.le_of_lt (Nat.lt_trans h.lt hB)) v, h.rdr.below ((Below.refl _ _).setCell hB v), (Below.heap_setCell w ⟨B, j, none⟩ v _ (Nat.ne_of_lt (Nat.lt_trans h.lt hB))).trans h.blk, h.lt, h.src⟩
theorem DC.cell {W w : World} {t : TypeId} {cur : Array Value} {r : Nat} {a : Option Addr} {len cap : Nat} (h : DC W t cur r a len cap w) {j : Nat} (hj : j < cur.size) : w.cell? ⟨W.heap.size, j, none⟩ = some cur[j] := by
  have := h.blk
  simp [World.cell?, this, hj]
theorem DC.free {W w : World} {t : TypeId} {cur : Array Value} {r : Nat} {a : Option Addr} {len cap : Nat} (h : DC W t cur r a len cap w) {j : Nat} : w.frozen? ⟨W.heap.size, j, none⟩ = false := frozen_none h.blk

def DrewCl (w : World) (e : Ending) (w' : World) : Prop := ∃ x y z : Int, e = .returned (.agg #[.int .i64 x, .int .i64 y, .int .i64 z]) ∧ Below w.heap.size w w'

end Go.Proofs.YtbmhabboloficaaDoor
