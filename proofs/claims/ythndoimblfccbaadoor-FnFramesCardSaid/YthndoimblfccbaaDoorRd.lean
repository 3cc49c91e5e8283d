
/- The model's reader of a drawing code (next, below, once, word, near, off, word1): each method returns a number or text within bounds, writes only its own position and new blocks, and keeps the reader whole. Condition: the reader lies over a slice of bytes that was there before it. -/
import Derived.Test.YthndoimblfccbaaDoorRows
import Derived.WalkKit
import Derived.ProofKit
import Derived.OpenShut
import Derived.WalkLawsBesides
import Derived.Deep.QuietTactic
import Derived.BigQuiet
import Derived.Lib.Hide
import Derived.Outline
namespace Go.Proofs.YthndoimblfccbaaDoor
open Go.ChangeShapes Go.WideShapes Go.ChangeAt Go.RowKit
set_option linter.unusedVariables false
set_option maxRecDepth 100000

/-- Block r is a reader over the bytes (a, len, cap), which lie in an older block. -/
structure Rdr (w : World) (r : Nat) (a : Option Addr) (len cap : Nat) : Prop where
  lt : r < w.heap.size
  code : w.cell? ⟨r, 0, none⟩ = some (.slice a len cap)
  pos : ∃ p : Nat, p ≤ len ∧ w.cell? ⟨r, 1, none⟩ = some (.int .i64 p)
  free : w.frozen? ⟨r, 1, none⟩ = false
  max : len ≤ maxLen
  src : len = 0 ∨ ∃ b off, a = some ⟨b, off, none⟩ ∧ b < r ∧ ∀ i, i < len → ∃ z : Nat, z < 256 ∧ w.cell? ⟨b, off + i, none⟩ = some (.int .u8 z)

theorem Rdr.below {w w' : World} {r : Nat} {a : Option Addr} {len cap : Nat} (h : Rdr w r a len cap) (hb : Below (r + 1) w w') : Rdr w' r a len cap where
  lt := Nat.lt_of_lt_of_le h.lt hb.size
  code := (hb.cell (p := ⟨r, 0, none⟩) (Nat.lt_succ_self _)).trans h.code
  pos := by obtain ⟨p, hp, hc⟩ := h.pos; exact ⟨p, hp, (hb.cell (p := ⟨r, 1, none⟩) (Nat.lt_succ_self _)).trans hc⟩
  free := (hb.frozen (p := ⟨r, 1, none⟩) (Nat.lt_succ_self _)).trans h.free
  max := h.max
  src := by
    rcases h.src with h0 | ⟨b, off, ha, hbr, hc⟩
    · exact .inl h0
    · exact .inr ⟨b, off, ha, hbr, fun i hi => by obtain ⟨z, hz, hcz⟩ := hc i hi; exact ⟨z, hz, (hb.cell (p := ⟨b, off + i, none⟩) (by show b < r + 1; omega)).trans hcz⟩⟩

theorem Rdr.alloc {w : World} {r : Nat} {a : Option Addr} {len cap : Nat} (h : Rdr w r a len cap) (o : Obj) : Rdr (w.alloc o) r a len cap := h.below ((Below.refl _ _).alloc h.lt o)
theorem Rdr.drew {w : World} {r : Nat} {a : Option Addr} {len cap : Nat} (h : Rdr w r a len cap) : Rdr w.drew r a len cap := h.below (Below.refl _ _).drew

theorem grown_trans {a b c : World} {row : Option Nat} (h : a.grownBy b row) (k : b.grownBy c row) : a.grownBy c row :=
  ⟨k.os.trans h.os, k.tape.trans h.tape, k.output.trans h.output, Nat.le_trans h.size k.size, fun i hi hn => (k.block i (Nat.lt_of_lt_of_le hi h.size) hn).trans (h.block i hi hn)⟩
theorem grown_alloc {a b : World} {row : Option Nat} (h : a.grownBy b row) (o : Obj) : a.grownBy (b.alloc o) row := grown_trans h (World.grownBy_alloc _ _ _)
theorem grown_drewN {a b : World} {row : Option Nat} (h : a.grownBy b row) (n : Nat) : a.grownBy (b.drewN n) row := grown_trans h ⟨rfl, rfl, rfl, Nat.le_refl _, fun _ _ _ => rfl⟩
theorem grown_setCell {a b : World} {r : Nat} (h : a.grownBy b (some r)) (j : Nat) (v : Value) : a.grownBy (b.setCell ⟨r, j, none⟩ v) (some r) :=
  grown_trans h ⟨rfl, rfl, rfl, by simp [World.setCell], fun k hk hn => Below.heap_setCell _ _ _ _ (fun e => hn (by rw [e]))⟩

/-- What a method of the reader does to the world. -/
structure Went (w : World) (r : Nat) (a : Option Addr) (len cap : Nat) (w' : World) : Prop where
  grown : w.grownBy w' (some r)
  rdr : Rdr w' r a len cap

theorem Went.refl {w : World} {r : Nat} {a : Option Addr} {len cap : Nat} (h : Rdr w r a len cap) : Went w r a len cap w := ⟨World.grownBy.refl _ _, h⟩
theorem Went.trans {w w1 w2 : World} {r : Nat} {a : Option Addr} {len cap : Nat} (h : Went w r a len cap w1) (k : Went w1 r a len cap w2) : Went w r a len cap w2 := ⟨grown_trans h.grown k.grown, k.rdr⟩
theorem Went.alloc {w w1 : World} {r : Nat} {a : Option Addr} {len cap : Nat} (h : Went w r a len cap w1) (o : Obj) : Went w r a len cap (w1.alloc o) := ⟨grown_alloc h.grown o, h.rdr.alloc o⟩
theorem Went.drewN {w w1 : World} {r : Nat} {a : Option Addr} {len cap : Nat} (h : Went w r a len cap w1) (n : Nat) : Went w r a len cap (w1.drewN n) := ⟨grown_drewN h.grown n, h.rdr.below (below_drewN (Below.refl _ _) n)⟩
theorem Went.size {w w1 : World} {r : Nat} {a : Option Addr} {len cap : Nat} (h : Went w r a len cap w1) : w.heap.size ≤ w1.heap.size := h.grown.size
/-- A block other than the reader's stays. -/
theorem Went.block {w w1 : World} {r : Nat} {a : Option Addr} {len cap : Nat} (h : Went w r a len cap w1) {k : Nat} {o : Obj} (hk : w.heap[k]? = some o) (hne : k ≠ r) : w1.heap[k]? = some o :=
  (h.grown.block k (lt_of_block hk) (by simpa using hne)).trans hk
theorem Went.cell {w w1 : World} {r : Nat} {a : Option Addr} {len cap : Nat} (h : Went w r a len cap w1) {p : Addr} {v : Value} (hk : w.cell? p = some v) (hne : p.block ≠ r) : w1.cell? p = some v :=
  h.grown.cell hk (by simpa using hne)
theorem Went.under {w w1 : World} {r : Nat} {a : Option Addr} {len cap : Nat} (h : Went w r a len cap w1) {B : Nat} {w0 : World} (hb : Below B w0 w) (hB : B ≤ r) (hs : B ≤ w.heap.size) : Below B w0 w1 :=
  hb.grown h.grown hs (fun k hk => by cases hk; exact hB)

/-- The end of a method that returns a number from lo to hi. -/
def RdInt (lo hi : Int) (w : World) (r : Nat) (a : Option Addr) (len cap : Nat) (e : Ending) (w' : World) : Prop := (∃ x : Int, lo ≤ x ∧ x ≤ hi ∧ e = .returned (.int .i64 x)) ∧ Went w r a len cap w'

theorem Rdr.step {w : World} {r : Nat} {a : Option Addr} {len cap : Nat} (h : Rdr w r a len cap) (q : Nat) (hq : q ≤ len) : Rdr (w.setCell ⟨r, 1, none⟩ (.int .i64 q)) r a len cap where
  lt := by simpa [World.setCell] using h.lt
  code := (World.cell?_setCell_other _ _ _ _ (by simp)).trans h.code
  pos := by obtain ⟨p, _, hc⟩ := h.pos; exact ⟨q, hq, World.cell?_setCell_same _ _ _ hc⟩
  free := by rw [World.frozen?_setCell]; exact h.free
  max := h.max
  src := by
    rcases h.src with h0 | ⟨b, off, ha, hbr, hc⟩
    · exact .inl h0
    · exact .inr ⟨b, off, ha, hbr, fun i hi => by obtain ⟨z, hz, hcz⟩ := hc i hi; exact ⟨z, hz, (World.cell?_setCell_other _ _ _ _ (by intro e; have := congrArg Addr.block e; simp at this; omega)).trans hcz⟩⟩

theorem Went.step {w w1 : World} {r : Nat} {a : Option Addr} {len cap : Nat} (h : Went w r a len cap w1) (q : Nat) (hq : q ≤ len) : Went w r a len cap (w1.setCell ⟨r, 1, none⟩ (.int .i64 q)) := ⟨grown_setCell h.grown _ _, h.rdr.step q hq⟩

theorem RdInt.mk {lo hi : Int} {w : World} {r : Nat} {a : Option Addr} {len cap : Nat} {w' : World} (x : Int) (h1 : lo ≤ x) (h2 : x ≤ hi) (hw : Went w r a len cap w') : RdInt lo hi w r a len cap (.returned (.int .i64 x)) w' := ⟨⟨x, h1, h2, rfl⟩, hw⟩

set_option maxHeartbeats 1000000 in
theorem rnext_any (w : World) (r : Nat) (a : Option Addr) (len cap : Nat) (h : Rdr w r a len cap) :
    Calls Tryd.prog 29 #[.pointer (some ⟨r, 0, none⟩)] w (RdInt 0 255 w r a len cap) := by
  obtain ⟨p, hp, hc1⟩ := h.pos
  have hc0 := h.code
  have hf := h.free
  have hm := h.max
  unfold maxLen at hm
  by_cases hlt : p < len
  · rcases h.src with h0 | ⟨b, off, rfl, hbr, hcell⟩
    · omega
    · obtain ⟨z, hz, hcz⟩ := hcell p hlt
      have hne : b ≠ r := by omega
      have H := Lib.hid h
      clear h hcell hbr
      go_enter Tryd.func29, Tryd.ntmps29
      go_wp2_with fail
      go_quiet (fail)
      go_wp2_with fail
      go_quiet (fail)
      go_wp2
      go_ret
      exact RdInt.mk _ (by omega) (by omega) ((((Went.refl H.out).drewN _).step (p + 1) hlt).drewN _)
  · have H := Lib.hid h
    have hpl : p = len := by omega
    subst hpl
    clear h
    go_enter Tryd.func29, Tryd.ntmps29
    go_wp2_with fail
    go_quiet (fail)
    go_wp2
    go_ret
    exact RdInt.mk _ (by omega) (by omega) ((Went.refl H.out).drewN _)

set_option maxHeartbeats 1000000 in
theorem below_any (n : Int) (w : World) (r : Nat) (a : Option Addr) (len cap : Nat) (h : Rdr w r a len cap) (h1 : 1 ≤ n) (h2 : n ≤ 4611686018427387904) :
    Calls Tryd.prog 22 #[.pointer (some ⟨r, 0, none⟩), .int .i64 n] w (RdInt 0 (n - 1) w r a len cap) := by
  have H := Lib.hid h
  clear h
  by_cases hn : n = 1
  · subst hn
    go_enter Tryd.func22, Tryd.ntmps22
    go_wp2
    go_ret
    exact RdInt.mk _ (by omega) (by omega) (Went.refl H.out)
  · by_cases hs : n ≤ 256
    · have g1 : ¬ n ≤ 1 := by omega
      have gz : (n == 0) = false := by simp; omega
      clear hn
      go_enter Tryd.func22, Tryd.ntmps22
      go_wp2_with (go_at_call 29; refine (rnext_any _ _ _ _ _ H.out).mono ?_; rintro e w1 ⟨⟨x, hx1, hx2, rfl⟩, hw⟩; have HW := Lib.hid hw; clear hw)
      have e1 := Int.emod_nonneg x (show n ≠ 0 by omega)
      have e2 := Int.emod_lt_of_pos x (show 0 < n by omega)
      go_ret
      exact RdInt.mk _ (by omega) (by omega) HW.out
    · have g1 : ¬ n ≤ 1 := by omega
      have gz : (n == 0) = false := by simp; omega
      clear hn
      go_enter Tryd.func22, Tryd.ntmps22
      have H0 := Lib.hid (Went.refl H.out)
      clear H
      go_wp2_with (go_at_call 29; refine (rnext_any _ _ _ _ _ H0.out.rdr).mono ?_; rintro e w1 ⟨⟨x, hx1, hx2, rfl⟩, hw⟩; have H1 := Lib.hid (H0.out.trans hw); clear hw H0; have H0 := H1; clear H1)
      rename_i x2 hx3 hx4
      have e1 := Int.emod_nonneg (x2 * 256 + x) (show n ≠ 0 by omega)
      have e2 := Int.emod_lt_of_pos (x2 * 256 + x) (show 0 < n by omega)
      go_ret
      exact RdInt.mk _ (by omega) (by omega) H0.out
end Go.Proofs.YthndoimblfccbaaDoor
