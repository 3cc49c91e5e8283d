/- Texts put together, as a claim holds at most sixty files. -/
import Derived.Test.YthnlllbanfemaaaGreatDoorRows
import Derived.WalkKit
import Derived.ProofKit
import Derived.OpenShut
import Derived.WalkLawsBesides
import Derived.Deep.QuietTactic
import Derived.BigQuiet
import Derived.Lib.Hide
import Derived.Outline
import Derived.Deep.RegionWith
namespace Go.Proofs.YthnlllbanfemaaaGreatDoor
open Go.ChangeShapes Go.WideShapes Go.ChangeAt Go.RowKit
set_option linter.unusedVariables false
set_option maxRecDepth 100000

/-- Block r is a reader over the bytes (a, len, cap), which lie in an older block. -/
structure Rdr (w : World) (r : Nat) (a : Option Addr) (len cap : Nat) : Prop where
  lt : r < w.heap.size
  code : w.cell? ⟨r, 0, none⟩ = some (.slice a len cap)
  pos : ∃ p : Nat, p ≤ len ∧ w.cell? ⟨r, 1, none⟩ = some (.int .i64 p)
  free : w.frozen? ⟨r, 1, none⟩ = false
  max : len ≤ maxLen
  src : len = 0 ∨ ∃ b off, a = some ⟨b, off, none⟩ ∧ b < r ∧ ∀ i, i < len → ∃ z : Nat, z < 256 ∧ w.cell? ⟨b, off + i, none⟩ = some (.int .u8 z)

theorem Rdr.below {w w' : World} {r : Nat} {a : Option Addr} {len cap : Nat} (h : Rdr w r a len cap) (hb : Below (r + 1) w w') : Rdr w' r a len cap where
  lt := Nat.lt_of_lt_of_le h.lt hb.size
  code := (hb.cell (p := ⟨r, 0, none⟩) (Nat.lt_succ_self _)).trans h.code
  pos := by obtain ⟨p, hp, hc⟩ := h.pos; exact ⟨p, hp, (hb.cell (p := ⟨r, 1, none⟩) (Nat.lt_succ_self _)).trans hc⟩
  free := (hb.frozen (p := ⟨r, 1, none⟩) (Nat.lt_succ_self _)).trans h.free
  max := h.max
  src := by
    rcases h.src with h0 | ⟨b, off, ha, hbr, hc⟩
    · exact .inl h0
    · exact .inr ⟨b, off, ha, hbr, fun i hi => by obtain ⟨z, hz, hcz⟩ := hc i hi; exact ⟨z, hz, (hb.cell (p := ⟨b, off + i, none⟩) (by show b < r + 1; omega)).trans hcz⟩⟩

theorem Rdr.alloc {w : World} {r : Nat} {a : Option Addr} {len cap : Nat} (h : Rdr w r a len cap) (o : Obj) : Rdr (w.alloc o) r a len cap := h.below ((Below.refl _ _).alloc h.lt o)
theorem Rdr.drew {w : World} {r : Nat} {a : Option Addr} {len cap : Nat} (h : Rdr w r a len cap) : Rdr w.drew r a len cap := h.below (Below.refl _ _).drew

theorem grown_trans {a b c : World} {row : Option Nat} (h : a.grownBy b row) (k : b.grownBy c row) : a.grownBy c row :=
  ⟨k.os.trans h.os, k.tape.trans h.tape, k.output.trans h.output, Nat.le_trans h.size k.size, fun i hi hn => (k.block i (Nat.lt_of_lt_of_le hi h.size) hn).trans (h.block i hi hn)⟩
theorem grown_alloc {a b : World} {row : Option Nat} (h : a.grownBy b row) (o : Obj) : a.grownBy (b.alloc o) row := grown_trans h (World.grownBy_alloc _ _ _)
theorem grown_drewN {a b : World} {row : Option Nat} (h : a.grownBy b row) (n : Nat) : a.grownBy (b.drewN n) row := grown_trans h ⟨rfl, rfl, rfl, Nat.le_refl _, fun _ _ _ => rfl⟩
theorem grown_setCell {a b : World} {r : Nat} (h : a.grownBy b (some r)) (j : Nat) (v : Value) : a.grownBy (b.setCell ⟨r, j, none⟩ v) (some r) :=
  grown_trans h ⟨rfl, rfl, rfl, by simp [World.setCell], fun k hk hn => Below.heap_setCell _ _ _ _ (fun e => hn (by rw [e]))⟩

/-- What a method of the reader does to the world. -/
structure Went (w : World) (r : Nat) (a : Option Addr) (len cap : Nat) (w' : World) : Prop where
  grown : w.grownBy w' (some r)
  rdr : Rdr w' r a len cap

theorem Went.refl {w : World} {r : Nat} {a : Option Addr} {len cap : Nat} (h : Rdr w r a len cap) : Went w r a len cap w := ⟨World.grownBy.refl _ _, h⟩
theorem Went.trans {w w1 w2 : World} {r : Nat} {a : Option Addr} {len cap : Nat} (h : Went w r a len cap w1) (k : Went w1 r a len cap w2) : Went w r a len cap w2 := ⟨grown_trans h.grown k.grown, k.rdr⟩
theorem Went.alloc {w w1 : World} {r : Nat} {a : Option Addr} {len cap : Nat} (h : Went w r a len cap w1) (o : Obj) : Went w r a len cap (w1.alloc o) := ⟨grown_alloc h.grown o, h.rdr.alloc o⟩
theorem Went.drewN {w w1 : World} {r : Nat} {a : Option Addr} {len cap : Nat} (h : Went w r a len cap w1) (n : Nat) : Went w r a len cap (w1.drewN n) := ⟨grown_drewN h.grown n, h.rdr.below (below_drewN (Below.refl _ _) n)⟩
theorem Went.size {w w1 : World} {r : Nat} {a : Option Addr} {len cap : Nat} (h : Went w r a len cap w1) : w.heap.size ≤ w1.heap.size := h.grown.size
/-- A block other than the reader's stays. -/
theorem Went.block {w w1 : World} {r : Nat} {a : Option Addr} {len cap : Nat} (h : Went w r a len cap w1) {k : Nat} {o : Obj} (hk : w.heap[k]? = some o) (hne : k ≠ r) : w1.heap[k]? = some o :=
  (h.grown.block k (lt_of_block hk) (by simpa using hne)).trans hk
theorem Went.cell {w w1 : World} {r : Nat} {a : Option Addr} {len cap : Nat} (h : Went w r a len cap w1) {p : Addr} {v : Value} (hk : w.cell? p = some v) (hne : p.block ≠ r) : w1.cell? p = some v :=
  h.grown.cell hk (by simpa using hne)
theorem Went.under {w w1 : World} {r : Nat} {a : Option Addr} {len cap : Nat} (h : Went w r a len cap w1) {B : Nat} {w0 : World} (hb : Below B w0 w) (hB : B ≤ r) (hs : B ≤ w.heap.size) : Below B w0 w1 :=
  hb.grown h.grown hs (fun k hk => by cases hk; exact hB)

/-- The end of a method that returns a number from lo to hi. -/
def RdInt (lo hi : Int) (w : World) (r : Nat) (a : Option Addr) (len cap : Nat) (e : Ending) (w' : World) : Prop := (∃ x : Int, lo ≤ x ∧ x ≤ hi ∧ e = .returned (.int .i64 x)) ∧ Went w r a len cap w'

theorem Rdr.step {w : World} {r : Nat} {a : Option Addr} {len cap : Nat} (h : Rdr w r a len cap) (q : Nat) (hq : q ≤ len) : Rdr (w.setCell ⟨r, 1, none⟩ (.int .i64 q)) r a len cap where
  lt := by simpa [World.setCell] using h.lt
  code := (World.cell?_setCell_other _ _ _ _ (by simp)).trans h.code
  pos := by obtain ⟨p, _, hc⟩ := h.pos; exact ⟨q, hq, World.cell?_setCell_same _ _ _ hc⟩
  free := by rw [World.frozen?_setCell]; exact h.free
  max := h.max
  src := by
    rcases h.src with h0 | ⟨b, off, ha, hbr, hc⟩
    · exact .inl h0
    · exact .inr ⟨b, off, ha, hbr, fun i hi => by obtain ⟨z, hz, hcz⟩ := hc i hi; exact ⟨z, hz, (World.cell?_setCell_other _ _ _ _ (by intro e; have := congrArg Addr.block e; simp at this; omega)).trans hcz⟩⟩

theorem Went.step {w w1 : World} {r : Nat} {a : Option Addr} {len cap : Nat} (h : Went w r a len cap w1) (q : Nat) (hq : q ≤ len) : Went w r a len cap (w1.setCell ⟨r, 1, none⟩ (.int .i64 q)) := ⟨grown_setCell h.grown _ _, h.rdr.step q hq⟩

theorem RdInt.mk {lo hi : Int} {w : World} {r : Nat} {a : Option Addr} {len cap : Nat} {w' : World} (x : Int) (h1 : lo ≤ x) (h2 : x ≤ hi) (hw : Went w r a len cap w') : RdInt lo hi w r a len cap (.returned (.int .i64 x)) w' := ⟨⟨x, h1, h2, rfl⟩, hw⟩

set_option maxHeartbeats 1000000 in
theorem rnext_any (w : World) (r : Nat) (a : Option Addr) (len cap : Nat) (h : Rdr w r a len cap) :
    Calls Tryz.prog 73 #[.pointer (some ⟨r, 0, none⟩)] w (RdInt 0 255 w r a len cap) := by
  obtain ⟨p, hp, hc1⟩ := h.pos
  have hc0 := h.code
  have hf := h.free
  have hm := h.max
  unfold maxLen at hm
  by_cases hlt : p < len
  · rcases h.src with h0 | ⟨b, off, rfl, hbr, hcell⟩
    · omega
    · obtain ⟨z, hz, hcz⟩ := hcell p hlt
      have hne : b ≠ r := by omega
      have H := Lib.hid h
      clear h hcell hbr
      go_enter Tryz.func73, Tryz.ntmps73
      go_wp2_with fail
      go_quiet (fail)
      go_wp2_with fail
      go_quiet (fail)
      go_wp2
      go_ret
      exact RdInt.mk _ (by omega) (by omega) ((((Went.refl H.out).drewN _).step (p + 1) hlt).drewN _)
  · have H := Lib.hid h
    have hpl : p = len := by omega
    subst hpl
    clear h
    go_enter Tryz.func73, Tryz.ntmps73
    go_wp2_with fail
    go_quiet (fail)
    go_wp2
    go_ret
    exact RdInt.mk _ (by omega) (by omega) ((Went.refl H.out).drewN _)

set_option maxHeartbeats 1000000 in
theorem below_any (n : Int) (w : World) (r : Nat) (a : Option Addr) (len cap : Nat) (h : Rdr w r a len cap) (h1 : 1 ≤ n) (h2 : n ≤ 4611686018427387904) :
    Calls Tryz.prog 50 #[.pointer (some ⟨r, 0, none⟩), .int .i64 n] w (RdInt 0 (n - 1) w r a len cap) := by
  have H := Lib.hid h
  clear h
  by_cases hn : n = 1
  · subst hn
    go_enter Tryz.func50, Tryz.ntmps50
    go_wp2
    go_ret
    exact RdInt.mk _ (by omega) (by omega) (Went.refl H.out)
  · by_cases hs : n ≤ 256
    · have g1 : ¬ n ≤ 1 := by omega
      have gz : (n == 0) = false := by simp; omega
      clear hn
      go_enter Tryz.func50, Tryz.ntmps50
      go_wp2_with (go_at_call 73; refine (rnext_any _ _ _ _ _ H.out).mono ?_; rintro e w1 ⟨⟨x, hx1, hx2, rfl⟩, hw⟩; have HW := Lib.hid hw; clear hw)
      have e1 := Int.emod_nonneg x (show n ≠ 0 by omega)
      have e2 := Int.emod_lt_of_pos x (show 0 < n by omega)
      go_ret
      exact RdInt.mk _ (by omega) (by omega) HW.out
    · have g1 : ¬ n ≤ 1 := by omega
      have gz : (n == 0) = false := by simp; omega
      clear hn
      go_enter Tryz.func50, Tryz.ntmps50
      have H0 := Lib.hid (Went.refl H.out)
      clear H
      go_wp2_with (go_at_call 73; refine (rnext_any _ _ _ _ _ H0.out.rdr).mono ?_; rintro e w1 ⟨⟨x, hx1, hx2, rfl⟩, hw⟩; have H1 := Lib.hid (H0.out.trans hw); clear hw H0; have H0 := H1; clear H1)
      rename_i x2 hx3 hx4
      have e1 := Int.emod_nonneg (x2 * 256 + x) (show n ≠ 0 by omega)
      have e2 := Int.emod_lt_of_pos (x2 * 256 + x) (show 0 < n by omega)
      go_ret
      exact RdInt.mk _ (by omega) (by omega) H0.out
end Go.Proofs.YthnlllbanfemaaaGreatDoor
namespace Go.Proofs.YthnlllbanfemaaaGreatDoor
open Go.ChangeShapes Go.WideShapes Go.ChangeAt Go.RowKit
set_option linter.unusedVariables false
set_option maxRecDepth 100000

def RdBool (w : World) (r : Nat) (a : Option Addr) (len cap : Nat) (e : Ending) (w' : World) : Prop := (∃ x : Bool, e = .returned (.bool x)) ∧ Went w r a len cap w'
def RdWf (k : IntKind) (w : World) (r : Nat) (a : Option Addr) (len cap : Nat) (e : Ending) (w' : World) : Prop := (∃ x : Int, (Lit.int k x).wf = true ∧ e = .returned (.int k x)) ∧ Went w r a len cap w'
def RdStr (m : Nat) (w : World) (r : Nat) (a : Option Addr) (len cap : Nat) (e : Ending) (w' : World) : Prop := (∃ s : ByteArray, s.size ≤ m ∧ e = .returned (.string s)) ∧ Went w r a len cap w'

theorem once_any (n : Int) (w : World) (r : Nat) (a : Option Addr) (len cap : Nat) (h : Rdr w r a len cap) (h1 : 1 ≤ n) (h2 : n ≤ 4611686018427387904) :
    Calls Tryz.prog 55 #[.pointer (some ⟨r, 0, none⟩), .int .i64 n] w (RdBool w r a len cap) := by
  have H := Lib.hid h
  clear h
  go_enter Tryz.func55, Tryz.ntmps55
  go_wp2_with (go_at_call 50; refine (below_any _ _ _ _ _ _ H.out h1 h2).mono ?_; rintro e w1 ⟨⟨x, hx1, hx2, rfl⟩, hw⟩; have HW := Lib.hid hw; clear hw)
  go_ret
  exact ⟨⟨_, rfl⟩, HW.out⟩

set_option maxHeartbeats 1000000 in
theorem word_any (w : World) (r : Nat) (a : Option Addr) (len cap : Nat) (h : Rdr w r a len cap) :
    Calls Tryz.prog 77 #[.pointer (some ⟨r, 0, none⟩)] w (RdWf .u64 w r a len cap) := by
  have H := Lib.hid h
  clear h
  go_enter Tryz.func77, Tryz.ntmps77
  go_wp2
  go_loopw [3, 4] (fun x i wr => ∃ k : Nat, k ≤ 8 ∧ i = .int .i64 k ∧ (∃ X : Int, (Lit.int .u64 X).wf = true ∧ x = .int .u64 X) ∧ Hid (Went w r a len cap wr)) (fun _ i _ => 8 - (intOf i).toNat)
  case atStart => exact ⟨0, by omega, rfl, ⟨0, by decide, rfl⟩, Went.refl H.out⟩
  case round =>
    obtain ⟨k, hk, rfl, ⟨X, hX, rfl⟩, hw⟩ := hrel
    have hX2 := bounds_u64 hX
    have HX := Lib.hid hX
    clear H hX
    by_cases hlt : k < 8
    · go_wp2_with (go_at_call 73; refine (rnext_any _ _ _ _ _ hw.out.rdr).mono ?_; rintro e w1 ⟨⟨y, hy1, hy2, rfl⟩, hw1⟩; have H1 := Lib.hid (hw.out.trans hw1); clear hw1 hw)
      go_roundw
      case rel => exact ⟨k + 1, by omega, by go_num, ⟨_, wf_bits _ _ _ _, rfl⟩, H1⟩
      case measure => simp [intOf]; omega
    · go_wp2
      go_ret
      exact ⟨⟨X, HX.out, rfl⟩, hw.out⟩

theorem near_math (lo hi y : Int) (h1 : lo ≤ hi) (h2 : -1152921504606846976 ≤ lo) (h3 : hi ≤ 1152921504606846976) :
    lo ≤ wrap64 (lo + wrap64 (y / 2 % (hi - lo + 1))) ∧ wrap64 (lo + wrap64 (y / 2 % (hi - lo + 1))) ≤ hi := by
  have e1 := Int.emod_nonneg (y / 2) (show hi - lo + 1 ≠ 0 by omega)
  have e2 := Int.emod_lt_of_pos (y / 2) (show 0 < hi - lo + 1 by omega)
  rw [IntWalk.wrap64_in (y / 2 % (hi - lo + 1)) (by omega), IntWalk.wrap64_in _ (by omega)]
  omega

set_option maxHeartbeats 1000000 in
theorem near_any (lo hi : Int) (w : World) (r : Nat) (a : Option Addr) (len cap : Nat) (h : Rdr w r a len cap) (h1 : lo ≤ hi) (h2 : -1152921504606846976 ≤ lo) (h3 : hi ≤ 1152921504606846976) :
    Calls Tryz.prog 78 #[.pointer (some ⟨r, 0, none⟩), .int .i64 lo, .int .i64 hi] w (RdInt lo hi w r a len cap) := by
  have H := Lib.hid h
  clear h
  go_enter Tryz.func78, Tryz.ntmps78
  go_wp2_with (first | (go_at_call 50; refine (below_any _ _ _ _ _ _ H.out (by omega) (by omega)).mono ?_; rintro e w1 ⟨⟨x, hx1, hx2, rfl⟩, hw⟩; have HW := Lib.hid hw; clear hw) | (go_at_call 77; refine (word_any _ _ _ _ _ HW.out.rdr).mono ?_; rintro e w2 ⟨⟨y, hy, rfl⟩, hw⟩; have hyb := bounds_u64 hy; clear hy; have HW2 := Lib.hid (HW.out.trans hw); clear hw))
  · go_ret
    exact RdInt.mk _ (by omega) (by omega) HW.out
  · go_ret
    exact RdInt.mk _ (by omega) (by omega) HW.out
  · have hn := near_math lo hi y h1 h2 h3
    go_ret
    exact RdInt.mk _ hn.1 hn.2 HW2.out

/-- Every cell of a table is a text of at most m bytes. -/
def allStr (m : Nat) (cs : Array Value) : Bool := cs.toList.all fun v => match v with | .string s => decide (s.size ≤ m) | _ => false
theorem tab_cell {w : World} {B m : Nat} {cs : Array Value} {t : TypeId} (h : w.heap[B]? = some (.cells cs t (0, 0))) (hs : allStr m cs = true) (x : Int) (h1 : 0 ≤ x) (h2 : x < cs.size) :
    ∃ s : ByteArray, s.size ≤ m ∧ w.cell? ⟨B, x.toNat, none⟩ = some (.string s) := by
  have hj : x.toNat < cs.size := by omega
  have h3 := List.all_eq_true.1 hs cs[x.toNat] (by simp)
  have h4 : w.cell? ⟨B, x.toNat, none⟩ = some cs[x.toNat] := by simp [World.cell?, h, hj]
  revert h3 h4
  generalize cs[x.toNat] = v
  intro h3 h4
  cases v <;> simp at h3
  exact ⟨_, h3, h4⟩

/-- Every cell of a table is a number of kind k. -/
def allInt (k : IntKind) (cs : Array Value) : Bool := cs.toList.all fun v => match v with | .int k' n => k' == k && (Lit.int k n).wf | _ => false
theorem int_cell {w : World} {B : Nat} {k : IntKind} {cs : Array Value} {t : TypeId} (h : w.heap[B]? = some (.cells cs t (0, 0))) (hs : allInt k cs = true) (x : Int) (h1 : 0 ≤ x) (h2 : x < cs.size) :
    ∃ n : Int, (Lit.int k n).wf = true ∧ w.cell? ⟨B, x.toNat, none⟩ = some (.int k n) := by
  have hj : x.toNat < cs.size := by omega
  have h3 := List.all_eq_true.1 hs cs[x.toNat] (by simp)
  have h4 : w.cell? ⟨B, x.toNat, none⟩ = some cs[x.toNat] := by simp [World.cell?, h, hj]
  revert h3 h4
  generalize cs[x.toNat] = v
  intro h3 h4
  cases v <;> simp at h3
  obtain ⟨rfl, h5⟩ := h3
  exact ⟨_, h5, h4⟩

set_option maxHeartbeats 1000000 in
theorem word1_any (w : World) (r : Nat) (a : Option Addr) (len cap : Nat) (h : Rdr w r a len cap) :
    Calls Tryz.prog 51 #[.pointer (some ⟨r, 0, none⟩)] w (RdStr 5 w r a len cap) := by
  have H := Lib.hid h
  clear h
  go_enter Tryz.func51, Tryz.ntmps51
  go_wp2_with (go_at_call 50; refine (below_any _ _ _ _ _ _ (H.out.alloc _) (by omega) (by omega)).mono ?_; rintro e w1 ⟨⟨x, hx1, hx2, rfl⟩, hw⟩; obtain ⟨s, hs, hcs⟩ := tab_cell (m := 5) (hw.block (k := w.heap.size) (heap_alloc_new _ _) (Nat.ne_of_gt H.out.lt)) (by decide) x hx1 (by show x < 12; omega); have HS := Lib.hid hs; have HW := Lib.hid (((Went.refl H.out).alloc _).trans hw); clear hw hs)
  go_ret
  exact ⟨⟨s, HS.out, rfl⟩, HW.out⟩

/-- What is told of a slice of bytes that came in: each byte is there. -/
def Src (w : World) (a : Option Addr) (len : Nat) : Prop := len ≤ maxLen ∧ (len = 0 ∨ ∃ b off, a = some ⟨b, off, none⟩ ∧ b < w.heap.size ∧ ∀ i, i < len → ∃ z : Nat, z < 256 ∧ w.cell? ⟨b, off + i, none⟩ = some (.int .u8 z))

theorem Rdr.new (w : World) (a : Option Addr) (len cap : Nat) (t : TypeId) (h : Src w a len) : Rdr (w.alloc (.cells #[.slice a len cap, .int .i64 0] t)) w.heap.size a len cap where
  lt := by simp
  code := cell_two_new w (Value.slice a len cap) (Value.int IntKind.i64 0) t 0 _ rfl
  pos := ⟨0, Nat.zero_le _, cell_two_new w (Value.slice a len cap) (Value.int IntKind.i64 0) t 1 _ rfl⟩
  free := by simp only [World.frozen?, heap_alloc_new]; rfl
  max := h.1
  src := by
    rcases h.2 with h0 | ⟨b, off, ha, hb, hz⟩
    · exact .inl h0
    · refine .inr ⟨b, off, ha, hb, fun i hi => ?_⟩
      obtain ⟨z, hz1, hz2⟩ := hz i hi
      exact ⟨z, hz1, (((Below.refl w.heap.size w).alloc (Nat.le_refl _) _).cell (p := ⟨b, off + i, none⟩) hb).trans hz2⟩

theorem open_any (w : World) (a : Option Addr) (len cap : Nat) (h : Src w a len) :
    Calls Tryz.prog 47 #[.slice a len cap] w fun e w' => e = .returned (.pointer (some ⟨w.heap.size, 0, none⟩)) ∧ Below w.heap.size w w' ∧ Rdr w' w.heap.size a len cap := by
  have H := Lib.hid h
  clear h
  go_enter Tryz.func47, Tryz.ntmps47
  go_wp2
  go_ret
  exact ⟨rfl, (Below.refl _ _).alloc (Nat.le_refl _) _, Rdr.new _ _ _ _ _ H.out⟩

set_option maxHeartbeats 1000000 in
theorem off_any (lo hi : Int) (w : World) (r : Nat) (a : Option Addr) (len cap : Nat) (h : Rdr w r a len cap) (h1 : lo ≤ hi) (h2 : -1152921504606846976 ≤ lo) (h3 : hi ≤ 1152921504606846976) :
    Calls Tryz.prog 60 #[.pointer (some ⟨r, 0, none⟩), .int .i64 lo, .int .i64 hi] w (RdWf .i64 w r a len cap) := by
  have H := Lib.hid h
  clear h
  go_enter Tryz.func60, Tryz.ntmps60
  go_wp2_with (first | (go_at_call 55; refine (once_any _ _ _ _ _ _ H.out (by omega) (by omega)).mono ?_; rintro e w1 ⟨⟨x, rfl⟩, hw⟩; have HW := Lib.hid hw; clear hw) | (go_at_call 78; refine (near_any _ _ _ _ _ _ _ HW.out.rdr h1 h2 h3).mono ?_; rintro e w2 ⟨⟨y, hy1, hy2, rfl⟩, hw⟩; have HW2 := Lib.hid (HW.out.trans hw); clear hw) | (go_at_call 50; refine (below_any _ _ _ _ _ _ (HW.out.rdr.alloc _) (by omega) (by omega)).mono ?_; rintro e w2 ⟨⟨y, hy1, hy2, rfl⟩, hw⟩; have HW2 := Lib.hid ((HW.out.alloc _).trans hw); obtain ⟨z, hz, hcz⟩ := int_cell (k := .i64) (hw.block (k := w1.heap.size) (heap_alloc_new _ _) (Nat.ne_of_gt HW.out.rdr.lt)) (by simp [allInt, Lit.wf, IntKind.min, IntKind.max, IntKind.bits, IntKind.signed]; omega) y hy1 (by show y < 4; omega); have HZ := Lib.hid hz; clear hw hz))
  · go_ret
    exact ⟨⟨_, HZ.out, rfl⟩, HW2.out⟩
  · go_ret
    exact ⟨⟨y, WalkArith.wf_i64 (by omega), rfl⟩, HW2.out⟩
end Go.Proofs.YthnlllbanfemaaaGreatDoor
namespace Go.Proofs.YthnlllbanfemaaaGreatDoor
open Go.ChangeShapes Go.WideShapes Go.ChangeAt Go.RowKit
set_option linter.unusedVariables false
set_option maxRecDepth 100000

theorem src_of {w : World} {a : Option Addr} {len cap : Nat} {zs : List Int}
    (h : (a = none ∧ len = 0 ∧ cap = 0 ∧ zs = []) ∨ ∃ x, a = some x ∧ len ≤ cap ∧ cap ≤ maxLen ∧ zs.length = cap ∧ (∀ i, i < zs.length → w.cell? (x.add i) = some (.int .u8 (zs.getD i 0))) ∧ ∀ n ∈ zs, (Lit.int .u8 n).wf = true) : Src w a len := by
  rcases h with ⟨rfl, rfl, _, _⟩ | ⟨x, rfl, hl, hm, hz, hc, hw⟩
  · exact ⟨Nat.zero_le _, .inl rfl⟩
  · refine ⟨by omega, ?_⟩
    by_cases h0 : len = 0
    · exact .inl h0
    · obtain ⟨b, off, spot⟩ := x
      have hc0 := hc 0 (by omega)
      have hspot : spot = none := by simpa [Addr.add] using World.cell?_spot hc0
      subst hspot
      refine .inr ⟨b, off, rfl, ?_, fun i hi => ?_⟩
      · rcases Nat.lt_or_ge b w.heap.size with h' | h'
        · exact h'
        · simp [World.cell?, Addr.add, Array.getElem?_eq_none h'] at hc0
      · have h1 := hc i (by omega)
        have hmem : zs.getD i 0 ∈ zs := by
          rw [List.getD_eq_getElem?_getD, List.getElem?_eq_getElem (by omega)]
          exact List.getElem_mem _
        have hb := bounds_u8 (hw _ hmem)
        refine ⟨(zs.getD i 0).toNat, by omega, ?_⟩
        rw [Int.toNat_of_nonneg hb.1]
        by_cases hi0 : i = 0
        · subst hi0
          simpa [Addr.add] using h1
        · simpa [Addr.add, hi0] using h1

theorem Src.below {w w' : World} {a : Option Addr} {len : Nat} (h : Src w a len) (hb : Below w.heap.size w w') : Src w' a len := by
  refine ⟨h.1, ?_⟩
  rcases h.2 with h0 | ⟨b, off, ha, hlt, hc⟩
  · exact .inl h0
  · exact .inr ⟨b, off, ha, Nat.lt_of_lt_of_le hlt hb.size, fun i hi => by obtain ⟨z, hz, hcz⟩ := hc i hi; exact ⟨z, hz, (hb.cell (p := ⟨b, off + i, none⟩) hlt).trans hcz⟩⟩

theorem big_yes (a : Option Addr) (len cap : Nat) (w : World) (h : 1048576 < len) : Calls Tryz.prog 26 #[.slice a len cap] w fun e w' => e = .returned (.bool true) ∧ w = w' := by
  have hd : decide ((1048576 : Int) < (len : Int)) = true := by simp; omega
  go_enter Tryz.func26, Tryz.ntmps26
  go_wp2
  go_ret
  exact ⟨rfl, rfl⟩

theorem big_no (a : Option Addr) (len cap : Nat) (w : World) (h : ¬ 1048576 < len) : Calls Tryz.prog 26 #[.slice a len cap] w fun e w' => e = .returned (.bool false) ∧ w = w' := by
  have hd : decide ((1048576 : Int) < (len : Int)) = false := by simp; omega
  go_enter Tryz.func26, Tryz.ntmps26
  go_wp2
  go_ret
  exact ⟨rfl, rfl⟩

/-- What is drawn for PartOf. -/
def DrewPart (w : World) (e : Ending) (w' : World) : Prop := ∃ (s : ByteArray) (n : Int), s.size ≤ 5 ∧ (Lit.int .i64 n).wf = true ∧ e = .returned (.tuple #[.string s, .int .i64 n]) ∧ Below w.heap.size w w'

set_option maxHeartbeats 1000000 in
theorem drawpart_any (w : World) (a : Option Addr) (len cap : Nat) (h : Src w a len) :
    Calls Tryz.prog 35 #[.slice a len cap] w (DrewPart w) := by
  have H := Lib.hid h
  clear h
  go_enter Tryz.func35, Tryz.ntmps35
  go_wp2_with (first | (go_at_call 47; refine (open_any _ _ _ _ H.out).mono ?_; rintro e w1 ⟨rfl, hb, hr⟩; have HB := Lib.hid hb; have HR := Lib.hid hr; clear hb hr) | (go_at_call 51; refine (word1_any _ _ _ _ _ HR.out).mono ?_; rintro e w2 ⟨⟨s, hs, rfl⟩, hw⟩; have HS := Lib.hid hs; have HW := Lib.hid hw; clear hs hw) | (go_at_call 60; refine (off_any _ _ _ _ _ _ _ HW.out.rdr (by omega) (by omega) (by omega)).mono ?_; rintro e w3 ⟨⟨n, hn, rfl⟩, hw⟩; have HN := Lib.hid hn; have HW2 := Lib.hid (HW.out.trans hw); clear hn hw))
  go_ret2
  exact ⟨s, n, HS.out, HN.out, rfl, HW2.out.under HB.out (Nat.le_refl _) HB.out.size⟩

set_option maxHeartbeats 1000000 in
theorem hurt_any (s : ByteArray) (m : Nat) (w : World) (r : Nat) (a : Option Addr) (len cap : Nat) (h : Rdr w r a len cap) (hs : s.size ≤ m) (hm : m ≤ 1000000) :
    Calls Tryz.prog 59 #[.pointer (some ⟨r, 0, none⟩), .string s] w (RdStr (m + 1) w r a len cap) := by
  have H := Lib.hid h
  clear h
  go_enter Tryz.func59, Tryz.ntmps59
  go_wp2_with (first | (go_at_call 50; refine (below_any _ _ _ _ _ _ H.out (by omega) (by omega)).mono ?_; rintro e w1 ⟨⟨x, hx1, hx2, rfl⟩, hw⟩; have HW := Lib.hid hw; clear hw H))
  · refine (below_any _ _ _ _ _ _ HW.out.rdr (by omega) (by omega)).mono ?_
    rintro e w2 ⟨⟨y, hy1, hy2, rfl⟩, hw⟩
    have HW2 := Lib.hid (HW.out.trans hw)
    clear hw
    obtain ⟨k, rfl⟩ : ∃ k : Nat, y = k := ⟨y.toNat, by omega⟩
    have hk : k ≤ s.size := by omega
    clear hy1 hy2
    go_wp2
    go_ret
    refine ⟨⟨_, ?_, rfl⟩, HW2.out⟩
    rw [ByteArray.size_extract]; omega
  · refine (below_any _ _ _ _ _ _ HW.out.rdr (by omega) (by omega)).mono ?_
    rintro e w2 ⟨⟨y, hy1, hy2, rfl⟩, hw⟩
    have HW2 := Lib.hid (HW.out.trans hw)
    clear hw HW
    obtain ⟨k, rfl⟩ : ∃ k : Nat, y = k := ⟨y.toNat, by omega⟩
    have hk : k < s.size := by omega
    clear hy1 hy2
    have hx1 : (s.extract 0 k).size ≤ s.size := by rw [ByteArray.size_extract]; omega
    have hx2 : (s.extract (k + 1) s.size).size ≤ s.size := by rw [ByteArray.size_extract]; omega
    have hi0 : (0 : Int) ≤ (k : Int) := by omega
    have hi1 : (k : Int) ≤ (s.size : Int) := by omega
    have hi2 : k ≤ s.size := by omega
    have hj0 : (0 : Int) ≤ (k : Int) + 1 := by omega
    have hj1 : (k : Int) + 1 ≤ (s.size : Int) := by omega
    clear hi0 hi2
    go_wp2_with fail
    have hj2 : ((k : Int) + 1).toNat = k + 1 := by omega
    have hwr : IntKind.i64.wrap ((k : Int) + 1) = (k : Int) + 1 := IntWalk.i64_in _ (by omega)
    go_region_with (first | (go_at_call 50; (with_reducible refine (below_any _ _ _ _ _ _ (HW2.out.rdr.alloc _).drew (by decide) (by decide)).mono ?_); rintro e w3 ⟨⟨z, hz1, hz2, rfl⟩, hw⟩; obtain ⟨u, hu, hcu⟩ := tab_cell (m := 1) (hw.block (k := w2.heap.size) (heap_alloc_new _ _) (Nat.ne_of_gt HW2.out.rdr.lt)) (by decide) z hz1 (Int.lt_of_le_of_lt hz2 (by decide)); have HW3 := Lib.hid (((HW2.out.alloc _).drewN 1).trans hw); clear hw) | (go_at_call 50; (with_reducible refine (below_any _ _ _ _ _ _ HW2.out.rdr.drew (by decide) (by decide)).mono ?_); rintro e w3 ⟨⟨z, hz1, hz2, rfl⟩, hw⟩; obtain ⟨u, hu, hcu⟩ := tab_cell (m := 1) (heap_alloc_new w3 (.cells #[.string ⟨#[0]⟩, .string ⟨#[55]⟩, .string ⟨#[255]⟩, .string ⟨#[32]⟩] 9)) (by decide) z hz1 (Int.lt_of_le_of_lt hz2 (by decide)); have HW3 := Lib.hid ((HW2.out.drewN 1).trans hw); clear hw))
    all_goals (clear hwr hj2; go_wp2; go_ret; refine ⟨⟨_, ?_, rfl⟩, ?_⟩)
    all_goals first | exact HW3.out | exact HW3.out.alloc _ | (simp only [ByteArray.size_append, ByteArray.size_extract]; omega)
  · go_ret
    exact ⟨⟨s, by omega, rfl⟩, HW.out⟩
  · refine (below_any _ _ _ _ _ _ (HW.out.rdr.alloc _) (by omega) (by omega)).mono ?_
    rintro e w2 ⟨⟨y, hy1, hy2, rfl⟩, hw⟩
    obtain ⟨u, hu, hcu⟩ := tab_cell (m := 1) (hw.block (k := w1.heap.size) (heap_alloc_new _ _) (Nat.ne_of_gt HW.out.rdr.lt)) (by decide) y hy1 (by show y < 4; omega)
    have HW2 := Lib.hid ((HW.out.alloc _).trans hw)
    clear hw
    go_wp2
    go_ret
    refine ⟨⟨_, ?_, rfl⟩, HW2.out⟩
    rw [ByteArray.size_append]; omega
  · go_ret
    exact ⟨⟨s, by omega, rfl⟩, HW.out⟩
end Go.Proofs.YthnlllbanfemaaaGreatDoor
