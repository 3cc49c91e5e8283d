
/- The model's reader, more: once, word, near, off, word1, and how a reader is opened: bounds on what is returned; only the reader's position and new blocks change. -/
import Derived.Test.YtldjahemgkkpbaaRd
namespace Go.Proofs.Ytldjahemgkkpbaa
open Go.ChangeShapes Go.WideShapes Go.ChangeAt Go.RowKit
set_option linter.unusedVariables false
set_option maxRecDepth 100000

def RdBool (w : World) (r : Nat) (a : Option Addr) (len cap : Nat) (e : Ending) (w' : World) : Prop := (∃ x : Bool, e = .returned (.bool x)) ∧ Went w r a len cap w'
def RdWf (k : IntKind) (w : World) (r : Nat) (a : Option Addr) (len cap : Nat) (e : Ending) (w' : World) : Prop := (∃ x : Int, (Lit.int k x).wf = true ∧ e = .returned (.int k x)) ∧ Went w r a len cap w'
def RdStr (m : Nat) (w : World) (r : Nat) (a : Option Addr) (len cap : Nat) (e : Ending) (w' : World) : Prop := (∃ s : ByteArray, s.size ≤ m ∧ e = .returned (.string s)) ∧ Went w r a len cap w'

theorem once_any (n : Int) (w : World) (r : Nat) (a : Option Addr) (len cap : Nat) (h : Rdr w r a len cap) (h1 : 1 ≤ n) (h2 : n ≤ 4611686018427387904) :
    Calls Try.prog 50 #[.pointer (some ⟨r, 0, none⟩), .int .i64 n] w (RdBool w r a len cap) := by
  have H := Lib.hid h
  clear h
  go_enter Try.func50, Try.ntmps50
  go_wp2_with (go_at_call 32; refine (below_any _ _ _ _ _ _ H.out h1 h2).mono ?_; rintro e w1 ⟨⟨x, hx1, hx2, rfl⟩, hw⟩; have HW := Lib.hid hw; clear hw)
  go_ret
  exact ⟨⟨_, rfl⟩, HW.out⟩

set_option maxHeartbeats 1000000 in
theorem word_any (w : World) (r : Nat) (a : Option Addr) (len cap : Nat) (h : Rdr w r a len cap) :
    Calls Try.prog 73 #[.pointer (some ⟨r, 0, none⟩)] w (RdWf .u64 w r a len cap) := by
  have H := Lib.hid h
  clear h
  go_enter Try.func73, Try.ntmps73
  go_wp2
  go_loopw [3, 4] (fun x i wr => ∃ k : Nat, k ≤ 8 ∧ i = .int .i64 k ∧ (∃ X : Int, (Lit.int .u64 X).wf = true ∧ x = .int .u64 X) ∧ Hid (Went w r a len cap wr)) (fun _ i _ => 8 - (intOf i).toNat)
  case atStart => exact ⟨0, by omega, rfl, ⟨0, by decide, rfl⟩, Went.refl H.out⟩
  case round =>
    obtain ⟨k, hk, rfl, ⟨X, hX, rfl⟩, hw⟩ := hrel
    have hX2 := bounds_u64 hX
    have HX := Lib.hid hX
    clear H hX
    by_cases hlt : k < 8
    · go_wp2_with (go_at_call 49; refine (rnext_any _ _ _ _ _ hw.out.rdr).mono ?_; rintro e w1 ⟨⟨y, hy1, hy2, rfl⟩, hw1⟩; have H1 := Lib.hid (hw.out.trans hw1); clear hw1 hw)
      go_roundw
      case rel => exact ⟨k + 1, by omega, by go_num, ⟨_, wf_bits _ _ _ _, rfl⟩, H1⟩
      case measure => simp [intOf]; omega
    · go_wp2
      go_ret
      exact ⟨⟨X, HX.out, rfl⟩, hw.out⟩

theorem near_math (lo hi y : Int) (h1 : lo ≤ hi) (h2 : -1152921504606846976 ≤ lo) (h3 : hi ≤ 1152921504606846976) :
    lo ≤ wrap64 (lo + wrap64 (y / 2 % (hi - lo + 1))) ∧ wrap64 (lo + wrap64 (y / 2 % (hi - lo + 1))) ≤ hi := by
  have e1 := Int.emod_nonneg (y / 2) (show hi - lo + 1 ≠ 0 by omega)
  have e2 := Int.emod_lt_of_pos (y / 2) (show 0 < hi - lo + 1 by omega)
  rw [IntWalk.wrap64_in (y / 2 % (hi - lo + 1)) (by omega), IntWalk.wrap64_in _ (by omega)]
  omega

set_option maxHeartbeats 1000000 in
theorem near_any (lo hi : Int) (w : World) (r : Nat) (a : Option Addr) (len cap : Nat) (h : Rdr w r a len cap) (h1 : lo ≤ hi) (h2 : -1152921504606846976 ≤ lo) (h3 : hi ≤ 1152921504606846976) :
    Calls Try.prog 65 #[.pointer (some ⟨r, 0, none⟩), .int .i64 lo, .int .i64 hi] w (RdInt lo hi w r a len cap) := by
  have H := Lib.hid h
  clear h
  go_enter Try.func65, Try.ntmps65
  go_wp2_with (first | (go_at_call 32; refine (below_any _ _ _ _ _ _ H.out (by omega) (by omega)).mono ?_; rintro e w1 ⟨⟨x, hx1, hx2, rfl⟩, hw⟩; have HW := Lib.hid hw; clear hw) | (go_at_call 73; refine (word_any _ _ _ _ _ HW.out.rdr).mono ?_; rintro e w2 ⟨⟨y, hy, rfl⟩, hw⟩; have hyb := bounds_u64 hy; clear hy; have HW2 := Lib.hid (HW.out.trans hw); clear hw))
  · go_ret
    exact RdInt.mk _ (by omega) (by omega) HW.out
  · go_ret
    exact RdInt.mk _ (by omega) (by omega) HW.out
  · have hn := near_math lo hi y h1 h2 h3
    go_ret
    exact RdInt.mk _ hn.1 hn.2 HW2.out

/-- Every cell of a table is a text of at most m bytes. -/
def allStr (m : Nat) (cs : Array Value) : Bool := cs.toList.all fun v => match v with | .string s => decide (s.size ≤ m) | _ => false
theorem tab_cell {w : World} {B m : Nat} {cs : Array Value} {t : TypeId} (h : w.heap[B]? = some (.cells cs t (0, 0))) (hs : allStr m cs = true) (x : Int) (h1 : 0 ≤ x) (h2 : x < cs.size) :
    ∃ s : ByteArray, s.size ≤ m ∧ w.cell? ⟨B, x.toNat, none⟩ = some (.string s) := by
  have hj : x.toNat < cs.size := by omega
  have h3 := List.all_eq_true.1 hs cs[x.toNat] (by simp)
  have h4 : w.cell? ⟨B, x.toNat, none⟩ = some cs[x.toNat] := by simp [World.cell?, h, hj]
  revert h3 h4
  generalize cs[x.toNat] = v
  intro h3 h4
  cases v <;> simp at h3
  exact ⟨_, h3, h4⟩

/-- Every cell of a table is a number of kind k. -/
def allInt (k : IntKind) (cs : Array Value) : Bool := cs.toList.all fun v => match v with | .int k' n => k' == k && (Lit.int k n).wf | _ => false
theorem int_cell {w : World} {B : Nat} {k : IntKind} {cs : Array Value} {t : TypeId} (h : w.heap[B]? = some (.cells cs t (0, 0))) (hs : allInt k cs = true) (x : Int) (h1 : 0 ≤ x) (h2 : x < cs.size) :
    ∃ n : Int, (Lit.int k n).wf = true ∧ w.cell? ⟨B, x.toNat, none⟩ = some (.int k n) := by
  have hj : x.toNat < cs.size := by omega
  have h3 := List.all_eq_true.1 hs cs[x.toNat] (by simp)
  have h4 : w.cell? ⟨B, x.toNat, none⟩ = some cs[x.toNat] := by simp [World.cell?, h, hj]
  revert h3 h4
  generalize cs[x.toNat] = v
  intro h3 h4
  cases v <;> simp at h3
  obtain ⟨rfl, h5⟩ := h3
  exact ⟨_, h5, h4⟩

set_option maxHeartbeats 1000000 in
theorem word1_any (w : World) (r : Nat) (a : Option Addr) (len cap : Nat) (h : Rdr w r a len cap) :
    Calls Try.prog 66 #[.pointer (some ⟨r, 0, none⟩)] w (RdStr 5 w r a len cap) := by
  have H := Lib.hid h
  clear h
  go_enter Try.func66, Try.ntmps66
  go_wp2_with (go_at_call 32; refine (below_any _ _ _ _ _ _ (H.out.alloc _) (by omega) (by omega)).mono ?_; rintro e w1 ⟨⟨x, hx1, hx2, rfl⟩, hw⟩; obtain ⟨s, hs, hcs⟩ := tab_cell (m := 5) (hw.block (k := w.heap.size) (heap_alloc_new _ _) (Nat.ne_of_gt H.out.lt)) (by decide) x hx1 (by show x < 12; omega); have HS := Lib.hid hs; have HW := Lib.hid (((Went.refl H.out).alloc _).trans hw); clear hw hs)
  go_ret
  exact ⟨⟨s, HS.out, rfl⟩, HW.out⟩

/-- What is told of a slice of bytes that came in: each byte is there. -/
def Src (w : World) (a : Option Addr) (len : Nat) : Prop := len ≤ maxLen ∧ (len = 0 ∨ ∃ b off, a = some ⟨b, off, none⟩ ∧ b < w.heap.size ∧ ∀ i, i < len → ∃ z : Nat, z < 256 ∧ w.cell? ⟨b, off + i, none⟩ = some (.int .u8 z))

theorem Rdr.new (w : World) (a : Option Addr) (len cap : Nat) (t : TypeId) (h : Src w a len) : Rdr (w.alloc (.cells #[.slice a len cap, .int .i64 0] t)) w.heap.size a len cap where
  lt := by simp
  code := cell_two_new w (Value.slice a len cap) (Value.int IntKind.i64 0) t 0 _ rfl
  pos := ⟨0, Nat.zero_le _, cell_two_new w (Value.slice a len cap) (Value.int IntKind.i64 0) t 1 _ rfl⟩
  free := by simp only [World.frozen?, heap_alloc_new]; rfl
  max := h.1
  src := by
    rcases h.2 with h0 | ⟨b, off, ha, hb, hz⟩
    · exact .inl h0
    · refine .inr ⟨b, off, ha, hb, fun i hi => ?_⟩
      obtain ⟨z, hz1, hz2⟩ := hz i hi
      exact ⟨z, hz1, (((Below.refl w.heap.size w).alloc (Nat.le_refl _) _).cell (p := ⟨b, off + i, none⟩) hb).trans hz2⟩

theorem open_any (w : World) (a : Option Addr) (len cap : Nat) (h : Src w a len) :
    Calls Try.prog 31 #[.slice a len cap] w fun e w' => e = .returned (.pointer (some ⟨w.heap.size, 0, none⟩)) ∧ Below w.heap.size w w' ∧ Rdr w' w.heap.size a len cap := by
  have H := Lib.hid h
  clear h
  go_enter Try.func31, Try.ntmps31
  go_wp2
  go_ret
  exact ⟨rfl, (Below.refl _ _).alloc (Nat.le_refl _) _, Rdr.new _ _ _ _ _ H.out⟩

set_option maxHeartbeats 1000000 in
theorem off_any (lo hi : Int) (w : World) (r : Nat) (a : Option Addr) (len cap : Nat) (h : Rdr w r a len cap) (h1 : lo ≤ hi) (h2 : -1152921504606846976 ≤ lo) (h3 : hi ≤ 1152921504606846976) :
    Calls Try.prog 51 #[.pointer (some ⟨r, 0, none⟩), .int .i64 lo, .int .i64 hi] w (RdWf .i64 w r a len cap) := by
  have H := Lib.hid h
  clear h
  go_enter Try.func51, Try.ntmps51
  go_wp2_with (first | (go_at_call 50; refine (once_any _ _ _ _ _ _ H.out (by omega) (by omega)).mono ?_; rintro e w1 ⟨⟨x, rfl⟩, hw⟩; have HW := Lib.hid hw; clear hw) | (go_at_call 65; refine (near_any _ _ _ _ _ _ _ HW.out.rdr h1 h2 h3).mono ?_; rintro e w2 ⟨⟨y, hy1, hy2, rfl⟩, hw⟩; have HW2 := Lib.hid (HW.out.trans hw); clear hw) | (go_at_call 32; refine (below_any _ _ _ _ _ _ (HW.out.rdr.alloc _) (by omega) (by omega)).mono ?_; rintro e w2 ⟨⟨y, hy1, hy2, rfl⟩, hw⟩; have HW2 := Lib.hid ((HW.out.alloc _).trans hw); obtain ⟨z, hz, hcz⟩ := int_cell (k := .i64) (hw.block (k := w1.heap.size) (heap_alloc_new _ _) (Nat.ne_of_gt HW.out.rdr.lt)) (by simp [allInt, Lit.wf, IntKind.min, IntKind.max, IntKind.bits, IntKind.signed]; omega) y hy1 (by show y < 4; omega); have HZ := Lib.hid hz; clear hw hz))
  · go_ret
    exact ⟨⟨_, HZ.out, rfl⟩, HW2.out⟩
  · go_ret
    exact ⟨⟨y, WalkArith.wf_i64 (by omega), rfl⟩, HW2.out⟩
end Go.Proofs.Ytldjahemgkkpbaa
