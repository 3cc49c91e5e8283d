/- Texts put together, as a claim holds at most sixty files. -/
import Derived.Test.YtblpebdjbenphaaGreatDoorMg4
import Derived.Deep.RegionWith
import Derived.Test.YtblpebdjbenphaaGreatDoorRows
import Derived.WalkKit
import Derived.LaidEql
import Derived.Stop.Asserts
import Derived.Stop.LaidTwo
import Derived.RowKitTokens
import Derived.Lib.Hide
namespace Go.Proofs.YtblpebdjbenphaaGreatDoor
open Go.ChangeShapes Go.WideShapes Go.ChangeAt Go.RowKit
set_option linter.unusedVariables false
set_option maxRecDepth 100000

def RdBool (w : World) (r : Nat) (a : Option Addr) (len cap : Nat) (e : Ending) (w' : World) : Prop := (∃ x : Bool, e = .returned (.bool x)) ∧ Went w r a len cap w'
def RdWf (k : IntKind) (w : World) (r : Nat) (a : Option Addr) (len cap : Nat) (e : Ending) (w' : World) : Prop := (∃ x : Int, (Lit.int k x).wf = true ∧ e = .returned (.int k x)) ∧ Went w r a len cap w'
def RdStr (m : Nat) (w : World) (r : Nat) (a : Option Addr) (len cap : Nat) (e : Ending) (w' : World) : Prop := (∃ s : ByteArray, s.size ≤ m ∧ e = .returned (.string s)) ∧ Went w r a len cap w'

theorem once_any (n : Int) (w : World) (r : Nat) (a : Option Addr) (len cap : Nat) (h : Rdr w r a len cap) (h1 : 1 ≤ n) (h2 : n ≤ 4611686018427387904) :
    Calls Tryz.prog 28 #[.pointer (some ⟨r, 0, none⟩), .int .i64 n] w (RdBool w r a len cap) := by
  have H := Lib.hid h
  clear h
  go_enter Tryz.func28, Tryz.ntmps28
  go_wp2_with (go_at_call 30; refine (below_any _ _ _ _ _ _ H.out h1 h2).mono ?_; rintro e w1 ⟨⟨x, hx1, hx2, rfl⟩, hw⟩; have HW := Lib.hid hw; clear hw)
  go_ret
  exact ⟨⟨_, rfl⟩, HW.out⟩

set_option maxHeartbeats 1000000 in
theorem word_any (w : World) (r : Nat) (a : Option Addr) (len cap : Nat) (h : Rdr w r a len cap) :
    Calls Tryz.prog 66 #[.pointer (some ⟨r, 0, none⟩)] w (RdWf .u64 w r a len cap) := by
  have H := Lib.hid h
  clear h
  go_enter Tryz.func66, Tryz.ntmps66
  go_wp2
  go_loopw [3, 4] (fun x i wr => ∃ k : Nat, k ≤ 8 ∧ i = .int .i64 k ∧ (∃ X : Int, (Lit.int .u64 X).wf = true ∧ x = .int .u64 X) ∧ Hid (Went w r a len cap wr)) (fun _ i _ => 8 - (intOf i).toNat)
  case atStart => exact ⟨0, by omega, rfl, ⟨0, by decide, rfl⟩, Went.refl H.out⟩
  case round =>
    obtain ⟨k, hk, rfl, ⟨X, hX, rfl⟩, hw⟩ := hrel
    have hX2 := bounds_u64 hX
    have HX := Lib.hid hX
    clear H hX
    by_cases hlt : k < 8
    · go_wp2_with (go_at_call 49; refine (rnext_any _ _ _ _ _ hw.out.rdr).mono ?_; rintro e w1 ⟨⟨y, hy1, hy2, rfl⟩, hw1⟩; have H1 := Lib.hid (hw.out.trans hw1); clear hw1 hw)
      go_roundw
      case rel => exact ⟨k + 1, by omega, by go_num, ⟨_, wf_bits _ _ _ _, rfl⟩, H1⟩
      case measure => simp [intOf]; omega
    · go_wp2
      go_ret
      exact ⟨⟨X, HX.out, rfl⟩, hw.out⟩

theorem near_math (lo hi y : Int) (h1 : lo ≤ hi) (h2 : -1152921504606846976 ≤ lo) (h3 : hi ≤ 1152921504606846976) :
    lo ≤ wrap64 (lo + wrap64 (y / 2 % (hi - lo + 1))) ∧ wrap64 (lo + wrap64 (y / 2 % (hi - lo + 1))) ≤ hi := by
  have e1 := Int.emod_nonneg (y / 2) (show hi - lo + 1 ≠ 0 by omega)
  have e2 := Int.emod_lt_of_pos (y / 2) (show 0 < hi - lo + 1 by omega)
  rw [IntWalk.wrap64_in (y / 2 % (hi - lo + 1)) (by omega), IntWalk.wrap64_in _ (by omega)]
  omega

set_option maxHeartbeats 1000000 in
theorem near_any (lo hi : Int) (w : World) (r : Nat) (a : Option Addr) (len cap : Nat) (h : Rdr w r a len cap) (h1 : lo ≤ hi) (h2 : -1152921504606846976 ≤ lo) (h3 : hi ≤ 1152921504606846976) :
    Calls Tryz.prog 48 #[.pointer (some ⟨r, 0, none⟩), .int .i64 lo, .int .i64 hi] w (RdInt lo hi w r a len cap) := by
  have H := Lib.hid h
  clear h
  go_enter Tryz.func48, Tryz.ntmps48
  go_wp2_with (first | (go_at_call 30; refine (below_any _ _ _ _ _ _ H.out (by omega) (by omega)).mono ?_; rintro e w1 ⟨⟨x, hx1, hx2, rfl⟩, hw⟩; have HW := Lib.hid hw; clear hw) | (go_at_call 66; refine (word_any _ _ _ _ _ HW.out.rdr).mono ?_; rintro e w2 ⟨⟨y, hy, rfl⟩, hw⟩; have hyb := bounds_u64 hy; clear hy; have HW2 := Lib.hid (HW.out.trans hw); clear hw))
  · go_ret
    exact RdInt.mk _ (by omega) (by omega) HW.out
  · go_ret
    exact RdInt.mk _ (by omega) (by omega) HW.out
  · have hn := near_math lo hi y h1 h2 h3
    go_ret
    exact RdInt.mk _ hn.1 hn.2 HW2.out

/-- Every cell of a table is a text of at most m bytes. -/
def allStr (m : Nat) (cs : Array Value) : Bool := cs.toList.all fun v => match v with | .string s => decide (s.size ≤ m) | _ => false
theorem tab_cell {w : World} {B m : Nat} {cs : Array Value} {t : TypeId} (h : w.heap[B]? = some (.cells cs t (0, 0))) (hs : allStr m cs = true) (x : Int) (h1 : 0 ≤ x) (h2 : x < cs.size) :
    ∃ s : ByteArray, s.size ≤ m ∧ w.cell? ⟨B, x.toNat, none⟩ = some (.string s) := by
  have hj : x.toNat < cs.size := by omega
  have h3 := List.all_eq_true.1 hs cs[x.toNat] (by simp)
  have h4 : w.cell? ⟨B, x.toNat, none⟩ = some cs[x.toNat] := by simp [World.cell?, h, hj]
  revert h3 h4
  generalize cs[x.toNat] = v
  intro h3 h4
  cases v <;> simp at h3
  exact ⟨_, h3, h4⟩

/-- Every cell of a table is a number of kind k. -/
def allInt (k : IntKind) (cs : Array Value) : Bool := cs.toList.all fun v => match v with | .int k' n => k' == k && (Lit.int k n).wf | _ => false
theorem int_cell {w : World} {B : Nat} {k : IntKind} {cs : Array Value} {t : TypeId} (h : w.heap[B]? = some (.cells cs t (0, 0))) (hs : allInt k cs = true) (x : Int) (h1 : 0 ≤ x) (h2 : x < cs.size) :
    ∃ n : Int, (Lit.int k n).wf = true ∧ w.cell? ⟨B, x.toNat, none⟩ = some (.int k n) := by
  have hj : x.toNat < cs.size := by omega
  have h3 := List.all_eq_true.1 hs cs[x.toNat] (by simp)
  have h4 : w.cell? ⟨B, x.toNat, none⟩ = some cs[x.toNat] := by simp [World.cell?, h, hj]
  revert h3 h4
  generalize cs[x.toNat] = v
  intro h3 h4
  cases v <;> simp at h3
  obtain ⟨rfl, h5⟩ := h3
  exact ⟨_, h5, h4⟩

/-- What is told of a slice of bytes that came in: each byte is there. -/
def Src (w : World) (a : Option Addr) (len : Nat) : Prop := len ≤ maxLen ∧ (len = 0 ∨ ∃ b off, a = some ⟨b, off, none⟩ ∧ b < w.heap.size ∧ ∀ i, i < len → ∃ z : Nat, z < 256 ∧ w.cell? ⟨b, off + i, none⟩ = some (.int .u8 z))

theorem Rdr.new (w : World) (a : Option Addr) (len cap : Nat) (t : TypeId) (h : Src w a len) : Rdr (w.alloc (.cells #[.slice a len cap, .int .i64 0] t)) w.heap.size a len cap where
  lt := by simp
  code := cell_two_new w (Value.slice a len cap) (Value.int IntKind.i64 0) t 0 _ rfl
  pos := ⟨0, Nat.zero_le _, cell_two_new w (Value.slice a len cap) (Value.int IntKind.i64 0) t 1 _ rfl⟩
  free := by simp only [World.frozen?, heap_alloc_new]; rfl
  max := h.1
  src := by
    rcases h.2 with h0 | ⟨b, off, ha, hb, hz⟩
    · exact .inl h0
    · refine .inr ⟨b, off, ha, hb, fun i hi => ?_⟩
      obtain ⟨z, hz1, hz2⟩ := hz i hi
      exact ⟨z, hz1, (((Below.refl w.heap.size w).alloc (Nat.le_refl _) _).cell (p := ⟨b, off + i, none⟩) hb).trans hz2⟩

theorem open_any (w : World) (a : Option Addr) (len cap : Nat) (h : Src w a len) :
    Calls Tryz.prog 27 #[.slice a len cap] w fun e w' => e = .returned (.pointer (some ⟨w.heap.size, 0, none⟩)) ∧ Below w.heap.size w w' ∧ Rdr w' w.heap.size a len cap := by
  have H := Lib.hid h
  clear h
  go_enter Tryz.func27, Tryz.ntmps27
  go_wp2
  go_ret
  exact ⟨rfl, (Below.refl _ _).alloc (Nat.le_refl _) _, Rdr.new _ _ _ _ _ H.out⟩

set_option maxHeartbeats 1000000 in
theorem off_any (lo hi : Int) (w : World) (r : Nat) (a : Option Addr) (len cap : Nat) (h : Rdr w r a len cap) (h1 : lo ≤ hi) (h2 : -1152921504606846976 ≤ lo) (h3 : hi ≤ 1152921504606846976) :
    Calls Tryz.prog 29 #[.pointer (some ⟨r, 0, none⟩), .int .i64 lo, .int .i64 hi] w (RdWf .i64 w r a len cap) := by
  have H := Lib.hid h
  clear h
  go_enter Tryz.func29, Tryz.ntmps29
  go_wp2_with (first | (go_at_call 28; refine (once_any _ _ _ _ _ _ H.out (by omega) (by omega)).mono ?_; rintro e w1 ⟨⟨x, rfl⟩, hw⟩; have HW := Lib.hid hw; clear hw) | (go_at_call 48; refine (near_any _ _ _ _ _ _ _ HW.out.rdr h1 h2 h3).mono ?_; rintro e w2 ⟨⟨y, hy1, hy2, rfl⟩, hw⟩; have HW2 := Lib.hid (HW.out.trans hw); clear hw) | (go_at_call 30; refine (below_any _ _ _ _ _ _ (HW.out.rdr.alloc _) (by omega) (by omega)).mono ?_; rintro e w2 ⟨⟨y, hy1, hy2, rfl⟩, hw⟩; have HW2 := Lib.hid ((HW.out.alloc _).trans hw); obtain ⟨z, hz, hcz⟩ := int_cell (k := .i64) (hw.block (k := w1.heap.size) (heap_alloc_new _ _) (Nat.ne_of_gt HW.out.rdr.lt)) (by simp [allInt, Lit.wf, IntKind.min, IntKind.max, IntKind.bits, IntKind.signed]; omega) y hy1 (by show y < 4; omega); have HZ := Lib.hid hz; clear hw hz))
  · go_ret
    exact ⟨⟨_, HZ.out, rfl⟩, HW2.out⟩
  · go_ret
    exact ⟨⟨y, WalkArith.wf_i64 (by omega), rfl⟩, HW2.out⟩
end Go.Proofs.YtblpebdjbenphaaGreatDoor
namespace Go.Proofs.YtblpebdjbenphaaGreatDoor
open Go.ChangeShapes Go.WideShapes Go.ChangeAt Go.RowKit
set_option linter.unusedVariables false
set_option maxRecDepth 100000

theorem src_of {w : World} {a : Option Addr} {len cap : Nat} {zs : List Int}
    (h : (a = none ∧ len = 0 ∧ cap = 0 ∧ zs = []) ∨ ∃ x, a = some x ∧ len ≤ cap ∧ cap ≤ maxLen ∧ zs.length = cap ∧ (∀ i, i < zs.length → w.cell? (x.add i) = some (.int .u8 (zs.getD i 0))) ∧ ∀ n ∈ zs, (Lit.int .u8 n).wf = true) : Src w a len := by
  rcases h with ⟨rfl, rfl, _, _⟩ | ⟨x, rfl, hl, hm, hz, hc, hw⟩
  · exact ⟨Nat.zero_le _, .inl rfl⟩
  · refine ⟨by omega, ?_⟩
    by_cases h0 : len = 0
    · exact .inl h0
    · obtain ⟨b, off, spot⟩ := x
      have hc0 := hc 0 (by omega)
      have hspot : spot = none := by simpa [Addr.add] using World.cell?_spot hc0
      subst hspot
      refine .inr ⟨b, off, rfl, ?_, fun i hi => ?_⟩
      · rcases Nat.lt_or_ge b w.heap.size with h' | h'
        · exact h'
        · simp [World.cell?, Addr.add, Array.getElem?_eq_none h'] at hc0
      · have h1 := hc i (by omega)
        have hmem : zs.getD i 0 ∈ zs := by
          rw [List.getD_eq_getElem?_getD, List.getElem?_eq_getElem (by omega)]
          exact List.getElem_mem _
        have hb := bounds_u8 (hw _ hmem)
        refine ⟨(zs.getD i 0).toNat, by omega, ?_⟩
        rw [Int.toNat_of_nonneg hb.1]
        by_cases hi0 : i = 0
        · subst hi0
          simpa [Addr.add] using h1
        · simpa [Addr.add, hi0] using h1

theorem Src.below {w w' : World} {a : Option Addr} {len : Nat} (h : Src w a len) (hb : Below w.heap.size w w') : Src w' a len := by
  refine ⟨h.1, ?_⟩
  rcases h.2 with h0 | ⟨b, off, ha, hlt, hc⟩
  · exact .inl h0
  · exact .inr ⟨b, off, ha, Nat.lt_of_lt_of_le hlt hb.size, fun i hi => by obtain ⟨z, hz, hcz⟩ := hc i hi; exact ⟨z, hz, (hb.cell (p := ⟨b, off + i, none⟩) hlt).trans hcz⟩⟩

theorem big_yes (a : Option Addr) (len cap : Nat) (w : World) (h : 1048576 < len) : Calls Tryz.prog 5 #[.slice a len cap] w fun e w' => e = .returned (.bool true) ∧ w = w' := by
  have hd : decide ((1048576 : Int) < (len : Int)) = true := by simp; omega
  go_enter Tryz.func5, Tryz.ntmps5
  go_wp2
  go_ret
  exact ⟨rfl, rfl⟩

theorem big_no (a : Option Addr) (len cap : Nat) (w : World) (h : ¬ 1048576 < len) : Calls Tryz.prog 5 #[.slice a len cap] w fun e w' => e = .returned (.bool false) ∧ w = w' := by
  have hd : decide ((1048576 : Int) < (len : Int)) = false := by simp; omega
  go_enter Tryz.func5, Tryz.ntmps5
  go_wp2
  go_ret
  exact ⟨rfl, rfl⟩

/-- What is drawn for PartOf. -/
def DrewPart (w : World) (e : Ending) (w' : World) : Prop := ∃ (s : ByteArray) (n : Int), s.size ≤ 5 ∧ (Lit.int .i64 n).wf = true ∧ e = .returned (.tuple #[.string s, .int .i64 n]) ∧ Below w.heap.size w w'

end Go.Proofs.YtblpebdjbenphaaGreatDoor
namespace Go.Proofs.YtblpebdjbenphaaGreatDoor
open Go.RowKit Go.Extern.Stop Go.Stop Go.Extern
set_option linter.unusedVariables false
set_option maxRecDepth 100000

theorem isTypeOfE (v : Value) (w : World) : (callFunc 62 #[.iface 171 v]).run Tryz.prog w = .ok (.value (.iface 124 (.agg #[.pointer (some ⟨9, 171, none⟩)]))) w := by kernel_rfl
theorem isComparableE (w : World) : (callFunc 136 #[.agg #[.pointer (some ⟨9, 171, none⟩)]]).run Tryz.prog w = .ok (.value (.bool true)) w := by kernel_rfl
theorem isMethodE (v : Value) (w : World) : (Go.method 304 124 v "Comparable").run Tryz.prog w = .ok (136, v) w := by kernel_rfl
theorem isCompE : (Tryz.prog.info? 171).map (·.comparable) = some true := by kernel_rfl
theorem isSizeE : (Tryz.prog.info? 193).map (·.size) = some 1 := by kernel_rfl
theorem noIsE (v : Value) (xT : TypeId) (w : World) : (Instr.typeAssert (.iface 171 v) xT 126 true).run Tryz.prog w = .ok (.tuple #[.nilIface, .bool false]) w := run_typeAssert_lacksB Tryz.underlying126 (by kernel_rfl) (by kernel_rfl) v xT w
theorem noUnE (v : Value) (xT : TypeId) (w : World) : (Instr.typeAssert (.iface 171 v) xT 129 true).run Tryz.prog w = .ok (.tuple #[.nilIface, .bool false]) w := run_typeAssert_lacksB Tryz.underlying129 (by kernel_rfl) (by kernel_rfl) v xT w
theorem noUnsE (v : Value) (xT : TypeId) (w : World) : (Instr.typeAssert (.iface 171 v) xT 131 true).run Tryz.prog w = .ok (.tuple #[.nilIface, .bool false]) w := run_typeAssert_lacksB Tryz.underlying131 (by kernel_rfl) (by kernel_rfl) v xT w

/-- An error of errors.New's make: its block. -/
def ErrAt (w : World) (a : Addr) : Prop := ∃ c t, w.heap[a.block]? = some (.cells c t (0, 0))
theorem ErrAt.lt {w : World} {a : Addr} (h : ErrAt w a) : a.block < w.heap.size := by
  obtain ⟨c, t, h⟩ := h
  exact (Array.getElem?_eq_some_iff.1 h).1
theorem ErrAt.keep {w w1 : World} {a : Addr} (h : ErrAt w a) (hB : Below w.heap.size w w1) : ErrAt w1 a := by
  have hl := h.lt
  obtain ⟨c, t, h⟩ := h
  exact ⟨c, t, (hB.block _ hl).trans h⟩
def errV (a : Addr) : Value := .iface 171 (.pointer (some a))

set_option maxHeartbeats 1000000 in
theorem is_inner (a b : Addr) (w : World) (ha : ErrAt w a) (hb : ErrAt w b) :
    Calls Tryz.prog 63 #[.iface 171 (.pointer (some a)), .iface 171 (.pointer (some b)), .bool true] w fun e w' => e = .returned (.bool (decide (a = b))) ∧ w' = w := by
  obtain ⟨ca, ta, ha⟩ := ha
  obtain ⟨cb, tb, hb⟩ := hb
  obtain ⟨i, hi, hcmp⟩ := Option.map_eq_some_iff.1 isCompE
  obtain ⟨j, hj, hjs⟩ := Option.map_eq_some_iff.1 isSizeE
  have nE := noIsE
  have uE := noUnE
  have vE := noUnsE
  by_cases hab : a = b
  · subst hab
    have hd : decide (a = a) = true := by simp
    rw [hd]
    go_enter Tryz.func63, Tryz.ntmps63
    go_wp2
    go_loopw [0] (fun E' wl => wl = w ∧ E' = .iface 171 (.pointer (some a))) (fun _ _ => 0)
    case atStart => exact ⟨rfl, rfl⟩
    case round =>
      obtain ⟨rfl, rfl⟩ := hrel
      have heq := run_eql_iface_ptr_same (P := Tryz.prog) wr a Tryz.underlying48 Tryz.underlying171 hi hcmp hj
      go_wp2
      go_ret
      exact ⟨rfl, rfl⟩
  · have hd : decide (a = b) = false := by simp [hab]
    rw [hd]
    go_enter Tryz.func63, Tryz.ntmps63
    go_wp2
    go_loopw [0] (fun E' wl => wl = w ∧ E' = .iface 171 (.pointer (some a))) (fun _ _ => 0)
    case atStart => exact ⟨rfl, rfl⟩
    case round =>
      obtain ⟨rfl, rfl⟩ := hrel
      have heq := run_eql_iface_ptr_other (P := Tryz.prog) wr Tryz.underlying48 Tryz.underlying171 hi hcmp hj (by rw [hjs]; decide) hab ha hb
      go_wp2
      go_ret
      exact ⟨rfl, rfl⟩

set_option maxHeartbeats 1000000 in
theorem is_any (a b : Addr) (w : World) (ha : ErrAt w a) (hb : ErrAt w b) :
    Calls Tryz.prog 40 #[.iface 171 (.pointer (some a)), .iface 171 (.pointer (some b))] w fun e w' => e = .returned (.bool (decide (a = b))) ∧ w' = w := by
  have HA := Lib.hid ha
  have HB := Lib.hid hb
  have h1 := isTypeOfE
  have h2 := isComparableE
  have h3 := isMethodE
  clear ha hb
  go_enter Tryz.func40, Tryz.ntmps40
  go_wp2_with (first | (go_at_call 63; refine (is_inner a b _ HA.out HB.out).mono ?_; rintro e w' ⟨rfl, rfl⟩) | go_in)
  go_ret
  exact ⟨rfl, rfl⟩
end Go.Proofs.YtblpebdjbenphaaGreatDoor
