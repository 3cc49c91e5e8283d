
/- The model's reader, more: rec: a drawn record whose key has at most 41 bytes; only the reader's position and new blocks change. -/
import Derived.Test.YtldjahemgkkpbaaRd3
import Derived.Test.YtldjahemgkkpbaaRec
import Derived.Test.YtldjahemgkkpbaaLine
namespace Go.Proofs.Ytldjahemgkkpbaa
open Go.ChangeShapes Go.WideShapes Go.ChangeAt Go.RowKit
set_option linter.unusedVariables false
set_option maxRecDepth 100000

theorem block_alloc {w : World} {B : Nat} (h : B < w.heap.size) (o : Obj) : (w.alloc o).heap[B]? = w.heap[B]? := by
  show (w.heap.push o)[B]? = _
  rw [Array.getElem?_push, if_neg (Nat.ne_of_lt h)]

theorem frozen_none {w : World} {B : Nat} {E : TypeId} {cur : Array Value} (h : w.heap[B]? = some (.cells cur E (0, 0))) {j : Nat} : w.frozen? ⟨B, j, none⟩ = false := by simp [World.frozen?, h]

theorem block_set {w : World} {B : Nat} {E : TypeId} {cur : Array Value} (h : w.heap[B]? = some (.cells cur E (0, 0))) (j : Nat) (x : Value) : (w.setCell ⟨B, j, none⟩ x).heap[B]? = some (.cells (cur.setIfInBounds j x) E (0, 0)) := by
  have hlt := lt_of_block h
  have h' : w.heap[B] = .cells cur E (0, 0) := by simpa [Array.getElem?_eq_getElem hlt] using h
  show (w.heap.modify B _)[B]? = _
  rw [Array.getElem?_eq_getElem (by simpa using hlt), Array.getElem_modify_self, h']
  rfl

theorem Went.put {w w1 : World} {r : Nat} {a : Option Addr} {len cap : Nat} (h : Went w r a len cap w1) {B : Nat} (hB : w.heap.size ≤ B) (hr : r < B) (j : Nat) (v : Value) : Went w r a len cap (w1.setCell ⟨B, j, none⟩ v) :=
  ⟨⟨h.grown.os, h.grown.tape, h.grown.output, by simpa [World.setCell] using h.grown.size, fun k hk hn => (Below.heap_setCell _ _ _ _ (show k ≠ B by omega)).trans (h.grown.block k hk hn)⟩, h.rdr.below ((Below.refl _ _).setCell (show r + 1 ≤ B by omega) _)⟩

def RdRec (w : World) (r : Nat) (a : Option Addr) (len cap : Nat) (e : Ending) (w' : World) : Prop := (∃ (s : ByteArray) (n : Int), s.size ≤ 41 ∧ (Lit.int .i64 n).wf = true ∧ e = .returned (recV s n)) ∧ Went w r a len cap w'

set_option maxHeartbeats 1000000 in
theorem rec_any (w : World) (r : Nat) (a : Option Addr) (len cap : Nat) (h : Rdr w r a len cap) :
    Calls Try.prog 53 #[.pointer (some ⟨r, 0, none⟩)] w (RdRec w r a len cap) := by
  have HG := Lib.hid (Went.refl h)
  have HG0 := HG
  clear h
  go_enter Try.func53, Try.ntmps53
  go_wp2_with fail
  refine (word1_any _ _ _ _ _ (HG.out.rdr.alloc _)).mono ?_
  rintro e w1 ⟨⟨s, hs, rfl⟩, hw⟩
  have hb := hw.block (k := w.heap.size) (heap_alloc_new _ _) (Nat.ne_of_gt HG.out.rdr.lt)
  have HB := Lib.hid hb
  have HG := Lib.hid ((HG.out.alloc _).trans hw)
  clear hw hb
  go_wp2_with fail
  refine (num_any _ _ _ _ _ HG.out.rdr).mono ?_
  rintro e w2 ⟨⟨n, hn, rfl⟩, hw⟩
  have HN := Lib.hid hn
  have hne : w.heap.size ≠ r := Nat.ne_of_gt HG0.out.rdr.lt
  have HB2 := Lib.hid (hw.block (k := w.heap.size) HB.out hne)
  have HG := Lib.hid (HG.out.trans hw)
  clear hw hn
  go_wp2_with fail
  have hb2 := HB2.out
  refine (below_any _ _ _ _ _ _ (HG.out.rdr.alloc _) (by decide) (by decide)).mono ?_
  rintro e w3 ⟨⟨y, hy1, hy2, rfl⟩, hw⟩
  have hx := hw.block (k := w2.heap.size) (heap_alloc_new _ _) (Nat.ne_of_gt HG.out.rdr.lt)
  have hr := hw.block (k := w.heap.size) ((block_alloc (lt_of_block hb2) _).trans hb2) hne
  have hc0 : w3.cell? ⟨w2.heap.size, 0, none⟩ = some (.string s) := by simp [World.cell?, hx]
  have hc1 : w3.cell? ⟨w2.heap.size, 1, none⟩ = some (.int .i64 n) := by simp [World.cell?, hx]
  have hf : w3.frozen? ⟨w2.heap.size, 0, none⟩ = false := frozen_none hx
  have hr0 : w3.cell? ⟨w.heap.size, 0, none⟩ = some (.string ⟨#[]⟩) := by simp [World.cell?, hr]
  have hr1 : w3.cell? ⟨w.heap.size, 1, none⟩ = some (.int .i64 0) := by simp [World.cell?, hr]
  have hg0 : w3.frozen? ⟨w.heap.size, 0, none⟩ = false := frozen_none hr
  have hg1 : w3.frozen? ⟨w.heap.size, 1, none⟩ = false := frozen_none hr
  have hlt : w.heap.size ≠ w2.heap.size := Nat.ne_of_lt (lt_of_block hb2)
  have HX := Lib.hid hx
  have HR := Lib.hid hr
  have HG := Lib.hid ((HG.out.alloc _).trans hw)
  have hrw2 := Lib.hid (show r < w2.heap.size from Nat.lt_trans HG0.out.rdr.lt (lt_of_block hb2))
  have hge := Lib.hid (show w.heap.size ≤ w2.heap.size from Nat.le_of_lt (lt_of_block hb2))
  clear hw hx hr hb2
  obtain ⟨i0, hi, hz0, hz1, hz2⟩ := info_parts infoByte
  go_wp2_with fail
  · refine (below_any _ _ _ _ _ _ HG.out.rdr (by decide) (by decide)).mono ?_
    rintro e w4 ⟨⟨z, hz3, hz4, rfl⟩, hw⟩
    have hx := hw.block HX.out (Nat.ne_of_gt hrw2.out)
    have hr := hw.block HR.out hne
    have HG := Lib.hid (HG.out.trans hw)
    clear hw hc0 hc1 hf hr0 hr1 hg0 hg1
    have HX := Lib.hid hx
    have HR := Lib.hid hr
    clear hx hr
    obtain ⟨m, hm⟩ : ∃ m : Nat, 39 + z = (m : Int) := ⟨(39 + z).toNat, by omega⟩
    have hm41 : m ≤ 41 := by omega
    go_wp2_with (at_make; go_loud (refine wpList_make_full _ rfl _ _ 22 rfl w4.heap.size 5 i0 _ 1 Try.underlying22 hi hz0 hz1 .i64 .i64 _ _ m rfl rfl rfl rfl (by rw [hz2]; omega) (by unfold maxLen; omega) (Nat.le_refl _) ?_); intro w5 hown hgrow; have hzt := zeros_text hown; have hzs := Lib.hid (show (strOfNums (List.replicate m 0)).size ≤ 41 by simp [strOfNums, ByteArray.size]; omega); have HG := Lib.hid (Went.mk (grown_trans HG.out.grown ⟨hgrow.os, hgrow.tape, hgrow.output, hgrow.size, fun k hk _ => hgrow.block k hk (by simp)⟩) (HG.out.rdr.below ⟨hgrow.os, hgrow.tape, hgrow.output, hgrow.size, fun k hk => hgrow.block k (by have := HG.out.rdr.lt; omega) (by simp)⟩) : Went w r a len cap w5); have hx := (hgrow.block _ (lt_of_block HX.out) (by simp)).trans HX.out; have hr := (hgrow.block _ (lt_of_block HR.out) (by simp)).trans HR.out; have hc0 : w5.cell? ⟨w2.heap.size, 0, none⟩ = some (.string s) := (by simp [World.cell?, hx]); have hc1 : w5.cell? ⟨w2.heap.size, 1, none⟩ = some (.int .i64 n) := (by simp [World.cell?, hx]); have hf : w5.frozen? ⟨w2.heap.size, 0, none⟩ = false := frozen_none hx; have hr0 : w5.cell? ⟨w.heap.size, 0, none⟩ = some (.string ⟨#[]⟩) := (by simp [World.cell?, hr]); have hr1 : w5.cell? ⟨w.heap.size, 1, none⟩ = some (.int .i64 0) := (by simp [World.cell?, hr]); have hg0 : w5.frozen? ⟨w.heap.size, 0, none⟩ = false := frozen_none hr; have hg1 : w5.frozen? ⟨w.heap.size, 1, none⟩ = false := frozen_none hr; have HR := Lib.hid hr; clear hown hgrow hx hr)
    have hb := block_set (block_set ((Below.heap_setCell w5 ⟨w2.heap.size, 0, none⟩ (.string (strOfNums (List.replicate m 0))) _ hlt).trans HR.out) 0 (.string (strOfNums (List.replicate m 0)))) 1 (.int .i64 n)
    exact bodyPost_ret (v := recV (strOfNums (List.replicate m 0)) n) (by simp [results, Try.results53, go_sem, World.cell?, hb, recV]) rfl ⟨⟨_, n, hzs.out, HN.out, rfl⟩, ((HG.out.put hge.out hrw2.out _ _).put (Nat.le_refl _) HG0.out.rdr.lt _ _).put (Nat.le_refl _) HG0.out.rdr.lt _ _⟩
  · have hb := block_set (block_set ((Below.heap_setCell w3 ⟨w2.heap.size, 0, none⟩ (.string ⟨#[]⟩) _ hlt).trans HR.out) 0 (.string ⟨#[]⟩)) 1 (.int .i64 n)
    exact bodyPost_ret (v := recV ⟨#[]⟩ n) (by simp [results, Try.results53, go_sem, World.cell?, hb, recV]) rfl ⟨⟨_, n, by decide, HN.out, rfl⟩, ((HG.out.put hge.out hrw2.out _ _).put (Nat.le_refl _) HG0.out.rdr.lt _ _).put (Nat.le_refl _) HG0.out.rdr.lt _ _⟩
  · have hb := block_set (block_set HR.out 0 (.string s)) 1 (.int .i64 n)
    exact bodyPost_ret (v := recV s n) (by simp [results, Try.results53, go_sem, World.cell?, hb, recV]) rfl ⟨⟨s, n, Nat.le_trans hs (by decide), HN.out, rfl⟩, (HG.out.put (Nat.le_refl _) HG0.out.rdr.lt _ _).put (Nat.le_refl _) HG0.out.rdr.lt _ _⟩
end Go.Proofs.Ytldjahemgkkpbaa
