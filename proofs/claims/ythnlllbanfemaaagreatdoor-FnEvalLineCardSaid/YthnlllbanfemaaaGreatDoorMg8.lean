/- Texts put together, as a claim holds at most sixty files. -/
import Derived.Test.YthnlllbanfemaaaGreatDoorMg7
import Derived.Laws.BytesArg
import Derived.OwnWalk
import Derived.Test.YthnlllbanfemaaaGreatDoorMg6
import Derived.Test.YthnlllbanfemaaaGreatDoorMg5
namespace Go.Proofs.YthnlllbanfemaaaGreatDoor
open Go.ChangeShapes Go.WideShapes Go.ChangeAt Go.RowKit
set_option linter.unusedVariables false
set_option maxRecDepth 100000

theorem infoByte : (Tryz.prog.info? 5).map (fun i => (i.zero, i.size, i.bytes)) = some (some (.int .u8 0), 1, 1) := by kernel_rfl

theorem zeros_text {w : World} {base g n : Nat} (hown : w.ownsRow base 5 1 (.slice (some ⟨g, 0, none⟩) n n) n (madeCells (Value.int .u8 0).cells (n * 1)).toList) :
    (convert 40 9 (.slice (some ⟨g, 0, none⟩) n n)).run Tryz.prog w = .ok (.string (strOfNums (List.replicate n 0))) w :=
  run_convert_bytes_arg _ _ _ Tryz.underlying40 Tryz.underlying5 g 0 n n (List.replicate n 0) (by simp) (fun i hi => by
    have := hown.cellAt i (by omega)
    rw [Nat.zero_add, this]
    simp [madeCells, Value.cells, hi, Nat.mod_one]
    ) _ Tryz.underlying9

/-- What is drawn: a text of at most m bytes. -/
def DrewText (m : Nat) (w : World) (e : Ending) (w' : World) : Prop := ∃ s : ByteArray, s.size ≤ m ∧ e = .returned (.string s) ∧ Below w.heap.size w w'

set_option maxHeartbeats 2000000 in
theorem lineof_any (w : World) (r : Nat) (a : Option Addr) (len cap : Nat) (h : Rdr w r a len cap) :
    Calls Tryz.prog 56 #[.pointer (some ⟨r, 0, none⟩)] w (RdStr 400 w r a len cap) := by
  have HG := Lib.hid (Went.refl h)
  clear h
  go_enter Tryz.func56, Tryz.ntmps56
  go_wp2_with fail
  refine (below_any _ _ _ _ _ _ HG.out.rdr (by decide) (by decide)).mono ?_
  rintro e w1 ⟨⟨x, hx1, hx2, rfl⟩, hw⟩
  have HG := Lib.hid (HG.out.trans hw)
  clear hw
  go_wp2_with fail
  go_loopw [3, 4] (fun t i wr => ∃ (k : Nat) (s : ByteArray), i = .int .i64 k ∧ t = .string s ∧ s.size + 6 * k ≤ 30 ∧ Hid (Went w r a len cap wr)) (fun _ i _ => (intOf i).toNat)
  case atStart => exact ⟨x.toNat, ByteArray.empty, by rw [Int.toNat_of_nonneg hx1], rfl, by show 0 + 6 * x.toNat ≤ 30; omega, HG.out⟩
  case round =>
    obtain ⟨k, s, rfl, rfl, hs, HW⟩ := hrel
    clear HG
    by_cases hk : 0 < k
    · go_wp2_with fail
      refine (word1_any _ _ _ _ _ HW.out.rdr).mono ?_
      rintro e w2 ⟨⟨u, hu, rfl⟩, hw⟩
      have HW := Lib.hid (HW.out.trans hw)
      clear hw
      obtain ⟨m, rfl⟩ : ∃ m, k = m + 1 := ⟨k - 1, by omega⟩
      have hsu : (s ++ u).size ≤ s.size + u.size := by rw [ByteArray.size_append]; exact Nat.le_refl _
      go_wp2
      go_roundw
      case rel => exact ⟨m, _, by go_num, rfl, by rw [ByteArray.size_append, ByteArray.size_append]; show s.size + u.size + 1 + 6 * m ≤ 30; omega, HW.out⟩
      case measure => simp [intOf]
    · obtain rfl : k = 0 := by omega
      go_wp2_with fail
      refine (below_any _ _ _ _ _ _ HW.out.rdr (by decide) (by decide)).mono ?_
      rintro e w2 ⟨⟨y, hy1, hy2, rfl⟩, hw⟩
      have HW := Lib.hid (HW.out.trans hw)
      clear hw
      obtain ⟨i0, hi, hz0, hz1, hz2⟩ := info_parts infoByte
      go_wp2_with fail
      · refine (below_any _ _ _ _ _ _ HW.out.rdr (by decide) (by decide)).mono ?_
        rintro e w3 ⟨⟨z, hz3, hz4, rfl⟩, hw⟩
        have HW := Lib.hid (HW.out.trans hw)
        clear hw
        obtain ⟨n, hn⟩ : ∃ n : Nat, 30 + z = (n : Int) := ⟨(30 + z).toNat, by omega⟩
        have hn49 : n ≤ 49 := by omega
        go_wp2_with (at_make; go_loud (refine wpList_make_full _ rfl _ _ 40 rfl w3.heap.size 5 i0 _ 1 Tryz.underlying40 hi hz0 hz1 .i64 .i64 _ _ n rfl rfl rfl rfl (by rw [hz2]; omega) (by unfold maxLen; omega) (Nat.le_refl _) ?_); intro w4 hown hgrow; have hzt := zeros_text hown; have hzs : (strOfNums (List.replicate n 0)).size ≤ 49 := (by simp [strOfNums, ByteArray.size]; omega); have HW4 := Lib.hid (Went.mk (grown_trans HW.out.grown ⟨hgrow.os, hgrow.tape, hgrow.output, hgrow.size, fun k hk _ => hgrow.block k hk (by simp)⟩) (HW.out.rdr.below ⟨hgrow.os, hgrow.tape, hgrow.output, hgrow.size, fun k hk => hgrow.block k (by have := HW.out.rdr.lt; omega) (by simp)⟩) : Went w r a len cap w4); clear hown hgrow)
        go_ret
        exact ⟨⟨_, by rw [ByteArray.size_append]; omega, rfl⟩, HW4.out⟩
      · go_ret
        exact ⟨⟨_, by rw [ByteArray.size_append]; show 2 + s.size ≤ 400; omega, rfl⟩, HW.out⟩
      · go_loop [3, 5] (fun t i => ∃ (k : Nat) (u : ByteArray), k ≤ 24 ∧ i = .int .i64 k ∧ t = .string u ∧ u.size ≤ 30 + 2 * k) (fun _ i => 24 - (intOf i).toNat)
        case atStart => exact ⟨0, s, by omega, rfl, rfl, by omega⟩
        case round =>
          obtain ⟨k, u, hk, rfl, rfl, hu⟩ := hrel
          by_cases hlt : k < 24
          · go_wp2
            go_round
            case rel => exact ⟨k + 1, _, by omega, by go_num, rfl, by rw [ByteArray.size_append]; show u.size + 2 ≤ 30 + 2 * (k + 1); omega⟩
            case measure => simp [intOf]; omega
          · go_wp2
            go_ret
            exact ⟨⟨_, by omega, rfl⟩, HW.out⟩
      · go_ret
        exact ⟨⟨_, by omega, rfl⟩, HW.out⟩

end Go.Proofs.YthnlllbanfemaaaGreatDoor
namespace Go.Proofs.YthnlllbanfemaaaGreatDoor
open Go.ChangeShapes Go.WideShapes Go.ChangeAt Go.RowKit
set_option linter.unusedVariables false
set_option maxRecDepth 100000

theorem wf_wrap64 (y : Int) : (Lit.int .i64 (wrap64 y)).wf = true := WalkArith.wf_i64 (by unfold wrap64; omega)

set_option maxHeartbeats 1000000 in
theorem num_any (w : World) (r : Nat) (a : Option Addr) (len cap : Nat) (h : Rdr w r a len cap) :
    Calls Tryz.prog 58 #[.pointer (some ⟨r, 0, none⟩)] w (RdWf .i64 w r a len cap) := by
  have H := Lib.hid h
  clear h
  go_enter Tryz.func58, Tryz.ntmps58
  go_wp2_with fail
  refine (below_any _ _ _ _ _ _ H.out (by decide) (by decide)).mono ?_
  rintro e w1 ⟨⟨x, hx1, hx2, rfl⟩, hw⟩
  have HW := Lib.hid hw
  clear hw H
  go_wp2_with fail
  · refine (word_any _ _ _ _ _ HW.out.rdr).mono ?_
    rintro e w2 ⟨⟨y, hy, rfl⟩, hw⟩
    have HW := Lib.hid (HW.out.trans hw)
    have hyb := bounds_u64 hy
    clear hw hy
    go_wp2
    go_ret
    exact ⟨⟨_, wf_wrap64 y, rfl⟩, HW.out⟩
  · refine (below_any _ _ _ _ _ _ (HW.out.rdr.alloc _) (by decide) (by decide)).mono ?_
    rintro e w2 ⟨⟨y, hy1, hy2, rfl⟩, hw⟩
    obtain ⟨z, hz, hcz⟩ := int_cell (k := .i64) (hw.block (k := w1.heap.size) (heap_alloc_new _ _) (Nat.ne_of_gt HW.out.rdr.lt)) (by decide) y hy1 (by show y < 4; omega)
    have HZ := Lib.hid hz
    have HW := Lib.hid ((HW.out.alloc _).trans hw)
    clear hw hz
    go_wp2
    go_ret
    exact ⟨⟨_, HZ.out, rfl⟩, HW.out⟩
  · refine (below_any _ _ _ _ _ _ HW.out.rdr (by decide) (by decide)).mono ?_
    rintro e w2 ⟨⟨y, hy1, hy2, rfl⟩, hw⟩
    have HW := Lib.hid (HW.out.trans hw)
    clear hw
    go_wp2
    go_ret
    exact ⟨⟨_, WalkArith.wf_i64 (by omega), rfl⟩, HW.out⟩
end Go.Proofs.YthnlllbanfemaaaGreatDoor
namespace Go.Proofs.YthnlllbanfemaaaGreatDoor
open Go.ChangeShapes Go.WideShapes Go.ChangeAt Go.RowKit
set_option linter.unusedVariables false
set_option maxRecDepth 100000

def FineI (l : Instrs) : Prop := ∀ x ∈ l, In64 x.2.1 ∧ x.2.2.size ≤ 25
theorem fine_app {l m : Instrs} (h : FineI l) (k : FineI m) : FineI (l ++ m) := fun x hx => by
  rcases List.mem_append.1 hx with e | e
  · exact h x e
  · exact k x e
theorem fine_nil : FineI [] := fun x hx => by cases hx
theorem fine_cons {x : Int × Int × ByteArray} {l : Instrs} (h1 : In64 x.2.1) (h2 : x.2.2.size ≤ 25) (h : FineI l) : FineI (x :: l) := fun y hy => by
  rcases List.mem_cons.1 hy with e | e
  · subst e; exact ⟨h1, h2⟩
  · exact h y e
theorem wf_in64 {n : Int} (h : (Lit.int .i64 n).wf = true) : In64 n := by
  exact bounds_i64 h
theorem fine_num {op n : Int} {l : Instrs} (h1 : In64 n) (h : FineI l) : FineI ((op, n, ByteArray.empty) :: l) := fine_cons h1 (Nat.zero_le _) h
theorem fine_txt {op : Int} {s : ByteArray} {l : Instrs} (h1 : s.size ≤ 25) (h : FineI l) : FineI ((op, 0, s) :: l) := fine_cons (show In64 0 from ⟨by decide, by decide⟩) h1 h
structure DrawnI (w wr : World) (r : Nat) (a : Option Addr) (len cap : Nat) (v : Value) (n : Nat) (W : Instrs) : Prop where
  own : wr.ownsRow w.heap.size 52 3 v n (cellsI W)
  size : W.length = n
  went : Went w r a len cap wr
  fine : FineI W
theorem went_row {w w1 w2 : World} {r : Nat} {a : Option Addr} {len cap : Nat} {row : Option Nat} (h : Went w r a len cap w1) (hg : w1.grownBy w2 row) (hr : r < w.heap.size) (hrow : ∀ k, row = some k → w.heap.size ≤ k) : Went w r a len cap w2 := by
  have hne : ∀ i, i < w.heap.size → some i ≠ row := fun i hi e => by have := hrow i e.symm; omega
  refine ⟨⟨hg.os.trans h.grown.os, hg.tape.trans h.grown.tape, hg.output.trans h.grown.output, Nat.le_trans h.grown.size hg.size, fun i hi hn => ?_⟩, ?_⟩
  · exact (hg.block i (Nat.lt_of_lt_of_le hi h.grown.size) (hne i hi)).trans (h.grown.block i hi hn)
  · refine h.rdr.below ⟨hg.os, hg.tape, hg.output, hg.size, fun k hk => ?_⟩
    exact hg.block k (Nat.lt_of_lt_of_le (by omega) h.grown.size) (hne k (by omega))
theorem own_wentI {w w1 : World} {base r : Nat} {a : Option Addr} {len cap : Nat} {e : TypeId} {size : Nat} {v : Value} {n : Nat} {xs : List Value} (h : w.ownsRow base e size v n xs) (hw : Went w r a len cap w1) (hr : r < base) : w1.ownsRow base e size v n xs :=
  h.kept hw.grown (by
    by_cases hv : v.ownBlock = none
    · exact .inl hv
    · refine .inr fun he => ?_
      have := (h.lt r he).1
      omega)
theorem DrawnI.trans {w wr w1 : World} {r : Nat} {a : Option Addr} {len cap : Nat} {v : Value} {n : Nat} {W : Instrs} (h : DrawnI w wr r a len cap v n W) (hr : r < w.heap.size) (hw : Went wr r a len cap w1) : DrawnI w w1 r a len cap v n W :=
  ⟨own_wentI h.own hw hr, h.size, h.went.trans hw, h.fine⟩
theorem DrawnI.alloc {w wr : World} {r : Nat} {a : Option Addr} {len cap : Nat} {v : Value} {n : Nat} {W : Instrs} (h : DrawnI w wr r a len cap v n W) (o : Obj) : DrawnI w (wr.alloc o) r a len cap v n W :=
  ⟨h.own.alloc o, h.size, h.went.alloc o, h.fine⟩
theorem DrawnI.add {w wr w1 : World} {r : Nat} {a : Option Addr} {len cap : Nat} {v v' : Value} {n m : Nat} {W L : Instrs} (h : DrawnI w wr r a len cap v n W) (hr : r < w.heap.size) (hL : FineI L) (hm : L.length = m)
    (hown : w1.ownsRow w.heap.size 52 3 v' (n + m) (cellsI W ++ cellsI L)) (hg : wr.grownBy w1 v.ownBlock) : DrawnI w w1 r a len cap v' (n + m) (W ++ L) :=
  ⟨by rw [cellsI_app]; exact hown, by rw [List.length_append, h.size, hm], went_row h.went hg hr (fun k hk => (h.own.lt k hk).1), fine_app h.fine hL⟩
theorem own_src {w : World} {base n cp : Nat} {q : Option Addr} {l : Instrs} (h : w.ownsRow base 52 3 (.slice q n cp) n (cellsI l)) (h0 : 0 < n) (hn : l.length = n) :
    ∃ g, q = some ⟨g, 0, none⟩ ∧ base ≤ g ∧ ∀ j u, (cellsI l)[j]? = some u → w.cell? ((⟨g, 0, none⟩ : Addr).add j) = some u := by
  obtain ⟨g, cur, rfl, hb, hr, hs⟩ := own_insrow h h0
  refine ⟨g, rfl, hb, fun j u hj => ?_⟩
  have hlt : j < n * 3 := by
    have := (List.getElem?_eq_some_iff.1 hj).1
    rw [cellsI_len, hn] at this
    exact this
  have := h.cellAt j hlt
  rw [hj] at this
  have e : ((⟨g, 0, none⟩ : Addr).add j) = ⟨g, j, none⟩ := by simp [Addr.add]; omega
  rw [e]; exact this
theorem cellsI_one : ∀ l : Instrs, ∀ u ∈ cellsI l, u.oneCell' = true
  | [], u, hu => by cases hu
  | x :: t, u, hu => by
    rcases List.mem_cons.1 hu with e | hu
    · subst e; rfl
    rcases List.mem_cons.1 hu with e | hu
    · subst e; rfl
    rcases List.mem_cons.1 hu with e | hu
    · subst e; rfl
    exact cellsI_one t u hu
theorem lit_new (w : World) (cs : Array Value) (t : TypeId) : ∀ j u, cs.toList[j]? = some u → (w.alloc (.cells cs t)).cell? ((⟨w.heap.size, 0, none⟩ : Addr).add j) = some u := by
  intro j u hj
  have e : ((⟨w.heap.size, 0, none⟩ : Addr).add j) = ⟨w.heap.size, j, none⟩ := by simp [Addr.add]; omega
  rw [e]
  have h := Row.new w t cs
  unfold Row at h
  unfold World.cell?
  rw [h]
  simpa using hj
/-- The end of a method that draws instructions into a row of its own. -/
def RdIns (lo hi : Nat) (w : World) (r : Nat) (a : Option Addr) (len cap : Nat) (e : Ending) (w' : World) : Prop :=
  ∃ (q : Option Addr) (n cp : Nat) (W : Instrs), e = .returned (.slice q n cp) ∧ lo ≤ n ∧ n ≤ hi ∧ DrawnI w w' r a len cap (.slice q n cp) n W
theorem RdIns.lit {lo hi : Nat} {w w1 : World} {r : Nat} {a : Option Addr} {len cap : Nat} (hw : Went w r a len cap w1) (cs : Array Value) (n : Nat) (W : Instrs) (hl : lo ≤ n) (hh : n ≤ hi) (h4 : n ≤ 4) (hc : cs.toList = cellsI W) (hn : W.length = n) (hf : FineI W) :
    RdIns lo hi w r a len cap (.returned (.slice (some ⟨w1.heap.size, 0, none⟩) n n)) (w1.alloc (.cells cs 52)) := by
  refine ⟨_, _, _, W, rfl, hl, hh, ?_, hn, hw.alloc _, hf⟩
  have := World.ownsRow_lit (base := w.heap.size) (e := 52) (size := 3) w1 cs n hw.size (by unfold maxLen; omega) (by
    have := congrArg List.length hc
    rw [cellsI_len, hn] at this
    simpa using this)
  rw [hc] at this
  exact this
end Go.Proofs.YthnlllbanfemaaaGreatDoor
