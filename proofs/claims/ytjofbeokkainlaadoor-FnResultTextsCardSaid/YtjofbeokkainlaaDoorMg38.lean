/- Texts put together, as a claim holds at most sixty files. -/
import Derived.Test.YtjofbeokkainlaaDoorMg10
import Derived.Test.YtjofbeokkainlaaDoorDrawL
import Derived.Test.YtjofbeokkainlaaDoorJob
import Derived.Maps.AppendAt
namespace Go.Proofs.YtjofbeokkainlaaDoor
open Go.ChangeShapes Go.WideShapes Go.ChangeAt Go.RowKit
set_option linter.unusedVariables false
set_option maxRecDepth 100000

structure DrawnJ (w wr : World) (r : Nat) (a : Option Addr) (len cap : Nat) (pv : Value) (pn : Nat) (W : Instrs) (sv : Value) (sn : Nat) (M : Strs) : Prop where
  d : DrawnI w wr r a len cap pv pn W
  own : wr.ownsRow w.heap.size 9 1 sv sn (M.map Value.string)
  size : M.length = sn
  short : ∀ x ∈ M, x.size ≤ 5000
  apart : ∀ g, pv.ownBlock = some g → sv.ownBlock ≠ some g
section
variable {w wr w1 : World} {r : Nat} {a : Option Addr} {len cap : Nat} {pv : Value} {pn : Nat} {W : Instrs} {sv : Value} {sn : Nat} {M : Strs}
theorem DrawnJ.trans (h : DrawnJ w wr r a len cap pv pn W sv sn M) (hr : r < w.heap.size) (hw : Went wr r a len cap w1) : DrawnJ w w1 r a len cap pv pn W sv sn M :=
  ⟨h.d.trans hr hw, own_went h.own hw hr, h.size, h.short, h.apart⟩
theorem DrawnI.below (h : DrawnI w wr r a len cap pv pn W) (hB : Below wr.heap.size wr w1) (hr : r < w.heap.size) : DrawnI w w1 r a len cap pv pn W :=
  ⟨own_below h.own hB, h.size, went_row h.went (row := none) ⟨hB.os, hB.tape, hB.output, hB.size, fun k hk _ => hB.block k hk⟩ hr (fun k hk => by cases hk), h.fine⟩
theorem DrawnJ.below (h : DrawnJ w wr r a len cap pv pn W sv sn M) (hB : Below wr.heap.size wr w1) (hr : r < w.heap.size) : DrawnJ w w1 r a len cap pv pn W sv sn M :=
  ⟨h.d.below hB hr, own_below h.own hB, h.size, h.short, h.apart⟩
theorem DrawnI.setOther {J : Nat} (h : DrawnI w wr r a len cap pv pn W) (hr : r < w.heap.size) (hJ : w.heap.size ≤ J) (hp : pv.ownBlock ≠ some J) (j : Nat) (v : Value) : DrawnI w (wr.setCell ⟨J, j, none⟩ v) r a len cap pv pn W :=
  ⟨h.own.kept (row := some J) (grown_setCell (World.grownBy.refl _ _) _ _) (.inr hp), h.size, h.went.put hJ (by omega) j v, h.fine⟩
theorem DrawnJ.setOther {J : Nat} (h : DrawnJ w wr r a len cap pv pn W sv sn M) (hr : r < w.heap.size) (hJ : w.heap.size ≤ J) (hp : pv.ownBlock ≠ some J) (hs : sv.ownBlock ≠ some J) (j : Nat) (v : Value) : DrawnJ w (wr.setCell ⟨J, j, none⟩ v) r a len cap pv pn W sv sn M :=
  ⟨h.d.setOther hr hJ hp j v, h.own.kept (row := some J) (grown_setCell (World.grownBy.refl _ _) _ _) (.inr hs), h.size, h.short, h.apart⟩
theorem DrawnJ.add {sv' : Value} {T : ByteArray} {o : Obj} (h : DrawnJ w wr r a len cap pv pn W sv sn M) (hr : r < w.heap.size) (hT : T.size ≤ 5000)
    (hown : w1.ownsRow w.heap.size 9 1 sv' (sn + 1) (M.map Value.string ++ [.string T])) (hg : (wr.alloc o).grownBy w1 sv.ownBlock) (hat : sv'.ownBlock = sv.ownBlock ∨ sv'.ownBlock = some (wr.alloc o).heap.size) : DrawnJ w w1 r a len cap pv pn W sv' (sn + 1) (M ++ [T]) := by
  have hrow : ∀ k, sv.ownBlock = some k → w.heap.size ≤ k := fun k hk => (h.own.lt k hk).1
  refine ⟨⟨(h.d.own.alloc o).kept hg ?_, h.d.size, went_row (h.d.went.alloc o) hg hr hrow, h.d.fine⟩, by simpa using hown, by rw [List.length_append, h.size]; rfl, fun x hx => ?_, fun g hpg e => ?_⟩
  · cases hp : pv.ownBlock with
    | none => exact .inl rfl
    | some g => exact .inr (fun e => h.apart g hp e.symm)
  · rcases List.mem_append.1 hx with e | e
    · exact h.short x e
    · simp only [List.mem_singleton] at e
      rw [e]; exact hT
  · rcases hat with e2 | e2
    · rw [e2] at e; exact h.apart g hpg e
    · rw [e2] at e
      injection e with e
      have := (h.d.own.lt g hpg).2
      simp at e
      omega
end
theorem own_wider {w : World} {base base' : Nat} {e : TypeId} {size : Nat} {v : Value} {n : Nat} {xs : List Value} (h : w.ownsRow base' e size v n xs) (hb : base ≤ base') : w.ownsRow base e size v n xs := by
  refine ⟨h.1, ?_⟩
  rcases h.2 with h1 | ⟨g, cap, cur, h1, h2, h3⟩
  · exact .inl h1
  · exact .inr ⟨g, cap, cur, h1, Nat.le_trans hb h2, h3⟩
theorem DrawnJ.wider {w wb wr : World} {r : Nat} {a : Option Addr} {len cap : Nat} {pv : Value} {pn : Nat} {W : Instrs} {sv : Value} {sn : Nat} {M : Strs} (h : DrawnJ wb wr r a len cap pv pn W sv sn M) (hw : Went w r a len cap wb) : DrawnJ w wr r a len cap pv pn W sv sn M :=
  ⟨⟨own_wider h.d.own hw.size, h.d.size, hw.trans h.d.went, h.d.fine⟩, own_wider h.own hw.size, h.size, h.short, h.apart⟩
/-- The end of drawing a job. -/
def RdJob (w : World) (r : Nat) (a : Option Addr) (len cap : Nat) (e : Ending) (w' : World) : Prop :=
  ∃ (pq : Option Addr) (pn pc : Nat) (W : Instrs) (sq : Option Addr) (sn sc : Nat) (M : Strs) (e1 : Bool) (o1 n1 : Int), e = .returned (.agg #[.slice pq pn pc, .bool e1, .int .i64 o1, .int .i64 n1, .slice sq sn sc]) ∧ pn ≤ 26 ∧ sn ≤ 3 ∧ DrawnJ w w' r a len cap (.slice pq pn pc) pn W (.slice sq sn sc) sn M
theorem Row.went {w w1 : World} {r B : Nat} {a : Option Addr} {len cap : Nat} {E : TypeId} {cur : Array Value} (h : Row w B E cur) (hw : Went w r a len cap w1) (hne : B ≠ r) : Row w1 B E cur := hw.block h hne

set_option maxHeartbeats 8000000 in
theorem rjob_any (w : World) (r : Nat) (a : Option Addr) (len cap : Nat) (h : Rdr w r a len cap) :
    Calls Tryd.prog 10 #[.pointer (some ⟨r, 0, none⟩)] w (RdJob w r a len cap) := by
  obtain ⟨i0, hi, hz0, hz1, hz2⟩ := info_parts infoStr
  obtain ⟨wb, hwb⟩ : ∃ wb, w.alloc (.cells #[.slice none 0 0, .bool false, .int .i64 0, .int .i64 0, .slice none 0 0] 38) = wb := ⟨_, rfl⟩
  have HWB := Lib.hid hwb
  obtain ⟨R, hR⟩ : ∃ R, w.heap.size = R := ⟨_, rfl⟩
  have HRR := Lib.hid (show Row wb R 38 #[.slice none 0 0, .bool false, .int .i64 0, .int .i64 0, .slice none 0 0] from by rw [← hwb, ← hR]; exact row_new _ _ _)
  have HBB := Lib.hid (show Below w.heap.size w wb from hwb ▸ below_alloc (Below.refl _ _) _)
  have HRr := Lib.hid (show R ≠ r by have := h.lt; omega)
  have HRW := Lib.hid (show r < R by have := h.lt; omega)
  have HRB := Lib.hid (show R < wb.heap.size by have := HRR.out.lt; exact this)
  have HRL := Lib.hid (show r < wb.heap.size by have := h.lt; have := HRB.out; omega)
  have HRD := Lib.hid (show Rdr wb r a len cap from hwb ▸ h.alloc _)
  have HWW := Lib.hid (show Went w r a len cap wb from hwb ▸ (Went.refl h).alloc _)
  have HRE := Lib.hid hR
  clear h hwb
  go_enter Tryd.func10, Tryd.ntmps10
  go_wp2_with fail
  rw [HWB.out]
  clear hR
  refine (rprog_any _ _ _ _ _ HRD.out).mono ?_
  rintro e w1 ⟨pq, pn, pc, W, rfl, _, hpn, hd⟩
  have HD := Lib.hid hd
  have HRR := Lib.hid (HRR.out.went hd.went HRr.out)
  clear hd
  go_wp2_with fail
  refine (once_any _ _ _ _ _ _ HD.out.went.rdr (by decide) (by decide)).mono ?_
  rintro e w2 ⟨⟨e1, rfl⟩, hw⟩
  have HD := Lib.hid (HD.out.trans HRL.out hw)
  have HRR := Lib.hid (HRR.out.went hw HRr.out)
  clear hw
  go_wp2_with fail
  refine (below_any _ _ _ _ _ _ HD.out.went.rdr (by decide) (by decide)).mono ?_
  rintro e w3 ⟨⟨y, hy1, hy2, rfl⟩, hw⟩
  have HD := Lib.hid (HD.out.trans HRL.out hw)
  have HRR := Lib.hid (HRR.out.went hw HRr.out)
  clear hw
  go_wp2_with fail
  refine (below_any _ _ _ _ _ _ HD.out.went.rdr (by decide) (by decide)).mono ?_
  rintro e w4 ⟨⟨z, hz1', hz2', rfl⟩, hw⟩
  have HD := Lib.hid (HD.out.trans HRL.out hw)
  have HRR := Lib.hid (HRR.out.went hw HRr.out)
  clear hw
  go_wp2_with fail
  obtain ⟨J, hJ⟩ : ∃ J, w4.heap.size = J := ⟨_, rfl⟩
  have HJb := Lib.hid (show wb.heap.size ≤ J by rw [← hJ]; exact HD.out.went.size)
  have HJp := Lib.hid (show (Value.slice pq pn pc).ownBlock ≠ some J from fun e => by have := (HD.out.own.lt J e).2; omega)
  have HJr := Lib.hid (show J ≠ r by have := HRL.out; have := HJb.out; omega)
  have HJR := Lib.hid (show R ≠ J by have := HRB.out; have := HJb.out; omega)
  refine (below_any _ _ _ _ _ _ (HD.out.alloc _).went.rdr (by decide) (by decide)).mono ?_
  rintro e w5 ⟨⟨x, hx1, hx2, rfl⟩, hw⟩
  have HD := Lib.hid ((HD.out.alloc _).trans HRL.out hw)
  have HRR := Lib.hid ((HRR.out.al _).went hw HRr.out)
  have HRJ := Lib.hid ((show Row _ J _ _ from hJ ▸ row_new w4 #[.slice pq pn pc, .bool e1, .int .i64 (1 + y), .int .i64 (1 + z), .slice none 0 0] 38).went hw HJr.out)
  have HS := Lib.hid (show DrawnJ wb w5 r a len cap (.slice pq pn pc) pn W (.slice none 0 0) 0 [] from ⟨HD.out, ⟨rfl, .inl ⟨rfl, rfl⟩⟩, rfl, by simp, fun g hg e => by cases e⟩)
  rw [hJ]
  clear hw hJ HD
  go_wp2_with fail
  go_loopw [4] (fun i wr => ∃ (k sn : Nat) (sq : Option Addr) (sc : Nat) (M : Strs), i = .int .i64 k ∧ sn + k ≤ 3 ∧ Hid (DrawnJ wb wr r a len cap (.slice pq pn pc) pn W (.slice sq sn sc) sn M) ∧ Hid (Row wr R 38 #[.slice none 0 0, .bool false, .int .i64 0, .int .i64 0, .slice none 0 0]) ∧ Hid (Row wr J 38 #[.slice pq pn pc, .bool e1, .int .i64 (1 + y), .int .i64 (1 + z), .slice sq sn sc]) ∧ Hid ((Value.slice sq sn sc).ownBlock ≠ some J)) (fun i _ => (intOf i).toNat)
  case atStart => exact ⟨(1 + x).toNat, 0, none, 0, [], by rw [Int.toNat_of_nonneg (by omega)], by omega, HS, HRR, HRJ, Lib.hid (by intro e; cases e)⟩
  case round =>
    clear HS HRR HRJ
    obtain ⟨k, sn, sq, sc, M, rfl, hk, HS, HRR, HRJ, HSJ⟩ := hrel
    by_cases hk0 : 0 < k
    · obtain ⟨m, rfl⟩ : ∃ m, k = m + 1 := ⟨k - 1, by omega⟩
      go_wp2_with fail
      refine (linesofd_any _ _ _ _ _ HS.out.d.went.rdr).mono ?_
      rintro e w6 ⟨lq, lcp, L, rfl, hL12, hdl⟩
      have HST := Lib.hid (hdl.strs hL12)
      have HLZ := Lib.hid (linesTx_size hL12 hdl.short)
      have HS := Lib.hid (HS.out.trans HRL.out hdl.went)
      have HRR := Lib.hid (HRR.out.went hdl.went HRr.out)
      have HRJ := Lib.hid (HRJ.out.went hdl.went HJr.out)
      clear hdl
      go_wp2_with fail
      refine (slinestext_any lq L.length lcp L _ HST.out).mono ?_
      rintro e w7 ⟨rfl, hB⟩
      have HS := Lib.hid (HS.out.below hB HRL.out)
      have HRR := Lib.hid (HRR.out.keep hB)
      have HRJ := Lib.hid (HRJ.out.keep hB)
      obtain ⟨T, hT⟩ : ∃ T, (if rightB L = true then linesTx L else ByteArray.empty) = T := ⟨_, rfl⟩
      obtain ⟨b, hb⟩ : ∃ b, rightB L = b := ⟨_, rfl⟩
      have HTZ := Lib.hid (show T.size ≤ 5000 by
        rw [← hT]
        split
        · have := HLZ.out; omega
        · exact Nat.zero_le _)
      rw [hT, hb]
      have y4 := HRJ.out.cell (j := 4) (by simp)
      simp at y4
      have HO := Lib.hid HS.out.own
      clear hB hT hb HST
      go_wp2_with (at_builtin; (refine wpList_append_own_at _ rfl _ _ 36 rfl wb.heap.size 9 i0 _ 1 16 Tryd.underlying36 hi hz0 hz1 hz2 rfl (by decide) _ _ _ rfl (HO.out.alloc _) ⟨w7.heap.size, 0, none⟩ 1 1 [.string T] rfl rfl (one_new _ _ _) (fun u hu => by simp at hu; subst hu; rfl) (by unfold maxLen; omega) (by omega) (Nat.le_trans HS.out.d.went.size (by simp)) ?_); intro v' w8 hown1 hgrow hnil hat; obtain ⟨q1, cp1, rfl⟩ := own_form hown1; have HJ8 := Lib.hid ((HRJ.out.al _).grown hgrow (fun e => HSJ.out e)); have HR8 := Lib.hid ((HRR.out.al _).grown hgrow (fun e => by have h1 := (HO.out.lt R e).1; have h2 := HRB.out; omega)); have HS8 := Lib.hid (HS.out.add HRL.out HTZ.out hown1 hgrow hat); have HSJ8 := Lib.hid (show (Value.slice q1 (sn + 1) cp1).ownBlock ≠ some J from fun e => by rcases hat with h1 | h1 <;> rw [h1] at e <;> first | exact HSJ.out e | (injection e with e; have h3 := HRJ.out.lt; simp at e; omega)); have z4 := HJ8.out.cell (j := 4) (by simp); have f4 := HJ8.out.free 4; simp at z4; clear hown1 hgrow hnil hat y4)
      go_roundw
      case rel => exact ⟨m, sn + 1, q1, cp1, _, by go_num, by omega, Lib.hid (HS8.out.setOther HRL.out HJb.out HJp.out HSJ8.out _ _), Lib.hid (HR8.out.other HJR.out _ _), Lib.hid (HJ8.out.set 4 _), HSJ8⟩
      case measure => simp [intOf]
    · obtain rfl : k = 0 := by omega
      have y0 := HRJ.out.cell (j := 0) (by simp)
      have y1 := HRJ.out.cell (j := 1) (by simp)
      have y2 := HRJ.out.cell (j := 2) (by simp)
      have y3 := HRJ.out.cell (j := 3) (by simp)
      have y4 := HRJ.out.cell (j := 4) (by simp)
      have r0 := HRR.out.cell (j := 0) (by simp)
      have r1 := HRR.out.cell (j := 1) (by simp)
      have r2 := HRR.out.cell (j := 2) (by simp)
      have r3 := HRR.out.cell (j := 3) (by simp)
      have r4 := HRR.out.cell (j := 4) (by simp)
      have f0 := HRR.out.free 0
      have f1 := HRR.out.free 1
      have f2 := HRR.out.free 2
      have f3 := HRR.out.free 3
      have f4 := HRR.out.free 4
      simp at y0 y1 y2 y3 y4 r0 r1 r2 r3 r4
      go_wp2
      have hrw : r < w.heap.size := by have h1 := HRE.out; have h2 := HRW.out; omega
      have hpR : (Value.slice pq pn pc).ownBlock ≠ some R := fun e => by have h1 := (HS.out.d.own.lt R e).1; have h2 := HRB.out; omega
      have hsR : (Value.slice sq sn sc).ownBlock ≠ some R := fun e => by have h1 := (HS.out.own.lt R e).1; have h2 := HRB.out; omega
      have hbR : w.heap.size ≤ R := by rw [HRE.out]; exact Nat.le_refl _
      have hbF := ((((HRR.out.set 0 (.slice pq pn pc)).set 1 (.bool e1)).set 2 (.int .i64 (1 + y))).set 3 (.int .i64 (1 + z))).set 4 (.slice sq sn sc)
      unfold Row at hbF
      exact bodyPost_ret (v := .agg #[.slice pq pn pc, .bool e1, .int .i64 (1 + y), .int .i64 (1 + z), .slice sq sn sc]) (by simp [results, Tryd.results10, go_sem, World.cell?, hbF]) rfl
        ⟨pq, pn, pc, W, sq, sn, sc, M, e1, 1 + y, 1 + z, rfl, hpn, by omega, (((((HS.out.wider HWW.out).setOther hrw hbR hpR hsR 0 _).setOther hrw hbR hpR hsR 1 _).setOther hrw hbR hpR hsR 2 _).setOther hrw hbR hpR hsR 3 _).setOther hrw hbR hpR hsR 4 _⟩
end Go.Proofs.YtjofbeokkainlaaDoor
namespace Go.Proofs.YtjofbeokkainlaaDoor
open Go.ChangeShapes Go.WideShapes Go.ChangeAt Go.RowKit
set_option linter.unusedVariables false
set_option maxRecDepth 100000

structure DrawnF (w wr : World) (r : Nat) (a : Option Addr) (len cap : Nat) (pv : Value) (pn : Nat) (W : Instrs) (sv : Value) (sn : Nat) (M : Strs) : Prop where
  d : DrawnI w wr r a len cap pv pn W
  own : wr.ownsRow w.heap.size 9 1 sv sn (M.map Value.string)
  size : M.length = sn
  short : ∀ x ∈ M, x.size ≤ 5000
section
variable {w wr w1 : World} {r : Nat} {a : Option Addr} {len cap : Nat} {pv : Value} {pn : Nat} {W : Instrs} {sv : Value} {sn : Nat} {M : Strs}
theorem DrawnJ.f (h : DrawnJ w wr r a len cap pv pn W sv sn M) : DrawnF w wr r a len cap pv pn W sv sn M := ⟨h.d, h.own, h.size, h.short⟩
theorem DrawnJ.alloc (h : DrawnJ w wr r a len cap pv pn W sv sn M) (o : Obj) : DrawnJ w (wr.alloc o) r a len cap pv pn W sv sn M := ⟨h.d.alloc o, h.own.alloc o, h.size, h.short, h.apart⟩
theorem DrawnF.setOther {J : Nat} (h : DrawnF w wr r a len cap pv pn W sv sn M) (hr : r < w.heap.size) (hJ : w.heap.size ≤ J) (hp : pv.ownBlock ≠ some J) (hs : sv.ownBlock ≠ some J) (j : Nat) (v : Value) : DrawnF w (wr.setCell ⟨J, j, none⟩ v) r a len cap pv pn W sv sn M :=
  ⟨h.d.setOther hr hJ hp j v, h.own.kept (row := some J) (grown_setCell (World.grownBy.refl _ _) _ _) (.inr hs), h.size, h.short⟩
theorem own_same {wa wb : World} {base : Nat} {e : TypeId} {size : Nat} {v : Value} {n : Nat} {xs : List Value} (h : wa.ownsRow base e size v n xs) (hk : ∀ g, v.ownBlock = some g → wb.heap[g]? = wa.heap[g]?) : wb.ownsRow base e size v n xs := by
  refine ⟨h.1, ?_⟩
  rcases h.2 with h1 | ⟨g, cp, cur, rfl, h2, h3, h4⟩
  · exact .inl h1
  · exact .inr ⟨g, cp, cur, rfl, h2, (hk g rfl).trans h3, h4⟩
end
theorem DrawnF.job {w wr : World} {r : Nat} {a : Option Addr} {len cap pn pc sn sc : Nat} {pq sq : Option Addr} {W : Instrs} {M : Strs} (h : DrawnF w wr r a len cap (.slice pq pn pc) pn W (.slice sq sn sc) sn M) (hp : pn ≤ 80) (hs : sn ≤ 5) : JobAt wr pq pn W sq sn M ∧ ∀ i, i < sn → (strAt M i).size ≤ 5000 := by
  refine ⟨⟨(h.d.ins hp).1, strs_of_own h.own h.size (by unfold maxLen; omega) (fun x hx => by have := h.short x hx; unfold maxLen; omega)⟩, fun i hi => ?_⟩
  have hl := h.size
  unfold strAt
  rw [List.getD_eq_getElem?_getD, List.getElem?_eq_getElem (by omega)]
  exact h.short _ (List.getElem_mem _)
theorem made_strs (n : Nat) : (madeCells (Value.string ByteArray.empty).cells (n * 1)).toList = (List.replicate n ByteArray.empty).map Value.string := by
  refine List.ext_getElem? fun i => ?_
  by_cases hi : i < n
  · simp [madeCells, Value.cells, hi, Nat.mod_one]
  · rw [List.getElem?_eq_none (by simp [madeCells]; omega), List.getElem?_eq_none (by simp; omega)]

/-- The end of drawing a job that may be hurt: one that may be read. -/
def RdHurtJ (w : World) (r : Nat) (a : Option Addr) (len cap : Nat) (e : Ending) (w' : World) : Prop :=
  ∃ (pq : Option Addr) (pn pc : Nat) (W : Instrs) (sq : Option Addr) (sn sc : Nat) (M : Strs) (e1 : Bool) (o1 n1 : Int), e = .returned (.agg #[.slice pq pn pc, .bool e1, .int .i64 o1, .int .i64 n1, .slice sq sn sc]) ∧ JobAt w' pq pn W sq sn M ∧ sn ≤ 5 ∧ (∀ i, i < sn → (strAt M i).size ≤ 5000) ∧ (∀ b off, pq = some ⟨b, off, none⟩ → w.heap.size ≤ b) ∧ (∀ b off, sq = some ⟨b, off, none⟩ → w.heap.size ≤ b) ∧ Went w r a len cap w'
theorem own_ge {w : World} {base : Nat} {e : TypeId} {size : Nat} {q : Option Addr} {n cp : Nat} {xs : List Value} (h : w.ownsRow base e size (.slice q n cp) n xs) : ∀ b off, q = some ⟨b, off, none⟩ → base ≤ b := fun b off hq => by
  subst hq
  exact (h.lt b rfl).1
/-- A drawn job that may be read. -/
def DrewJob (w : World) (e : Ending) (w' : World) : Prop :=
  ∃ (pq : Option Addr) (pn pc : Nat) (W : Instrs) (sq : Option Addr) (sn sc : Nat) (M : Strs) (e1 : Bool) (o1 n1 : Int), e = .returned (.agg #[.slice pq pn pc, .bool e1, .int .i64 o1, .int .i64 n1, .slice sq sn sc]) ∧ JobAt w' pq pn W sq sn M ∧ sn ≤ 5 ∧ (∀ i, i < sn → (strAt M i).size ≤ 5000) ∧ (∀ b off, pq = some ⟨b, off, none⟩ → w.heap.size < b) ∧ (∀ b off, sq = some ⟨b, off, none⟩ → w.heap.size < b) ∧ Below w.heap.size w w'
end Go.Proofs.YtjofbeokkainlaaDoor
