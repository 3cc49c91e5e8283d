
/- A drawn job, hurt. Only new blocks are made, rows of the draw's own are written, and the reader's place. -/
import Derived.Test.YtgijalecpeabjaaDoorDrawJob
namespace Go.Proofs.YtgijalecpeabjaaDoor
open Go.ChangeShapes Go.WideShapes Go.ChangeAt Go.RowKit
set_option linter.unusedVariables false
set_option maxRecDepth 100000

structure DrawnF (w wr : World) (r : Nat) (a : Option Addr) (len cap : Nat) (pv : Value) (pn : Nat) (W : Instrs) (sv : Value) (sn : Nat) (M : Strs) : Prop where
  d : DrawnI w wr r a len cap pv pn W
  own : wr.ownsRow w.heap.size 9 1 sv sn (M.map Value.string)
  size : M.length = sn
  short : ∀ x ∈ M, x.size ≤ 5000
section
variable {w wr w1 : World} {r : Nat} {a : Option Addr} {len cap : Nat} {pv : Value} {pn : Nat} {W : Instrs} {sv : Value} {sn : Nat} {M : Strs}
theorem DrawnJ.f (h : DrawnJ w wr r a len cap pv pn W sv sn M) : DrawnF w wr r a len cap pv pn W sv sn M := ⟨h.d, h.own, h.size, h.short⟩
theorem DrawnJ.alloc (h : DrawnJ w wr r a len cap pv pn W sv sn M) (o : Obj) : DrawnJ w (wr.alloc o) r a len cap pv pn W sv sn M := ⟨h.d.alloc o, h.own.alloc o, h.size, h.short, h.apart⟩
theorem DrawnF.setOther {J : Nat} (h : DrawnF w wr r a len cap pv pn W sv sn M) (hr : r < w.heap.size) (hJ : w.heap.size ≤ J) (hp : pv.ownBlock ≠ some J) (hs : sv.ownBlock ≠ some J) (j : Nat) (v : Value) : DrawnF w (wr.setCell ⟨J, j, none⟩ v) r a len cap pv pn W sv sn M :=
  ⟨h.d.setOther hr hJ hp j v, h.own.kept (row := some J) (grown_setCell (World.grownBy.refl _ _) _ _) (.inr hs), h.size, h.short⟩
theorem own_same {wa wb : World} {base : Nat} {e : TypeId} {size : Nat} {v : Value} {n : Nat} {xs : List Value} (h : wa.ownsRow base e size v n xs) (hk : ∀ g, v.ownBlock = some g → wb.heap[g]? = wa.heap[g]?) : wb.ownsRow base e size v n xs := by
  refine ⟨h.1, ?_⟩
  rcases h.2 with h1 | ⟨g, cp, cur, rfl, h2, h3, h4⟩
  · exact .inl h1
  · exact .inr ⟨g, cp, cur, rfl, h2, (hk g rfl).trans h3, h4⟩
end
theorem DrawnF.job {w wr : World} {r : Nat} {a : Option Addr} {len cap pn pc sn sc : Nat} {pq sq : Option Addr} {W : Instrs} {M : Strs} (h : DrawnF w wr r a len cap (.slice pq pn pc) pn W (.slice sq sn sc) sn M) (hp : pn ≤ 80) (hs : sn ≤ 5) : JobAt wr pq pn W sq sn M ∧ ∀ i, i < sn → (strAt M i).size ≤ 5000 := by
  refine ⟨⟨(h.d.ins hp).1, strs_of_own h.own h.size (by unfold maxLen; omega) (fun x hx => by have := h.short x hx; unfold maxLen; omega)⟩, fun i hi => ?_⟩
  have hl := h.size
  unfold strAt
  rw [List.getD_eq_getElem?_getD, List.getElem?_eq_getElem (by omega)]
  exact h.short _ (List.getElem_mem _)
theorem made_strs (n : Nat) : (madeCells (Value.string ByteArray.empty).cells (n * 1)).toList = (List.replicate n ByteArray.empty).map Value.string := by
  refine List.ext_getElem? fun i => ?_
  by_cases hi : i < n
  · simp [madeCells, Value.cells, hi, Nat.mod_one]
  · rw [List.getElem?_eq_none (by simp [madeCells]; omega), List.getElem?_eq_none (by simp; omega)]

/-- The end of drawing a job that may be hurt: one that may be read. -/
def RdHurtJ (w : World) (r : Nat) (a : Option Addr) (len cap : Nat) (e : Ending) (w' : World) : Prop :=
  ∃ (pq : Option Addr) (pn pc : Nat) (W : Instrs) (sq : Option Addr) (sn sc : Nat) (M : Strs) (e1 : Bool) (o1 n1 : Int), e = .returned (.agg #[.slice pq pn pc, .bool e1, .int .i64 o1, .int .i64 n1, .slice sq sn sc]) ∧ JobAt w' pq pn W sq sn M ∧ sn ≤ 5 ∧ (∀ i, i < sn → (strAt M i).size ≤ 5000) ∧ (∀ b off, pq = some ⟨b, off, none⟩ → w.heap.size ≤ b) ∧ (∀ b off, sq = some ⟨b, off, none⟩ → w.heap.size ≤ b) ∧ Went w r a len cap w'
theorem own_ge {w : World} {base : Nat} {e : TypeId} {size : Nat} {q : Option Addr} {n cp : Nat} {xs : List Value} (h : w.ownsRow base e size (.slice q n cp) n xs) : ∀ b off, q = some ⟨b, off, none⟩ → base ≤ b := fun b off hq => by
  subst hq
  exact (h.lt b rfl).1
set_option maxHeartbeats 16000000 in
theorem hurtjob_any (w w0 : World) (r : Nat) (a : Option Addr) (len cap : Nat) (pq : Option Addr) (pn pc : Nat) (W : Instrs) (sq : Option Addr) (sn sc : Nat) (M : Strs) (e1 : Bool) (o1 n1 : Int) (hr : r < w.heap.size) (h : DrawnJ w w0 r a len cap (.slice pq pn pc) pn W (.slice sq sn sc) sn M) (hpn : pn ≤ 26) (hsn : sn ≤ 3) :
    Calls Tryd.prog 95 #[.pointer (some ⟨r, 0, none⟩), .agg #[.slice pq pn pc, .bool e1, .int .i64 o1, .int .i64 n1, .slice sq sn sc]] w0 (RdHurtJ w r a len cap) := by
  obtain ⟨i0, hi, hz0, hz1, hz2⟩ := info_parts infoStr
  obtain ⟨X, hX⟩ : ∃ X, w0.heap.size = X := ⟨_, rfl⟩
  obtain ⟨w1, hw1⟩ : ∃ w1, (w0.alloc (.cells #[.slice pq pn pc, .bool e1, .int .i64 o1, .int .i64 n1, .slice sq sn sc] 44)).alloc (.cells #[.slice none 0 0, .bool false, .int .i64 0, .int .i64 0, .slice none 0 0] 44) = w1 := ⟨_, rfl⟩
  have HW1 := Lib.hid hw1
  have HXX := Lib.hid (show Row w1 X 44 #[.slice pq pn pc, .bool e1, .int .i64 o1, .int .i64 n1, .slice sq sn sc] from by rw [← hw1, ← hX]; exact (row_new _ _ _).al _)
  have HRR := Lib.hid (show Row w1 (X + 1) 44 #[.slice none 0 0, .bool false, .int .i64 0, .int .i64 0, .slice none 0 0] from by rw [← hw1, ← hX]; exact row_new1 _ _ _ _)
  have HS := Lib.hid (show DrawnJ w w1 r a len cap (.slice pq pn pc) pn W (.slice sq sn sc) sn M from hw1 ▸ (h.alloc _).alloc _)
  have HRL := Lib.hid hr
  have HwX := Lib.hid (show w.heap.size ≤ X by rw [← hX]; exact h.d.went.size)
  have HpX := Lib.hid (show ∀ g, (Value.slice pq pn pc).ownBlock = some g → g < X from fun g hg => by rw [← hX]; exact (h.d.own.lt g hg).2)
  have HsX := Lib.hid (show ∀ g, (Value.slice sq sn sc).ownBlock = some g → g < X from fun g hg => by rw [← hX]; exact (h.own.lt g hg).2)
  have HX1 := Lib.hid (show w1.heap.size = X + 2 by rw [← hw1, ← hX]; simp)
  have HXr := Lib.hid (show X ≠ r ∧ X + 1 ≠ r by have := HwX.out; omega)
  go_enter Tryd.func95, Tryd.ntmps95
  go_wp2_with fail
  clear hX hw1 h hr
  refine (below_any _ _ _ _ _ _ HS.out.d.went.rdr (by decide) (by decide)).mono ?_
  rintro e w2 ⟨⟨x, hx1, hx2, rfl⟩, hw⟩
  have HS := Lib.hid (HS.out.trans HRL.out hw)
  have HXX := Lib.hid (HXX.out.went hw HXr.out.1)
  have HRR := Lib.hid (HRR.out.went hw HXr.out.2)
  have HX2 := Lib.hid (show X + 2 ≤ w2.heap.size by rw [← HX1.out]; exact hw.size)
  clear hw
  by_cases h0 : x = 0
  · subst h0
    have y0 := HXX.out.cell (j := 0) (by simp)
    have y1 := HXX.out.cell (j := 1) (by simp)
    have y2 := HXX.out.cell (j := 2) (by simp)
    have y3 := HXX.out.cell (j := 3) (by simp)
    have y4 := HXX.out.cell (j := 4) (by simp)
    simp at y0 y1 y2 y3 y4
    go_wp2_with fail
    refine (hurtprog_any w w2 r a len cap pq pn pc W HRL.out HS.out.d hpn).mono ?_
    rintro e w3 ⟨q3, n3, c3, W3, rfl, hn3, hk⟩
    have HK := Lib.hid hk
    have HXX := Lib.hid (show Row w3 X _ _ from (hk.kept X (by have := HX2.out; omega) HXr.out.1 (fun e => by have := HpX.out _ e.symm; omega)).trans HXX.out)
    have HRR := Lib.hid (show Row w3 (X + 1) _ _ from (hk.kept (X + 1) (by have := HX2.out; omega) HXr.out.2 (fun e => by have := HpX.out _ e.symm; omega)).trans HRR.out)
    have HO := Lib.hid (own_same HS.out.own (fun g hg => hk.kept g (HS.out.own.lt g hg).2 (by have h1 := (HS.out.own.lt g hg).1; have h2 := HRL.out; omega) (fun e => HS.out.apart g e.symm hg)))
    have HPX3 := Lib.hid (show ∀ g, (Value.slice q3 n3 c3).ownBlock = some g → g ≠ X ∧ g ≠ X + 1 from fun g hg => by
      rcases hk.row with h1 | h1
      · have := HpX.out g (h1 ▸ hg); omega
      · have h2 := h1 g hg; have h3 := HX2.out; omega)
    clear hk y0 y1 y2 y3 y4
    have y0 := HXX.out.cell (j := 0) (by simp)
    have y1 := HXX.out.cell (j := 1) (by simp)
    have y2 := HXX.out.cell (j := 2) (by simp)
    have y3 := HXX.out.cell (j := 3) (by simp)
    have y4 := HXX.out.cell (j := 4) (by simp)
    simp at y0 y1 y2 y3 y4
    have r0 := HRR.out.cell (j := 0) (by simp)
    have r1 := HRR.out.cell (j := 1) (by simp)
    have r2 := HRR.out.cell (j := 2) (by simp)
    have r3 := HRR.out.cell (j := 3) (by simp)
    have r4 := HRR.out.cell (j := 4) (by simp)
    simp at r0 r1 r2 r3 r4
    have f0 := HRR.out.free 0
    have f1 := HRR.out.free 1
    have f2 := HRR.out.free 2
    have f3 := HRR.out.free 3
    have f4 := HRR.out.free 4
    have g0 := HXX.out.free 0
    go_wp2
    have hwR : w.heap.size ≤ X + 1 := by have := HwX.out; omega
    have hF := ((((((show DrawnF w w3 r a len cap (.slice q3 n3 c3) n3 W3 (.slice sq sn sc) sn M from ⟨HK.out.d, HO.out, HS.out.size, HS.out.short⟩).setOther HRL.out HwX.out (fun e => (HPX3.out _ e).1 rfl) (fun e => by have := HsX.out _ e; omega) 0 (.slice q3 n3 c3)).setOther HRL.out hwR (fun e => (HPX3.out _ e).2 rfl) (fun e => by have := HsX.out _ e; omega) 0 (.slice q3 n3 c3)).setOther HRL.out hwR (fun e => (HPX3.out _ e).2 rfl) (fun e => by have := HsX.out _ e; omega) 1 (.bool e1)).setOther HRL.out hwR (fun e => (HPX3.out _ e).2 rfl) (fun e => by have := HsX.out _ e; omega) 2 (.int .i64 o1)).setOther HRL.out hwR (fun e => (HPX3.out _ e).2 rfl) (fun e => by have := HsX.out _ e; omega) 3 (.int .i64 n1)).setOther HRL.out hwR (fun e => (HPX3.out _ e).2 rfl) (fun e => by have := HsX.out _ e; omega) 4 (.slice sq sn sc)
    have hbF := (((((HRR.out.other (show X + 1 ≠ X by omega) 0 (.slice q3 n3 c3)).set 0 (.slice q3 n3 c3)).set 1 (.bool e1)).set 2 (.int .i64 o1)).set 3 (.int .i64 n1)).set 4 (.slice sq sn sc)
    unfold Row at hbF
    exact bodyPost_ret (v := .agg #[.slice q3 n3 c3, .bool e1, .int .i64 o1, .int .i64 n1, .slice sq sn sc]) (by simp [results, Tryd.results95, go_sem, World.cell?, hbF]) rfl
      ⟨q3, n3, c3, W3, sq, sn, sc, M, e1, o1, n1, rfl, (hF.job (by omega) (by omega)).1, (by omega), (hF.job (by omega) (by omega)).2, own_ge hF.d.own, own_ge hF.own, hF.d.went⟩
  have e0 : ((x : Int) == 0) = false := by rw [beq_eq_false_iff_ne]; exact h0
  by_cases h1 : x = 1
  · subst h1
    clear e0 h0
    go_wp2_with fail
    refine (off_any _ _ _ _ _ _ _ HS.out.d.went.rdr (by decide) (by decide) (by decide)).mono ?_
    rintro e w3 ⟨⟨y, hy, rfl⟩, hw⟩
    have HS := Lib.hid (HS.out.trans HRL.out hw)
    have HXX := Lib.hid (HXX.out.went hw HXr.out.1)
    have HRR := Lib.hid (HRR.out.went hw HXr.out.2)
    clear hw hy
    have y0 := HXX.out.cell (j := 0) (by simp)
    have y1 := HXX.out.cell (j := 1) (by simp)
    have y2 := HXX.out.cell (j := 2) (by simp)
    have y3 := HXX.out.cell (j := 3) (by simp)
    have y4 := HXX.out.cell (j := 4) (by simp)
    simp at y0 y1 y2 y3 y4
    have r0 := HRR.out.cell (j := 0) (by simp)
    have r1 := HRR.out.cell (j := 1) (by simp)
    have r2 := HRR.out.cell (j := 2) (by simp)
    have r3 := HRR.out.cell (j := 3) (by simp)
    have r4 := HRR.out.cell (j := 4) (by simp)
    simp at r0 r1 r2 r3 r4
    have f0 := HRR.out.free 0
    have f1 := HRR.out.free 1
    have f2 := HRR.out.free 2
    have f3 := HRR.out.free 3
    have f4 := HRR.out.free 4
    have g0 := HXX.out.free 2
    go_wp2
    have hwR : w.heap.size ≤ X + 1 := by have := HwX.out; omega
    have hF := (((((HS.out.f.setOther HRL.out HwX.out (fun e => by have := HpX.out _ e; omega) (fun e => by have := HsX.out _ e; omega) 2 (.int .i64 y)).setOther HRL.out hwR (fun e => by have := HpX.out _ e; omega) (fun e => by have := HsX.out _ e; omega) 0 (.slice pq pn pc)).setOther HRL.out hwR (fun e => by have := HpX.out _ e; omega) (fun e => by have := HsX.out _ e; omega) 1 (.bool e1)).setOther HRL.out hwR (fun e => by have := HpX.out _ e; omega) (fun e => by have := HsX.out _ e; omega) 2 (.int .i64 y)).setOther HRL.out hwR (fun e => by have := HpX.out _ e; omega) (fun e => by have := HsX.out _ e; omega) 3 (.int .i64 n1)).setOther HRL.out hwR (fun e => by have := HpX.out _ e; omega) (fun e => by have := HsX.out _ e; omega) 4 (.slice sq sn sc)
    have hbF := (((((HRR.out.other (show X + 1 ≠ X by omega) 2 (.int .i64 y)).set 0 (.slice pq pn pc)).set 1 (.bool e1)).set 2 (.int .i64 y)).set 3 (.int .i64 n1)).set 4 (.slice sq sn sc)
    unfold Row at hbF
    exact bodyPost_ret (v := .agg #[.slice pq pn pc, .bool e1, .int .i64 y, .int .i64 n1, .slice sq sn sc]) (by simp [results, Tryd.results95, go_sem, World.cell?, hbF]) rfl
      ⟨pq, pn, pc, W, sq, sn, sc, M, e1, y, n1, rfl, (hF.job (by omega) (by omega)).1, (by omega), (hF.job (by omega) (by omega)).2, own_ge hF.d.own, own_ge hF.own, hF.d.went⟩
  have e1X : ((x : Int) == 1) = false := by rw [beq_eq_false_iff_ne]; exact h1
  by_cases h2 : x = 2
  · subst h2
    clear e0 h0 e1X h1
    go_wp2_with fail
    refine (off_any _ _ _ _ _ _ _ HS.out.d.went.rdr (by decide) (by decide) (by decide)).mono ?_
    rintro e w3 ⟨⟨y, hy, rfl⟩, hw⟩
    have HS := Lib.hid (HS.out.trans HRL.out hw)
    have HXX := Lib.hid (HXX.out.went hw HXr.out.1)
    have HRR := Lib.hid (HRR.out.went hw HXr.out.2)
    clear hw hy
    have y0 := HXX.out.cell (j := 0) (by simp)
    have y1 := HXX.out.cell (j := 1) (by simp)
    have y2 := HXX.out.cell (j := 2) (by simp)
    have y3 := HXX.out.cell (j := 3) (by simp)
    have y4 := HXX.out.cell (j := 4) (by simp)
    simp at y0 y1 y2 y3 y4
    have r0 := HRR.out.cell (j := 0) (by simp)
    have r1 := HRR.out.cell (j := 1) (by simp)
    have r2 := HRR.out.cell (j := 2) (by simp)
    have r3 := HRR.out.cell (j := 3) (by simp)
    have r4 := HRR.out.cell (j := 4) (by simp)
    simp at r0 r1 r2 r3 r4
    have f0 := HRR.out.free 0
    have f1 := HRR.out.free 1
    have f2 := HRR.out.free 2
    have f3 := HRR.out.free 3
    have f4 := HRR.out.free 4
    have g0 := HXX.out.free 3
    go_wp2
    have hwR : w.heap.size ≤ X + 1 := by have := HwX.out; omega
    have hF := (((((HS.out.f.setOther HRL.out HwX.out (fun e => by have := HpX.out _ e; omega) (fun e => by have := HsX.out _ e; omega) 3 (.int .i64 y)).setOther HRL.out hwR (fun e => by have := HpX.out _ e; omega) (fun e => by have := HsX.out _ e; omega) 0 (.slice pq pn pc)).setOther HRL.out hwR (fun e => by have := HpX.out _ e; omega) (fun e => by have := HsX.out _ e; omega) 1 (.bool e1)).setOther HRL.out hwR (fun e => by have := HpX.out _ e; omega) (fun e => by have := HsX.out _ e; omega) 2 (.int .i64 o1)).setOther HRL.out hwR (fun e => by have := HpX.out _ e; omega) (fun e => by have := HsX.out _ e; omega) 3 (.int .i64 y)).setOther HRL.out hwR (fun e => by have := HpX.out _ e; omega) (fun e => by have := HsX.out _ e; omega) 4 (.slice sq sn sc)
    have hbF := (((((HRR.out.other (show X + 1 ≠ X by omega) 3 (.int .i64 y)).set 0 (.slice pq pn pc)).set 1 (.bool e1)).set 2 (.int .i64 o1)).set 3 (.int .i64 y)).set 4 (.slice sq sn sc)
    unfold Row at hbF
    exact bodyPost_ret (v := .agg #[.slice pq pn pc, .bool e1, .int .i64 o1, .int .i64 y, .slice sq sn sc]) (by simp [results, Tryd.results95, go_sem, World.cell?, hbF]) rfl
      ⟨pq, pn, pc, W, sq, sn, sc, M, e1, o1, y, rfl, (hF.job (by omega) (by omega)).1, (by omega), (hF.job (by omega) (by omega)).2, own_ge hF.d.own, own_ge hF.own, hF.d.went⟩
  have e2 : ((x : Int) == 2) = false := by rw [beq_eq_false_iff_ne]; exact h2
  by_cases h3 : x = 3
  · subst h3
    clear e0 h0 e1X h1 e2 h2
    have y0 := HXX.out.cell (j := 0) (by simp)
    have y1 := HXX.out.cell (j := 1) (by simp)
    have y2 := HXX.out.cell (j := 2) (by simp)
    have y3 := HXX.out.cell (j := 3) (by simp)
    have y4 := HXX.out.cell (j := 4) (by simp)
    simp at y0 y1 y2 y3 y4
    have HO := Lib.hid HS.out.own
    go_wp2_with (at_builtin; (refine wpList_append_own_at _ rfl _ _ 38 rfl w.heap.size 9 i0 _ 1 16 Tryd.underlying38 hi hz0 hz1 hz2 rfl (by decide) _ _ _ rfl (HO.out.alloc _) ⟨w2.heap.size, 0, none⟩ 1 1 [.string ⟨#[120]⟩] rfl rfl (one_new _ _ _) (fun u hu => by simp at hu; subst hu; rfl) (by unfold maxLen; omega) (by omega) (Nat.le_trans HS.out.d.went.size (by simp)) ?_); intro v' w3 hown1 hgrow hnil hat; obtain ⟨q1, cp1, rfl⟩ := own_form hown1; have HX3 := Lib.hid ((HXX.out.al _).grown hgrow (fun e => by have := HsX.out _ e; omega)); have HR3 := Lib.hid ((HRR.out.al _).grown hgrow (fun e => by have := HsX.out _ e; omega)); have HS3 := Lib.hid (HS.out.add HRL.out (T := ⟨#[120]⟩) (by decide) hown1 hgrow hat); have HSX3 := Lib.hid (show ∀ g, (Value.slice q1 (sn + 1) cp1).ownBlock = some g → g ≠ X ∧ g ≠ X + 1 from fun g hg => by rcases hat with h1 | h1 <;> rw [h1] at hg <;> first | (have := HsX.out g hg; omega) | (injection hg with hg; have h3 := HX2.out; simp at hg; omega)); have y0 := HX3.out.cell (j := 0) (by simp); have y1 := HX3.out.cell (j := 1) (by simp); have y2 := HX3.out.cell (j := 2) (by simp); have y3 := HX3.out.cell (j := 3) (by simp); have z4 := HX3.out.cell (j := 4) (by simp); have g4 := HX3.out.free 4; have r0 := HR3.out.cell (j := 0) (by simp); have r1 := HR3.out.cell (j := 1) (by simp); have r2 := HR3.out.cell (j := 2) (by simp); have r3 := HR3.out.cell (j := 3) (by simp); have r4 := HR3.out.cell (j := 4) (by simp); have f0 := HR3.out.free 0; have f1 := HR3.out.free 1; have f2 := HR3.out.free 2; have f3 := HR3.out.free 3; have f4 := HR3.out.free 4; simp at y0 y1 y2 y3 z4 r0 r1 r2 r3 r4; clear hown1 hgrow hnil hat)
    have hwR : w.heap.size ≤ X + 1 := by have := HwX.out; omega
    have hF := (((((HS3.out.f.setOther HRL.out HwX.out (fun e => by have := HpX.out _ e; omega) (fun e => (HSX3.out _ e).1 rfl) 4 (.slice q1 (sn + 1) cp1)).setOther HRL.out hwR (fun e => by have := HpX.out _ e; omega) (fun e => (HSX3.out _ e).2 rfl) 0 (.slice pq pn pc)).setOther HRL.out hwR (fun e => by have := HpX.out _ e; omega) (fun e => (HSX3.out _ e).2 rfl) 1 (.bool e1)).setOther HRL.out hwR (fun e => by have := HpX.out _ e; omega) (fun e => (HSX3.out _ e).2 rfl) 2 (.int .i64 o1)).setOther HRL.out hwR (fun e => by have := HpX.out _ e; omega) (fun e => (HSX3.out _ e).2 rfl) 3 (.int .i64 n1)).setOther HRL.out hwR (fun e => by have := HpX.out _ e; omega) (fun e => (HSX3.out _ e).2 rfl) 4 (.slice q1 (sn + 1) cp1)
    have hbF := (((((HR3.out.other (show X + 1 ≠ X by omega) 4 (.slice q1 (sn + 1) cp1)).set 0 (.slice pq pn pc)).set 1 (.bool e1)).set 2 (.int .i64 o1)).set 3 (.int .i64 n1)).set 4 (.slice q1 (sn + 1) cp1)
    unfold Row at hbF
    exact bodyPost_ret (v := .agg #[.slice pq pn pc, .bool e1, .int .i64 o1, .int .i64 n1, .slice q1 (sn + 1) cp1]) (by simp [results, Tryd.results95, go_sem, World.cell?, hbF]) rfl
      ⟨pq, pn, pc, W, q1, (sn + 1), cp1, _, e1, o1, n1, rfl, (hF.job (by omega) (by omega)).1, (by omega), (hF.job (by omega) (by omega)).2, own_ge hF.d.own, own_ge hF.own, hF.d.went⟩
  have e3 : ((x : Int) == 3) = false := by rw [beq_eq_false_iff_ne]; exact h3
  by_cases h4 : x = 4
  · subst h4
    clear e0 h0 e1X h1 e2 h2 e3 h3
    go_wp2_with fail
    refine (below_any _ _ _ _ _ _ HS.out.d.went.rdr (by decide) (by decide)).mono ?_
    rintro e w3 ⟨⟨z, hz3, hz4, rfl⟩, hw⟩
    have HS := Lib.hid (HS.out.trans HRL.out hw)
    have HXX := Lib.hid (HXX.out.went hw HXr.out.1)
    have HRR := Lib.hid (HRR.out.went hw HXr.out.2)
    have HX3 := Lib.hid (show X + 2 ≤ w3.heap.size from Nat.le_trans HX2.out hw.size)
    clear hw
    obtain ⟨n, hn⟩ : ∃ n : Nat, 5 * z = (n : Int) := ⟨(5 * z).toNat, by omega⟩
    have hn5 : n ≤ 5 := by omega
    go_wp2_with (at_make; (refine wpList_make_full _ rfl _ _ 38 rfl w3.heap.size 9 i0 _ 1 Tryd.underlying38 hi hz0 hz1 .i64 .i64 _ _ n rfl rfl rfl rfl (by rw [hz2]; omega) (by unfold maxLen; omega) (Nat.le_refl _) ?_); intro w4 hown hgrow; have HN := Lib.hid hown; have HB4 := Lib.hid ((Below.refl w3.heap.size w3).grown hgrow (Nat.le_refl _) (fun k hk => by cases hk)); have HX4 := Lib.hid (HXX.out.keep HB4.out); have HR4 := Lib.hid (HRR.out.keep HB4.out); have y0 := HX4.out.cell (j := 0) (by simp); have y1 := HX4.out.cell (j := 1) (by simp); have y2 := HX4.out.cell (j := 2) (by simp); have y3 := HX4.out.cell (j := 3) (by simp); have z4 := HX4.out.cell (j := 4) (by simp); have g4 := HX4.out.free 4; have r0 := HR4.out.cell (j := 0) (by simp); have r1 := HR4.out.cell (j := 1) (by simp); have r2 := HR4.out.cell (j := 2) (by simp); have r3 := HR4.out.cell (j := 3) (by simp); have r4 := HR4.out.cell (j := 4) (by simp); have f0 := HR4.out.free 0; have f1 := HR4.out.free 1; have f2 := HR4.out.free 2; have f3 := HR4.out.free 3; have f4 := HR4.out.free 4; simp at y0 y1 y2 y3 z4 r0 r1 r2 r3 r4; clear hown hgrow)
    have HS4 := Lib.hid (HS.out.below HB4.out HRL.out)
    have HF4 := Lib.hid (show DrawnF w w4 r a len cap (.slice pq pn pc) pn W (.slice (some ⟨w3.heap.size, 0, none⟩) n n) n (List.replicate n ByteArray.empty) from ⟨HS4.out.d, by rw [← made_strs]; exact own_wider HN.out HS.out.d.went.size, List.length_replicate, fun x hx => by rw [List.eq_of_mem_replicate hx]; exact Nat.zero_le _⟩)
    have HSX4 := Lib.hid (show ∀ g, (Value.slice (some ⟨w3.heap.size, 0, none⟩) n n).ownBlock = some g → g ≠ X ∧ g ≠ X + 1 from fun g hg => by injection hg with hg; have h3 := HX3.out; simp at hg; omega)
    have hwR : w.heap.size ≤ X + 1 := by have := HwX.out; omega
    have hF := (((((HF4.out.setOther HRL.out HwX.out (fun e => by have := HpX.out _ e; omega) (fun e => (HSX4.out _ e).1 rfl) 4 (.slice (some ⟨w3.heap.size, 0, none⟩) n n)).setOther HRL.out hwR (fun e => by have := HpX.out _ e; omega) (fun e => (HSX4.out _ e).2 rfl) 0 (.slice pq pn pc)).setOther HRL.out hwR (fun e => by have := HpX.out _ e; omega) (fun e => (HSX4.out _ e).2 rfl) 1 (.bool e1)).setOther HRL.out hwR (fun e => by have := HpX.out _ e; omega) (fun e => (HSX4.out _ e).2 rfl) 2 (.int .i64 o1)).setOther HRL.out hwR (fun e => by have := HpX.out _ e; omega) (fun e => (HSX4.out _ e).2 rfl) 3 (.int .i64 n1)).setOther HRL.out hwR (fun e => by have := HpX.out _ e; omega) (fun e => (HSX4.out _ e).2 rfl) 4 (.slice (some ⟨w3.heap.size, 0, none⟩) n n)
    have hbF := (((((HR4.out.other (show X + 1 ≠ X by omega) 4 (.slice (some ⟨w3.heap.size, 0, none⟩) n n)).set 0 (.slice pq pn pc)).set 1 (.bool e1)).set 2 (.int .i64 o1)).set 3 (.int .i64 n1)).set 4 (.slice (some ⟨w3.heap.size, 0, none⟩) n n)
    unfold Row at hbF
    exact bodyPost_ret (v := .agg #[.slice pq pn pc, .bool e1, .int .i64 o1, .int .i64 n1, .slice (some ⟨w3.heap.size, 0, none⟩) n n]) (by simp [results, Tryd.results95, go_sem, World.cell?, hbF]) rfl
      ⟨pq, pn, pc, W, _, n, n, _, e1, o1, n1, rfl, (hF.job (by omega) (by omega)).1, (by omega), (hF.job (by omega) (by omega)).2, own_ge hF.d.own, own_ge hF.own, hF.d.went⟩
  have e4 : ((x : Int) == 4) = false := by rw [beq_eq_false_iff_ne]; exact h4
  clear h0 h1 h2 h3 h4
  have y0 := HXX.out.cell (j := 0) (by simp)
  have y1 := HXX.out.cell (j := 1) (by simp)
  have y2 := HXX.out.cell (j := 2) (by simp)
  have y3 := HXX.out.cell (j := 3) (by simp)
  have y4 := HXX.out.cell (j := 4) (by simp)
  simp at y0 y1 y2 y3 y4
  have r0 := HRR.out.cell (j := 0) (by simp)
  have r1 := HRR.out.cell (j := 1) (by simp)
  have r2 := HRR.out.cell (j := 2) (by simp)
  have r3 := HRR.out.cell (j := 3) (by simp)
  have r4 := HRR.out.cell (j := 4) (by simp)
  simp at r0 r1 r2 r3 r4
  have f0 := HRR.out.free 0
  have f1 := HRR.out.free 1
  have f2 := HRR.out.free 2
  have f3 := HRR.out.free 3
  have f4 := HRR.out.free 4
  go_wp2
  have hwR : w.heap.size ≤ X + 1 := by have := HwX.out; omega
  have hF := (((((HS.out.f).setOther HRL.out hwR (fun e => by have := HpX.out _ e; omega) (fun e => by have := HsX.out _ e; omega) 0 (.slice pq pn pc)).setOther HRL.out hwR (fun e => by have := HpX.out _ e; omega) (fun e => by have := HsX.out _ e; omega) 1 (.bool e1)).setOther HRL.out hwR (fun e => by have := HpX.out _ e; omega) (fun e => by have := HsX.out _ e; omega) 2 (.int .i64 o1)).setOther HRL.out hwR (fun e => by have := HpX.out _ e; omega) (fun e => by have := HsX.out _ e; omega) 3 (.int .i64 n1)).setOther HRL.out hwR (fun e => by have := HpX.out _ e; omega) (fun e => by have := HsX.out _ e; omega) 4 (.slice sq sn sc)
  have hbF := (((((HRR.out).set 0 (.slice pq pn pc)).set 1 (.bool e1)).set 2 (.int .i64 o1)).set 3 (.int .i64 n1)).set 4 (.slice sq sn sc)
  unfold Row at hbF
  exact bodyPost_ret (v := .agg #[.slice pq pn pc, .bool e1, .int .i64 o1, .int .i64 n1, .slice sq sn sc]) (by simp [results, Tryd.results95, go_sem, World.cell?, hbF]) rfl
    ⟨pq, pn, pc, W, sq, sn, sc, M, e1, o1, n1, rfl, (hF.job (by omega) (by omega)).1, (by omega), (hF.job (by omega) (by omega)).2, own_ge hF.d.own, own_ge hF.own, hF.d.went⟩

/-- A drawn job that may be read. -/
def DrewJob (w : World) (e : Ending) (w' : World) : Prop :=
  ∃ (pq : Option Addr) (pn pc : Nat) (W : Instrs) (sq : Option Addr) (sn sc : Nat) (M : Strs) (e1 : Bool) (o1 n1 : Int), e = .returned (.agg #[.slice pq pn pc, .bool e1, .int .i64 o1, .int .i64 n1, .slice sq sn sc]) ∧ JobAt w' pq pn W sq sn M ∧ sn ≤ 5 ∧ (∀ i, i < sn → (strAt M i).size ≤ 5000) ∧ (∀ b off, pq = some ⟨b, off, none⟩ → w.heap.size < b) ∧ (∀ b off, sq = some ⟨b, off, none⟩ → w.heap.size < b) ∧ Below w.heap.size w w'
set_option maxHeartbeats 4000000 in
theorem drawjobok_any (w : World) (a : Option Addr) (len cap : Nat) (h : Src w a len) : Calls Tryd.prog 68 #[.slice a len cap] w (DrewJob w) := by
  obtain ⟨R, hR⟩ : ∃ R, w.heap.size = R := ⟨_, rfl⟩
  obtain ⟨wb, hwb⟩ : ∃ wb, w.alloc (.cells #[.slice none 0 0, .bool false, .int .i64 0, .int .i64 0, .slice none 0 0] 44) = wb := ⟨_, rfl⟩
  have HRR := Lib.hid (show Row wb R 44 #[.slice none 0 0, .bool false, .int .i64 0, .int .i64 0, .slice none 0 0] from by rw [← hwb, ← hR]; exact row_new _ _ _)
  have HBB := Lib.hid (show Below w.heap.size w wb from hwb ▸ below_alloc (Below.refl _ _) _)
  have HSZ := Lib.hid (show wb.heap.size = R + 1 by rw [← hwb, ← hR]; simp)
  have HRE := Lib.hid hR
  have H := Lib.hid (h.below HBB.out)
  clear h
  go_enter Tryd.func68, Tryd.ntmps68
  go_wp2_with fail
  refine (open_any _ _ _ _ H.out).mono ?_
  rintro e w1 ⟨rfl, hb, hrd⟩
  have HB1 := Lib.hid hb
  have HRD := Lib.hid hrd
  have HRR := Lib.hid (HRR.out.keep hb)
  obtain ⟨r, hre⟩ : ∃ r, wb.heap.size = r := ⟨_, rfl⟩
  rw [hre] at HRD ⊢
  have HRr := Lib.hid (show R < r by have := HSZ.out; omega)
  have HLT := Lib.hid (show r < w1.heap.size by rw [← hre]; exact hrd.lt)
  have HRB := Lib.hid hre
  clear hb hrd hre hR hwb
  go_wp2_with fail
  refine (rjob_any _ _ _ _ _ HRD.out).mono ?_
  rintro e w2 ⟨pq, pn, pc, W, sq, sn, sc, M, e1, o1, n1, rfl, hpn, hsn, hd⟩
  have HD := Lib.hid hd
  clear hd
  go_wp2_with fail
  refine (hurtjob_any w1 w2 r a len cap pq pn pc W sq sn sc M e1 o1 n1 HLT.out HD.out hpn hsn).mono ?_
  rintro e w3 ⟨pq, pn, pc, W, sq, sn, sc, M, e1, o1, n1, rfl, hj, hsn5, hsz, hp, hs, hw⟩
  have HJ := Lib.hid hj
  have HZ := Lib.hid hsz
  have HP := Lib.hid (show ∀ b off, pq = some ⟨b, off, none⟩ → R < b from fun b off hq => by have h1 := hp b off hq; have h2 := HRr.out; have h3 := HLT.out; omega)
  have HS := Lib.hid (show ∀ b off, sq = some ⟨b, off, none⟩ → R < b from fun b off hq => by have h1 := hs b off hq; have h2 := HRr.out; have h3 := HLT.out; omega)
  have HRR := Lib.hid (HRR.out.went hw (by have := HRr.out; omega))
  have HB3 := Lib.hid (show Below w.heap.size w w3 from hw.under ((HBB.out.trans (HB1.out.mono HBB.out.size))) (by rw [HRE.out]; have := HRr.out; omega) ((HBB.out.trans (HB1.out.mono HBB.out.size))).size)
  clear hj hsz hp hs hw
  have r0 := HRR.out.cell (j := 0) (by simp)
  have r1 := HRR.out.cell (j := 1) (by simp)
  have r2 := HRR.out.cell (j := 2) (by simp)
  have r3 := HRR.out.cell (j := 3) (by simp)
  have r4 := HRR.out.cell (j := 4) (by simp)
  have f0 := HRR.out.free 0
  have f1 := HRR.out.free 1
  have f2 := HRR.out.free 2
  have f3 := HRR.out.free 3
  have f4 := HRR.out.free 4
  simp at r0 r1 r2 r3 r4
  go_wp2
  have hbF := ((((HRR.out.set 0 (.slice pq pn pc)).set 1 (.bool e1)).set 2 (.int .i64 o1)).set 3 (.int .i64 n1)).set 4 (.slice sq sn sc)
  unfold Row at hbF
  have np : ∀ b off, pq = some ⟨b, off, none⟩ → b ≠ R := fun b off hq => by have := HP.out b off hq; omega
  have ns : ∀ b off, sq = some ⟨b, off, none⟩ → b ≠ R := fun b off hq => by have := HS.out b off hq; omega
  have hwR : w.heap.size ≤ R := by rw [HRE.out]; exact Nat.le_refl _
  exact bodyPost_ret (v := .agg #[.slice pq pn pc, .bool e1, .int .i64 o1, .int .i64 n1, .slice sq sn sc]) (by simp [results, Tryd.results68, go_sem, World.cell?, hbF]) rfl
    ⟨pq, pn, pc, W, sq, sn, sc, M, e1, o1, n1, rfl, ((((HJ.out.put np ns 0 _).put np ns 1 _).put np ns 2 _).put np ns 3 _).put np ns 4 _, hsn5, HZ.out, (fun b off hq => by rw [HRE.out]; exact HP.out b off hq), (fun b off hq => by rw [HRE.out]; exact HS.out b off hq), ((((HB3.out.setCell hwR _).setCell hwR _).setCell hwR _).setCell hwR _).setCell hwR _⟩
set_option maxHeartbeats 4000000 in
theorem drawtasks_any (w : World) (a : Option Addr) (len cap : Nat) (h : Src w a len) : Calls Tryd.prog 35 #[.slice a len cap] w (DrewJob w) := by
  obtain ⟨R, hR⟩ : ∃ R, w.heap.size = R := ⟨_, rfl⟩
  obtain ⟨wb, hwb⟩ : ∃ wb, w.alloc (.cells #[.slice none 0 0, .bool false, .int .i64 0, .int .i64 0, .slice none 0 0] 44) = wb := ⟨_, rfl⟩
  have HRR := Lib.hid (show Row wb R 44 #[.slice none 0 0, .bool false, .int .i64 0, .int .i64 0, .slice none 0 0] from by rw [← hwb, ← hR]; exact row_new _ _ _)
  have HBB := Lib.hid (show Below w.heap.size w wb from hwb ▸ below_alloc (Below.refl _ _) _)
  have HSZ := Lib.hid (show wb.heap.size = R + 1 by rw [← hwb, ← hR]; simp)
  have HRE := Lib.hid hR
  have H := Lib.hid (h.below HBB.out)
  clear h
  go_enter Tryd.func35, Tryd.ntmps35
  go_wp2_with fail
  refine (drawjobok_any _ _ _ _ H.out).mono ?_
  rintro e w3 ⟨pq, pn, pc, W, sq, sn, sc, M, e1, o1, n1, rfl, hj, hsn5, hsz, hp, hs, hB⟩
  have HJ := Lib.hid hj
  have HZ := Lib.hid hsz
  have HP := Lib.hid (show ∀ b off, pq = some ⟨b, off, none⟩ → R < b from fun b off hq => by have h1 := hp b off hq; have h2 := HSZ.out; omega)
  have HS := Lib.hid (show ∀ b off, sq = some ⟨b, off, none⟩ → R < b from fun b off hq => by have h1 := hs b off hq; have h2 := HSZ.out; omega)
  have HRR := Lib.hid (HRR.out.keep hB)
  have HB3 := Lib.hid (show Below w.heap.size w w3 from HBB.out.trans (hB.mono HBB.out.size))
  clear hj hsz hp hs hB hR hwb
  have r0 := HRR.out.cell (j := 0) (by simp)
  have r1 := HRR.out.cell (j := 1) (by simp)
  have r2 := HRR.out.cell (j := 2) (by simp)
  have r3 := HRR.out.cell (j := 3) (by simp)
  have r4 := HRR.out.cell (j := 4) (by simp)
  have f0 := HRR.out.free 0
  have f1 := HRR.out.free 1
  have f2 := HRR.out.free 2
  have f3 := HRR.out.free 3
  have f4 := HRR.out.free 4
  simp at r0 r1 r2 r3 r4
  go_wp2
  have hbF := ((((HRR.out.set 0 (.slice pq pn pc)).set 1 (.bool e1)).set 2 (.int .i64 o1)).set 3 (.int .i64 n1)).set 4 (.slice sq sn sc)
  unfold Row at hbF
  have np : ∀ b off, pq = some ⟨b, off, none⟩ → b ≠ R := fun b off hq => by have := HP.out b off hq; omega
  have ns : ∀ b off, sq = some ⟨b, off, none⟩ → b ≠ R := fun b off hq => by have := HS.out b off hq; omega
  have hwR : w.heap.size ≤ R := by rw [HRE.out]; exact Nat.le_refl _
  exact bodyPost_ret (v := .agg #[.slice pq pn pc, .bool e1, .int .i64 o1, .int .i64 n1, .slice sq sn sc]) (by simp [results, Tryd.results35, go_sem, World.cell?, hbF]) rfl
    ⟨pq, pn, pc, W, sq, sn, sc, M, e1, o1, n1, rfl, ((((HJ.out.put np ns 0 _).put np ns 1 _).put np ns 2 _).put np ns 3 _).put np ns 4 _, hsn5, HZ.out, (fun b off hq => by rw [HRE.out]; exact HP.out b off hq), (fun b off hq => by rw [HRE.out]; exact HS.out b off hq), ((((HB3.out.setCell hwR _).setCell hwR _).setCell hwR _).setCell hwR _).setCell hwR _⟩
end Go.Proofs.YtgijalecpeabjaaDoor
