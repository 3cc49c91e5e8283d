
/- The drawn pair of records: their keys have at most 41 bytes; only new blocks are made. -/
import Derived.Test.YtonipfhigkkhnaaRd4
import Derived.Test.YtonipfhigkkhnaaOwn
import Derived.Test.YtonipfhigkkhnaaDraw1
namespace Go.Proofs.Ytonipfhigkkhnaa
open Go.ChangeShapes Go.WideShapes Go.ChangeAt Go.RowKit
set_option linter.unusedVariables false
set_option maxRecDepth 100000

/-- What is drawn: two records. -/
def DrewRec2 (w : World) (e : Ending) (w' : World) : Prop := ∃ (s u : ByteArray) (n m : Int), s.size ≤ 41 ∧ u.size ≤ 41 ∧ (Lit.int .i64 n).wf = true ∧ (Lit.int .i64 m).wf = true ∧ e = .returned (.tuple #[recV s n, recV u m]) ∧ Below w.heap.size w w'

theorem end2 {w w4 : World} {b : Nat} {c0 c1 d0 d1 : Value} (h0 : Row w4 b 33 #[c0, c1]) (h1 : Row w4 (b + 1) 33 #[d0, d1]) (s : ByteArray) (n : Int) (u : ByteArray) (m : Int) (hB : Below b w w4) :
    ((((((w4.setCell ⟨b, 0, none⟩ (.string s)).setCell ⟨b, 1, none⟩ (.int .i64 n)).setCell ⟨b + 1, 0, none⟩ (.string u)).setCell ⟨b + 1, 1, none⟩ (.int .i64 m)).drew).heap[b]? = some (.cells #[.string s, .int .i64 n] 33 (0, 0))) ∧
    ((((((w4.setCell ⟨b, 0, none⟩ (.string s)).setCell ⟨b, 1, none⟩ (.int .i64 n)).setCell ⟨b + 1, 0, none⟩ (.string u)).setCell ⟨b + 1, 1, none⟩ (.int .i64 m)).drew).heap[b + 1]? = some (.cells #[.string u, .int .i64 m] 33 (0, 0))) ∧
    Below b w (((((w4.setCell ⟨b, 0, none⟩ (.string s)).setCell ⟨b, 1, none⟩ (.int .i64 n)).setCell ⟨b + 1, 0, none⟩ (.string u)).setCell ⟨b + 1, 1, none⟩ (.int .i64 m)).drew) := by
  refine ⟨?_, ?_, ?_⟩
  · have := (((((h0.set 0 (.string s)).set 1 (.int .i64 n)).other (show b ≠ b + 1 by omega) 0 (.string u)).other (show b ≠ b + 1 by omega) 1 (.int .i64 m))).keep (Below.refl _ _).drew
    exact this
  · have := (((((h1.other (show b + 1 ≠ b by omega) 0 (.string s)).other (show b + 1 ≠ b by omega) 1 (.int .i64 n)).set 0 (.string u)).set 1 (.int .i64 m))).keep (Below.refl _ _).drew
    exact this
  · exact ((((hB.setCell (Nat.le_refl b) _).setCell (Nat.le_refl b) _).setCell (Nat.le_succ b) _).setCell (Nat.le_succ b) _).drew
theorem below_at {w w4 : World} {b x : Nat} (hB : Below b w w4) (h : b ≤ x) (j : Nat) (v : Value) : Below b w (w4.setCell ⟨x, j, none⟩ v) := hB.setCell h v

set_option maxHeartbeats 1000000 in
theorem drawrecless_any (w : World) (a : Option Addr) (len cap : Nat) (h : Src w a len) :
    Calls Try.prog 23 #[.slice a len cap] w (DrewRec2 w) := by
  have H := Lib.hid h
  clear h
  obtain ⟨w0, hw0⟩ : ∃ w0, (w.alloc (.cells #[.string ⟨#[]⟩, .int .i64 0] 33)).alloc (.cells #[.string ⟨#[]⟩, .int .i64 0] 33) = w0 := ⟨_, rfl⟩
  have hx0 : Row w0 w.heap.size 33 #[.string ⟨#[]⟩, .int .i64 0] := hw0 ▸ (Row.new w _ _).alloc _
  have hx1 : Row w0 (w.heap.size + 1) 33 #[.string ⟨#[]⟩, .int .i64 0] := by
    have := Row.new (w.alloc (.cells #[.string ⟨#[]⟩, .int .i64 0] 33)) 33 #[.string ⟨#[]⟩, .int .i64 0]
    rw [hw0] at this
    simpa using this
  have hB0 : Below w.heap.size w w0 := hw0 ▸ below_alloc (below_alloc (Below.refl _ _) _) _
  have hs0 : w0.heap.size = w.heap.size + 2 := by rw [← hw0]; simp
  have HW0 := Lib.hid hw0
  have HX0 := Lib.hid hx0
  have HX1 := Lib.hid hx1
  have HB0 := Lib.hid hB0
  clear hw0 hx0 hx1 hB0
  obtain ⟨b, hbs⟩ : ∃ b, w.heap.size = b := ⟨_, rfl⟩
  go_enter Try.func23, Try.ntmps23
  go_wp2_with fail
  rw [HW0.out]
  try rw [hbs] at HX0
  try rw [hbs] at HX1
  try rw [hbs] at hs0
  try rw [hbs] at HB0
  try rw [hbs]
  clear HW0
  refine (open_any _ _ _ _ (H.out.below (hbs.symm ▸ HB0.out))).mono ?_
  rintro e w1 ⟨rfl, hb, hr⟩
  have HB := Lib.hid (show Below b w w1 by have h0 := HB0.out; rw [← hbs] at h0 ⊢; exact below_via h0 hb)
  have HX0 := Lib.hid (HX0.out.keep hb)
  have HX1 := Lib.hid (HX1.out.keep hb)
  have HG := Lib.hid hr
  rw [hs0] at HG ⊢
  clear hb hr
  go_wp2_with fail
  refine (rec_any _ _ _ _ _ HG.out).mono ?_
  rintro e w2 ⟨⟨s, n, hs, hn, rfl⟩, hw⟩
  have HN := Lib.hid hn
  have HX0 := Lib.hid (HX0.out.grown hw.grown (by simp))
  have HX1 := Lib.hid (HX1.out.grown hw.grown (by simp))
  have HG := Lib.hid hw
  clear hw hn
  unfold recV
  go_wp2_with fail
  have hr2 : b + 2 < w2.heap.size := HG.out.rdr.lt
  obtain ⟨x5, hx5⟩ : ∃ x5, w2.heap.size = x5 := ⟨_, rfl⟩
  have H5 := Lib.hid (show Row (w2.alloc (.cells #[.string s, .int .i64 n] 33)) x5 33 #[.string s, .int .i64 n] from hx5 ▸ Row.new w2 _ _)
  have HX0 := Lib.hid (HX0.out.alloc (.cells #[.string s, .int .i64 n] 33))
  have HX1 := Lib.hid (HX1.out.alloc (.cells #[.string s, .int .i64 n] 33))
  have HG := Lib.hid (HG.out.alloc (.cells #[.string s, .int .i64 n] 33))
  have HZ := Lib.hid (show (w2.alloc (.cells #[.string s, .int .i64 n] 33)).heap.size = x5 + 1 by rw [← hx5]; simp)
  rw [hx5] at hr2 ⊢
  clear hx5
  refine (rec_any _ _ _ _ _ HG.out.rdr).mono ?_
  rintro e w3 ⟨⟨u, m, hu, hm, rfl⟩, hw⟩
  have HM := Lib.hid hm
  have hs3 : x5 + 1 ≤ w3.heap.size := by rw [← HZ.out]; exact hw.size
  have HX0 := Lib.hid (HX0.out.grown hw.grown (by simp))
  have HX1 := Lib.hid (HX1.out.grown hw.grown (by simp))
  have H5 := Lib.hid (H5.out.grown hw.grown (by simp; omega))
  have HG := Lib.hid (HG.out.trans hw)
  clear hw hm HZ
  unfold recV
  go_wp2_with fail
  obtain ⟨x6, hx6⟩ : ∃ x6, w3.heap.size = x6 := ⟨_, rfl⟩
  have H6 := Lib.hid (show Row (w3.alloc (.cells #[.string u, .int .i64 m] 33)) x6 33 #[.string u, .int .i64 m] from hx6 ▸ Row.new w3 _ _)
  have HX0 := Lib.hid (HX0.out.alloc (.cells #[.string u, .int .i64 m] 33))
  have HX1 := Lib.hid (HX1.out.alloc (.cells #[.string u, .int .i64 m] 33))
  have H5 := Lib.hid (H5.out.alloc (.cells #[.string u, .int .i64 m] 33))
  have HG := Lib.hid (HG.out.alloc (.cells #[.string u, .int .i64 m] 33))
  rw [hx6] at hs3 ⊢
  clear hx6
  refine (once_any _ _ _ _ _ _ HG.out.rdr (by decide) (by decide)).mono ?_
  rintro e w4 ⟨⟨y, rfl⟩, hw⟩
  have hx0 := HX0.out.grown hw.grown (by simp)
  have hx1 := HX1.out.grown hw.grown (by simp)
  have h5 := H5.out.grown hw.grown (by simp; omega)
  have h6 := H6.out.grown hw.grown (by simp; omega)
  have HG := Lib.hid (HG.out.trans hw)
  clear hw HX0 HX1 H5 H6
  have e0 : w4.cell? ⟨b, 0, none⟩ = some (.string ⟨#[]⟩) := hx0.cell (j := 0) (by simp)
  have e1 : w4.cell? ⟨b, 1, none⟩ = some (.int .i64 0) := hx0.cell (j := 1) (by simp)
  have f0 : w4.cell? ⟨b + 1, 0, none⟩ = some (.string ⟨#[]⟩) := hx1.cell (j := 0) (by simp)
  have f1 : w4.cell? ⟨b + 1, 1, none⟩ = some (.int .i64 0) := hx1.cell (j := 1) (by simp)
  have c0 : w4.cell? ⟨x5, 0, none⟩ = some (.string s) := h5.cell (j := 0) (by simp)
  have c1 : w4.cell? ⟨x5, 1, none⟩ = some (.int .i64 n) := h5.cell (j := 1) (by simp)
  have d0 : w4.cell? ⟨x6, 0, none⟩ = some (.string u) := h6.cell (j := 0) (by simp)
  have d1 : w4.cell? ⟨x6, 1, none⟩ = some (.int .i64 m) := h6.cell (j := 1) (by simp)
  have z0 := hx0.free 0
  have z1 := hx0.free 1
  have y0 := hx1.free 0
  have y1 := hx1.free 1
  have x0 := h6.free 0
  have n01 : b ≠ b + 1 := by omega
  have n10 : b + 1 ≠ b := by omega
  have n05 : b ≠ x5 := by omega
  have n06 : b ≠ x6 := by omega
  have n15 : b + 1 ≠ x5 := by omega
  have n16 : b + 1 ≠ x6 := by omega
  have n56 : x5 ≠ x6 := by omega
  have n60 : x6 ≠ b := by omega
  have n61 : x6 ≠ b + 1 := by omega
  have n50 : x5 ≠ b := by omega
  have n51 : x5 ≠ b + 1 := by omega
  have n65 : x6 ≠ x5 := by omega
  have HX0 := Lib.hid hx0
  have HX1 := Lib.hid hx1
  have hbw := Lib.hid (show b ≤ w1.heap.size by have := HB.out.size; omega)
  have hx6b := Lib.hid (show b ≤ x6 by omega)
  clear hx0 hx1 h5 h6
  cases y with
  | true =>
    go_wp2_with fail
    go_region_with fail
    all_goals (go_wp2_with fail)
    all_goals (
      obtain ⟨r0, r1, rb⟩ := end2 (w := w) (HX0.out.other n06 0 (.string s)) (HX1.out.other n16 0 (.string s)) s n s m (below_at (HG.out.under HB.out (by omega) hbw.out) hx6b.out 0 (.string s))
      exact bodyPost_ret (v := .tuple #[recV s n, recV s m]) (by simp [results, Try.results23, go_sem, World.cell?, r0, r1, recV]) rfl ⟨s, s, n, m, hs, hs, HN.out, HM.out, rfl, by rw [hbs]; exact rb⟩)
  | false =>
    go_wp2_with fail
    go_region_with fail
    all_goals (go_wp2_with fail)
    all_goals (
      obtain ⟨r0, r1, rb⟩ := end2 (w := w) HX0.out HX1.out s n u m (HG.out.under HB.out (by omega) hbw.out)
      exact bodyPost_ret (v := .tuple #[recV s n, recV u m]) (by simp [results, Try.results23, go_sem, World.cell?, r0, r1, recV]) rfl ⟨s, u, n, m, hs, hu, HN.out, HM.out, rfl, by rw [hbs]; exact rb⟩)
end Go.Proofs.Ytonipfhigkkhnaa
