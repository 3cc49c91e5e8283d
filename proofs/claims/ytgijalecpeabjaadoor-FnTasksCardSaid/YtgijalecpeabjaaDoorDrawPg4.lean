
/- Drawn programs and drawn texts of programs. Only new blocks are made. -/
import Derived.Test.YtgijalecpeabjaaDoorDrawPg3
import Derived.Test.YtgijalecpeabjaaDoorDraw1
import Derived.Test.YtgijalecpeabjaaDoorProgTP
namespace Go.Proofs.YtgijalecpeabjaaDoor
open Go.ChangeShapes Go.WideShapes Go.ChangeAt Go.RowKit
set_option linter.unusedVariables false
set_option maxRecDepth 100000

theorem DrawnI.ins {w wr : World} {r : Nat} {a : Option Addr} {len cap n cp : Nat} {q : Option Addr} {W : Instrs} (h : DrawnI w wr r a len cap (.slice q n cp) n W) (hn : n ≤ 80) : InstrsAt wr q n W ∧ ∀ i, i < n → In64 (ins1 W i) :=
  ⟨own_inss h.own h.size (by unfold maxLen; omega) (fun i hi => by have := (fine_at h.fine (k := i) (by rw [h.size]; exact hi)).2; unfold maxLen; omega), fun i hi => (fine_at h.fine (by rw [h.size]; exact hi)).1⟩
/-- A drawn program. -/
def DrewProg (w : World) (e : Ending) (w' : World) : Prop := ∃ (q : Option Addr) (n cp : Nat) (W : Instrs), e = .returned (.slice q n cp) ∧ n ≤ 80 ∧ InstrsAt w' q n W ∧ (∀ i, i < n → In64 (ins1 W i)) ∧ Below w.heap.size w w'
set_option maxHeartbeats 2000000 in
theorem drawprogok_any (w : World) (a : Option Addr) (len cap : Nat) (h : Src w a len) : Calls Tryd.prog 51 #[.slice a len cap] w (DrewProg w) := by
  have H := Lib.hid h
  clear h
  go_enter Tryd.func51, Tryd.ntmps51
  go_wp2_with fail
  refine (open_any _ _ _ _ H.out).mono ?_
  rintro e w1 ⟨rfl, hb, hr⟩
  have HB := Lib.hid hb
  have HR := Lib.hid hr
  have HLT := Lib.hid hr.lt
  obtain ⟨r, hre⟩ : ∃ r, w.heap.size = r := ⟨_, rfl⟩
  rw [hre] at HR HLT ⊢
  have HRE := Lib.hid hre
  clear hb hr hre
  go_wp2_with fail
  refine (rprog_any _ _ _ _ _ HR.out).mono ?_
  rintro e w2 ⟨q, n, cp, W, rfl, _, hn, hd⟩
  have HD := Lib.hid hd
  clear hd
  go_wp2_with fail
  refine (hurtprog_any w1 w2 r a len cap q n cp W HLT.out HD.out hn).mono ?_
  rintro e w3 ⟨q, n, cp, W, rfl, hn, hd⟩
  have HD := Lib.hid hd
  clear hd
  go_wp2
  go_ret
  exact ⟨q, n, cp, W, rfl, hn, (HD.out.d.ins hn).1, (HD.out.d.ins hn).2, by have := HD.out.d.went.under HB.out (by rw [HRE.out]; exact Nat.le_refl _) HB.out.size; exact this⟩
theorem drawprogtext_any (w : World) (a : Option Addr) (len cap : Nat) (h : Src w a len) : Calls Tryd.prog 23 #[.slice a len cap] w (DrewProg w) := by
  have H := Lib.hid h
  clear h
  go_enter Tryd.func23, Tryd.ntmps23
  go_wp2_with fail
  refine (drawprogok_any _ _ _ _ H.out).mono ?_
  rintro e w1 ⟨q, n, cp, W, rfl, hn, hi, h6, hb⟩
  have HI := Lib.hid hi
  have H6 := Lib.hid h6
  have HB := Lib.hid hb
  clear hi h6 hb
  go_wp2
  go_ret
  exact ⟨q, n, cp, W, rfl, hn, HI.out, H6.out, HB.out⟩
theorem progTx_size {l : Instrs} (hn : ∀ i, i < l.length → In64 (ins1 l i)) : (progTx l).size ≤ 690 := by
  unfold progTx
  split
  · rename_i h
    have := progTo_size h hn _ (Nat.le_refl _)
    have := prog_few h
    omega
  · exact Nat.zero_le _
/-- A drawn text. -/
def DrewTx (m : Nat) (w : World) (e : Ending) (w' : World) : Prop := ∃ t : ByteArray, t.size ≤ m ∧ e = .returned (.string t) ∧ Below w.heap.size w w'
set_option maxHeartbeats 2000000 in
theorem drawreadprog_any (w : World) (a : Option Addr) (len cap : Nat) (h : Src w a len) : Calls Tryd.prog 24 #[.slice a len cap] w (DrewTx 700 w) := by
  have H := Lib.hid h
  clear h
  go_enter Tryd.func24, Tryd.ntmps24
  go_wp2_with fail
  refine (open_any _ _ _ _ H.out).mono ?_
  rintro e w1 ⟨rfl, hb, hr⟩
  have HB := Lib.hid hb
  have HR := Lib.hid hr
  obtain ⟨r, hre⟩ : ∃ r, w.heap.size = r := ⟨_, rfl⟩
  rw [hre] at HR ⊢
  have HRE := Lib.hid hre
  clear hb hr hre
  go_wp2_with fail
  refine (rprog_any _ _ _ _ _ HR.out).mono ?_
  rintro e w2 ⟨q, n, cp, W, rfl, _, hn, hd⟩
  have HI := Lib.hid (hd.ins (by omega))
  have HG := Lib.hid hd.went
  have HSZ := Lib.hid (progTx_size (l := W) (fun i hi => (hd.ins (by omega)).2 i (by rw [← hd.size]; exact hi)))
  clear hd
  obtain ⟨T, hT⟩ : ∃ T, progTx W = T := ⟨_, rfl⟩
  have HT := Lib.hid hT
  rw [hT] at HSZ
  clear hT
  go_wp2_with fail
  refine (sprogtext_any q n cp W _ HI.out.1 HI.out.2).mono ?_
  rw [HT.out]
  rintro e w3 ⟨rfl, hB⟩
  have HG := Lib.hid (went_row HG.out (row := none) ⟨hB.os, hB.tape, hB.output, hB.size, fun k hk _ => hB.block k hk⟩ HR.out.lt (fun k hk => by cases hk))
  clear hB
  go_wp2_with fail
  refine (below_any _ _ _ _ _ _ HG.out.rdr (by decide) (by decide)).mono ?_
  rintro e w4 ⟨⟨x, hx1, hx2, rfl⟩, hw⟩
  have HG := Lib.hid (HG.out.trans hw)
  clear hw
  by_cases h0 : x = 0
  · subst h0
    go_wp2_with fail
    refine (hurt_any T 690 _ _ _ _ _ HG.out.rdr HSZ.out (by decide)).mono ?_
    rintro e w5 ⟨⟨u, hu, rfl⟩, hw⟩
    have HG := Lib.hid (HG.out.trans hw)
    have HU := Lib.hid hu
    clear hw hu
    go_wp2
    go_ret
    exact ⟨u, Nat.le_trans HU.out (by decide), rfl, HG.out.under HB.out (by rw [HRE.out]; exact Nat.le_refl _) HB.out.size⟩
  have e0 : ((x : Int) == 0) = false := by rw [beq_eq_false_iff_ne]; exact h0
  by_cases h1 : x = 1
  · subst h1
    clear e0 h0
    go_wp2_with fail
    refine (below_any _ _ _ _ _ _ (HG.out.alloc _).rdr (by decide) (by decide)).mono ?_
    rintro e w5 ⟨⟨y, hy1, hy2, rfl⟩, hw⟩
    obtain ⟨u, hu, hcu⟩ := tab_cell (m := 40) (hw.block (k := w4.heap.size) (heap_alloc_new _ _) (Nat.ne_of_gt HG.out.rdr.lt)) (by decide) y hy1 (by show y < 10; omega)
    have HG := Lib.hid ((HG.out.alloc _).trans hw)
    have HU := Lib.hid hu
    clear hw hu
    go_wp2
    go_ret
    exact ⟨u, Nat.le_trans HU.out (by decide), rfl, HG.out.under HB.out (by rw [HRE.out]; exact Nat.le_refl _) HB.out.size⟩
  have e1 : ((x : Int) == 1) = false := by rw [beq_eq_false_iff_ne]; exact h1
  clear h0 h1
  go_wp2
  go_ret
  exact ⟨T, Nat.le_trans HSZ.out (by decide), rfl, HG.out.under HB.out (by rw [HRE.out]; exact Nat.le_refl _) HB.out.size⟩
end Go.Proofs.YtgijalecpeabjaaDoor
