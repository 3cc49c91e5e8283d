
/- The program's perform: a command on its store in use, under its lock. -/
import Derived.Test.YtblpebdjbenphaaGreatDoorCre
import Derived.Test.YtblpebdjbenphaaGreatDoorCmdOk
import Derived.Test.YtblpebdjbenphaaGreatDoorL7W
import Derived.Test.YtblpebdjbenphaaGreatDoorPerfM
import Derived.Test.YtblpebdjbenphaaGreatDoorShelfLk
import Derived.Conc.MuLone
import Derived.Defers
namespace Go.Proofs.YtblpebdjbenphaaGreatDoor
open Go.ChangeShapes Go.WideShapes Go.ChangeAt Go.RowKit Go.MuLone
set_option linter.unusedVariables false
set_option maxRecDepth 100000

theorem Turn.trans2 {B b : Nat} {q : Option Addr} {w w1 w2 : World} (h : Turn B b q w w1) (k : Turn B b q w1 w2) : Turn B b q w w2 := h.trans k (fun a ha => .inl ha)

set_option maxHeartbeats 4000000 in
theorem perform_any (base B b n cp : Nat) (q : Option Addr) (E : Els) (A : ErrA) (kind : Int) (key : ByteArray) (ver : Int) (data : ByteArray) (w : World) (h : ObAt base w B b n q cp 0 E) (hA : Low base A w) (hE : EP E) (hks : key.size ≤ maxLen) (hds : data.size ≤ maxLen) (hn : n < 1000000) :
    Calls Tryz.prog 38 #[.pointer (some ⟨B, 0, none⟩), .agg #[.int .i64 kind, .string key, .int .i64 ver, .string data]] w (MadeC base B b n q 0 (performE kind key ver data E).1 (.tuple #[.int .i64 (performE kind key ver data E).2.1, codeV A (performE kind key ver data E).2.2]) w) := by
  have hb := h.base
  have HO := Lib.hid h
  have HA := Lib.hid hA
  have HE := Lib.hid hE
  have HK := Lib.hid hks
  have HD := Lib.hid hds
  have HT0 := Lib.hid ((Turn.refl B b q w).al (.cells #[.int .i64 kind, .string key, .int .i64 ver, .string data] 52))
  have HO0 := Lib.hid (h.al (.cells #[.int .i64 kind, .string key, .int .i64 ver, .string data] 52))
  have HA0 := Lib.hid (hA.below hb (below_alloc (Below.refl _ _) (.cells #[.int .i64 kind, .string key, .int .i64 ver, .string data] 52)))
  have HX0 := Lib.hid (row_new w #[.int .i64 kind, .string key, .int .i64 ver, .string data] 52)
  clear h hA hE hks hds
  go_enter_defers Tryz.func38, Tryz.ntmps38
  go_wp2_with fail
  refine (cmdok_any kind key ver data _ HK.out HD.out).mono ?_
  rintro e w1 ⟨rfl, hB⟩
  have HT1 := Lib.hid (HT0.out.below hB)
  have HO1 := Lib.hid (HO0.out.keep hB)
  have HA1 := Lib.hid (HA0.out.below HO0.out.base hB)
  have HX1 := Lib.hid (HX0.out.keep hB)
  clear hB HT0 HO0 HA0 HX0 HA HO
  cases hc : cmdB kind key ver data with
  | false =>
    have HR := Lib.hid (show performE kind key ver data E = (E, 0, 1) by unfold performE; rw [hc]; rfl)
    have e0 := HA1.out.tab.c0
    unfold errV at e0
    clear hc
    go_wp2_with fail
    go_quiet (fail)
    go_wp2
    rw [HR.out]
    exact ⟨_, results_tmp2 rfl _ _ _, rfl, HT1.out.below (below_drewN (Below.refl _ _) _), n, q, cp, Nat.le_succ _, HO1.out.keep (below_drewN (Below.refl _ _) _)⟩
  | true =>
    obtain ⟨hk, hkind⟩ := cmd_true hc
    obtain ⟨cB0, -, -⟩ := HO1.out.cells
    have fB0 := HO1.out.row.free 0
    go_wp2_with fail
    refine (lock_free Tryz.muLib ⟨B, 0, none⟩ _ cB0 fB0).mono ?_
    rintro e w2 ⟨rfl, rfl⟩
    obtain ⟨w2, hw2⟩ : ∃ x, w1.setCell ⟨B, 0, none⟩ (.int .i32 1) = x := ⟨_, rfl⟩
    have hne : w.heap.size ≠ B := fun he => by
      have h1 := HX1.out
      rw [he] at h1
      have h2 := HO1.out.row
      unfold Row at h1 h2
      rw [h1] at h2
      simp only [Option.some.injEq, Obj.cells.injEq] at h2
      exact absurd h2.2.1 (by decide)
    have HO2 := Lib.hid (show ObAt base w2 B b n q cp 1 E by rw [← hw2]; exact HO1.out.lock 1)
    have HT2 := Lib.hid (show Turn B b q w w2 by rw [← hw2]; exact HT1.out.set 0 _)
    have HA2 := Lib.hid (show Low base A w2 by
      rw [← hw2]
      exact HA1.out.keep ((Below.refl _ _).setCell (by show base ≤ B; exact HO1.out.geB) _))
    have HX2 := Lib.hid (show Row w2 w.heap.size 52 #[.int .i64 kind, .string key, .int .i64 ver, .string data] by
      rw [← hw2]
      exact (Below.heap_setCell _ _ _ _ hne).trans HX1.out)
    rw [hw2]
    clear hw2 cB0 fB0 HO1 HT1 HA1 HX1 hne
    have x0 := HX2.out.cell (j := 0) (by simp)
    have x1 := HX2.out.cell (j := 1) (by simp)
    have x2 := HX2.out.cell (j := 2) (by simp)
    have x3 := HX2.out.cell (j := 3) (by simp)
    simp at x0 x1 x2 x3
    rcases hkind with ⟨rfl, hv, hd⟩ | ⟨rfl, hv, hd⟩ | ⟨rfl, hv⟩
    · have HR := Lib.hid (show performE 1 key ver data E = createE key data E by unfold performE; rw [hc]; rfl)
      clear hc
      go_wp2_with fail
      refine (pcreate_any base B b n cp q 1 E A key data _ HO2.out HA2.out HE.out HK.out hn).mono ?_
      rintro e w4 ⟨rfl, hT, n4, q4, cp4, hn4, hO⟩
      have HO4 := Lib.hid hO
      have HT4 := Lib.hid (HT2.out.trans2 hT)
      have c4 := hO.cells.1
      have f4 := hO.row.free 0
      clear hT hO
      go_wp2
      refine leaves_cons (f := 58) (args := #[.pointer (some ⟨B, 0, none⟩)]) (by simp) (by simp [go_sem]) ?_
      refine (unlock_deferred Tryz.muLib ⟨B, 0, none⟩ .returning _ c4 f4).mono ?_
      rintro e u' w'' ⟨rfl, rfl, rfl⟩
      rw [HR.out]
      exact ⟨_, results_tmp2 rfl _ _ _, rfl, HT4.out.set 0 _, n4, q4, cp4, hn4, HO4.out.lock 0⟩
    · have HR := Lib.hid (show performE 2 key ver data E = replE key ver data E by unfold performE; rw [hc]; rfl)
      have HV := Lib.hid (inB_iff.1 hv)
      clear hc hv
      go_wp2_with fail
      refine (pput_any base B b n cp q 1 E A key ver data _ HO2.out HA2.out HE.out HK.out hn HV.out.1 HV.out.2).mono ?_
      rintro e w4 ⟨rfl, hT, n4, q4, cp4, hn4, hO⟩
      have HO4 := Lib.hid hO
      have HT4 := Lib.hid (HT2.out.trans2 hT)
      have c4 := hO.cells.1
      have f4 := hO.row.free 0
      clear hT hO
      go_wp2
      refine leaves_cons (f := 58) (args := #[.pointer (some ⟨B, 0, none⟩)]) (by simp) (by simp [go_sem]) ?_
      refine (unlock_deferred Tryz.muLib ⟨B, 0, none⟩ .returning _ c4 f4).mono ?_
      rintro e u' w'' ⟨rfl, rfl, rfl⟩
      rw [HR.out]
      exact ⟨_, results_tmp2 rfl _ _ _, rfl, HT4.out.set 0 _, n4, q4, cp4, hn4, HO4.out.lock 0⟩
    · have HR := Lib.hid (show performE 3 key ver data E = delE key ver E by unfold performE; rw [hc]; rfl)
      clear hc hv
      go_wp2_with fail
      refine (pdel_any base B b n cp q 1 E A key ver _ HO2.out HA2.out HE.out HK.out hn).mono ?_
      rintro e w4 ⟨rfl, hT, n4, q4, cp4, hn4, hO⟩
      have HO4 := Lib.hid hO
      have HT4 := Lib.hid (HT2.out.trans2 hT)
      have c4 := hO.cells.1
      have f4 := hO.row.free 0
      clear hT hO
      go_wp2
      refine leaves_cons (f := 58) (args := #[.pointer (some ⟨B, 0, none⟩)]) (by simp) (by simp [go_sem]) ?_
      refine (unlock_deferred Tryz.muLib ⟨B, 0, none⟩ .returning _ c4 f4).mono ?_
      rintro e u' w'' ⟨rfl, rfl, rfl⟩
      rw [HR.out]
      exact ⟨_, results_tmp2 rfl _ _ _, by rw [del_zero]; rfl, HT4.out.set 0 _, n4, q4, cp4, hn4, HO4.out.lock 0⟩
end Go.Proofs.YtblpebdjbenphaaGreatDoor
