
/- sync.Once round a program's compile: the first time, and later. -/
import Derived.Test.YthnlllbanfemaaaGreatDoorCompile
import Derived.Test.YthnlllbanfemaaaGreatDoorShelfLk
import Derived.Conc.MuLone
import Derived.Defers
namespace Go.Proofs.YthnlllbanfemaaaGreatDoor
open Go.ChangeShapes Go.WideShapes Go.ChangeAt Go.RowKit Go.MuLone
set_option linter.unusedVariables false
set_option maxRecDepth 100000

/-- done.Store(true), entered as a deferred call. -/
theorem boolstore_deferred (a : Addr) (x : Value) (u : FrameMode) (w : World) (hc : w.cell? a = some x) (hz : w.frozen? a = false) :
    CallsD Tryz.prog 105 #[.pointer (some a), .bool true] u w fun e u' w' => u' = u ∧ (e = .returned (.tuple #[]) ∧ w' = w.drew.setCell a (.int .u32 1)) := by
  have hc' : w.drew.cell? a = some x := by go_simp
  have hz' : w.drew.frozen? a = false := by go_simp
  have hst := run_call_store (P := Tryz.prog) Tryz.func140 (by kernel_rfl) (by kernel_rfl) (by kernel_rfl) (by kernel_rfl) (k := .u32) (y := 1) hc' hz'
  go_enter_d Tryz.func105, Tryz.ntmps105
  go_wp2
  go_region_calls
  all_goals (go_end0; exact ⟨rfl, rfl⟩)
theorem boolload_any (a : Addr) (d : Int) (w : World) (h : w.cell? a = some (.int .u32 d)) : Calls Tryz.prog 90 #[.pointer (some a)] w fun e w' => e = .returned (.bool (d != 0)) ∧ w' = w := by
  have hl := run_call_load (P := Tryz.prog) Tryz.func102 (by kernel_rfl) (by kernel_rfl) (by kernel_rfl) .u32 (by kernel_rfl) h
  go_enter Tryz.func90, Tryz.ntmps90
  go_wp2
  go_ret
  exact ⟨rfl, rfl⟩
theorem compiled_done {P : Nat} {a : Option Addr} {len cap : Nat} {l : Instrs} {c1 c2 c3 d1 d2 : Value} {w w' : World} (h : Compiled P a len cap l c1 c2 c3 w w') (hP : P < w.heap.size) : Compiled P a len cap l d1 d2 c3 w ((w'.drew.setCell ⟨P, 1, none⟩ d1).setCell ⟨P, 2, none⟩ d2) := by
  refine ⟨growS (growS (growB h.1 (Below.refl _ _).drew) 1 d1) 2 d2, ?_⟩
  have hr : ∀ {ok st : Value}, ProgRow w' P a len cap c1 c2 c3 ok st → ProgRow ((w'.drew.setCell ⟨P, 1, none⟩ d1).setCell ⟨P, 2, none⟩ d2) P a len cap d1 d2 c3 ok st := fun {ok st} hr => by
    unfold ProgRow at hr ⊢
    have h1 := ((Row.keep hr (Below.refl _ _).drew).set 1 d1).set 2 d2
    simpa using h1
  rcases h.2 with ⟨hp, h2⟩ | ⟨hp, G, hG, h2, h3⟩
  · exact .inl ⟨hp, hr h2⟩
  · exact .inr ⟨hp, G, hG, hr h2, ((h3.keep (Below.refl _ _).drew).other (by omega) 1 d1).other (by omega) 2 d2⟩
theorem compiled_from {P : Nat} {a : Option Addr} {len cap : Nat} {l : Instrs} {c1 c2 c3 : Value} {w w1 w' : World} (h : Compiled P a len cap l c1 c2 c3 w1 w') (hg : w.grownBy w1 (some P)) : Compiled P a len cap l c1 c2 c3 w w' := by
  refine ⟨growT hg h.1, ?_⟩
  rcases h.2 with h2 | ⟨hp, G, hG, h2⟩
  · exact .inl h2
  · exact .inr ⟨hp, G, Nat.le_trans hg.size hG, h2⟩

set_option maxHeartbeats 4000000 in
theorem slow_any (P : Nat) (a : Option Addr) (len cap : Nat) (l : Instrs) (w : World) (hr : ProgRow w P a len cap (.int .u32 0) (.int .i32 0) (.int .u32 0) (.bool false) (.slice none 0 0)) (h : InstrsAt w a len l) (hne : 0 < len → ∀ b off, a = some ⟨b, off, none⟩ → b ≠ P) (hT : ∀ x, TabsP (w.setCell ⟨P, 2, none⟩ x)) :
    Calls Tryz.prog 91 #[.pointer (some ⟨P, 1, none⟩), .func (.func 83) #[.pointer (some ⟨P, 0, none⟩)] #[]] w fun e w' => e = .returned (.tuple #[]) ∧ Compiled P a len cap l (.int .u32 1) (.int .i32 0) (.int .u32 0) w w' := by
  unfold ProgRow at hr
  have HR := Lib.hid hr
  have HI := Lib.hid h
  have HNE := Lib.hid hne
  have HT := Lib.hid hT
  have k2 := hr.cell (j := 2) (by simp)
  have f2 := hr.free 2
  simp at k2
  clear h hne hT hr
  go_enter_defers Tryz.func91, Tryz.ntmps91
  go_wp2_with fail
  refine (lock_free Tryz.muLib ⟨P, 2, none⟩ _ k2 f2).mono ?_
  rintro e w1 ⟨rfl, rfl⟩
  have HR1 := Lib.hid (show Row (w.setCell ⟨P, 2, none⟩ (.int .i32 1)) P 83 #[.slice a len cap, .int .u32 0, .int .i32 1, .int .u32 0, .bool false, .slice none 0 0] from by simpa using HR.out.set 2 (.int .i32 1))
  have HI1 := Lib.hid (inss_grown (w1 := w.setCell ⟨P, 2, none⟩ (.int .i32 1)) HI.out (growS (World.grownBy.refl _ _) 2 _) HNE.out)
  have HG1 := Lib.hid (show w.grownBy (w.setCell ⟨P, 2, none⟩ (.int .i32 1)) (some P) from growS (World.grownBy.refl _ _) 2 _)
  have HT1 := Lib.hid (HT.out (.int .i32 1))
  have HPW := Lib.hid HR.out.lt
  obtain ⟨w1, hw1⟩ : ∃ x, w.setCell ⟨P, 2, none⟩ (.int .i32 1) = x := ⟨_, rfl⟩
  rw [hw1] at HR1 HI1 HG1 HT1
  try rw [hw1]
  have k1 := HR1.out.cell (j := 1) (by simp)
  simp at k1
  clear hw1 HR HI HT k2 f2
  go_wp2_with fail
  refine (boolload_any ⟨P, 1, none⟩ 0 _ k1).mono ?_
  rintro e w2 ⟨rfl, rfl⟩
  go_wp2_with fail
  refine (compile_any P a len cap l _ _ _ _ HR1.out HI1.out HNE.out HT1.out).mono ?_
  rintro e w3 ⟨rfl, hC⟩
  have HC := Lib.hid hC
  have HC2 := Lib.hid (compiled_from (compiled_done (d1 := .int .u32 1) (d2 := .int .i32 0) hC HR1.out.lt) HG1.out)
  have c1 : w3.cell? ⟨P, 1, none⟩ = some (.int .u32 0) ∧ w3.frozen? ⟨P, 1, none⟩ = false ∧ w3.cell? ⟨P, 2, none⟩ = some (.int .i32 1) ∧ w3.frozen? ⟨P, 2, none⟩ = false := by
    have : ∀ {ok st : Value}, ProgRow w3 P a len cap (.int .u32 0) (.int .i32 1) (.int .u32 0) ok st → w3.cell? ⟨P, 1, none⟩ = some (.int .u32 0) ∧ w3.frozen? ⟨P, 1, none⟩ = false ∧ w3.cell? ⟨P, 2, none⟩ = some (.int .i32 1) ∧ w3.frozen? ⟨P, 2, none⟩ = false := fun {ok st} hr => by
      unfold ProgRow at hr
      have h1 := hr.cell (j := 1) (by simp)
      have h2 := hr.cell (j := 2) (by simp)
      simp at h1 h2
      exact ⟨h1, hr.free 1, h2, hr.free 2⟩
    rcases hC.2 with ⟨_, h2⟩ | ⟨_, G, _, h2, _⟩
    · exact this h2
    · exact this h2
  obtain ⟨c1, f1, c2, f2⟩ := c1
  clear hC HC k1 HR1 HI1 HG1 HT1
  go_wp2
  refine leaves_cons (f := 105) (args := #[.pointer (some ⟨P, 1, none⟩), .bool true]) (by simp) (by simp [go_sem]) ?_
  refine (boolstore_deferred ⟨P, 1, none⟩ (.int .u32 0) .returning _ c1 f1).mono ?_
  rintro e u' w'' ⟨rfl, rfl, rfl⟩
  have c4 : (w3.drew.setCell ⟨P, 1, none⟩ (.int .u32 1)).cell? ⟨P, 2, none⟩ = some (.int .i32 1) := (World.cell?_setCell_other _ ⟨P, 1, none⟩ ⟨P, 2, none⟩ _ (by simp)).trans (by simpa using c2)
  have f4 : (w3.drew.setCell ⟨P, 1, none⟩ (.int .u32 1)).frozen? ⟨P, 2, none⟩ = false := by simpa using f2
  refine leaves_cons (f := 104) (args := #[.pointer (some ⟨P, 2, none⟩)]) (by simp [settle]) (by simp [go_sem]) ?_
  refine (unlock_deferred Tryz.muLib ⟨P, 2, none⟩ _ _ c4 f4).mono ?_
  rintro e u' w'' ⟨rfl, rfl, rfl⟩
  exact ⟨_, results_none rfl _ _ _, rfl, HC2.out⟩

/-- Do, the first time. -/
theorem do_first (P : Nat) (a : Option Addr) (len cap : Nat) (l : Instrs) (w : World) (hr : ProgRow w P a len cap (.int .u32 0) (.int .i32 0) (.int .u32 0) (.bool false) (.slice none 0 0)) (h : InstrsAt w a len l) (hne : 0 < len → ∀ b off, a = some ⟨b, off, none⟩ → b ≠ P) (hT : ∀ x, TabsP (w.setCell ⟨P, 2, none⟩ x)) :
    Calls Tryz.prog 82 #[.pointer (some ⟨P, 1, none⟩), .func (.func 83) #[.pointer (some ⟨P, 0, none⟩)] #[]] w fun e w' => e = .returned (.tuple #[]) ∧ Compiled P a len cap l (.int .u32 1) (.int .i32 0) (.int .u32 0) w w' := by
  have HR := Lib.hid hr
  have HI := Lib.hid h
  have HNE := Lib.hid hne
  have HT := Lib.hid hT
  have k1 : w.cell? ⟨P, 1, none⟩ = some (.int .u32 0) := by
    unfold ProgRow at hr
    have h1 := hr.cell (j := 1) (by simp)
    simpa using h1
  clear h hne hT hr
  go_enter Tryz.func82, Tryz.ntmps82
  go_wp2_with fail
  refine (boolload_any ⟨P, 1, none⟩ 0 _ k1).mono ?_
  rintro e w2 ⟨rfl, rfl⟩
  go_wp2_with fail
  refine (slow_any P a len cap l _ HR.out HI.out HNE.out HT.out).mono ?_
  rintro e w3 ⟨rfl, hC⟩
  go_wp2
  go_end0
  exact ⟨rfl, hC⟩
theorem do_done (b : Addr) (fv : Value) (w : World) (h : w.cell? b = some (.int .u32 1)) : Calls Tryz.prog 82 #[.pointer (some b), fv] w fun e w' => e = .returned (.tuple #[]) ∧ w' = w := by
  go_enter Tryz.func82, Tryz.ntmps82
  go_wp2_with fail
  refine (boolload_any b 1 _ h).mono ?_
  rintro e w2 ⟨rfl, rfl⟩
  go_wp2
  go_end0
  exact ⟨rfl, rfl⟩
end Go.Proofs.YthnlllbanfemaaaGreatDoor
