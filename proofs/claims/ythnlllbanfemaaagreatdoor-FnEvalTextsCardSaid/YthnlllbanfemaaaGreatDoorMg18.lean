/- Texts put together, as a claim holds at most sixty files. -/
import Derived.Test.YthnlllbanfemaaaGreatDoorMg17
import Derived.Test.YthnlllbanfemaaaGreatDoorShelfLk
import Derived.Conc.MuLone
import Derived.Defers
import Derived.Test.YthnlllbanfemaaaGreatDoorMg16
namespace Go.Proofs.YthnlllbanfemaaaGreatDoor
open Go.ChangeShapes Go.WideShapes Go.ChangeAt Go.RowKit Go.MuLone
set_option linter.unusedVariables false
set_option maxRecDepth 100000

/-- done.Store(true), entered as a deferred call. -/
theorem boolstore_deferred (a : Addr) (x : Value) (u : FrameMode) (w : World) (hc : w.cell? a = some x) (hz : w.frozen? a = false) :
    CallsD Tryz.prog 105 #[.pointer (some a), .bool true] u w fun e u' w' => u' = u ∧ (e = .returned (.tuple #[]) ∧ w' = w.drew.setCell a (.int .u32 1)) := by
  have hc' : w.drew.cell? a = some x := by go_simp
  have hz' : w.drew.frozen? a = false := by go_simp
  have hst := run_call_store (P := Tryz.prog) Tryz.func140 (by kernel_rfl) (by kernel_rfl) (by kernel_rfl) (by kernel_rfl) (k := .u32) (y := 1) hc' hz'
  go_enter_d Tryz.func105, Tryz.ntmps105
  go_wp2
  go_region_calls
  all_goals (go_end0; exact ⟨rfl, rfl⟩)
theorem boolload_any (a : Addr) (d : Int) (w : World) (h : w.cell? a = some (.int .u32 d)) : Calls Tryz.prog 90 #[.pointer (some a)] w fun e w' => e = .returned (.bool (d != 0)) ∧ w' = w := by
  have hl := run_call_load (P := Tryz.prog) Tryz.func102 (by kernel_rfl) (by kernel_rfl) (by kernel_rfl) .u32 (by kernel_rfl) h
  go_enter Tryz.func90, Tryz.ntmps90
  go_wp2
  go_ret
  exact ⟨rfl, rfl⟩
theorem compiled_done {P : Nat} {a : Option Addr} {len cap : Nat} {l : Instrs} {c1 c2 c3 d1 d2 : Value} {w w' : World} (h : Compiled P a len cap l c1 c2 c3 w w') (hP : P < w.heap.size) : Compiled P a len cap l d1 d2 c3 w ((w'.drew.setCell ⟨P, 1, none⟩ d1).setCell ⟨P, 2, none⟩ d2) := by
  refine ⟨growS (growS (growB h.1 (Below.refl _ _).drew) 1 d1) 2 d2, ?_⟩
  have hr : ∀ {ok st : Value}, ProgRow w' P a len cap c1 c2 c3 ok st → ProgRow ((w'.drew.setCell ⟨P, 1, none⟩ d1).setCell ⟨P, 2, none⟩ d2) P a len cap d1 d2 c3 ok st := fun {ok st} hr => by
    unfold ProgRow at hr ⊢
    have h1 := ((Row.keep hr (Below.refl _ _).drew).set 1 d1).set 2 d2
    simpa using h1
  rcases h.2 with ⟨hp, h2⟩ | ⟨hp, G, hG, h2, h3⟩
  · exact .inl ⟨hp, hr h2⟩
  · exact .inr ⟨hp, G, hG, hr h2, ((h3.keep (Below.refl _ _).drew).other (by omega) 1 d1).other (by omega) 2 d2⟩
theorem compiled_from {P : Nat} {a : Option Addr} {len cap : Nat} {l : Instrs} {c1 c2 c3 : Value} {w w1 w' : World} (h : Compiled P a len cap l c1 c2 c3 w1 w') (hg : w.grownBy w1 (some P)) : Compiled P a len cap l c1 c2 c3 w w' := by
  refine ⟨growT hg h.1, ?_⟩
  rcases h.2 with h2 | ⟨hp, G, hG, h2⟩
  · exact .inl h2
  · exact .inr ⟨hp, G, Nat.le_trans hg.size hG, h2⟩

set_option maxHeartbeats 4000000 in
theorem slow_any (P : Nat) (a : Option Addr) (len cap : Nat) (l : Instrs) (w : World) (hr : ProgRow w P a len cap (.int .u32 0) (.int .i32 0) (.int .u32 0) (.bool false) (.slice none 0 0)) (h : InstrsAt w a len l) (hne : 0 < len → ∀ b off, a = some ⟨b, off, none⟩ → b ≠ P) (hT : ∀ x, TabsP (w.setCell ⟨P, 2, none⟩ x)) :
    Calls Tryz.prog 91 #[.pointer (some ⟨P, 1, none⟩), .func (.func 83) #[.pointer (some ⟨P, 0, none⟩)] #[]] w fun e w' => e = .returned (.tuple #[]) ∧ Compiled P a len cap l (.int .u32 1) (.int .i32 0) (.int .u32 0) w w' := by
  unfold ProgRow at hr
  have HR := Lib.hid hr
  have HI := Lib.hid h
  have HNE := Lib.hid hne
  have HT := Lib.hid hT
  have k2 := hr.cell (j := 2) (by simp)
  have f2 := hr.free 2
  simp at k2
  clear h hne hT hr
  go_enter_defers Tryz.func91, Tryz.ntmps91
  go_wp2_with fail
  refine (lock_free Tryz.muLib ⟨P, 2, none⟩ _ k2 f2).mono ?_
  rintro e w1 ⟨rfl, rfl⟩
  have HR1 := Lib.hid (show Row (w.setCell ⟨P, 2, none⟩ (.int .i32 1)) P 83 #[.slice a len cap, .int .u32 0, .int .i32 1, .int .u32 0, .bool false, .slice none 0 0] from by simpa using HR.out.set 2 (.int .i32 1))
  have HI1 := Lib.hid (inss_grown (w1 := w.setCell ⟨P, 2, none⟩ (.int .i32 1)) HI.out (growS (World.grownBy.refl _ _) 2 _) HNE.out)
  have HG1 := Lib.hid (show w.grownBy (w.setCell ⟨P, 2, none⟩ (.int .i32 1)) (some P) from growS (World.grownBy.refl _ _) 2 _)
  have HT1 := Lib.hid (HT.out (.int .i32 1))
  have HPW := Lib.hid HR.out.lt
  obtain ⟨w1, hw1⟩ : ∃ x, w.setCell ⟨P, 2, none⟩ (.int .i32 1) = x := ⟨_, rfl⟩
  rw [hw1] at HR1 HI1 HG1 HT1
  try rw [hw1]
  have k1 := HR1.out.cell (j := 1) (by simp)
  simp at k1
  clear hw1 HR HI HT k2 f2
  go_wp2_with fail
  refine (boolload_any ⟨P, 1, none⟩ 0 _ k1).mono ?_
  rintro e w2 ⟨rfl, rfl⟩
  go_wp2_with fail
  refine (compile_any P a len cap l _ _ _ _ HR1.out HI1.out HNE.out HT1.out).mono ?_
  rintro e w3 ⟨rfl, hC⟩
  have HC := Lib.hid hC
  have HC2 := Lib.hid (compiled_from (compiled_done (d1 := .int .u32 1) (d2 := .int .i32 0) hC HR1.out.lt) HG1.out)
  have c1 : w3.cell? ⟨P, 1, none⟩ = some (.int .u32 0) ∧ w3.frozen? ⟨P, 1, none⟩ = false ∧ w3.cell? ⟨P, 2, none⟩ = some (.int .i32 1) ∧ w3.frozen? ⟨P, 2, none⟩ = false := by
    have : ∀ {ok st : Value}, ProgRow w3 P a len cap (.int .u32 0) (.int .i32 1) (.int .u32 0) ok st → w3.cell? ⟨P, 1, none⟩ = some (.int .u32 0) ∧ w3.frozen? ⟨P, 1, none⟩ = false ∧ w3.cell? ⟨P, 2, none⟩ = some (.int .i32 1) ∧ w3.frozen? ⟨P, 2, none⟩ = false := fun {ok st} hr => by
      unfold ProgRow at hr
      have h1 := hr.cell (j := 1) (by simp)
      have h2 := hr.cell (j := 2) (by simp)
      simp at h1 h2
      exact ⟨h1, hr.free 1, h2, hr.free 2⟩
    rcases hC.2 with ⟨_, h2⟩ | ⟨_, G, _, h2, _⟩
    · exact this h2
    · exact this h2
  obtain ⟨c1, f1, c2, f2⟩ := c1
  clear hC HC k1 HR1 HI1 HG1 HT1
  go_wp2
  refine leaves_cons (f := 105) (args := #[.pointer (some ⟨P, 1, none⟩), .bool true]) (by simp) (by simp [go_sem]) ?_
  refine (boolstore_deferred ⟨P, 1, none⟩ (.int .u32 0) .returning _ c1 f1).mono ?_
  rintro e u' w'' ⟨rfl, rfl, rfl⟩
  have c4 : (w3.drew.setCell ⟨P, 1, none⟩ (.int .u32 1)).cell? ⟨P, 2, none⟩ = some (.int .i32 1) := (World.cell?_setCell_other _ ⟨P, 1, none⟩ ⟨P, 2, none⟩ _ (by simp)).trans (by simpa using c2)
  have f4 : (w3.drew.setCell ⟨P, 1, none⟩ (.int .u32 1)).frozen? ⟨P, 2, none⟩ = false := by simpa using f2
  refine leaves_cons (f := 104) (args := #[.pointer (some ⟨P, 2, none⟩)]) (by simp [settle]) (by simp [go_sem]) ?_
  refine (unlock_deferred Tryz.muLib ⟨P, 2, none⟩ _ _ c4 f4).mono ?_
  rintro e u' w'' ⟨rfl, rfl, rfl⟩
  exact ⟨_, results_none rfl _ _ _, rfl, HC2.out⟩

/-- Do, the first time. -/
theorem do_first (P : Nat) (a : Option Addr) (len cap : Nat) (l : Instrs) (w : World) (hr : ProgRow w P a len cap (.int .u32 0) (.int .i32 0) (.int .u32 0) (.bool false) (.slice none 0 0)) (h : InstrsAt w a len l) (hne : 0 < len → ∀ b off, a = some ⟨b, off, none⟩ → b ≠ P) (hT : ∀ x, TabsP (w.setCell ⟨P, 2, none⟩ x)) :
    Calls Tryz.prog 82 #[.pointer (some ⟨P, 1, none⟩), .func (.func 83) #[.pointer (some ⟨P, 0, none⟩)] #[]] w fun e w' => e = .returned (.tuple #[]) ∧ Compiled P a len cap l (.int .u32 1) (.int .i32 0) (.int .u32 0) w w' := by
  have HR := Lib.hid hr
  have HI := Lib.hid h
  have HNE := Lib.hid hne
  have HT := Lib.hid hT
  have k1 : w.cell? ⟨P, 1, none⟩ = some (.int .u32 0) := by
    unfold ProgRow at hr
    have h1 := hr.cell (j := 1) (by simp)
    simpa using h1
  clear h hne hT hr
  go_enter Tryz.func82, Tryz.ntmps82
  go_wp2_with fail
  refine (boolload_any ⟨P, 1, none⟩ 0 _ k1).mono ?_
  rintro e w2 ⟨rfl, rfl⟩
  go_wp2_with fail
  refine (slow_any P a len cap l _ HR.out HI.out HNE.out HT.out).mono ?_
  rintro e w3 ⟨rfl, hC⟩
  go_wp2
  go_end0
  exact ⟨rfl, hC⟩
theorem do_done (b : Addr) (fv : Value) (w : World) (h : w.cell? b = some (.int .u32 1)) : Calls Tryz.prog 82 #[.pointer (some b), fv] w fun e w' => e = .returned (.tuple #[]) ∧ w' = w := by
  go_enter Tryz.func82, Tryz.ntmps82
  go_wp2_with fail
  refine (boolload_any b 1 _ h).mono ?_
  rintro e w2 ⟨rfl, rfl⟩
  go_wp2
  go_end0
  exact ⟨rfl, rfl⟩
end Go.Proofs.YthnlllbanfemaaaGreatDoor
namespace Go.Proofs.YthnlllbanfemaaaGreatDoor
open Go.ChangeShapes Go.WideShapes Go.ChangeAt Go.RowKit Go.MuLone
set_option linter.unusedVariables false
set_option maxRecDepth 100000

/-- The program in block P has been compiled; st are its steps. -/
def DoneP (P : Nat) (a : Option Addr) (len cap : Nat) (l : Instrs) (w : World) (st : Value) : Prop :=
  (progB l = false ∧ st = .slice none 0 0 ∧ ProgRow w P a len cap (.int .u32 1) (.int .i32 0) (.int .u32 0) (.bool false) st) ∨
  (progB l = true ∧ ∃ G, P < G ∧ st = .slice (some ⟨G, 0, none⟩) len len ∧ ProgRow w P a len cap (.int .u32 1) (.int .i32 0) (.int .u32 0) (.bool true) st ∧ StepsAt G l len w)
/-- It has been compiled, or not yet. -/
def ProgS (P : Nat) (a : Option Addr) (len cap : Nat) (l : Instrs) (w : World) : Prop :=
  ProgRow w P a len cap (.int .u32 0) (.int .i32 0) (.int .u32 0) (.bool false) (.slice none 0 0) ∨ ∃ st, DoneP P a len cap l w st
theorem DoneP.row {P : Nat} {a : Option Addr} {len cap : Nat} {l : Instrs} {w : World} {st : Value} (h : DoneP P a len cap l w st) : ProgRow w P a len cap (.int .u32 1) (.int .i32 0) (.int .u32 0) (.bool (progB l)) st := by
  rcases h with ⟨hp, _, hr⟩ | ⟨hp, G, _, _, hr, _⟩
  · rw [hp]; exact hr
  · rw [hp]; exact hr
theorem DoneP.keep {P : Nat} {a : Option Addr} {len cap : Nat} {l : Instrs} {w w1 : World} {st : Value} (h : DoneP P a len cap l w st) (hB : Below w.heap.size w w1) : DoneP P a len cap l w1 st := by
  rcases h with ⟨hp, hs, hr⟩ | ⟨hp, G, hG, hs, hr, hst⟩
  · exact .inl ⟨hp, hs, Row.keep hr hB⟩
  · exact .inr ⟨hp, G, hG, hs, Row.keep hr hB, hst.keep hB⟩
theorem ProgS.keep {P : Nat} {a : Option Addr} {len cap : Nat} {l : Instrs} {w w1 : World} (h : ProgS P a len cap l w) (hB : Below w.heap.size w w1) : ProgS P a len cap l w1 := by
  rcases h with h | ⟨st, h⟩
  · exact .inl (Row.keep h hB)
  · exact .inr ⟨st, h.keep hB⟩
theorem DoneP.cells {P : Nat} {a : Option Addr} {len cap : Nat} {l : Instrs} {w : World} {st : Value} (h : DoneP P a len cap l w st) : w.cell? ⟨P, 1, none⟩ = some (.int .u32 1) ∧ w.cell? ⟨P, 4, none⟩ = some (.bool (progB l)) ∧ w.cell? ⟨P, 5, none⟩ = some st := by
  have hr := h.row
  unfold ProgRow at hr
  have h1 := hr.cell (j := 1) (by simp)
  have h4 := hr.cell (j := 4) (by simp)
  have h5 := hr.cell (j := 5) (by simp)
  simp at h1 h4 h5
  exact ⟨h1, h4, h5⟩
theorem DoneP.slice {P : Nat} {a : Option Addr} {len cap : Nat} {l : Instrs} {w : World} {st : Value} (h : DoneP P a len cap l w st) : ∃ q n c, st = .slice q n c := by
  rcases h with ⟨_, hs, _⟩ | ⟨_, G, _, hs, _⟩
  · exact ⟨_, _, _, hs⟩
  · exact ⟨_, _, _, hs⟩
def MadeTable (P : Nat) (a : Option Addr) (len cap : Nat) (l : Instrs) (w : World) (e : Ending) (w' : World) : Prop :=
  ∃ st, e = .returned (.tuple #[st, .bool (progB l)]) ∧ DoneP P a len cap l w' st ∧ w.grownBy w' (some P)

set_option maxHeartbeats 2000000 in
theorem table_done (P : Nat) (a : Option Addr) (len cap : Nat) (l : Instrs) (w : World) (st : Value) (h : DoneP P a len cap l w st) :
    Calls Tryz.prog 67 #[.pointer (some ⟨P, 0, none⟩)] w (MadeTable P a len cap l w) := by
  have HD := Lib.hid h
  obtain ⟨c1, c4, c5⟩ := h.cells
  obtain ⟨q, n, c, rfl⟩ := h.slice
  obtain ⟨p, hp⟩ : ∃ p, progB l = p := ⟨_, rfl⟩
  have HP := Lib.hid hp
  rw [hp] at c4
  clear h hp
  go_enter Tryz.func67, Tryz.ntmps67
  go_wp2_with fail
  refine (do_done ⟨P, 1, none⟩ _ _ c1).mono ?_
  rintro e w2 ⟨rfl, rfl⟩
  go_wp2_with fail
  go_region
  go_wp2
  go_ret2
  exact ⟨_, by rw [HP.out]; rfl, HD.out.keep (Below.refl _ _).drew, growD (World.grownBy.refl _ _) 1⟩
set_option maxHeartbeats 2000000 in
theorem table_first (P : Nat) (a : Option Addr) (len cap : Nat) (l : Instrs) (w : World) (hr : ProgRow w P a len cap (.int .u32 0) (.int .i32 0) (.int .u32 0) (.bool false) (.slice none 0 0)) (h : InstrsAt w a len l) (hne : 0 < len → ∀ b off, a = some ⟨b, off, none⟩ → b ≠ P) (hT : ∀ x, TabsP (w.setCell ⟨P, 2, none⟩ x)) :
    Calls Tryz.prog 67 #[.pointer (some ⟨P, 0, none⟩)] w (MadeTable P a len cap l w) := by
  have HR := Lib.hid hr
  have HI := Lib.hid h
  have HNE := Lib.hid hne
  have HT := Lib.hid hT
  have HPW := Lib.hid (show P < w.heap.size from Row.lt hr)
  clear h hne hT hr
  go_enter Tryz.func67, Tryz.ntmps67
  go_wp2_with fail
  refine (do_first P a len cap l _ HR.out HI.out HNE.out HT.out).mono ?_
  rintro e w2 ⟨rfl, hC⟩
  obtain ⟨st, hD⟩ : ∃ st, DoneP P a len cap l w2 st := by
    rcases hC.2 with ⟨hp, h2⟩ | ⟨hp, G, hG, h2, h3⟩
    · exact ⟨_, .inl ⟨hp, rfl, h2⟩⟩
    · exact ⟨_, .inr ⟨hp, G, by have := HPW.out; omega, rfl, h2, h3⟩⟩
  have HG := Lib.hid hC.1
  have HD := Lib.hid hD
  obtain ⟨c1, c4, c5⟩ := hD.cells
  obtain ⟨q, n, c, rfl⟩ := hD.slice
  obtain ⟨p, hp⟩ : ∃ p, progB l = p := ⟨_, rfl⟩
  have HP := Lib.hid hp
  rw [hp] at c4
  clear hC hD hp c1 HR HI HNE HT
  go_wp2_with fail
  go_region
  go_wp2
  go_ret2
  exact ⟨_, by rw [HP.out]; rfl, HD.out.keep (Below.refl _ _).drew, growD HG.out 1⟩
theorem table_any (P : Nat) (a : Option Addr) (len cap : Nat) (l : Instrs) (w0 w : World) (hs : ProgS P a len cap l w) (h : InstrsAt w0 a len l) (hT : TabsP w0) (h0 : Below w0.heap.size w0 w) (hP : w0.heap.size ≤ P) :
    Calls Tryz.prog 67 #[.pointer (some ⟨P, 0, none⟩)] w (MadeTable P a len cap l w) := by
  rcases hs with hr | ⟨st, hd⟩
  · refine table_first P a len cap l w hr (h.keep h0) (fun hl b off ha => ?_) (fun x => hT.keep (h0.setCell hP x))
    rcases h.src with hz | ⟨b2, off2, ha2, hb, _⟩
    · omega
    · rw [ha] at ha2
      simp only [Option.some.injEq, Addr.mk.injEq, and_true] at ha2
      omega
  · exact table_done P a len cap l w st hd
end Go.Proofs.YthnlllbanfemaaaGreatDoor
namespace Go.Proofs.YthnlllbanfemaaaGreatDoor
open Go.ChangeShapes Go.WideShapes Go.ChangeAt Go.RowKit
set_option linter.unusedVariables false
set_option maxRecDepth 100000

theorem ops14 {op : Nat} (h1 : 1 ≤ op) (h2 : op ≤ 14) : op = 1 ∨ op = 2 ∨ op = 3 ∨ op = 4 ∨ op = 5 ∨ op = 6 ∨ op = 7 ∨ op = 8 ∨ op = 9 ∨ op = 10 ∨ op = 11 ∨ op = 12 ∨ op = 13 ∨ op = 14 := by omega
theorem gives_kinds {op : Nat} (h1 : 1 ≤ op) (h2 : op ≤ 14) : givesB op = ⟨#[84]⟩ ∨ givesB op = ⟨#[78]⟩ ∨ givesB op = ⟨#[]⟩ := by
  rcases ops14 h1 h2 with rfl | rfl | rfl | rfl | rfl | rfl | rfl | rfl | rfl | rfl | rfl | rfl | rfl | rfl
  · exact .inl rfl
  · exact .inl rfl
  · exact .inr (.inl rfl)
  · exact .inl rfl
  · exact .inr (.inl rfl)
  · exact .inr (.inl rfl)
  · exact .inl rfl
  · exact .inr (.inl rfl)
  · exact .inr (.inl rfl)
  · exact .inr (.inl rfl)
  · exact .inr (.inl rfl)
  · exact .inr (.inl rfl)
  · exact .inr (.inr rfl)
  · exact .inr (.inr rfl)
theorem putN_none {op : Nat} {n : Int} {s : ByteArray} {av : EVs} {ws : Strs} (h1 : 1 ≤ op) (h2 : op ≤ 14) (h : givesB op = ⟨#[78]⟩) : (putV op n s av ws).1 = ByteArray.empty := by
  rcases ops14 h1 h2 with rfl | rfl | rfl | rfl | rfl | rfl | rfl | rfl | rfl | rfl | rfl | rfl | rfl | rfl
  all_goals first | rfl | (exfalso; revert h; decide)
theorem evStep_some {op : Nat} {n : Int} {s : ByteArray} {ws : Strs} {S S0 av : EVs} {O : Recs} {y : EVs × Recs} {st0 : ByteArray} (h1 : 1 ≤ op) (h2 : op ≤ 14)
    (e1 : S.take (S.length - (takesB op).size) = S0) (e2 : S.drop (S.length - (takesB op).size) = av) (hs : st0.size = S0.length) (hall : ∀ v ∈ S0, v.1.size ≤ 40) (h : evStep op n s ws (S, O) = some y) :
    y.2 = stO op av O ∧ txs (st0 ++ givesB op).data.toList y.1 = stT op n s ws av (txs st0.data.toList S0) ∧ nms (st0 ++ givesB op).data.toList y.1 = stN op n s ws av (nms st0.data.toList S0) ∧ ∀ t ∈ stT op n s ws av (txs st0.data.toList S0), t.size ≤ 40 := by
  have hl : st0.data.toList.length = S0.length := by rw [← hs]; rfl
  have hT0 : ∀ t ∈ txs st0.data.toList S0, t.size ≤ 40 := fun t ht => by
    obtain ⟨v, hv, rfl⟩ := txs_mem _ _ _ ht
    exact hall v hv
  unfold evStep at h
  simp only [e1, e2] at h
  by_cases hg : (givesB op).size = 0
  · rw [if_pos hg] at h
    have h := (Option.some.inj h).symm
    subst h
    have hge : (givesB op).data.toList = [] := List.eq_nil_of_length_eq_zero (by simpa using hg)
    refine ⟨by unfold stO; rw [if_pos hg], ?_, ?_, ?_⟩
    · unfold stT; rw [if_pos hg]; simp [hge]
    · unfold stN; rw [if_pos hg]; simp [hge]
    · unfold stT; rw [if_pos hg]; exact hT0
  · rw [if_neg hg] at h
    by_cases h40 : (putV op n s av ws).1.size ≤ 40
    · rw [if_pos h40] at h
      have h := (Option.some.inj h).symm
      subst h
      refine ⟨by unfold stO; rw [if_neg hg], ?_, ?_, ?_⟩
      · unfold stT; rw [if_neg hg]; simp only [ByteArray.data_append, Array.toList_append]; exact txs_app _ _ _ _ hl
      · unfold stN; rw [if_neg hg]; simp only [ByteArray.data_append, Array.toList_append]; exact nms_app _ _ _ _ hl
      · unfold stT; rw [if_neg hg]
        intro t ht
        rcases List.mem_append.1 ht with ht | ht
        · exact hT0 t ht
        · obtain ⟨v, hv, rfl⟩ := txs_mem _ _ _ ht
          simp at hv
          subst hv
          exact h40
    · rw [if_neg h40] at h; cases h
theorem evStep_none {op : Nat} {n : Int} {s : ByteArray} {ws : Strs} {S S0 av : EVs} {O : Recs} {T0 : Strs} (h1 : 1 ≤ op) (h2 : op ≤ 14)
    (e1 : S.take (S.length - (takesB op).size) = S0) (e2 : S.drop (S.length - (takesB op).size) = av) (h : evStep op n s ws (S, O) = none) : ∃ x, stT op n s ws av T0 = T0 ++ [x] ∧ 40 < x.size := by
  unfold evStep at h
  simp only [e1, e2] at h
  by_cases hg : (givesB op).size = 0
  · rw [if_pos hg] at h; cases h
  · rw [if_neg hg] at h
    by_cases h40 : (putV op n s av ws).1.size ≤ 40
    · rw [if_pos h40] at h; cases h
    · rcases gives_kinds h1 h2 with hk | hk | hk
      · refine ⟨(putV op n s av ws).1, ?_, by omega⟩
        unfold stT
        rw [if_neg hg, hk]
        rfl
      · rw [putN_none h1 h2 hk] at h40
        exact absurd (by decide) h40
      · rw [hk] at hg; exact absurd rfl hg
end Go.Proofs.YthnlllbanfemaaaGreatDoor
