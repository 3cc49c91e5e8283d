
/- The table of a program's steps: made the first time, handed back later. -/
import Derived.Test.YthnlllbanfemaaaGreatDoorOnce
namespace Go.Proofs.YthnlllbanfemaaaGreatDoor
open Go.ChangeShapes Go.WideShapes Go.ChangeAt Go.RowKit Go.MuLone
set_option linter.unusedVariables false
set_option maxRecDepth 100000

/-- The program in block P has been compiled; st are its steps. -/
def DoneP (P : Nat) (a : Option Addr) (len cap : Nat) (l : Instrs) (w : World) (st : Value) : Prop :=
  (progB l = false ∧ st = .slice none 0 0 ∧ ProgRow w P a len cap (.int .u32 1) (.int .i32 0) (.int .u32 0) (.bool false) st) ∨
  (progB l = true ∧ ∃ G, P < G ∧ st = .slice (some ⟨G, 0, none⟩) len len ∧ ProgRow w P a len cap (.int .u32 1) (.int .i32 0) (.int .u32 0) (.bool true) st ∧ StepsAt G l len w)
/-- It has been compiled, or not yet. -/
def ProgS (P : Nat) (a : Option Addr) (len cap : Nat) (l : Instrs) (w : World) : Prop :=
  ProgRow w P a len cap (.int .u32 0) (.int .i32 0) (.int .u32 0) (.bool false) (.slice none 0 0) ∨ ∃ st, DoneP P a len cap l w st
theorem DoneP.row {P : Nat} {a : Option Addr} {len cap : Nat} {l : Instrs} {w : World} {st : Value} (h : DoneP P a len cap l w st) : ProgRow w P a len cap (.int .u32 1) (.int .i32 0) (.int .u32 0) (.bool (progB l)) st := by
  rcases h with ⟨hp, _, hr⟩ | ⟨hp, G, _, _, hr, _⟩
  · rw [hp]; exact hr
  · rw [hp]; exact hr
theorem DoneP.keep {P : Nat} {a : Option Addr} {len cap : Nat} {l : Instrs} {w w1 : World} {st : Value} (h : DoneP P a len cap l w st) (hB : Below w.heap.size w w1) : DoneP P a len cap l w1 st := by
  rcases h with ⟨hp, hs, hr⟩ | ⟨hp, G, hG, hs, hr, hst⟩
  · exact .inl ⟨hp, hs, Row.keep hr hB⟩
  · exact .inr ⟨hp, G, hG, hs, Row.keep hr hB, hst.keep hB⟩
theorem ProgS.keep {P : Nat} {a : Option Addr} {len cap : Nat} {l : Instrs} {w w1 : World} (h : ProgS P a len cap l w) (hB : Below w.heap.size w w1) : ProgS P a len cap l w1 := by
  rcases h with h | ⟨st, h⟩
  · exact .inl (Row.keep h hB)
  · exact .inr ⟨st, h.keep hB⟩
theorem DoneP.cells {P : Nat} {a : Option Addr} {len cap : Nat} {l : Instrs} {w : World} {st : Value} (h : DoneP P a len cap l w st) : w.cell? ⟨P, 1, none⟩ = some (.int .u32 1) ∧ w.cell? ⟨P, 4, none⟩ = some (.bool (progB l)) ∧ w.cell? ⟨P, 5, none⟩ = some st := by
  have hr := h.row
  unfold ProgRow at hr
  have h1 := hr.cell (j := 1) (by simp)
  have h4 := hr.cell (j := 4) (by simp)
  have h5 := hr.cell (j := 5) (by simp)
  simp at h1 h4 h5
  exact ⟨h1, h4, h5⟩
theorem DoneP.slice {P : Nat} {a : Option Addr} {len cap : Nat} {l : Instrs} {w : World} {st : Value} (h : DoneP P a len cap l w st) : ∃ q n c, st = .slice q n c := by
  rcases h with ⟨_, hs, _⟩ | ⟨_, G, _, hs, _⟩
  · exact ⟨_, _, _, hs⟩
  · exact ⟨_, _, _, hs⟩
def MadeTable (P : Nat) (a : Option Addr) (len cap : Nat) (l : Instrs) (w : World) (e : Ending) (w' : World) : Prop :=
  ∃ st, e = .returned (.tuple #[st, .bool (progB l)]) ∧ DoneP P a len cap l w' st ∧ w.grownBy w' (some P)

set_option maxHeartbeats 2000000 in
theorem table_done (P : Nat) (a : Option Addr) (len cap : Nat) (l : Instrs) (w : World) (st : Value) (h : DoneP P a len cap l w st) :
    Calls Tryz.prog 67 #[.pointer (some ⟨P, 0, none⟩)] w (MadeTable P a len cap l w) := by
  have HD := Lib.hid h
  obtain ⟨c1, c4, c5⟩ := h.cells
  obtain ⟨q, n, c, rfl⟩ := h.slice
  obtain ⟨p, hp⟩ : ∃ p, progB l = p := ⟨_, rfl⟩
  have HP := Lib.hid hp
  rw [hp] at c4
  clear h hp
  go_enter Tryz.func67, Tryz.ntmps67
  go_wp2_with fail
  refine (do_done ⟨P, 1, none⟩ _ _ c1).mono ?_
  rintro e w2 ⟨rfl, rfl⟩
  go_wp2_with fail
  go_region
  go_wp2
  go_ret2
  exact ⟨_, by rw [HP.out]; rfl, HD.out.keep (Below.refl _ _).drew, growD (World.grownBy.refl _ _) 1⟩
set_option maxHeartbeats 2000000 in
theorem table_first (P : Nat) (a : Option Addr) (len cap : Nat) (l : Instrs) (w : World) (hr : ProgRow w P a len cap (.int .u32 0) (.int .i32 0) (.int .u32 0) (.bool false) (.slice none 0 0)) (h : InstrsAt w a len l) (hne : 0 < len → ∀ b off, a = some ⟨b, off, none⟩ → b ≠ P) (hT : ∀ x, TabsP (w.setCell ⟨P, 2, none⟩ x)) :
    Calls Tryz.prog 67 #[.pointer (some ⟨P, 0, none⟩)] w (MadeTable P a len cap l w) := by
  have HR := Lib.hid hr
  have HI := Lib.hid h
  have HNE := Lib.hid hne
  have HT := Lib.hid hT
  have HPW := Lib.hid (show P < w.heap.size from Row.lt hr)
  clear h hne hT hr
  go_enter Tryz.func67, Tryz.ntmps67
  go_wp2_with fail
  refine (do_first P a len cap l _ HR.out HI.out HNE.out HT.out).mono ?_
  rintro e w2 ⟨rfl, hC⟩
  obtain ⟨st, hD⟩ : ∃ st, DoneP P a len cap l w2 st := by
    rcases hC.2 with ⟨hp, h2⟩ | ⟨hp, G, hG, h2, h3⟩
    · exact ⟨_, .inl ⟨hp, rfl, h2⟩⟩
    · exact ⟨_, .inr ⟨hp, G, by have := HPW.out; omega, rfl, h2, h3⟩⟩
  have HG := Lib.hid hC.1
  have HD := Lib.hid hD
  obtain ⟨c1, c4, c5⟩ := hD.cells
  obtain ⟨q, n, c, rfl⟩ := hD.slice
  obtain ⟨p, hp⟩ : ∃ p, progB l = p := ⟨_, rfl⟩
  have HP := Lib.hid hp
  rw [hp] at c4
  clear hC hD hp c1 HR HI HNE HT
  go_wp2_with fail
  go_region
  go_wp2
  go_ret2
  exact ⟨_, by rw [HP.out]; rfl, HD.out.keep (Below.refl _ _).drew, growD HG.out 1⟩
theorem table_any (P : Nat) (a : Option Addr) (len cap : Nat) (l : Instrs) (w0 w : World) (hs : ProgS P a len cap l w) (h : InstrsAt w0 a len l) (hT : TabsP w0) (h0 : Below w0.heap.size w0 w) (hP : w0.heap.size ≤ P) :
    Calls Tryz.prog 67 #[.pointer (some ⟨P, 0, none⟩)] w (MadeTable P a len cap l w) := by
  rcases hs with hr | ⟨st, hd⟩
  · refine table_first P a len cap l w hr (h.keep h0) (fun hl b off ha => ?_) (fun x => hT.keep (h0.setCell hP x))
    rcases h.src with hz | ⟨b2, off2, ha2, hb, _⟩
    · omega
    · rw [ha] at ha2
      simp only [Option.some.injEq, Addr.mk.injEq, and_true] at ha2
      omega
  · exact table_done P a len cap l w st hd
end Go.Proofs.YthnlllbanfemaaaGreatDoor
