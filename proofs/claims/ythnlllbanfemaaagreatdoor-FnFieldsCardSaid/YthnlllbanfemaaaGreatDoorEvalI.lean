
/- The program's Eval. Only new blocks are made. -/
import Derived.Test.YthnlllbanfemaaaGreatDoorEvalP
namespace Go.Proofs.YthnlllbanfemaaaGreatDoor
open Go.ChangeShapes Go.WideShapes Go.ChangeAt Go.RowKit Go.MuLone
set_option linter.unusedVariables false
set_option maxRecDepth 100000

theorem made_of_runp {o : Recs × Int} {P : Nat} {a : Option Addr} {len cap : Nat} {l : Instrs} {w w1 : World} {e : Ending} {w' : World} (h : MadeRunP o P a len cap l w1 e w') (h1 : Below w.heap.size w w1) (hP : w.heap.size ≤ P) : MadeRun o w e w' := by
  obtain ⟨q, cp, he, hg, _, hk, hn, hc⟩ := h
  exact ⟨q, cp, he, h1.grown hg h1.size (fun k hk => by cases hk; exact hP), rck_low hk h1.size, hn, hc⟩
theorem ieval_any (a : Option Addr) (len cap : Nat) (l : Instrs) (wq : Option Addr) (wn wc : Nat) (ws : Strs) (w : World) (h : InstrsAt w a len l) (hn : ∀ i, i < len → In64 (ins1 l i)) (hw : StrsAt w wq wn ws) (hT : TabsRP w) :
    Calls Tryz.prog 16 #[.slice a len cap, .slice wq wn wc] w (MadeRun (evalR l ws) w) := by
  have HB := Lib.hid (below_alloc (Below.refl w.heap.size w) (.cells #[.slice a len cap, .int .u32 0, .int .i32 0, .int .u32 0, .bool false, .slice none 0 0] 83))
  have HR := Lib.hid (ot_row_new w #[.slice a len cap, .int .u32 0, .int .i32 0, .int .u32 0, .bool false, .slice none 0 0] 83)
  have HI := Lib.hid h
  have HN := Lib.hid hn
  have HW := Lib.hid hw
  have HT := Lib.hid hT
  clear h hn hw hT
  go_enter Tryz.func16, Tryz.ntmps16
  go_wp2_with fail
  refine (peval_any w.heap.size a len cap l wq wn wc ws w _ (.inl HR.out) HI.out HN.out (HW.out.keep HB.out) (fun h0 b off hq => by
    rcases HW.out.src with hz | ⟨b2, off2, hq2, hb, _⟩
    · omega
    · rw [hq] at hq2
      simp only [Option.some.injEq, Addr.mk.injEq, and_true] at hq2
      omega) HT.out HB.out (Nat.le_refl _)).mono ?_
  intro e w2 hm
  obtain ⟨q, cp, rfl, hB, hk, hq, hc⟩ := made_of_runp hm HB.out (Nat.le_refl _)
  have HF := Lib.hid (show MadeRun (evalR l ws) w (.returned (.tuple #[.slice q (evalR l ws).1.length cp, .int .i64 (evalR l ws).2])) w2 from ⟨q, cp, rfl, hB, hk, hq, hc⟩)
  obtain ⟨n, hn⟩ : ∃ n, (evalR l ws).1.length = n := ⟨_, rfl⟩
  obtain ⟨c, hc⟩ : ∃ n, (evalR l ws).2 = n := ⟨_, rfl⟩
  rw [hn, hc] at HF
  rw [hn, hc]
  clear hm hB hk hq hc hn
  go_wp2
  go_ret2
  exact HF.out
end Go.Proofs.YthnlllbanfemaaaGreatDoor
