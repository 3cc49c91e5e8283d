/- Texts put together, as a claim holds at most sixty files. -/
import Derived.Test.YtdphganbnlmgcaaGreatDoorMg16
import Derived.Test.YtdphganbnlmgcaaGreatDoorMg15
import Derived.Test.YtdphganbnlmgcaaGreatDoorEvalS
namespace Go.Proofs.YtdphganbnlmgcaaGreatDoor
open Go.ChangeShapes Go.WideShapes Go.ChangeAt Go.RowKit Go.MuLone
set_option linter.unusedVariables false
set_option maxRecDepth 100000

/-- The program in block P has been compiled; st are its steps. -/
def DoneP (P : Nat) (a : Option Addr) (len cap : Nat) (l : Instrs) (w : World) (st : Value) : Prop :=
  (progB l = false ∧ st = .slice none 0 0 ∧ ProgRow w P a len cap (.int .u32 1) (.int .i32 0) (.int .u32 0) (.bool false) st) ∨
  (progB l = true ∧ ∃ G, P < G ∧ st = .slice (some ⟨G, 0, none⟩) len len ∧ ProgRow w P a len cap (.int .u32 1) (.int .i32 0) (.int .u32 0) (.bool true) st ∧ StepsAt G l len w)
/-- It has been compiled, or not yet. -/
def ProgS (P : Nat) (a : Option Addr) (len cap : Nat) (l : Instrs) (w : World) : Prop :=
  ProgRow w P a len cap (.int .u32 0) (.int .i32 0) (.int .u32 0) (.bool false) (.slice none 0 0) ∨ ∃ st, DoneP P a len cap l w st
theorem DoneP.row {P : Nat} {a : Option Addr} {len cap : Nat} {l : Instrs} {w : World} {st : Value} (h : DoneP P a len cap l w st) : ProgRow w P a len cap (.int .u32 1) (.int .i32 0) (.int .u32 0) (.bool (progB l)) st := by
  rcases h with ⟨hp, _, hr⟩ | ⟨hp, G, _, _, hr, _⟩
  · rw [hp]; exact hr
  · rw [hp]; exact hr
theorem DoneP.keep {P : Nat} {a : Option Addr} {len cap : Nat} {l : Instrs} {w w1 : World} {st : Value} (h : DoneP P a len cap l w st) (hB : Below w.heap.size w w1) : DoneP P a len cap l w1 st := by
  rcases h with ⟨hp, hs, hr⟩ | ⟨hp, G, hG, hs, hr, hst⟩
  · exact .inl ⟨hp, hs, Row.keep hr hB⟩
  · exact .inr ⟨hp, G, hG, hs, Row.keep hr hB, hst.keep hB⟩
theorem ProgS.keep {P : Nat} {a : Option Addr} {len cap : Nat} {l : Instrs} {w w1 : World} (h : ProgS P a len cap l w) (hB : Below w.heap.size w w1) : ProgS P a len cap l w1 := by
  rcases h with h | ⟨st, h⟩
  · exact .inl (Row.keep h hB)
  · exact .inr ⟨st, h.keep hB⟩
theorem DoneP.cells {P : Nat} {a : Option Addr} {len cap : Nat} {l : Instrs} {w : World} {st : Value} (h : DoneP P a len cap l w st) : w.cell? ⟨P, 1, none⟩ = some (.int .u32 1) ∧ w.cell? ⟨P, 4, none⟩ = some (.bool (progB l)) ∧ w.cell? ⟨P, 5, none⟩ = some st := by
  have hr := h.row
  unfold ProgRow at hr
  have h1 := hr.cell (j := 1) (by simp)
  have h4 := hr.cell (j := 4) (by simp)
  have h5 := hr.cell (j := 5) (by simp)
  simp at h1 h4 h5
  exact ⟨h1, h4, h5⟩
theorem DoneP.slice {P : Nat} {a : Option Addr} {len cap : Nat} {l : Instrs} {w : World} {st : Value} (h : DoneP P a len cap l w st) : ∃ q n c, st = .slice q n c := by
  rcases h with ⟨_, hs, _⟩ | ⟨_, G, _, hs, _⟩
  · exact ⟨_, _, _, hs⟩
  · exact ⟨_, _, _, hs⟩
def MadeTable (P : Nat) (a : Option Addr) (len cap : Nat) (l : Instrs) (w : World) (e : Ending) (w' : World) : Prop :=
  ∃ st, e = .returned (.tuple #[st, .bool (progB l)]) ∧ DoneP P a len cap l w' st ∧ w.grownBy w' (some P)

set_option maxHeartbeats 2000000 in
theorem table_done (P : Nat) (a : Option Addr) (len cap : Nat) (l : Instrs) (w : World) (st : Value) (h : DoneP P a len cap l w st) :
    Calls Tryz.prog 83 #[.pointer (some ⟨P, 0, none⟩)] w (MadeTable P a len cap l w) := by
  have HD := Lib.hid h
  obtain ⟨c1, c4, c5⟩ := h.cells
  obtain ⟨q, n, c, rfl⟩ := h.slice
  obtain ⟨p, hp⟩ : ∃ p, progB l = p := ⟨_, rfl⟩
  have HP := Lib.hid hp
  rw [hp] at c4
  clear h hp
  go_enter Tryz.func83, Tryz.ntmps83
  go_wp2_with fail
  refine (do_done ⟨P, 1, none⟩ _ _ c1).mono ?_
  rintro e w2 ⟨rfl, rfl⟩
  go_wp2_with fail
  go_region
  go_wp2
  go_ret2
  exact ⟨_, by rw [HP.out]; rfl, HD.out.keep (Below.refl _ _).drew, growD (World.grownBy.refl _ _) 1⟩
set_option maxHeartbeats 2000000 in
theorem table_first (P : Nat) (a : Option Addr) (len cap : Nat) (l : Instrs) (w : World) (hr : ProgRow w P a len cap (.int .u32 0) (.int .i32 0) (.int .u32 0) (.bool false) (.slice none 0 0)) (h : InstrsAt w a len l) (hne : 0 < len → ∀ b off, a = some ⟨b, off, none⟩ → b ≠ P) (hT : ∀ x, TabsP (w.setCell ⟨P, 2, none⟩ x)) :
    Calls Tryz.prog 83 #[.pointer (some ⟨P, 0, none⟩)] w (MadeTable P a len cap l w) := by
  have HR := Lib.hid hr
  have HI := Lib.hid h
  have HNE := Lib.hid hne
  have HT := Lib.hid hT
  have HPW := Lib.hid (show P < w.heap.size from Row.lt hr)
  clear h hne hT hr
  go_enter Tryz.func83, Tryz.ntmps83
  go_wp2_with fail
  refine (do_first P a len cap l _ HR.out HI.out HNE.out HT.out).mono ?_
  rintro e w2 ⟨rfl, hC⟩
  obtain ⟨st, hD⟩ : ∃ st, DoneP P a len cap l w2 st := by
    rcases hC.2 with ⟨hp, h2⟩ | ⟨hp, G, hG, h2, h3⟩
    · exact ⟨_, .inl ⟨hp, rfl, h2⟩⟩
    · exact ⟨_, .inr ⟨hp, G, by have := HPW.out; omega, rfl, h2, h3⟩⟩
  have HG := Lib.hid hC.1
  have HD := Lib.hid hD
  obtain ⟨c1, c4, c5⟩ := hD.cells
  obtain ⟨q, n, c, rfl⟩ := hD.slice
  obtain ⟨p, hp⟩ : ∃ p, progB l = p := ⟨_, rfl⟩
  have HP := Lib.hid hp
  rw [hp] at c4
  clear hC hD hp c1 HR HI HNE HT
  go_wp2_with fail
  go_region
  go_wp2
  go_ret2
  exact ⟨_, by rw [HP.out]; rfl, HD.out.keep (Below.refl _ _).drew, growD HG.out 1⟩
theorem table_any (P : Nat) (a : Option Addr) (len cap : Nat) (l : Instrs) (w0 w : World) (hs : ProgS P a len cap l w) (h : InstrsAt w0 a len l) (hT : TabsP w0) (h0 : Below w0.heap.size w0 w) (hP : w0.heap.size ≤ P) :
    Calls Tryz.prog 83 #[.pointer (some ⟨P, 0, none⟩)] w (MadeTable P a len cap l w) := by
  rcases hs with hr | ⟨st, hd⟩
  · refine table_first P a len cap l w hr (h.keep h0) (fun hl b off ha => ?_) (fun x => hT.keep (h0.setCell hP x))
    rcases h.src with hz | ⟨b2, off2, ha2, hb, _⟩
    · omega
    · rw [ha] at ha2
      simp only [Option.some.injEq, Addr.mk.injEq, and_true] at ha2
      omega
  · exact table_done P a len cap l w st hd
end Go.Proofs.YtdphganbnlmgcaaGreatDoor
namespace Go.Proofs.YtdphganbnlmgcaaGreatDoor
open Go.ChangeShapes Go.WideShapes Go.ChangeAt Go.RowKit
set_option linter.unusedVariables false
set_option maxRecDepth 100000

theorem ops14 {op : Nat} (h1 : 1 ≤ op) (h2 : op ≤ 14) : op = 1 ∨ op = 2 ∨ op = 3 ∨ op = 4 ∨ op = 5 ∨ op = 6 ∨ op = 7 ∨ op = 8 ∨ op = 9 ∨ op = 10 ∨ op = 11 ∨ op = 12 ∨ op = 13 ∨ op = 14 := by omega
theorem gives_kinds {op : Nat} (h1 : 1 ≤ op) (h2 : op ≤ 14) : givesB op = ⟨#[84]⟩ ∨ givesB op = ⟨#[78]⟩ ∨ givesB op = ⟨#[]⟩ := by
  rcases ops14 h1 h2 with rfl | rfl | rfl | rfl | rfl | rfl | rfl | rfl | rfl | rfl | rfl | rfl | rfl | rfl
  · exact .inl rfl
  · exact .inl rfl
  · exact .inr (.inl rfl)
  · exact .inl rfl
  · exact .inr (.inl rfl)
  · exact .inr (.inl rfl)
  · exact .inl rfl
  · exact .inr (.inl rfl)
  · exact .inr (.inl rfl)
  · exact .inr (.inl rfl)
  · exact .inr (.inl rfl)
  · exact .inr (.inl rfl)
  · exact .inr (.inr rfl)
  · exact .inr (.inr rfl)
theorem putN_none {op : Nat} {n : Int} {s : ByteArray} {av : EVs} {ws : Strs} (h1 : 1 ≤ op) (h2 : op ≤ 14) (h : givesB op = ⟨#[78]⟩) : (putV op n s av ws).1 = ByteArray.empty := by
  rcases ops14 h1 h2 with rfl | rfl | rfl | rfl | rfl | rfl | rfl | rfl | rfl | rfl | rfl | rfl | rfl | rfl
  all_goals first | rfl | (exfalso; revert h; decide)
theorem evStep_some {op : Nat} {n : Int} {s : ByteArray} {ws : Strs} {S S0 av : EVs} {O : Recs} {y : EVs × Recs} {st0 : ByteArray} (h1 : 1 ≤ op) (h2 : op ≤ 14)
    (e1 : S.take (S.length - (takesB op).size) = S0) (e2 : S.drop (S.length - (takesB op).size) = av) (hs : st0.size = S0.length) (hall : ∀ v ∈ S0, v.1.size ≤ 40) (h : evStep op n s ws (S, O) = some y) :
    y.2 = stO op av O ∧ txs (st0 ++ givesB op).data.toList y.1 = stT op n s ws av (txs st0.data.toList S0) ∧ nms (st0 ++ givesB op).data.toList y.1 = stN op n s ws av (nms st0.data.toList S0) ∧ ∀ t ∈ stT op n s ws av (txs st0.data.toList S0), t.size ≤ 40 := by
  have hl : st0.data.toList.length = S0.length := by rw [← hs]; rfl
  have hT0 : ∀ t ∈ txs st0.data.toList S0, t.size ≤ 40 := fun t ht => by
    obtain ⟨v, hv, rfl⟩ := txs_mem _ _ _ ht
    exact hall v hv
  unfold evStep at h
  simp only [e1, e2] at h
  by_cases hg : (givesB op).size = 0
  · rw [if_pos hg] at h
    have h := (Option.some.inj h).symm
    subst h
    have hge : (givesB op).data.toList = [] := List.eq_nil_of_length_eq_zero (by simpa using hg)
    refine ⟨by unfold stO; rw [if_pos hg], ?_, ?_, ?_⟩
    · unfold stT; rw [if_pos hg]; simp [hge]
    · unfold stN; rw [if_pos hg]; simp [hge]
    · unfold stT; rw [if_pos hg]; exact hT0
  · rw [if_neg hg] at h
    by_cases h40 : (putV op n s av ws).1.size ≤ 40
    · rw [if_pos h40] at h
      have h := (Option.some.inj h).symm
      subst h
      refine ⟨by unfold stO; rw [if_neg hg], ?_, ?_, ?_⟩
      · unfold stT; rw [if_neg hg]; simp only [ByteArray.data_append, Array.toList_append]; exact txs_app _ _ _ _ hl
      · unfold stN; rw [if_neg hg]; simp only [ByteArray.data_append, Array.toList_append]; exact nms_app _ _ _ _ hl
      · unfold stT; rw [if_neg hg]
        intro t ht
        rcases List.mem_append.1 ht with ht | ht
        · exact hT0 t ht
        · obtain ⟨v, hv, rfl⟩ := txs_mem _ _ _ ht
          simp at hv
          subst hv
          exact h40
    · rw [if_neg h40] at h; cases h
theorem evStep_none {op : Nat} {n : Int} {s : ByteArray} {ws : Strs} {S S0 av : EVs} {O : Recs} {T0 : Strs} (h1 : 1 ≤ op) (h2 : op ≤ 14)
    (e1 : S.take (S.length - (takesB op).size) = S0) (e2 : S.drop (S.length - (takesB op).size) = av) (h : evStep op n s ws (S, O) = none) : ∃ x, stT op n s ws av T0 = T0 ++ [x] ∧ 40 < x.size := by
  unfold evStep at h
  simp only [e1, e2] at h
  by_cases hg : (givesB op).size = 0
  · rw [if_pos hg] at h; cases h
  · rw [if_neg hg] at h
    by_cases h40 : (putV op n s av ws).1.size ≤ 40
    · rw [if_pos h40] at h; cases h
    · rcases gives_kinds h1 h2 with hk | hk | hk
      · refine ⟨(putV op n s av ws).1, ?_, by omega⟩
        unfold stT
        rw [if_neg hg, hk]
        rfl
      · rw [putN_none h1 h2 hk] at h40
        exact absurd (by decide) h40
      · rw [hk] at hg; exact absurd rfl hg
end Go.Proofs.YtdphganbnlmgcaaGreatDoor
namespace Go.Proofs.YtdphganbnlmgcaaGreatDoor
open Go.ChangeShapes Go.WideShapes Go.ChangeAt Go.RowKit Go.MuLone
set_option linter.unusedVariables false
set_option maxRecDepth 100000

/-- The end of eval: records and a code; the program in block P may have been compiled. -/
def MadeRunP (o : Recs × Int) (P : Nat) (a : Option Addr) (len cap : Nat) (l : Instrs) (w : World) (e : Ending) (w' : World) : Prop :=
  ∃ q cp, e = .returned (.tuple #[.slice q o.1.length cp, .int .i64 o.2]) ∧ w.grownBy w' (some P) ∧ (∃ st, DoneP P a len cap l w' st) ∧ RcK w.heap.size w' q o.1 ∧ (q = none → cp = 0) ∧ o.1.length ≤ cp
/-- The program's eval on its way. -/
structure EvP (l : Instrs) (ws : Strs) (wq : Option Addr) (wn wc M G : Nat) (w1 wr : World) (k : Nat) (S : EVs) (O : Recs) (st : ByteArray) : Prop where
  ev : evK l ws k = some (S, O)
  stk : stk l k = some st
  ok : EvOkP st k (S, O)
  mach : MAt M M (.slice wq wn wc) wr (txs st.data.toList S) (nms st.data.toList S) O
  below : Below M w1 wr

theorem growO2 {a b c : World} {X : Nat} {n : Nat} (h : a.grownBy b (some X)) (k : Below n b c) (hn : b.heap.size ≤ n) : a.grownBy c (some X) :=
  ⟨k.os.trans h.os, k.tape.trans h.tape, k.output.trans h.output, Nat.le_trans h.size k.size, fun i hi hne => (k.block i (Nat.lt_of_lt_of_le hi (Nat.le_trans h.size hn))).trans (h.block i hi hne)⟩
theorem strs_grown {w w1 : World} {a : Option Addr} {len g : Nat} {l : Strs} (h : StrsAt w a len l) (hg : w.grownBy w1 (some g)) (hne : 0 < len → ∀ b off, a = some ⟨b, off, none⟩ → b ≠ g) : StrsAt w1 a len l := by
  refine ⟨h.length, h.max, h.sizes, ?_⟩
  rcases Nat.eq_zero_or_pos len with hz | hz
  · exact .inl hz
  rcases h.src with h0 | ⟨b, off, ha, hb, hc⟩
  · exact .inl h0
  · have e : ∀ o, w1.cell? ⟨b, o, none⟩ = w.cell? ⟨b, o, none⟩ := fun o => World.cell?_of_block (w := w) (hg.block b hb (by intro he; exact hne hz b off ha (Option.some.inj he)))
    exact .inr ⟨b, off, ha, Nat.lt_of_lt_of_le hb hg.size, fun i hi => by simpa only [e] using hc i hi⟩
theorem DoneP.under {P : Nat} {a : Option Addr} {len cap : Nat} {l : Instrs} {w w1 : World} {st : Value} {n : Nat} (h : DoneP P a len cap l w st) (hB : Below n w w1) (hn : w.heap.size ≤ n) : DoneP P a len cap l w1 st := h.keep (hB.mono hn)

set_option maxHeartbeats 8000000 in
theorem peval_any (P : Nat) (a : Option Addr) (len cap : Nat) (l : Instrs) (wq : Option Addr) (wn wc : Nat) (ws : Strs) (w0 w : World) (hs : ProgS P a len cap l w) (hI : InstrsAt w0 a len l) (hn : ∀ i, i < len → In64 (ins1 l i)) (hw : StrsAt w wq wn ws) (hwP : 0 < wn → ∀ b off, wq = some ⟨b, off, none⟩ → b ≠ P) (hT : TabsRP w0) (h0 : Below w0.heap.size w0 w) (hP : w0.heap.size ≤ P) :
    Calls Tryz.prog 86 #[.pointer (some ⟨P, 0, none⟩), .slice wq wn wc] w (MadeRunP (evalR l ws) P a len cap l w) := by
  have HL := Lib.hid hI.length
  have HWL := Lib.hid hw.length
  have HI := Lib.hid hI
  have HW := Lib.hid hw
  have HWP := Lib.hid hwP
  have HN := Lib.hid hn
  have HT := Lib.hid hT
  have H0 := Lib.hid h0
  have HP0 := Lib.hid hP
  have HS := Lib.hid hs
  have hmw : wn ≤ maxLen := hw.max
  unfold maxLen at hmw
  obtain ⟨p, hp⟩ : ∃ p, progB l = p := ⟨_, rfl⟩
  have HP := Lib.hid hp
  clear hI hw hwP hn hT h0 hP hs hp
  go_enter Tryz.func86, Tryz.ntmps86
  go_wp2_with fail
  refine (table_any P a len cap l w0 w HS.out HI.out HT.out.forms H0.out HP0.out).mono ?_
  rintro e w1 ⟨st, rfl, hD, hG⟩
  have HD := Lib.hid hD
  have HG := Lib.hid hG
  have HW := Lib.hid (strs_grown HW.out hG HWP.out)
  obtain ⟨sq, sn, sc, rfl⟩ := hD.slice
  rw [HP.out]
  clear hD hG HS
  cases p with
  | false =>
    have HC := Lib.hid (show evalR l ws = ([], 1) from evalR_no (fun h => by rw [HP.out] at h; cases h.1))
    go_wp2
    go_ret2
    rw [HC.out]
    exact ⟨none, 0, rfl, HG.out, ⟨_, HD.out⟩, rck_nil _ _ _, fun _ => rfl, Nat.le_refl _⟩
  | true =>
    by_cases h20 : (20 : Int) < (wn : Int)
    · have HC := Lib.hid (show evalR l ws = ([], 1) from evalR_no (fun h => by have := h.2; rw [HWL.out] at this; omega))
      go_wp2
      go_ret2
      rw [HC.out]
      exact ⟨none, 0, rfl, HG.out, ⟨_, HD.out⟩, rck_nil _ _ _, fun _ => rfl, Nat.le_refl _⟩
    · have hw20 : wn ≤ 20 := by omega
      have hl30 : len ≤ 30 := by have := prog_len HP.out; rw [HL.out] at this; exact this
      obtain ⟨G, hPG, hsl, HST⟩ : ∃ G, P < G ∧ Value.slice sq sn sc = .slice (some ⟨G, 0, none⟩) len len ∧ Hid (StepsAt G l len w1) := by
        rcases HD.out with ⟨hp, _⟩ | ⟨_, G, hG, hsl, _, h3⟩
        · rw [HP.out] at hp; cases hp
        · exact ⟨G, hG, hsl, Lib.hid h3⟩
      simp only [Value.slice.injEq] at hsl
      obtain ⟨g1, g2, g3⟩ := hsl
      subst g1
      have g2 := g2.symm
      have g3 := g3.symm
      subst g2
      clear g3
      obtain ⟨M, hM⟩ : ∃ M, w1.heap.size = M := ⟨_, rfl⟩
      have hM0 := Lib.hid hM
      have HSV := Lib.hid (show ∀ j, j < len → ∃ v, w1.cell? ⟨G, j, none⟩ = some v ∧ StepV (G + 1) M w1 (ins0 l j).toNat (ins1 l j) (ins2 l j) v ∧ G < M from fun j hj => by
        obtain ⟨cur, hr, hsz, hv⟩ := HST.out
        obtain ⟨v, h1, h2⟩ := hv j hj
        refine ⟨v, ?_, by rw [← hM]; exact h2, by rw [← hM]; exact hr.lt⟩
        unfold Row at hr
        simp [World.cell?, hr, h1])
      have H01 := Lib.hid (show Below w0.heap.size w0 w1 from H0.out.grown HG.out H0.out.size (fun k hk => by cases hk; exact HP0.out))
      have HWM := Lib.hid (show w0.heap.size ≤ M ∧ P < M from ⟨by rw [← hM]; exact H01.out.size, by rw [← hM]; exact Row.lt HD.out.row⟩)
      have HS0 : Hid (EvP l ws wq wn wc M G w1 (w1.alloc (.cells #[.slice wq wn wc, .slice none 0 0, .slice none 0 0, .slice none 0 0] 137)) 0 [] [] ByteArray.empty) := Lib.hid
        ⟨rfl, rfl, evOk0, ⟨none, none, none, 0, 0, 0, 0, 0, 0, by rw [← hM]; exact ot_row_new _ _ _, ⟨rfl, .inl ⟨rfl, rfl⟩⟩, ⟨rfl, .inl ⟨rfl, rfl⟩⟩, ⟨rfl, .inl ⟨rfl, rfl⟩⟩, rfl, rfl, rfl, Nat.le_refl _, by decide⟩, (Below.refl M w1).alloc (by omega) _⟩
      go_wp2_with fail
      go_loopw [27] (fun i wr => ∃ (k : Nat) (S : EVs) (O : Recs) (st : ByteArray), k ≤ len ∧ i = .int .i64 k ∧ Hid (EvP l ws wq wn wc M G w1 wr k S O st)) (fun i _ => len - (intOf i).toNat)
      case atStart => exact ⟨0, [], [], _, Nat.zero_le _, rfl, HS0⟩
      case round =>
        clear HS0
        obtain ⟨k, S, O, st, hk, rfl, HS⟩ := hrel
        by_cases hlt : k < len
        · have hi0 : (0 : Int) ≤ (k : Int) := by omega
          have hi1 : (k : Int) < (len : Int) := by omega
          obtain ⟨v, hv, hsv, hGM⟩ := HSV.out k hlt
          have cv := (HS.out.below.cell (p := ⟨G, k, none⟩) hGM).trans hv
          have HIN := Lib.hid (prog_instr HP.out (k := k) (by rw [HL.out]; exact hlt))
          have HN64 := Lib.hid (HN.out k hlt)
          have HST1 := Lib.hid (prog_step HP.out (k := k) (by rw [HL.out]; exact hlt) HS.out.stk)
          have HEV := Lib.hid (evK_step HS.out.ev)
          have HSV1 := Lib.hid (hsv.keep HS.out.below)
          obtain ⟨op, hop⟩ : ∃ op, ins0 l k = op := ⟨_, rfl⟩
          obtain ⟨n, hn⟩ : ∃ n, ins1 l k = n := ⟨_, rfl⟩
          obtain ⟨s, hs⟩ : ∃ s, ins2 l k = s := ⟨_, rfl⟩
          rw [hop, hn, hs] at HIN HEV HSV1
          rw [hop] at HST1
          rw [hn] at HN64
          clear hop hn hs hv hsv
          have hop := instr_op HIN.out
          obtain ⟨x, rfl⟩ : ∃ x : Nat, op = (x : Int) := ⟨op.toNat, by omega⟩
          have hx1 : 1 ≤ x := by omega
          have hx14 : x ≤ 14 := by omega
          have etn : ((x : Int)).toNat = x := by omega
          rw [etn] at HEV HST1 HSV1
          obtain ⟨st0, hst, hnext⟩ := HST1.out
          obtain ⟨S0, av, hSa, hal, hS0, e1, e2⟩ := evOk_takes HS.out.ok hst
          simp only at hSa e1 e2
          have HPOS := Lib.hid (show x = 1 → 0 ≤ n from fun h => by
            have h1 := HIN.out
            subst h
            unfold instrB at h1
            rw [if_pos (by rfl), Bool.and_eq_true, decide_eq_true_eq] at h1
            exact h1.1.1)
          have HALL := Lib.hid (show ∀ v ∈ av, v.1.size ≤ 40 ∧ In64 v.2 from fun v hv => HS.out.ok.texts v (by simp only; rw [hSa]; exact List.mem_append_right _ hv))
          have HALL0 := Lib.hid (show ∀ v ∈ S0, v.1.size ≤ 40 from fun v hv => (HS.out.ok.texts v (by simp only; rw [hSa]; exact List.mem_append_left _ hv)).1)
          have hfew := HS.out.ok.few
          have hrec := HS.out.ok.recs
          simp only at hfew hrec
          have hS0l : S0.length ≤ k := by rw [hSa, List.length_append] at hfew; omega
          have hll : st0.data.toList.length = S0.length := by rw [hS0]; rfl
          have hMA : MAt M M (.slice wq wn wc) wr (txs st0.data.toList S0 ++ txs (takesB x).data.toList av) (nms st0.data.toList S0 ++ nms (takesB x).data.toList av) O := by
            have h1 := HS.out.mach
            rw [hst, hSa] at h1
            simp only [ByteArray.data_append, Array.toList_append] at h1
            rw [txs_app _ _ _ _ hll, nms_app _ _ _ _ hll] at h1
            exact h1
          have HC := Lib.hid (step_call (G + 1) M M M wq wn wc ws w0 wr x n s v av (txs st0.data.toList S0) (nms st0.data.toList S0) O hx1 hx14 HSV1.out (Nat.le_refl _) hal HALL.out hMA
            ⟨by have := txs_len st0.data.toList S0; omega, by have := nms_len st0.data.toList S0; omega, by omega⟩ (HW.out.keep (by rw [hM0.out]; exact HS.out.below)) HPOS.out HT.out.num (H01.out.trans (HS.out.below.mono HWM.out.1)) HWM.out.1)
          have HNOK := Lib.hid (show ∀ y, evStep x n s ws (S, O) = some y → EvOkP (st0 ++ givesB x) (k + 1) y from fun y h => evOk_step HS.out.ok hst HN64.out h)
          have HSOME := Lib.hid (fun y (h : evStep x n s ws (S, O) = some y) => evStep_some hx1 hx14 e1 e2 hS0.symm HALL0.out h)
          have HNONE := Lib.hid (fun (h : evStep x n s ws (S, O) = none) => evStep_none (T0 := txs st0.data.toList S0) hx1 hx14 e1 e2 h)
          have HNEXT := Lib.hid hnext
          have HBEL := Lib.hid HS.out.below
          obtain ⟨T1, hT1⟩ : ∃ T, stT x n s ws av (txs st0.data.toList S0) = T := ⟨_, rfl⟩
          obtain ⟨N1, hN1⟩ : ∃ T, stN x n s ws av (nms st0.data.toList S0) = T := ⟨_, rfl⟩
          obtain ⟨O1, hO1⟩ : ∃ T, stO x av O = T := ⟨_, rfl⟩
          rw [hT1, hN1, hO1] at HC
          simp only [hT1, hN1, hO1] at HSOME
          simp only [hT1] at HNONE
          clear HST1 HSV1 hst hnext hSa hal hS0 e1 e2 etn hMA hll hfew hrec HS HALL HALL0 HPOS HIN hT1 hN1 hO1
          obtain ⟨y, hy⟩ : ∃ y, evStep x n s ws (S, O) = y := ⟨_, rfl⟩
          rw [hy] at HEV HNOK HSOME HNONE
          clear hy
          cases y with
          | none =>
            obtain ⟨tx, htx, hsz⟩ := HNONE.out rfl
            have HBAD := Lib.hid (show evalR l ws = ([], 2) from evalR_long HP.out (by rw [HWL.out]; exact hw20) (k := k + 1) (by rw [HL.out]; omega) HEV.out)
            have HTL := Lib.hid (show (∀ V s, T1 = V ++ [s] → true = decide (40 < s.size)) ∧ (T1 = [] → true = false) from ⟨fun V s h => by
              rw [htx] at h
              have := List.append_inj_right' h rfl
              simp at this
              rw [← this, decide_eq_true hsz], fun h => by rw [htx] at h; simp at h⟩)
            clear htx hsz HSOME HNOK
            rcases HC.out with ⟨F, rfl, hent, hcall⟩ | ⟨F, fb, rfl, hent, hcall⟩
            · unfold Enters at hent
              go_wp2_with fail
              refine hcall.mono ?_
              rintro e w4 ⟨rfl, hma, hB4⟩
              have HMA := Lib.hid hma
              have HB4 := Lib.hid (HBEL.out.trans hB4)
              clear hma hB4 hcall HC cv
              go_wp2_with fail
              refine (toolong_any M M _ _ _ _ _ HMA.out true HTL.out).mono ?_
              rintro e w5 ⟨rfl, rfl⟩
              go_wp2
              go_ret2
              rw [HBAD.out]
              exact ⟨none, 0, rfl, growO2 HG.out HB4.out (by rw [← hM0.out]; exact Nat.le_refl _), ⟨_, HD.out.under HB4.out (by rw [← hM0.out]; exact Nat.le_refl _)⟩, rck_nil _ _ _, fun _ => rfl, Nat.le_refl _⟩
            · unfold Enters at hent
              go_wp2_with fail
              refine hcall.mono ?_
              rintro e w4 ⟨rfl, hma, hB4⟩
              have HMA := Lib.hid hma
              have HB4 := Lib.hid (HBEL.out.trans hB4)
              clear hma hB4 hcall HC cv
              go_wp2_with fail
              refine (toolong_any M M _ _ _ _ _ HMA.out true HTL.out).mono ?_
              rintro e w5 ⟨rfl, rfl⟩
              go_wp2
              go_ret2
              rw [HBAD.out]
              exact ⟨none, 0, rfl, growO2 HG.out HB4.out (by rw [← hM0.out]; exact Nat.le_refl _), ⟨_, HD.out.under HB4.out (by rw [← hM0.out]; exact Nat.le_refl _)⟩, rck_nil _ _ _, fun _ => rfl, Nat.le_refl _⟩
          | some y =>
            have HSM := Lib.hid (HSOME.out y rfl)
            have HOK := Lib.hid (HNOK.out y rfl)
            have HTL := Lib.hid (show (∀ V s, T1 = V ++ [s] → false = decide (40 < s.size)) ∧ (T1 = [] → false = false) from ⟨fun V s h => by
              have := HSM.out.2.2.2 s (by rw [h]; simp)
              rw [decide_eq_false (by omega)], fun _ => rfl⟩)
            clear HNONE HNOK HSOME
            rcases HC.out with ⟨F, rfl, hent, hcall⟩ | ⟨F, fb, rfl, hent, hcall⟩
            · unfold Enters at hent
              go_wp2_with fail
              refine hcall.mono ?_
              rintro e w4 ⟨rfl, hma, hB4⟩
              have HMA := Lib.hid hma
              have HB4 := Lib.hid (HBEL.out.trans hB4)
              clear hma hB4 hcall HC cv
              go_wp2_with fail
              refine (toolong_any M M _ _ _ _ _ HMA.out false ⟨HTL.out.1, fun _ => rfl⟩).mono ?_
              rintro e w5 ⟨rfl, rfl⟩
              go_wp2
              go_roundw
              case rel => exact ⟨k + 1, y.1, O1, st0 ++ givesB x, by omega, by go_num, Lib.hid ⟨by rw [HEV.out, ← HSM.out.1], HNEXT.out, by rw [← HSM.out.1]; exact HOK.out, by rw [HSM.out.2.1, HSM.out.2.2.1]; exact HMA.out, HB4.out⟩⟩
              case measure => simp [intOf]; omega
            · unfold Enters at hent
              go_wp2_with fail
              refine hcall.mono ?_
              rintro e w4 ⟨rfl, hma, hB4⟩
              have HMA := Lib.hid hma
              have HB4 := Lib.hid (HBEL.out.trans hB4)
              clear hma hB4 hcall HC cv
              go_wp2_with fail
              refine (toolong_any M M _ _ _ _ _ HMA.out false ⟨HTL.out.1, fun _ => rfl⟩).mono ?_
              rintro e w5 ⟨rfl, rfl⟩
              go_wp2
              go_roundw
              case rel => exact ⟨k + 1, y.1, O1, st0 ++ givesB x, by omega, by go_num, Lib.hid ⟨by rw [HEV.out, ← HSM.out.1], HNEXT.out, by rw [← HSM.out.1]; exact HOK.out, by rw [HSM.out.2.1, HSM.out.2.2.1]; exact HMA.out, HB4.out⟩⟩
              case measure => simp [intOf]; omega
        · obtain rfl : k = len := by omega
          have HC := Lib.hid (show evalR l ws = (O, 0) from evalR_good HP.out (by rw [HWL.out]; exact hw20) (by rw [HL.out]; exact HS.out.ev))
          obtain ⟨tq, nq, oq, tc, nc, oc, nt, nn, no, hm⟩ := HS.out.mach
          have k3 := hm.row.cell (j := 3) (by simp)
          simp at k3
          have HFIN : Hid (MadeRunP (O, 0) P a k cap l w (.returned (.tuple #[.slice oq no oc, .int .i64 0])) wr) := Lib.hid (by
            have hlo := hm.lo
            have hgr : w.grownBy wr (some P) := growO2 HG.out HS.out.below (by rw [← hM0.out]; exact Nat.le_refl _)
            refine ⟨oq, oc, by rw [← hlo], hgr, ⟨_, HD.out.under HS.out.below (by rw [← hM0.out]; exact Nat.le_refl _)⟩, ?_, ?_, ?_⟩
            · refine rck_low (rck_of_own (m := no) (cp := oc) (by have := hm.rc; rw [← hlo] at this; rw [← hlo]; exact this)) (by rw [← hM0.out]; exact HG.out.size)
            · intro hq
              subst hq
              rcases hm.rc.2 with ⟨h1, _⟩ | ⟨g, cap, cur, hv, _⟩
              · simp only [Value.slice.injEq, true_and] at h1; exact h1.2
              · simp at hv
            · simp only [hlo]
              rcases hm.rc.2 with ⟨h1, h2⟩ | ⟨g, cap, cur, hv, _, _, h3, _⟩
              · omega
              · simp only [Value.slice.injEq] at hv; omega)
          clear hm
          go_wp2
          go_ret2
          rw [HC.out]
          exact HFIN.out

end Go.Proofs.YtdphganbnlmgcaaGreatDoor
