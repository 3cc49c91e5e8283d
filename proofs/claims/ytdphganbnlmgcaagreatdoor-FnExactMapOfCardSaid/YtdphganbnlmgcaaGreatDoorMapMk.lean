
/- Marks in runs of the call's own, and what they hold afterwards. -/
import Derived.Test.YtdphganbnlmgcaaGreatDoorMg34
import Derived.Test.YtdphganbnlmgcaaGreatDoorMg13
namespace Go.Proofs.YtdphganbnlmgcaaGreatDoor
open Go.ChangeShapes Go.WideShapes Go.ChangeAt Go.RowKit
set_option linter.unusedVariables false
set_option maxRecDepth 100000

/-- Runs whose first k are marked. -/
structure MkS (LS : List Recs) (G : Nat) (cur : Array Value) (g : Nat → Nat) (w : World) (k : Nat) : Prop where
  row : Row w G 45 cur
  cells : ∀ i, i < LS.length → ∃ p c, cur[i]? = some (.slice p (nAt LS i) c) ∧ (nAt LS i = 0 ∨ p = some ⟨g i, 0, none⟩)
  marked : ∀ i, i < k → 0 < nAt LS i → ∃ rc, Row w (g i) 50 rc ∧ MarkedR rc (1 + 2 * (allTo LS i).length) (nAt LS i)
  rest : ∀ i, k ≤ i → i < LS.length → 0 < nAt LS i → ∃ rc, Row w (g i) 50 rc ∧ nAt LS i * 2 ≤ rc.size
  apart : ∀ i j, i < j → j < LS.length → 0 < nAt LS i → 0 < nAt LS j → g i ≠ g j
theorem MkS.keep {LS : List Recs} {G k : Nat} {cur : Array Value} {g : Nat → Nat} {w w1 : World} (h : MkS LS G cur g w k) (hB : Below w.heap.size w w1) : MkS LS G cur g w1 k :=
  ⟨h.row.keep hB, h.cells, fun i hi h0 => by
    obtain ⟨rc, r1, r2⟩ := h.marked i hi h0
    exact ⟨rc, r1.keep hB, r2⟩, fun i hi h1 h0 => by
    obtain ⟨rc, r1, r2⟩ := h.rest i hi h1 h0
    exact ⟨rc, r1.keep hB, r2⟩, h.apart⟩
theorem MkS.skip {LS : List Recs} {G k : Nat} {cur : Array Value} {g : Nat → Nat} {w : World} (h : MkS LS G cur g w k) (h0 : nAt LS k = 0) : MkS LS G cur g w (k + 1) :=
  ⟨h.row, h.cells, fun i hi hn => by
    rcases Nat.lt_or_ge i k with hk | hk
    · exact h.marked i hk hn
    · obtain rfl : i = k := by omega
      omega, fun i hi h1 hn => h.rest i (by omega) h1 hn, h.apart⟩
theorem MkS.step {LS : List Recs} {G k : Nat} {cur rc : Array Value} {g : Nat → Nat} {w w1 : World} (h : MkS LS G cur g w k) (hk : k < LS.length) (h0 : 0 < nAt LS k) (hg : w.grownBy w1 (some (g k))) (hr : Row w1 (g k) 50 rc) (hm : MarkedR rc (1 + 2 * (allTo LS k).length) (nAt LS k)) : MkS LS G cur g w1 (k + 1) := by
  obtain ⟨rk, rk1, _⟩ := h.rest k (Nat.le_refl _) hk h0
  refine ⟨h.row.grown hg (by have := row_ne h.row rk1 (by decide); simp; omega), h.cells, fun i hi hn => ?_, fun i hi h1 hn => ?_, h.apart⟩
  · rcases Nat.lt_or_ge i k with hlt | hge
    · obtain ⟨r, r1, r2⟩ := h.marked i hlt hn
      exact ⟨r, r1.grown hg (by have := h.apart i k hlt hk hn h0; simp; omega), r2⟩
    · obtain rfl : i = k := by omega
      exact ⟨rc, hr, hm⟩
  · obtain ⟨r, r1, r2⟩ := h.rest i (by omega) h1 hn
    exact ⟨r, r1.grown hg (by have := h.apart k i (by omega) h1 h0 hn; simp; omega), r2⟩
theorem MkS.start {base : Nat} {w : World} {q : Option Addr} {LS : List Recs} (h : RunsB base w q LS) (hn : 0 < LS.length) : ∃ G cur g, q = some ⟨G, 0, none⟩ ∧ base ≤ G ∧ MkS LS G cur g w 0 ∧ ∀ i, i < LS.length → 0 < nAt LS i → base ≤ g i := by
  rcases h with h | ⟨G, cur, g, hq, hb, hr, hi, hd⟩
  · omega
  · refine ⟨G, cur, g, hq, hb, ⟨hr, fun i h1 => ?_, fun i h1 => by omega, fun i _ h1 hn => ?_, hd⟩, fun i h1 hn => ?_⟩
    · obtain ⟨p, c, e1, e2⟩ := hi i h1
      refine ⟨p, c, e1, ?_⟩
      rcases e2 with e2 | ⟨rc, r1, _⟩
      · exact .inl e2
      · exact .inr r1
    · obtain ⟨p, c, e1, e2⟩ := hi i h1
      rcases e2 with e2 | ⟨rc, r1, r2, r3, r4, r5⟩
      · omega
      · exact ⟨rc, r3, r4⟩
    · obtain ⟨p, c, e1, e2⟩ := hi i h1
      rcases e2 with e2 | ⟨rc, r1, r2, r3, r4, r5⟩
      · omega
      · exact r2

/-- The end of marking runs. -/
def MarkedK (LS : List Recs) (lo G : Nat) (cur : Array Value) (g : Nat → Nat) (w : World) (e : Ending) (w' : World) : Prop :=
  e = .returned (.int .i64 ((1 + 2 * (allTo LS LS.length).length : Nat) : Int)) ∧ Below lo w w' ∧ MkS LS G cur g w' LS.length

set_option maxHeartbeats 4000000 in
theorem markssK_any (G len cap lo : Nat) (LS : List Recs) (cur : Array Value) (g : Nat → Nat) (w : World) (hl : LS.length = len) (h : MkS LS G cur g w 0) (hlo : ∀ i, i < len → 0 < nAt LS i → lo ≤ g i) (hf : FewSS LS) (hw : lo ≤ w.heap.size) :
    Calls Tryz.prog 11 #[.slice (some ⟨G, 0, none⟩) len cap, .int .i64 1] w (MarkedK LS lo G cur g w) := by
  have HL := Lib.hid hl
  have hlen : len ≤ 3 := by rw [← hl]; exact hf.few
  have HF := Lib.hid hf
  have HLO := Lib.hid hlo
  have H0 := Lib.hid h
  have HWL := Lib.hid hw
  have HTOT := Lib.hid (show ∀ k, k ≤ len → (allTo LS k).length ≤ 600 * k from fun k => by
    induction k with
    | zero => intro _; simp [allTo]
    | succ k ih =>
      intro hk
      rw [len_allTo (by omega)]
      have := ih (by omega)
      have := hf.recs k (by omega)
      unfold nAt at this
      omega)
  clear hl h hlo hf hw
  go_enter Tryz.func11, Tryz.ntmps11
  go_wp2
  go_loopw [1, 5] (fun t i wr => ∃ k : Nat, k ≤ len ∧ i = .int .i64 k ∧ t = .int .i64 ((1 + 2 * (allTo LS k).length : Nat) : Int) ∧ Hid (Below lo w wr ∧ MkS LS G cur g wr k)) (fun _ i _ => len - (intOf i).toNat)
  case atStart => exact ⟨0, Nat.zero_le _, rfl, by simp [allTo], Below.refl _ _, H0.out⟩
  case round =>
    obtain ⟨k, hk, rfl, rfl, HW⟩ := hrel
    clear H0
    by_cases hlt : k < len
    · obtain ⟨p, c, e1, e2⟩ := HW.out.2.cells k (by rw [HL.out]; exact hlt)
      have hrec := HF.out.recs k (by rw [HL.out]; exact hlt)
      have c0 : wr.cell? ⟨G, k, none⟩ = some (.slice p (nAt LS k) c) := by
        have hr := HW.out.2.row
        unfold Row at hr
        simp [World.cell?, hr, e1]
      have hstep := len_allTo (LS := LS) (k := k) (by rw [HL.out]; exact hlt)
      have hle := HTOT.out k hk
      change _ = _ + nAt LS k at hstep
      obtain ⟨K, hK⟩ : ∃ K, 1 + 2 * (allTo LS k).length = K := ⟨_, rfl⟩
      obtain ⟨n, hn⟩ : ∃ n, nAt LS k = n := ⟨_, rfl⟩
      have HST := Lib.hid (show 1 + 2 * (allTo LS (k + 1)).length = K + 2 * n by omega)
      have hb1 : 1 ≤ K ∧ K + 2 * n ≤ 1099511627776 := by omega
      have HK := Lib.hid hK
      have HN := Lib.hid hn
      rw [hK]
      rw [hn] at c0 e2 hrec
      clear hstep hle hK hn e1
      by_cases h0 : n = 0
      · subst h0
        go_wp2_with fail
        refine (markr_none p c K _).mono ?_
        rintro e w2 ⟨rfl, rfl⟩
        have HI := Lib.hid (And.intro HW.out.1 (HW.out.2.skip HN.out))
        clear HW
        go_wp2
        go_roundw
        case rel => exact ⟨k + 1, by omega, by go_num, by rw [HST.out]; rfl, HI.out⟩
        case measure => simp [intOf]; omega
      · obtain ⟨rc, r1, r2⟩ := HW.out.2.rest k (Nat.le_refl _) (by rw [HL.out]; exact hlt) (by rw [HN.out]; omega)
        obtain rfl : p = some ⟨g k, 0, none⟩ := by rcases e2 with e2 | e2; · exact absurd e2 h0
                                                   · exact e2
        rw [HN.out] at r2
        have HR := Lib.hid r1
        clear r1 e2
        go_wp2_with fail
        refine (markr_any (g k) n c K _ _ rc _ HR.out rfl r2 hb1.1 hb1.2).mono ?_
        rintro e w2 ⟨he, hg, rc1, hr1, hm1⟩
        rw [← HST.out] at he
        subst he
        have HI := Lib.hid (show Below lo w w2 ∧ MkS LS G cur g w2 (k + 1) from ⟨HW.out.1.grown hg (Nat.le_trans HWL.out HW.out.1.size) (fun k2 hk2 => by cases hk2; exact HLO.out k hlt (by rw [HN.out]; omega)), HW.out.2.step (by rw [HL.out]; exact hlt) (by rw [HN.out]; omega) hg hr1 (by rw [HK.out, HN.out]; exact hm1)⟩)
        clear hg hr1 hm1 HW HR r2
        go_wp2
        go_roundw
        case rel => exact ⟨k + 1, by omega, by go_num, rfl, HI.out⟩
        case measure => simp [intOf]; omega
    · obtain rfl : k = len := by omega
      go_wp2
      go_ret
      unfold MarkedK
      rw [HL.out]
      exact ⟨rfl, HW.out⟩

set_option maxHeartbeats 4000000 in
theorem heldssK_any (G len cap : Nat) (LS : List Recs) (cur : Array Value) (g : Nat → Nat) (w : World) (hl : LS.length = len) (h : MkS LS G cur g w LS.length) (hf : FewSS LS) :
    Calls Tryz.prog 12 #[.slice (some ⟨G, 0, none⟩) len cap, .int .i64 1] w (fun e w' => e = .returned (.int .i64 ((1 + 2 * (allTo LS LS.length).length : Nat) : Int)) ∧ Below w.heap.size w w') := by
  have HL := Lib.hid hl
  have hlen : len ≤ 3 := by rw [← hl]; exact hf.few
  have HF := Lib.hid hf
  have H0 := Lib.hid h
  have HTOT := Lib.hid (show ∀ k, k ≤ len → (allTo LS k).length ≤ 600 * k from fun k => by
    induction k with
    | zero => intro _; simp [allTo]
    | succ k ih =>
      intro hk
      rw [len_allTo (by omega)]
      have := ih (by omega)
      have := hf.recs k (by omega)
      unfold nAt at this
      omega)
  clear hl h hf
  go_enter Tryz.func12, Tryz.ntmps12
  go_wp2
  go_loopw [1, 5] (fun t i wr => ∃ k : Nat, k ≤ len ∧ i = .int .i64 k ∧ t = .int .i64 ((1 + 2 * (allTo LS k).length : Nat) : Int) ∧ Hid (Below w.heap.size w wr)) (fun _ i _ => len - (intOf i).toNat)
  case atStart => exact ⟨0, Nat.zero_le _, rfl, by simp [allTo], Below.refl _ _⟩
  case round =>
    obtain ⟨k, hk, rfl, rfl, HW⟩ := hrel
    by_cases hlt : k < len
    · have HM := Lib.hid (H0.out.keep HW.out)
      obtain ⟨p, c, e1, e2⟩ := HM.out.cells k (by rw [HL.out]; exact hlt)
      have hrec := HF.out.recs k (by rw [HL.out]; exact hlt)
      have c0 : wr.cell? ⟨G, k, none⟩ = some (.slice p (nAt LS k) c) := by
        have hr := HM.out.row
        unfold Row at hr
        simp [World.cell?, hr, e1]
      have hstep := len_allTo (LS := LS) (k := k) (by rw [HL.out]; exact hlt)
      have hle := HTOT.out k hk
      change _ = _ + nAt LS k at hstep
      have HMK := Lib.hid (HM.out.marked k (by rw [HL.out]; exact hlt))
      obtain ⟨K, hK⟩ : ∃ K, 1 + 2 * (allTo LS k).length = K := ⟨_, rfl⟩
      obtain ⟨n, hn⟩ : ∃ n, nAt LS k = n := ⟨_, rfl⟩
      have HST := Lib.hid (show 1 + 2 * (allTo LS (k + 1)).length = K + 2 * n by omega)
      have hb1 : 1 ≤ K ∧ K + 2 * n ≤ 1099511627776 := by omega
      rw [hK, hn] at HMK
      rw [hK]
      rw [hn] at c0 e2 hrec
      clear hstep hle hK hn e1 HM
      by_cases h0 : n = 0
      · subst h0
        go_wp2_with fail
        refine (heldr_none p c K _).mono ?_
        rintro e w2 ⟨rfl, rfl⟩
        go_wp2
        go_roundw
        case rel => exact ⟨k + 1, by omega, by go_num, by rw [HST.out]; rfl, HW⟩
        case measure => simp [intOf]; omega
      · obtain ⟨rc, r1, r2⟩ := HMK.out (by omega)
        obtain rfl : p = some ⟨g k, 0, none⟩ := by rcases e2 with e2 | e2; · exact absurd e2 h0
                                                   · exact e2
        have HR := Lib.hid (And.intro r1 r2)
        clear r1 r2 e2 HMK
        go_wp2_with fail
        refine (heldr_any (g k) n c K _ rc _ HR.out.1 HR.out.2 hb1.1 hb1.2).mono ?_
        rintro e w2 ⟨he, hB⟩
        rw [← HST.out] at he
        subst he
        have HB := Lib.hid (below_via HW.out hB)
        clear hB HW HR
        go_wp2
        go_roundw
        case rel => exact ⟨k + 1, by omega, by go_num, rfl, HB⟩
        case measure => simp [intOf]; omega
    · obtain rfl : k = len := by omega
      go_wp2
      go_ret
      rw [HL.out]
      exact ⟨rfl, HW.out⟩

theorem markss_none (q : Option Addr) (cap : Nat) (w : World) : Calls Tryz.prog 11 #[.slice q 0 cap, .int .i64 1] w fun e w' => e = .returned (.int .i64 1) ∧ w = w' := by
  go_enter Tryz.func11, Tryz.ntmps11
  go_wp2
  go_loop [1, 5] (fun t i => t = .int .i64 1 ∧ i = .int .i64 0) (fun _ _ => 0)
  case atStart => exact ⟨rfl, rfl⟩
  case round =>
    obtain ⟨rfl, rfl⟩ := hrel
    go_wp2
    go_ret
    exact ⟨rfl, rfl⟩
theorem heldss_none (q : Option Addr) (cap : Nat) (w : World) : Calls Tryz.prog 12 #[.slice q 0 cap, .int .i64 1] w fun e w' => e = .returned (.int .i64 1) ∧ w = w' := by
  go_enter Tryz.func12, Tryz.ntmps12
  go_wp2
  go_loop [1, 5] (fun t i => t = .int .i64 1 ∧ i = .int .i64 0) (fun _ _ => 0)
  case atStart => exact ⟨rfl, rfl⟩
  case round =>
    obtain ⟨rfl, rfl⟩ := hrel
    go_wp2
    go_ret
    exact ⟨rfl, rfl⟩
/-- Runs that are all marked. -/
def HeldB (w : World) (q : Option Addr) (LS : List Recs) : Prop := LS.length = 0 ∨ ∃ G cur g, q = some ⟨G, 0, none⟩ ∧ MkS LS G cur g w LS.length
theorem HeldB.keep {w w1 : World} {q : Option Addr} {LS : List Recs} (h : HeldB w q LS) (hB : Below w.heap.size w w1) : HeldB w1 q LS := by
  rcases h with h | ⟨G, cur, g, hq, hm⟩
  · exact .inl h
  · exact .inr ⟨G, cur, g, hq, hm.keep hB⟩
theorem allTo_none {LS : List Recs} (h : LS.length = 0) : LS = [] := List.length_eq_zero_iff.1 h
theorem markss_run (q : Option Addr) (n cap base : Nat) (LS : List Recs) (w : World) (hn : LS.length = n) (h : RunsB base w q LS) (hf : FewSS LS) (hw : base ≤ w.heap.size) :
    Calls Tryz.prog 11 #[.slice q n cap, .int .i64 1] w (fun e w' => e = .returned (.int .i64 ((1 + 2 * (allTo LS LS.length).length : Nat) : Int)) ∧ Below base w w' ∧ HeldB w' q LS) := by
  by_cases h0 : LS.length = 0
  · obtain rfl : n = 0 := by omega
    obtain rfl := allTo_none h0
    exact (markss_none q cap w).mono fun e w' ⟨he, hw⟩ => ⟨by rw [he]; simp [allTo], by rw [hw]; exact Below.refl _ _, .inl rfl⟩
  · obtain ⟨G, cur, g, rfl, hb, hm, hlo⟩ := MkS.start h (by omega)
    exact (markssK_any G n cap base LS cur g w hn hm (fun i hi => hlo i (by omega)) hf hw).mono fun e w' ⟨he, hB, hk⟩ => ⟨he, hB, .inr ⟨G, cur, g, rfl, hk⟩⟩
theorem heldss_run (q : Option Addr) (n cap : Nat) (LS : List Recs) (w : World) (hn : LS.length = n) (h : HeldB w q LS) (hf : FewSS LS) :
    Calls Tryz.prog 12 #[.slice q n cap, .int .i64 1] w (fun e w' => e = .returned (.int .i64 ((1 + 2 * (allTo LS LS.length).length : Nat) : Int)) ∧ Below w.heap.size w w') := by
  by_cases h0 : LS.length = 0
  · obtain rfl : n = 0 := by omega
    obtain rfl := allTo_none h0
    exact (heldss_none q cap w).mono fun e w' ⟨he, hw⟩ => ⟨by rw [he]; simp [allTo], by rw [hw]; exact Below.refl _ _⟩
  · rcases h with h | ⟨G, cur, g, rfl, hk⟩
    · exact absurd h h0
    · exact heldssK_any G n cap LS cur g w hn hk hf
end Go.Proofs.YtdphganbnlmgcaaGreatDoor
