
/- Two runs merged by the program: the records of both, in order, in a row of its own. Only new blocks are made. -/
import Derived.Test.YtldjahemgkkpbaaMergeM
import Derived.Test.YtldjahemgkkpbaaRuns5
import Derived.Test.YtldjahemgkkpbaaSorted
namespace Go.Proofs.Ytldjahemgkkpbaa
open Go.ChangeShapes Go.WideShapes Go.ChangeAt Go.RowKit
set_option linter.unusedVariables false
set_option maxRecDepth 100000

theorem recs_cells {w : World} {b off n : Nat} {l : Recs} (h : RecsAt w (some ⟨b, off, none⟩) n l) : ∀ j u, (cellsL l)[j]? = some u → w.cell? ((⟨b, off, none⟩ : Addr).add j) = some u := by
  intro j u hj
  have hl := h.length
  have hjl : j < l.length * 2 := by
    obtain ⟨h1, _⟩ := List.getElem?_eq_some_iff.1 hj
    rw [cellsL_len] at h1; exact h1
  rcases h.src with h0 | ⟨b', off', hq, hb, hc⟩
  · omega
  · simp only [Option.some.injEq, Addr.mk.injEq, and_true] at hq
    obtain ⟨rfl, rfl⟩ := hq
    obtain ⟨e1, e2⟩ := cellsL_get l (j / 2) (by omega)
    obtain ⟨c1, c2⟩ := hc (j / 2) (by omega)
    have ead : ((⟨b, off, none⟩ : Addr).add j) = ⟨b, off + j, none⟩ := by simp [Addr.add]
    rw [ead]
    rcases Nat.mod_two_eq_zero_or_one j with hm | hm
    · have e : j / 2 * 2 = j := by omega
      rw [e] at e1 c1
      rw [c1, ← hj, e1]
    · have e : j / 2 * 2 + 1 = j := by omega
      have e' : off + j / 2 * 2 + 1 = off + j := by omega
      rw [e] at e2
      rw [e'] at c2
      rw [c2, ← hj, e2]
theorem recs_cellsO {w : World} {ad : Addr} {n : Nat} {l : Recs} (h : RecsAt w (some ad) n l) : ∀ j u, (cellsL l)[j]? = some u → w.cell? (ad.add j) = some u := by
  rcases h.src with h0 | ⟨b, off, hq, _, _⟩
  · have : l = [] := List.length_eq_zero_iff.1 (h.length.trans h0)
    subst this
    intro j u hj
    simp [cellsL] at hj
  · simp only [Option.some.injEq] at hq
    subst hq
    exact recs_cells h
theorem cellsL_one (l : Recs) : ∀ u ∈ cellsL l, u.oneCell' = true := by
  intro u hu
  unfold cellsL at hu
  obtain ⟨r, _, hr⟩ := List.mem_flatMap.1 hu
  simp at hr
  rcases hr with rfl | rfl <;> rfl
theorem recs_tail {w : World} {b off n : Nat} {p : ByteArray × Int} {l : Recs} (h : RecsAt w (some ⟨b, off, none⟩) n (p :: l)) : RecsAt w (some ⟨b, off + 2, none⟩) (n - 1) l := by
  have hl := h.length
  have hm := h.max
  rw [List.length_cons] at hl
  have hat : ∀ i, keyAt l i = keyAt (p :: l) (i + 1) ∧ numAt l i = numAt (p :: l) (i + 1) := by
    intro i
    unfold keyAt numAt
    rw [List.getD_cons_succ]
    exact ⟨rfl, rfl⟩
  refine ⟨by omega, by omega, fun i hi => ?_, ?_⟩
  · rw [(hat i).1]; exact h.keys (i + 1) (by omega)
  · rcases h.src with h0 | ⟨b', off', hq, hb, hc⟩
    · omega
    · simp only [Option.some.injEq, Addr.mk.injEq, and_true] at hq
      obtain ⟨rfl, rfl⟩ := hq
      refine .inr ⟨b, off + 2, rfl, hb, fun i hi => ?_⟩
      rw [(hat i).1, (hat i).2]
      have := hc (i + 1) (by omega)
      rw [show off + (i + 1) * 2 = off + 2 + i * 2 by omega] at this
      exact this
theorem recs_one_left {w : World} {q q' : Option Addr} {n : Nat} {p : ByteArray × Int} {l : Recs} (h : RecsAt w q n (p :: l)) (hn : n ≤ 1) : RecsAt w q' (n - 1) l := by
  have hl := h.length
  rw [List.length_cons] at hl
  have h0 : n - 1 = 0 := by omega
  rw [h0]
  exact ⟨by omega, Nat.zero_le _, fun i hi => by omega, .inl rfl⟩

theorem recless_val {s u : ByteArray} {n m : Int} {x : Bool} (w : World) (h : (okB s && okB u && lessB s n u m) = x) : Calls Try.prog 36 #[.agg #[.string s, .int .i64 n], .agg #[.string u, .int .i64 m]] w (MadeBool x w) := h ▸ recless_any s n u m w

/-- Both lists as they are left, and what has been put out. -/
structure MSt (w wr : World) (qa : Option Addr) (x : Nat) (A : Recs) (qb : Option Addr) (y : Nat) (B : Recs) (v : Value) (n : Nat) (W T : Recs) : Prop where
  ra : RecsAt w qa x A
  rb : RecsAt w qb y B
  own : wr.ownsRow w.heap.size 30 2 v n (cellsL W)
  length : W.length = n
  below : Below w.heap.size w wr
  sum : W ++ mergeL A B = T
  ka : ∀ r ∈ A, r.1.size ≤ 40
  kb : ∀ r ∈ B, r.1.size ≤ 40

theorem MSt.stepB {w wr w3 : World} {qa qb qb' : Option Addr} {x y n : Nat} {A B W T : Recs} {v v' : Value} {s u : ByteArray} {m z : Int} (h : MSt w wr qa x ((s, m) :: A) qb y ((u, z) :: B) v n W T) (hle : leR (s, m) (u, z) = false)
    (hb : RecsAt w qb' (y - 1) B) (hown : w3.ownsRow w.heap.size 30 2 v' (n + 1) (cellsL W ++ [.string u, .int .i64 z])) (hB : Below w.heap.size w w3) : MSt w w3 qa x ((s, m) :: A) qb' (y - 1) B v' (n + 1) (W ++ [(u, z)]) T :=
  ⟨h.ra, hb, by rw [cellsL_snoc]; exact hown, by simp [h.length], hB, by rw [← h.sum, mergeL_b hle], h.ka, fun r hr => h.kb r (List.mem_cons_of_mem _ hr)⟩
theorem MSt.stepA {w wr w3 : World} {qa qa' qb : Option Addr} {x y n : Nat} {A B W T : Recs} {v v' : Value} {s u : ByteArray} {m z : Int} (h : MSt w wr qa x ((s, m) :: A) qb y ((u, z) :: B) v n W T) (hle : leR (s, m) (u, z) = true)
    (ha : RecsAt w qa' (x - 1) A) (hown : w3.ownsRow w.heap.size 30 2 v' (n + 1) (cellsL W ++ [.string s, .int .i64 m])) (hB : Below w.heap.size w w3) : MSt w w3 qa' (x - 1) A qb y ((u, z) :: B) v' (n + 1) (W ++ [(s, m)]) T :=
  ⟨ha, h.rb, by rw [cellsL_snoc]; exact hown, by simp [h.length], hB, by rw [← h.sum, mergeL_a hle], fun r hr => h.ka r (List.mem_cons_of_mem _ hr), h.kb⟩

def lenOfS : Value → Nat | .slice _ n _ => n | _ => 0

set_option maxHeartbeats 8000000 in
theorem merged_any (ba oa la ca bb ob lb cb : Nat) (l k : Recs) (w : World) (ha : RecsAt w (some ⟨ba, oa, none⟩) la l) (hb : RecsAt w (some ⟨bb, ob, none⟩) lb k) (hca : la ≤ ca) (hcb : lb ≤ cb) (hcam : ca ≤ maxLen) (hcbm : cb ≤ maxLen) (h6 : la + lb ≤ 600)
    (hka : ∀ r ∈ l, r.1.size ≤ 40) (hkb : ∀ r ∈ k, r.1.size ≤ 40) :
    Calls Try.prog 35 #[.slice (some ⟨ba, oa, none⟩) la ca, .slice (some ⟨bb, ob, none⟩) lb cb, .func (Fn.func 36) #[] #[]] w (MadeRs (mergeL l k) w) := by
  obtain ⟨i0, hi, hz0, hz1, hz2⟩ := info_parts infoRec
  have HA := Lib.hid ha
  have HB := Lib.hid hb
  have HKA := Lib.hid hka
  have HKB := Lib.hid hkb
  have HCM := Lib.hid (And.intro hcam hcbm)
  clear ha hb hka hkb hcam hcbm
  go_enter Try.func35, Try.ntmps35
  go_wp2_with (at_make; (refine wpList_make_own _ rfl _ _ 24 rfl w.heap.size 30 i0 _ 2 Try.underlying24 hi hz0 hz1 .i64 .i64 _ (la + lb) rfl rfl (by omega) (by rw [hz2]; omega) (by unfold maxLen; omega) (Nat.le_refl _) ?_); intro w1 hown hgrow; have HO := Lib.hid hown; have HG := Lib.hid ((Below.refl w.heap.size w).grown hgrow (Nat.le_refl _) (fun k hk => by cases hk)); clear hown hgrow)
  go_loopw [0, 1, 7] (fun sa sb v wr => ∃ (oa x ca ob y cb n : Nat) (q : Option Addr) (cp : Nat) (A B W : Recs), sa = .slice (some ⟨ba, oa, none⟩) x ca ∧ sb = .slice (some ⟨bb, ob, none⟩) y cb ∧ v = .slice q n cp ∧ x ≤ ca ∧ y ≤ cb ∧ n + x + y = la + lb ∧ Hid (MSt w wr (some ⟨ba, oa, none⟩) x A (some ⟨bb, ob, none⟩) y B v n W (mergeL l k) ∧ ca ≤ maxLen ∧ cb ≤ maxLen)) (fun sa sb _ _ => lenOfS sa + lenOfS sb)
  case atStart => exact ⟨oa, la, ca, ob, lb, cb, 0, _, _, l, k, [], rfl, rfl, rfl, hca, hcb, by omega, Lib.hid ⟨⟨HA.out, HB.out, HO.out, rfl, HG.out, rfl, HKA.out, HKB.out⟩, HCM.out⟩⟩
  case round =>
    obtain ⟨oa, x, ca, ob, y, cb, n, q, cp, A, B, W, rfl, rfl, rfl, hx, hy, hn, HS⟩ := hrel
    clear HO HG HA HB HKA HKB HCM
    by_cases hx0 : 0 < x
    · by_cases hy0 : 0 < y
      · obtain ⟨⟨s, m⟩, A, rfl⟩ : ∃ p A', A = p :: A' := by
          cases A with
          | nil => have := HS.out.1.ra.length; simp at this; omega
          | cons p A' => exact ⟨p, A', rfl⟩
        obtain ⟨⟨u, z⟩, B, rfl⟩ : ∃ p B', B = p :: B' := by
          cases B with
          | nil => have := HS.out.1.rb.length; simp at this; omega
          | cons p B' => exact ⟨p, B', rfl⟩
        have ra := HS.out.1.ra.keep HS.out.1.below
        have rb := HS.out.1.rb.keep HS.out.1.below
        have c0 : wr.cell? ⟨ba, oa, none⟩ = some (.string s) := recs_cells ra 0 _ rfl
        have c1 : wr.cell? ⟨ba, oa + 1, none⟩ = some (.int .i64 m) := recs_cells ra 1 _ rfl
        have d0 : wr.cell? ⟨bb, ob, none⟩ = some (.string u) := recs_cells rb 0 _ rfl
        have d1 : wr.cell? ⟨bb, ob + 1, none⟩ = some (.int .i64 z) := recs_cells rb 1 _ rfl
        have hok1 := okB_yes (HS.out.1.ka (s, m) (List.mem_cons_self ..))
        have hok2 := okB_yes (HS.out.1.kb (u, z) (List.mem_cons_self ..))
        have HO := Lib.hid HS.out.1.own
        have HB := Lib.hid (Below.refl wr.heap.size wr).drew
        have hi1 : (0 : Int) < (x : Int) := by omega
        have hi2 : (0 : Int) < (y : Int) := by omega
        have hxc : ca ≤ 9223372036854775807 := HS.out.2.1
        have hyc : cb ≤ 9223372036854775807 := HS.out.2.2
        clear ra rb
        cases hle : leR (s, m) (u, z) with
        | false =>
          have HV := Lib.hid (show (okB u && okB s && lessB u z s m) = true by
            unfold leR at hle
            rw [hok1, hok2]
            simpa using hle)
          have HLE := Lib.hid hle
          clear hle hok1 hok2
          go_wp2_with fail
          go_region_held3 (fun w' => Hid (Below wr.heap.size wr w') ∧ w'.cell? ⟨ba, oa, none⟩ = some (.string s) ∧ w'.cell? ⟨ba, oa + 1, none⟩ = some (.int .i64 m) ∧ w'.cell? ⟨bb, ob, none⟩ = some (.string u) ∧ w'.cell? ⟨bb, ob + 1, none⟩ = some (.int .i64 z))
            (first | exact ⟨HB, c0, c1, d0, d1⟩ | exact ⟨HB, e0, e1, f0, f1⟩)
            (first | (go_at_call 36; refine (recless_val _ HV.out).mono ?_; rintro e w2 ⟨rfl, hB⟩; have e0 := (hB.cell (p := ⟨ba, oa, none⟩) (World.block_lt_of_cell? _ _ c0)).trans c0; have e1 := (hB.cell (p := ⟨ba, oa + 1, none⟩) (World.block_lt_of_cell? _ _ c1)).trans c1; have f0 := (hB.cell (p := ⟨bb, ob, none⟩) (World.block_lt_of_cell? _ _ d0)).trans d0; have f1 := (hB.cell (p := ⟨bb, ob + 1, none⟩) (World.block_lt_of_cell? _ _ d1)).trans d1; have HB := Lib.hid (below_via HB.out hB); clear hB))
          have HB2 := Lib.hid (below_via HS.out.1.below HB.out)
          have HO := Lib.hid (own_below HO.out HB.out)
          have rr := HS.out.1.rb.keep HB2.out
          have g0 : w2.cell? ⟨bb, ob, none⟩ = some (.string u) := recs_cells rr 0 _ rfl
          have g1 : w2.cell? ⟨bb, ob + 1, none⟩ = some (.int .i64 z) := recs_cells rr 1 _ rfl
          clear rr c0 c1 d0 d1
          go_wp2_with (at_builtin; (refine wpList_append_own _ rfl _ _ 24 rfl w.heap.size 30 i0 _ 2 24 Try.underlying24 hi hz0 hz1 hz2 rfl (by decide) _ _ _ rfl (HO.out.alloc _) ⟨w2.heap.size, 0, none⟩ 1 1 [.string u, .int .i64 z] rfl rfl (two_new _ _ _ _) (two_cells _ _) (by unfold maxLen; omega) (by omega) (Nat.le_trans HB2.out.size (below_alloc (Below.refl _ _) _).size) ?_); intro v' w3 hown1 hgrow hnil; have HO1 := Lib.hid hown1; have HB3 := Lib.hid ((below_alloc HB2.out _).grown hgrow (below_alloc HB2.out _).size (fun j hj => (HO.out.lt j hj).1)); clear hown1 hgrow hnil)
          obtain ⟨q1, cp1, rfl⟩ := own_form HO1.out
          go_roundw
          case rel =>
            by_cases hc1 : cb = 1
            · rw [if_pos hc1]
              exact ⟨oa, x, ca, ob, y - 1, cb - 1, n + 1, q1, cp1, _, B, _, rfl, rfl, rfl, hx, by omega, by omega, HS.out.1.stepB HLE.out (recs_one_left HS.out.1.rb (by omega)) HO1.out HB3.out, HS.out.2.1, Nat.le_trans (Nat.sub_le _ _) HS.out.2.2⟩
            · rw [if_neg hc1]
              exact ⟨oa, x, ca, ob + 2, y - 1, cb - 1, n + 1, q1, cp1, _, B, _, rfl, rfl, rfl, hx, by omega, by omega, HS.out.1.stepB HLE.out (recs_tail HS.out.1.rb) HO1.out HB3.out, HS.out.2.1, Nat.le_trans (Nat.sub_le _ _) HS.out.2.2⟩
          case measure => simp [lenOfS]; omega
        | true =>
          have HV := Lib.hid (show (okB u && okB s && lessB u z s m) = false by
            unfold leR at hle
            rw [hok1, hok2]
            simpa using hle)
          have HLE := Lib.hid hle
          clear hle hok1 hok2
          go_wp2_with fail
          go_region_held3 (fun w' => Hid (Below wr.heap.size wr w') ∧ w'.cell? ⟨ba, oa, none⟩ = some (.string s) ∧ w'.cell? ⟨ba, oa + 1, none⟩ = some (.int .i64 m) ∧ w'.cell? ⟨bb, ob, none⟩ = some (.string u) ∧ w'.cell? ⟨bb, ob + 1, none⟩ = some (.int .i64 z))
            (first | exact ⟨HB, c0, c1, d0, d1⟩ | exact ⟨HB, e0, e1, f0, f1⟩)
            (first | (go_at_call 36; refine (recless_val _ HV.out).mono ?_; rintro e w2 ⟨rfl, hB⟩; have e0 := (hB.cell (p := ⟨ba, oa, none⟩) (World.block_lt_of_cell? _ _ c0)).trans c0; have e1 := (hB.cell (p := ⟨ba, oa + 1, none⟩) (World.block_lt_of_cell? _ _ c1)).trans c1; have f0 := (hB.cell (p := ⟨bb, ob, none⟩) (World.block_lt_of_cell? _ _ d0)).trans d0; have f1 := (hB.cell (p := ⟨bb, ob + 1, none⟩) (World.block_lt_of_cell? _ _ d1)).trans d1; have HB := Lib.hid (below_via HB.out hB); clear hB))
          have HB2 := Lib.hid (below_via HS.out.1.below HB.out)
          have HO := Lib.hid (own_below HO.out HB.out)
          have rr := HS.out.1.ra.keep HB2.out
          have g0 : w2.cell? ⟨ba, oa, none⟩ = some (.string s) := recs_cells rr 0 _ rfl
          have g1 : w2.cell? ⟨ba, oa + 1, none⟩ = some (.int .i64 m) := recs_cells rr 1 _ rfl
          clear rr c0 c1 d0 d1
          go_wp2_with (at_builtin; (refine wpList_append_own _ rfl _ _ 24 rfl w.heap.size 30 i0 _ 2 24 Try.underlying24 hi hz0 hz1 hz2 rfl (by decide) _ _ _ rfl (HO.out.alloc _) ⟨w2.heap.size, 0, none⟩ 1 1 [.string s, .int .i64 m] rfl rfl (two_new _ _ _ _) (two_cells _ _) (by unfold maxLen; omega) (by omega) (Nat.le_trans HB2.out.size (below_alloc (Below.refl _ _) _).size) ?_); intro v' w3 hown1 hgrow hnil; have HO1 := Lib.hid hown1; have HB3 := Lib.hid ((below_alloc HB2.out _).grown hgrow (below_alloc HB2.out _).size (fun j hj => (HO.out.lt j hj).1)); clear hown1 hgrow hnil)
          obtain ⟨q1, cp1, rfl⟩ := own_form HO1.out
          go_roundw
          case rel =>
            by_cases hc1 : ca = 1
            · rw [if_pos hc1]
              exact ⟨oa, x - 1, ca - 1, ob, y, cb, n + 1, q1, cp1, A, _, _, rfl, rfl, rfl, by omega, hy, by omega, HS.out.1.stepA HLE.out (recs_one_left HS.out.1.ra (by omega)) HO1.out HB3.out, Nat.le_trans (Nat.sub_le _ _) HS.out.2.1, HS.out.2.2⟩
            · rw [if_neg hc1]
              exact ⟨oa + 2, x - 1, ca - 1, ob, y, cb, n + 1, q1, cp1, A, _, _, rfl, rfl, rfl, by omega, hy, by omega, HS.out.1.stepA HLE.out (recs_tail HS.out.1.ra) HO1.out HB3.out, Nat.le_trans (Nat.sub_le _ _) HS.out.2.1, HS.out.2.2⟩
          case measure => simp [lenOfS]; omega
      · obtain rfl : y = 0 := by omega
        have HE := Lib.hid (show W ++ A ++ B = mergeL l k by
          rw [← HS.out.1.sum, mergeL_nil (.inr (List.length_eq_zero_iff.1 HS.out.1.rb.length)), List.append_assoc])
        have HO := Lib.hid HS.out.1.own
        have HBW := Lib.hid HS.out.1.below
        have RA := Lib.hid (HS.out.1.ra.keep HS.out.1.below)
        have hLA := Lib.hid HS.out.1.ra.length
        go_wp2_with (first | (at_builtin; (refine wpList_append_own _ rfl _ _ 24 rfl w.heap.size 30 i0 _ 2 24 Try.underlying24 hi hz0 hz1 hz2 rfl (by decide) _ _ _ rfl HO1.out ⟨bb, ob, none⟩ 0 cb (cellsL B) rfl (by rw [cellsL_len, RB.out.length]) (recs_cells RB.out) (cellsL_one _) (by unfold maxLen; omega) (by omega) HB1.out.size ?_); intro v' w5 hown1 hgrow hnil; have HO2 := Lib.hid hown1; have HB2 := Lib.hid (HB1.out.grown hgrow HB1.out.size (fun j hj => (HO1.out.lt j hj).1)); have RB := Lib.hid (HS.out.1.rb.keep HB2.out); clear hown1 hgrow hnil) | (at_builtin; (refine wpList_append_own _ rfl _ _ 24 rfl w.heap.size 30 i0 _ 2 24 Try.underlying24 hi hz0 hz1 hz2 rfl (by decide) _ _ _ rfl HO.out ⟨ba, oa, none⟩ x ca (cellsL A) rfl (by rw [cellsL_len, RA.out.length]) (recs_cells RA.out) (cellsL_one _) (by unfold maxLen; omega) (by omega) HBW.out.size ?_); intro v' w4 hown1 hgrow hnil; have HO1 := Lib.hid hown1; have HB1 := Lib.hid (HBW.out.grown hgrow HBW.out.size (fun j hj => (HO.out.lt j hj).1)); have RB := Lib.hid (HS.out.1.rb.keep HB1.out); clear hown1 hgrow hnil))
        obtain ⟨q1, cp1, rfl⟩ := own_form HO2.out
        have hlT : (mergeL l k).length = n + x + 0 := by rw [← HE.out, List.length_append, List.length_append, HS.out.1.length, HS.out.1.ra.length, HS.out.1.rb.length]
        have HF := Lib.hid (show w5.ownsRow w.heap.size 30 2 (.slice q1 (mergeL l k).length cp1) (mergeL l k).length (cellsL (mergeL l k)) by
          rw [hlT, ← HE.out, cellsL_append, cellsL_append]; exact HO2.out)
        go_ret
        exact ⟨q1, cp1, by rw [hlT]; rfl, rs_of_own HF.out, HB2.out, (own_cap HF.out).1, (own_cap HF.out).2⟩
    · have hx1 : x = 0 := by omega
      have HE := Lib.hid (show W ++ A ++ B = mergeL l k by
        rw [← HS.out.1.sum, mergeL_nil (.inl (List.length_eq_zero_iff.1 (by rw [HS.out.1.ra.length]; omega))), List.append_assoc])
      have HO := Lib.hid HS.out.1.own
      have HBW := Lib.hid HS.out.1.below
      have RA := Lib.hid (HS.out.1.ra.keep HS.out.1.below)
      have hLA := Lib.hid HS.out.1.ra.length
      go_wp2_with (first | (at_builtin; (refine wpList_append_own _ rfl _ _ 24 rfl w.heap.size 30 i0 _ 2 24 Try.underlying24 hi hz0 hz1 hz2 rfl (by decide) _ _ _ rfl HO1.out ⟨bb, ob, none⟩ y cb (cellsL B) rfl (by rw [cellsL_len, RB.out.length]) (recs_cells RB.out) (cellsL_one _) (by unfold maxLen; omega) (by omega) HB1.out.size ?_); intro v' w5 hown1 hgrow hnil; have HO2 := Lib.hid hown1; have HB2 := Lib.hid (HB1.out.grown hgrow HB1.out.size (fun j hj => (HO1.out.lt j hj).1)); have RB := Lib.hid (HS.out.1.rb.keep HB2.out); clear hown1 hgrow hnil) | (at_builtin; (refine wpList_append_own _ rfl _ _ 24 rfl w.heap.size 30 i0 _ 2 24 Try.underlying24 hi hz0 hz1 hz2 rfl (by decide) _ _ _ rfl HO.out ⟨ba, oa, none⟩ x ca (cellsL A) rfl (by rw [cellsL_len, RA.out.length]) (recs_cells RA.out) (cellsL_one _) (by unfold maxLen; omega) (by omega) HBW.out.size ?_); intro v' w4 hown1 hgrow hnil; have HO1 := Lib.hid hown1; have HB1 := Lib.hid (HBW.out.grown hgrow HBW.out.size (fun j hj => (HO.out.lt j hj).1)); have RB := Lib.hid (HS.out.1.rb.keep HB1.out); clear hown1 hgrow hnil))
      obtain ⟨q1, cp1, rfl⟩ := own_form HO2.out
      have hlT : (mergeL l k).length = n + x + y := by rw [← HE.out, List.length_append, List.length_append, HS.out.1.length, HS.out.1.ra.length, HS.out.1.rb.length]
      have HF := Lib.hid (show w5.ownsRow w.heap.size 30 2 (.slice q1 (mergeL l k).length cp1) (mergeL l k).length (cellsL (mergeL l k)) by
        rw [hlT, ← HE.out, cellsL_append, cellsL_append]; exact HO2.out)
      go_ret
      exact ⟨q1, cp1, by rw [hlT]; rfl, rs_of_own HF.out, HB2.out, (own_cap HF.out).1, (own_cap HF.out).2⟩
end Go.Proofs.Ytldjahemgkkpbaa
