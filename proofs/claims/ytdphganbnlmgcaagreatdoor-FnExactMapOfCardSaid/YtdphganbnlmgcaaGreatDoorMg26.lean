/- Texts put together, as a claim holds at most sixty files. -/
import Derived.Test.YtdphganbnlmgcaaGreatDoorMg25
import Derived.Test.YtdphganbnlmgcaaGreatDoorMg24
import Derived.Sort.Statements
import Derived.Deep.LoopGhost
namespace Go.Proofs.YtdphganbnlmgcaaGreatDoor
open Go.ChangeShapes Go.WideShapes Go.ChangeAt Go.RowKit
set_option linter.unusedVariables false
set_option maxRecDepth 100000

theorem recs_cells {w : World} {b off n : Nat} {l : Recs} (h : RecsAt w (some ⟨b, off, none⟩) n l) : ∀ j u, (cellsL l)[j]? = some u → w.cell? ((⟨b, off, none⟩ : Addr).add j) = some u := by
  intro j u hj
  have hl := h.length
  have hjl : j < l.length * 2 := by
    obtain ⟨h1, _⟩ := List.getElem?_eq_some_iff.1 hj
    rw [cellsL_len] at h1; exact h1
  rcases h.src with h0 | ⟨b', off', hq, hb, hc⟩
  · omega
  · simp only [Option.some.injEq, Addr.mk.injEq, and_true] at hq
    obtain ⟨rfl, rfl⟩ := hq
    obtain ⟨e1, e2⟩ := cellsL_get l (j / 2) (by omega)
    obtain ⟨c1, c2⟩ := hc (j / 2) (by omega)
    have ead : ((⟨b, off, none⟩ : Addr).add j) = ⟨b, off + j, none⟩ := by simp [Addr.add]
    rw [ead]
    rcases Nat.mod_two_eq_zero_or_one j with hm | hm
    · have e : j / 2 * 2 = j := by omega
      rw [e] at e1 c1
      rw [c1, ← hj, e1]
    · have e : j / 2 * 2 + 1 = j := by omega
      have e' : off + j / 2 * 2 + 1 = off + j := by omega
      rw [e] at e2
      rw [e'] at c2
      rw [c2, ← hj, e2]
theorem recs_cellsO {w : World} {ad : Addr} {n : Nat} {l : Recs} (h : RecsAt w (some ad) n l) : ∀ j u, (cellsL l)[j]? = some u → w.cell? (ad.add j) = some u := by
  rcases h.src with h0 | ⟨b, off, hq, _, _⟩
  · have : l = [] := List.length_eq_zero_iff.1 (h.length.trans h0)
    subst this
    intro j u hj
    simp [cellsL] at hj
  · simp only [Option.some.injEq] at hq
    subst hq
    exact recs_cells h
theorem cellsL_one (l : Recs) : ∀ u ∈ cellsL l, u.oneCell' = true := by
  intro u hu
  unfold cellsL at hu
  obtain ⟨r, _, hr⟩ := List.mem_flatMap.1 hu
  simp at hr
  rcases hr with rfl | rfl <;> rfl
theorem recs_tail {w : World} {b off n : Nat} {p : ByteArray × Int} {l : Recs} (h : RecsAt w (some ⟨b, off, none⟩) n (p :: l)) : RecsAt w (some ⟨b, off + 2, none⟩) (n - 1) l := by
  have hl := h.length
  have hm := h.max
  rw [List.length_cons] at hl
  have hat : ∀ i, keyAt l i = keyAt (p :: l) (i + 1) ∧ numAt l i = numAt (p :: l) (i + 1) := by
    intro i
    unfold keyAt numAt
    rw [List.getD_cons_succ]
    exact ⟨rfl, rfl⟩
  refine ⟨by omega, by omega, fun i hi => ?_, ?_⟩
  · rw [(hat i).1]; exact h.keys (i + 1) (by omega)
  · rcases h.src with h0 | ⟨b', off', hq, hb, hc⟩
    · omega
    · simp only [Option.some.injEq, Addr.mk.injEq, and_true] at hq
      obtain ⟨rfl, rfl⟩ := hq
      refine .inr ⟨b, off + 2, rfl, hb, fun i hi => ?_⟩
      rw [(hat i).1, (hat i).2]
      have := hc (i + 1) (by omega)
      rw [show off + (i + 1) * 2 = off + 2 + i * 2 by omega] at this
      exact this
theorem recs_one_left {w : World} {q q' : Option Addr} {n : Nat} {p : ByteArray × Int} {l : Recs} (h : RecsAt w q n (p :: l)) (hn : n ≤ 1) : RecsAt w q' (n - 1) l := by
  have hl := h.length
  rw [List.length_cons] at hl
  have h0 : n - 1 = 0 := by omega
  rw [h0]
  exact ⟨by omega, Nat.zero_le _, fun i hi => by omega, .inl rfl⟩

theorem recless_val {s u : ByteArray} {n m : Int} {x : Bool} (w : World) (h : (okB s && okB u && lessB s n u m) = x) : Calls Tryz.prog 219 #[.agg #[.string s, .int .i64 n], .agg #[.string u, .int .i64 m]] w (MadeBool x w) := h ▸ recless_any s n u m w

/-- Both lists as they are left, and what has been put out. -/
structure MgSt (w wr : World) (qa : Option Addr) (x : Nat) (A : Recs) (qb : Option Addr) (y : Nat) (B : Recs) (v : Value) (n : Nat) (W T : Recs) : Prop where
  ra : RecsAt w qa x A
  rb : RecsAt w qb y B
  own : wr.ownsRow w.heap.size 50 2 v n (cellsL W)
  length : W.length = n
  below : Below w.heap.size w wr
  sum : W ++ mergeL A B = T
  ka : ∀ r ∈ A, r.1.size ≤ 40
  kb : ∀ r ∈ B, r.1.size ≤ 40

theorem MgSt.stepB {w wr w3 : World} {qa qb qb' : Option Addr} {x y n : Nat} {A B W T : Recs} {v v' : Value} {s u : ByteArray} {m z : Int} (h : MgSt w wr qa x ((s, m) :: A) qb y ((u, z) :: B) v n W T) (hle : leR (s, m) (u, z) = false)
    (hb : RecsAt w qb' (y - 1) B) (hown : w3.ownsRow w.heap.size 50 2 v' (n + 1) (cellsL W ++ [.string u, .int .i64 z])) (hB : Below w.heap.size w w3) : MgSt w w3 qa x ((s, m) :: A) qb' (y - 1) B v' (n + 1) (W ++ [(u, z)]) T :=
  ⟨h.ra, hb, by rw [cellsL_snoc]; exact hown, by simp [h.length], hB, by rw [← h.sum, mergeL_b hle], h.ka, fun r hr => h.kb r (List.mem_cons_of_mem _ hr)⟩
theorem MgSt.stepA {w wr w3 : World} {qa qa' qb : Option Addr} {x y n : Nat} {A B W T : Recs} {v v' : Value} {s u : ByteArray} {m z : Int} (h : MgSt w wr qa x ((s, m) :: A) qb y ((u, z) :: B) v n W T) (hle : leR (s, m) (u, z) = true)
    (ha : RecsAt w qa' (x - 1) A) (hown : w3.ownsRow w.heap.size 50 2 v' (n + 1) (cellsL W ++ [.string s, .int .i64 m])) (hB : Below w.heap.size w w3) : MgSt w w3 qa' (x - 1) A qb y ((u, z) :: B) v' (n + 1) (W ++ [(s, m)]) T :=
  ⟨ha, h.rb, by rw [cellsL_snoc]; exact hown, by simp [h.length], hB, by rw [← h.sum, mergeL_a hle], fun r hr => h.ka r (List.mem_cons_of_mem _ hr), h.kb⟩

def lenOfS : Value → Nat | .slice _ n _ => n | _ => 0

end Go.Proofs.YtdphganbnlmgcaaGreatDoor
namespace Go.Proofs.YtdphganbnlmgcaaGreatDoor
open Go.ChangeShapes Go.WideShapes Go.ChangeAt Go.RowKit
set_option linter.unusedVariables false
set_option maxRecDepth 100000

set_option maxHeartbeats 8000000 in
theorem joined_any (op : Int) (p : Nat) (a : Option Addr) (len cap : Nat) (l : Recs) (w : World) (h : RecsAt w a len l) (h6 : len ≤ 600) (hop : opOkB op = true) (hp : w.cell? ⟨p, 0, none⟩ = some (fnOf op)) :
    Calls Tryz.prog 70 #[.slice a len cap, .func (Fn.func 72) #[] #[], .func (Fn.func 69) #[] #[.pointer (some ⟨p, 0, none⟩)]] w (MadeRs (cTo op l len) w) := by
  obtain ⟨i0, hi, hz0, hz1, hz2⟩ := info_parts infoRec
  have hpl : p < w.heap.size := World.block_lt_of_cell? _ _ hp
  have HP := Lib.hid hp
  have HR := Lib.hid h
  have HL := Lib.hid h.length
  clear h hp
  go_enter Tryz.func70, Tryz.ntmps70
  go_wp2
  go_loopw [7, 13] (fun v i wr => ∃ (k n : Nat) (q : Option Addr) (cp : Nat), k ≤ len ∧ i = .int .i64 k ∧ v = .slice q n cp ∧ n ≤ k ∧ Hid (CSt op l w wr q n cp k)) (fun _ i _ => len - (intOf i).toNat)
  case atStart => exact ⟨0, 0, none, 0, Nat.zero_le _, rfl, rfl, Nat.le_refl _, World.ownsRow_nil _ _ _ _, rfl, Below.refl _ _⟩
  case round =>
    obtain ⟨k, n, q, cp, hk, rfl, rfl, hnk, HS⟩ := hrel
    by_cases hlt : k < len
    · rcases HR.out.src with hz | ⟨b, off, rfl, hb, hc⟩
      · omega
      · have c0 := (HS.out.below.cell (p := ⟨b, off + k * 2, none⟩) hb).trans (hc k hlt).1
        have c1 := (HS.out.below.cell (p := ⟨b, off + k * 2 + 1, none⟩) hb).trans (hc k hlt).2
        have hki : (k : Int) < (len : Int) := by omega
        have HST := Lib.hid (cTo_succ op l k (by rw [HL.out]; exact hlt))
        obtain ⟨V, hV⟩ : ∃ V, cTo op l k = V := ⟨_, rfl⟩
        have HV := Lib.hid hV
        have HO := Lib.hid (show wr.ownsRow w.heap.size 50 2 (.slice q n cp) n (cellsL V) from hV ▸ HS.out.own)
        have HN := Lib.hid (show V.length = n from hV ▸ HS.out.size)
        have HB := Lib.hid HS.out.below
        obtain ⟨y, hy⟩ : ∃ y, keyAt l k = y := ⟨_, rfl⟩
        obtain ⟨x, hx⟩ : ∃ x, numAt l k = x := ⟨_, rfl⟩
        have HY := Lib.hid (show cTo op l (k + 1) = cStep op V (y, x) by rw [HST.out, hV, hy, hx])
        rw [hy] at c0
        rw [hx] at c1
        clear hc hb hV hy hx HST HS
        -- the box of the record that comes
        obtain ⟨wa, hwa⟩ : ∃ wa, wr.alloc (.cells #[.string y, .int .i64 x] 50) = wa := ⟨_, rfl⟩
        have hrow : Row wa wr.heap.size 50 #[.string y, .int .i64 x] := hwa ▸ Row.new _ _ _
        have hBa : Below wr.heap.size wr wa := hwa ▸ below_alloc (Below.refl _ _) _
        have b0 := hrow.cell (j := 0) (by simp)
        have b1 := hrow.cell (j := 1) (by simp)
        simp only [List.getElem_toArray, List.getElem_cons_zero, List.getElem_cons_succ] at b0 b1
        have HO := Lib.hid (own_below HO.out hBa)
        have HB := Lib.hid (below_via HB.out hBa)
        have HRW := Lib.hid hrow
        have HWA := Lib.hid hwa
        clear hwa hrow hBa
        by_cases hn0 : n = 0
        · have hd : decide ((0 : Int) ≤ (n : Int) - 1) = false := decide_eq_false (by omega)
          have hd2 : decide ((1 : Int) ≤ (n : Int)) = false := decide_eq_false (by omega)
          have HJ := Lib.hid (show joinsB V (y, x) = false by unfold joinsB; rw [HN.out, decide_eq_false (by omega)]; rfl)
          have hnn : ¬ (0 : Int) ≤ (n : Int) - 1 := by omega
          clear hn0
          go_wp2_with fail
          rw [HWA.out]
          go_quiet (fail)
          have b0 : (wa.drewN nq).cell? ⟨wr.heap.size, 0, none⟩ = some (.string y) := b0
          have b1 : (wa.drewN nq).cell? ⟨wr.heap.size, 1, none⟩ = some (.int .i64 x) := b1
          have HO := Lib.hid (own_below HO.out (below_drewN (Below.refl _ wa) nq))
          have HB := Lib.hid (below_drewN HB.out nq)
          generalize wa.drewN nq = wq at b0 b1 HO HB ⊢
          go_wp2_with (at_builtin; (refine wpList_append_own _ rfl _ _ 45 rfl w.heap.size 50 i0 _ 2 24 Tryz.underlying45 hi hz0 hz1 hz2 rfl (by decide) _ _ _ rfl (HO.out.alloc _) ⟨wq.heap.size, 0, none⟩ 1 1 [.string y, .int .i64 x] rfl rfl (two_new _ _ _ _) (two_cells _ _) (by unfold maxLen; omega) (by omega) (Nat.le_trans HB.out.size (below_alloc (Below.refl _ _) _).size) ?_); intro v' w3 hown1 hgrow hnil; have HO1 := Lib.hid hown1; have HG := Lib.hid hgrow; clear hown1 hgrow hnil)
          have hb3 : Below w.heap.size w w3 := (below_alloc HB.out _).grown HG.out (below_alloc HB.out _).size (fun j hj => (HO.out.lt j hj).1)
          have HB3 := Lib.hid hb3
          clear hb3
          obtain ⟨q1, cp1, rfl⟩ := own_form HO1.out
          go_roundw
          case rel =>
            have e1 : cTo op l (k + 1) = V ++ [(y, x)] := by rw [HY.out, cStep_new HJ.out]
            refine ⟨k + 1, n + 1, q1, cp1, by omega, by go_num, rfl, by omega, ?_, by rw [e1, List.length_append, HN.out]; rfl, HB3.out⟩
            rw [e1, cellsL_snoc]
            exact HO1.out
          case measure => simp [intOf]; omega
        · obtain ⟨m, rfl⟩ : ∃ m, n = m + 1 := ⟨n - 1, by omega⟩
          obtain ⟨g, rfl, hbg, d0, d1, hf⟩ := own_cells HO.out HN.out (i := m) (by omega)
          have hm1 : ((m + 1 : Nat) : Int) - 1 = (m : Int) := by omega
          have hm0 : (0 : Int) ≤ (m : Int) := by omega
          have hml : (m : Int) < ((m + 1 : Nat) : Int) := by omega
          have hml2 : (m : Int) < (m : Int) + 1 := by omega
          have hd : decide ((0 : Int) ≤ (m : Int)) = true := decide_eq_true (by omega)
          have HBB := Lib.hid ((Below.refl wa.heap.size wa).drew)
          cases hsk : sameKey (keyAt V m) y with
          | true =>
            have hs2 : ((keyAt V m).toList == y.toList) = true := hsk
            have HJ := Lib.hid (show joinsB V (y, x) = true by unfold joinsB; rw [HN.out, Nat.add_sub_cancel, hsk, decide_eq_true (by omega)]; rfl)
            clear hsk
            go_wp2_with fail
            rw [HWA.out]
            have d0w := d0
            have d1w := d1
            go_region_held3 (fun w' => Hid (Below wa.heap.size wa w') ∧ w'.cell? ⟨g, m * 2, none⟩ = some (.string (keyAt V m)) ∧ w'.cell? ⟨g, m * 2 + 1, none⟩ = some (.int .i64 (numAt V m)) ∧ w'.cell? ⟨wr.heap.size, 0, none⟩ = some (.string y) ∧ w'.cell? ⟨wr.heap.size, 1, none⟩ = some (.int .i64 x))
              (first | exact ⟨HBB, d0, d1, b0, b1⟩)
              (first | (go_at_call 72; refine (reckey_any _ _ _).mono ?_; rintro e w5 ⟨rfl, hB⟩; have d0 := (hB.cell (p := ⟨g, m * 2, none⟩) (World.block_lt_of_cell? _ _ d0)).trans d0; have d1 := (hB.cell (p := ⟨g, m * 2 + 1, none⟩) (World.block_lt_of_cell? _ _ d1)).trans d1; have b0 := (hB.cell (p := ⟨wr.heap.size, 0, none⟩) (World.block_lt_of_cell? _ _ b0)).trans b0; have b1 := (hB.cell (p := ⟨wr.heap.size, 1, none⟩) (World.block_lt_of_cell? _ _ b1)).trans b1; have HBB := Lib.hid (below_via HBB.out hB); clear hB))
            have HO := Lib.hid (own_below HO.out HBB.out)
            have HB := Lib.hid (below_via HB.out HBB.out)
            have hf0 := (HBB.out.frozen (p := ⟨g, m * 2, none⟩) (World.block_lt_of_cell? _ _ d0w)).trans (hf (m * 2))
            have hf1 := (HBB.out.frozen (p := ⟨g, m * 2 + 1, none⟩) (World.block_lt_of_cell? _ _ d1w)).trans (hf (m * 2 + 1))
            have hp5 := (HB.out.cell (p := ⟨p, 0, none⟩) hpl).trans HP.out
            have HP5 := Lib.hid hp5
            clear hp5 hf d0w d1w
            go_wp2_with fail
            go_region_with (first | (go_at_call 69; refine (join_any op p _ _ _ _ _ hop (by exact HP5.out)).mono ?_; rintro e w6 ⟨rfl, hB⟩; have g0 := (hB.cell (p := ⟨g, m * 2, none⟩) (World.block_lt_of_cell? _ _ d0)).trans d0; have g1 := (hB.cell (p := ⟨g, m * 2 + 1, none⟩) (World.block_lt_of_cell? _ _ d1)).trans d1; have z0 := (hB.frozen (p := ⟨g, m * 2, none⟩) (World.block_lt_of_cell? _ _ d0)).trans hf0; have z1 := (hB.frozen (p := ⟨g, m * 2 + 1, none⟩) (World.block_lt_of_cell? _ _ d1)).trans hf1; have HB6 := Lib.hid hB; clear hB))
            all_goals (go_wp2_with fail)
            all_goals (
              go_roundw
              case rel =>
                have e1 : cTo op l (k + 1) = V.set m (keyAt V m, combN op (numAt V m) x) := by rw [HY.out, cStep_join HJ.out HN.out]
                have ho := own_put (own_below HO.out (Below.trans (Below.refl _ _).drew HB6.out)) HN.out (i := m) (by omega) (keyAt V m, combN op (numAt V m) x)
                have hb := ((HB.out.trans (Below.trans (Below.refl _ _).drew (HB6.out.mono HB.out.size))).setCell (p := ⟨g, m * 2, none⟩) hbg (.string (keyAt V m))).setCell (p := ⟨g, m * 2 + 1, none⟩) hbg (.int .i64 (combN op (numAt V m) x))
                exact ⟨k + 1, m + 1, _, cp, by omega, by go_num, rfl, by omega, by rw [e1]; exact ho, by rw [e1, List.length_set]; exact HN.out, hb⟩
              case measure => simp [intOf]; omega)
          | false =>
            have hs2 : ((keyAt V m).toList == y.toList) = false := hsk
            have HJ := Lib.hid (show joinsB V (y, x) = false by unfold joinsB; rw [HN.out, Nat.add_sub_cancel, hsk, Bool.and_false])
            clear hsk
            go_wp2_with fail
            rw [HWA.out]
            go_region_held3 (fun w' => Hid (Below wa.heap.size wa w') ∧ w'.cell? ⟨g, m * 2, none⟩ = some (.string (keyAt V m)) ∧ w'.cell? ⟨g, m * 2 + 1, none⟩ = some (.int .i64 (numAt V m)) ∧ w'.cell? ⟨wr.heap.size, 0, none⟩ = some (.string y) ∧ w'.cell? ⟨wr.heap.size, 1, none⟩ = some (.int .i64 x))
              (first | exact ⟨HBB, d0, d1, b0, b1⟩)
              (first | (go_at_call 72; refine (reckey_any _ _ _).mono ?_; rintro e w5 ⟨rfl, hB⟩; have d0 := (hB.cell (p := ⟨g, m * 2, none⟩) (World.block_lt_of_cell? _ _ d0)).trans d0; have d1 := (hB.cell (p := ⟨g, m * 2 + 1, none⟩) (World.block_lt_of_cell? _ _ d1)).trans d1; have b0 := (hB.cell (p := ⟨wr.heap.size, 0, none⟩) (World.block_lt_of_cell? _ _ b0)).trans b0; have b1 := (hB.cell (p := ⟨wr.heap.size, 1, none⟩) (World.block_lt_of_cell? _ _ b1)).trans b1; have HBB := Lib.hid (below_via HBB.out hB); clear hB))
            have HO := Lib.hid (own_below HO.out HBB.out)
            have HB := Lib.hid (below_via HB.out HBB.out)
            clear HBB hf
            rename World => wq
            go_wp2_with (at_builtin; (refine wpList_append_own _ rfl _ _ 45 rfl w.heap.size 50 i0 _ 2 24 Tryz.underlying45 hi hz0 hz1 hz2 rfl (by decide) _ _ _ rfl (HO.out.alloc _) ⟨wq.heap.size, 0, none⟩ 1 1 [.string y, .int .i64 x] rfl rfl (two_new _ _ _ _) (two_cells _ _) (by unfold maxLen; omega) (by omega) (Nat.le_trans HB.out.size (below_alloc (Below.refl _ _) _).size) ?_); intro v' w3 hown1 hgrow hnil; have HO1 := Lib.hid hown1; have HG := Lib.hid hgrow; clear hown1 hgrow hnil)
            have hb3 : Below w.heap.size w w3 := (below_alloc HB.out _).grown HG.out (below_alloc HB.out _).size (fun j hj => (HO.out.lt j hj).1)
            have HB3 := Lib.hid hb3
            clear hb3
            obtain ⟨q1, cp1, rfl⟩ := own_form HO1.out
            go_roundw
            case rel =>
              have e1 : cTo op l (k + 1) = V ++ [(y, x)] := by rw [HY.out, cStep_new HJ.out]
              refine ⟨k + 1, m + 1 + 1, q1, cp1, by omega, by go_num, rfl, by omega, ?_, by rw [e1, List.length_append, HN.out]; rfl, HB3.out⟩
              rw [e1, cellsL_snoc]
              exact HO1.out
            case measure => simp [intOf]; omega
    · obtain rfl : k = len := by omega
      have hki : ¬ (k : Int) < (k : Int) := by omega
      go_wp2
      go_ret
      exact ⟨q, cp, by rw [HS.out.size]; rfl, rs_of_own (by rw [HS.out.size]; exact HS.out.own), HS.out.below, by rw [HS.out.size]; exact (own_cap HS.out.own).1, (own_cap HS.out.own).2⟩
end Go.Proofs.YtdphganbnlmgcaaGreatDoor
namespace Go.Proofs.YtdphganbnlmgcaaGreatDoor
open Go.ChangeShapes Go.WideShapes Go.ChangeAt Go.RowKit Go.Lib
set_option linter.unusedVariables false
set_option maxRecDepth 100000

abbrev RA := Array (ByteArray × Int)
def ltR (a b : ByteArray × Int) : Bool := lessB a.1 a.2 b.1 b.2

/-- Blocks from B on that were there are as they were. -/
def KeepB (B : Nat) (w w' : World) : Prop :=
  w.heap.size ≤ w'.heap.size ∧ ∀ b o, B ≤ b → b < w.heap.size → w'.cell? ⟨b, o, none⟩ = w.cell? ⟨b, o, none⟩ ∧ w'.frozen? ⟨b, o, none⟩ = w.frozen? ⟨b, o, none⟩
theorem KeepB.refl (B : Nat) (w : World) : KeepB B w w := ⟨Nat.le_refl _, fun _ _ _ _ => ⟨rfl, rfl⟩⟩
theorem KeepB.trans {B : Nat} {w w1 w2 : World} (h : KeepB B w w1) (k : KeepB B w1 w2) : KeepB B w w2 :=
  ⟨Nat.le_trans h.1 k.1, fun b o hb hl => ⟨((k.2 b o hb (Nat.lt_of_lt_of_le hl h.1)).1).trans (h.2 b o hb hl).1, ((k.2 b o hb (Nat.lt_of_lt_of_le hl h.1)).2).trans (h.2 b o hb hl).2⟩⟩

/-- A row of n records below block B, read by Less and turned by Swap of the receiver (ra, rl, rc). -/
structure SortRow (R : RA → World → Prop) (ra : Option Addr) (rl rc n B : Nat) : Prop where
  size : ∀ {V w}, R V w → V.size = n
  room : ∀ {V w}, R V w → B ≤ w.heap.size
  drewN : ∀ {V w} (q : Nat), R V w → R V (w.drewN q)
  alloc : ∀ {V w} (o : Obj), R V w → R V (w.alloc o)
  set : ∀ {V w} (b o : Nat) (v : Value), R V w → B ≤ b → R V (w.setCell ⟨b, o, none⟩ v)
  less : ∀ {V w} (i j : Nat), R V w → i < n → j < n → Calls Tryz.prog 217 #[.slice ra rl rc, .int .i64 i, .int .i64 j] w fun e w' => e = .returned (.bool (ltR V[i]! V[j]!)) ∧ R V w' ∧ KeepB B w w'
  swap : ∀ {V w} (i j : Nat), R V w → i < n → j < n → Calls Tryz.prog 218 #[.slice ra rl rc, .int .i64 i, .int .i64 j] w fun e w' => e = .returned (.tuple #[]) ∧ R (Go.Sort.swp V i j) w' ∧ KeepB B w w'

theorem method_swap (a : Option Addr) (len cap : Nat) (w : World) : (method 345 131 (.slice a len cap) "Swap").run Tryz.prog w = .ok (218, .slice a len cap) w := by kernel_rfl

/-- The end of a step of the sort: what it returns, and what stands in the row. -/
def EndR (R : RA → World → Prop) (v : Value) (V : RA) (e : Ending) (w' : World) : Prop := e = .returned v ∧ R V w'

/-- Less and Swap at places that are known as integers. -/
theorem SortRow.lessZ {R : RA → World → Prop} {ra : Option Addr} {rl rc n B : Nat} (S : SortRow R ra rl rc n B) {V : RA} {w : World} (i j : Nat) (x y : Int) (z : Bool) (h : R V w) (hi : i < n) (hj : j < n) (hx : (i : Int) = x) (hy : (j : Int) = y) (hz : ltR V[i]! V[j]! = z) :
    Calls Tryz.prog 217 #[.slice ra rl rc, .int .i64 x, .int .i64 y] w fun e w' => e = .returned (.bool z) ∧ R V w' := by
  subst hx hy hz
  exact (S.less i j h hi hj).mono fun _ _ ⟨he, hR, _⟩ => ⟨he, hR⟩
theorem SortRow.swapZ {R : RA → World → Prop} {ra : Option Addr} {rl rc n B : Nat} (S : SortRow R ra rl rc n B) {V : RA} {w : World} (i j : Nat) (x y : Int) (h : R V w) (hi : i < n) (hj : j < n) (hx : (i : Int) = x) (hy : (j : Int) = y) :
    Calls Tryz.prog 218 #[.slice ra rl rc, .int .i64 x, .int .i64 y] w fun e w' => e = .returned (.tuple #[]) ∧ R (Go.Sort.swp V i j) w' := by
  subst hx hy
  exact (S.swap i j h hi hj).mono fun _ _ ⟨he, hR, _⟩ => ⟨he, hR⟩
end Go.Proofs.YtdphganbnlmgcaaGreatDoor
