
/- What Sorted computes in the program: the records in order, in a row of its own. Only new blocks are made. -/
import Derived.Test.YtjofbeokkainlaaGreatDoorSo6
import Derived.Test.YtjofbeokkainlaaGreatDoorSo7
import Derived.Test.YtjofbeokkainlaaGreatDoorMg20
namespace Go.Proofs.YtjofbeokkainlaaGreatDoor
open Go.ChangeShapes Go.WideShapes Go.ChangeAt Go.RowKit
open Go.Sort (swp PermIn SortedIn SWO)
set_option linter.unusedVariables false
set_option maxRecDepth 100000

set_option maxHeartbeats 1000000 in
theorem sort_any (base g n cp : Nat) (W : World) (V : RA) (w : World) (h : RowR base g n W V w) (hbg : base ≤ g) (hn : n ≤ 600) :
    Calls Tryz.prog 35 #[.iface 78 (.slice (some ⟨g, 0, none⟩) n cp)] w (InRow (RowR base g n W) 0 n V) := by
  have m0 := method_len (some ⟨g, 0, none⟩) n cp
  by_cases h1 : n ≤ 1
  · have h1z : (n : Int) ≤ 1 := by omega
    have H := Lib.hid h
    clear h
    go_enter Tryz.func35, Tryz.ntmps35
    go_wp2_with (go_at_call 219; refine (lenm_any _ _ _ _).mono ?_; rintro e w' ⟨rfl, rfl⟩)
    (try simp only [Exit.inBlock, Exit.then]); refine bodyPost_ret (results_none rfl _ _ _) rfl ?_
    exact ⟨rfl, V, H.out, Go.Sort.permIn_refl _ _ _, fun i j _ _ _ => by omega⟩
  · have h1z : ¬ (n : Int) ≤ 1 := by omega
    obtain ⟨lim, hlim⟩ : ∃ lim, Lib.bitLen n = lim := ⟨_, rfl⟩
    have hlb : lim < 4611686018427387904 := by
      have := Lib.bitLen_le n 62 (by omega) (by omega)
      rw [hlim] at this
      exact Nat.lt_of_le_of_lt this (by omega)
    have hb : Calls Tryz.prog 67 #[.int .u64 (n : Int)] w fun e w' => e = .returned (.int .i64 (lim : Int)) ∧ w = w' := by
      have := Tryz.bits_Len (n : Int) w (by omega) (by omega)
      rw [Int.toNat_natCast, hlim] at this
      exact this.mono fun _ _ ⟨he, hw⟩ => ⟨he, hw.symm⟩
    have hp := pdq_any (rowR_sort base g n cp W hbg hn) ltR_swo (by omega) (n + 1) 0 n lim V w (by omega) h (Nat.zero_le _) (Nat.le_refl _) hlb (Or.inl rfl)
    have wr : IntKind.u64.wrap (n : Int) = n := by simp [IntKind.wrap, IntKind.bits, IntKind.signed]; omega
    clear h hlim
    go_enter Tryz.func35, Tryz.ntmps35
    go_wp2_with (first
      | (go_at_call 219; refine (lenm_any _ _ _ _).mono ?_; rintro e w' ⟨rfl, rfl⟩)
      | (go_at_call 67; refine hb.mono ?_; rintro e w' ⟨rfl, rfl⟩)
      | (go_at_call 68; refine hp.mono ?_; rintro e w' ⟨rfl, V', hR, hP, hS⟩; have H := Lib.hid (And.intro hR (And.intro hP hS)); clear hR hP hS hp))
    go_end0
    exact ⟨rfl, V', H.out⟩

theorem run_copy_none2 {P : Program} (w : World) (dT sT ty elem : TypeId) (d a : Option Addr) (dLen dCap sLen sCap : Nat) (hu : P.underlying dT = some (.slice elem)) (hs : (P.info? elem).map (·.size) = some 2) (hn : Nat.min sLen dLen = 0) :
    (Builtin.copy_ #[dT, sT] ty #[.slice d dLen dCap, .slice a sLen sCap]).run P w = .ok (goInt 0) w := by
  cases hq : P.info? elem with
  | none => simp [hq] at hs
  | some i =>
    have hl : ∀ (x : Addr), (loadCells x 0).run P w = .ok #[] w := fun x => by simpa using run_loadCells_list (P := P) w x [] (by simp)
    cases d <;> cases a <;> simp [Builtin.copy_, run_underlying hu, Builtin.lenOf, Builtin.firstCells, sizeOf, typeInfo, hq, hn, storeCells, hl]
theorem sizeRec : (Tryz.prog.info? 37).map (·.size) = some 2 := by kernel_rfl

theorem laid_cells (l : Recs) : Laid (cellsL l).toArray l l.length := by
  intro j hj
  obtain ⟨h1, h2⟩ := cellsL_get l j hj
  exact ⟨by simpa using h1, by simpa using h2⟩
theorem sortedB_not {l : Recs} (h : recsOkB l = false) : sortedB l = [] := by unfold sortedB; rw [h]; rfl
theorem sortedB_is {l : Recs} (h : recsOkB l = true) : sortedB l = sortL l := by unfold sortedB; rw [h]; rfl
/-- Records laid down in a new row are ready to be sorted. -/
theorem rowR_new {base g n : Nat} {W w : World} {l : Recs} (hl : l.length = n) (hok : recsOkB l = true) (hr : Row w g 37 (cellsL l).toArray) (hB : Below base W w) : RowR base g n W l.toArray w := by
  obtain ⟨h6, h40⟩ := recsOk_parts hok
  refine ⟨by simpa using hl, ⟨_, hr, by simp [cellsL_len, hl], ?_⟩, hB, fun i hi => ?_⟩
  · have := laid_cells l
    rw [hl] at this
    simpa using this
  · have := h40 i (by omega)
    unfold okAt okB at this
    simpa using of_decide_eq_true this
theorem made_of_sort {g n cp : Nat} {W w' : World} {l : Recs} {V' : RA} (hl : l.length = n) (hn : n ≤ 600) (hbg : W.heap.size ≤ g) (hcp : n ≤ cp ∧ cp ≤ maxLen) (h : RowR W.heap.size g n W V' w') (hp : PermIn 0 n l.toArray V') (hs : SortedIn ltR 0 n V') :
    MadeRs (sortL l) W (.returned (.slice (some ⟨g, 0, none⟩) n cp)) w' := by
  have e := sorted_row (by simpa using hl) hp hs
  simp only at e
  have hlen : (sortL l).length = n := by rw [(sortL_perm l).length_eq]; exact hl
  obtain ⟨h1, ⟨cur, hr, hc, hla⟩, hB, _⟩ := h
  rw [e] at hla
  exact ⟨some ⟨g, 0, none⟩, cp, by rw [hlen], .inr ⟨g, cur, rfl, hbg, hr, by rw [hlen]; omega, by rw [hlen]; exact hla⟩, hB, by rw [hlen]; exact hcp.1, hcp.2, fun h => by cases h⟩

set_option maxHeartbeats 4000000 in
theorem sorted_any (a : Option Addr) (len cap : Nat) (l : Recs) (w : World) (h : RecsAt w a len l) :
    Calls Tryz.prog 13 #[.slice a len cap] w (MadeRs (sortedB l) w) := by
  obtain ⟨i0, hi, hz0, hz1, hz2⟩ := info_parts infoRec
  have HR := Lib.hid h
  clear h
  cases hok : recsOkB l with
  | false =>
    have HOK := Lib.hid hok
    have HQ := Lib.hid (sortedB_not hok)
    clear hok
    go_enter Tryz.func13, Tryz.ntmps13
    go_wp2_with (go_at_call 34; refine (recsok_any _ _ _ _ _ HR.out).mono ?_; rw [HOK.out]; rintro e w1 ⟨rfl, hB⟩; have HB := Lib.hid hB; clear hB)
    go_ret
    rw [HQ.out]
    exact ⟨none, 0, rfl, .inl rfl, HB.out, Nat.le_refl _, Nat.zero_le _, fun _ => rfl⟩
  | true =>
    have HOK := Lib.hid hok
    have HQ := Lib.hid (sortedB_is hok)
    have h6 : len ≤ 600 := by rw [← HR.out.length]; exact (recsOk_parts hok).1
    clear hok
    go_enter Tryz.func13, Tryz.ntmps13
    go_wp2_with fail
    refine (recsok_any _ _ _ _ _ HR.out).mono ?_
    rw [HOK.out]
    rintro e w1 ⟨rfl, hB⟩
    have HB := Lib.hid hB
    have HR := Lib.hid (HR.out.keep hB)
    clear hB
    go_wp2_with (at_make; refine wpList_make_full _ rfl _ _ 34 rfl w1.heap.size 37 i0 _ 2 Tryz.underlying34 hi hz0 hz1 .i64 .i64 _ _ len rfl rfl rfl rfl (by rw [hz2]; omega) (by unfold maxLen; omega) (Nat.le_refl _) ?_; intro w2 hown hgrow)
    obtain ⟨cur0, hrow0, hsz0⟩ : ∃ cur, Row w2 w1.heap.size 37 cur ∧ cur.size = len * 2 := by
      rcases hown.2 with ⟨h, _⟩ | ⟨g, cp, cur, hv, _, hh, _, _, hs, _⟩
      · simp at h
      · simp only [Value.slice.injEq, Option.some.injEq, Addr.mk.injEq, true_and, and_true] at hv
        obtain ⟨rfl, rfl⟩ := hv
        exact ⟨cur, hh, hs⟩
    have hgrow1 := (Below.refl w1.heap.size w1).grown hgrow (Nat.le_refl _) (fun k hk => by cases hk)
    obtain ⟨g, hg⟩ : ∃ g, w1.heap.size = g := ⟨_, rfl⟩
    have HR := Lib.hid (HR.out.keep hgrow1)
    have HBG := Lib.hid (show w.heap.size ≤ g by rw [← hg]; exact HB.out.size)
    have HB := Lib.hid (below_via HB.out hgrow1)
    rw [hg] at hrow0 ⊢
    have HRW := Lib.hid hrow0
    have HSZ := Lib.hid hsz0
    clear hown hgrow hgrow1 hrow0 hsz0 hg
    have tail : ∀ w3, Row w3 g 37 (cellsL l).toArray → Below w.heap.size w w3 → Calls Tryz.prog 35 #[.iface 78 (.slice (some ⟨g, 0, none⟩) len len)] w3 fun e w' => e = .returned (.tuple #[]) ∧ MadeRs (sortL l) w (.returned (.slice (some ⟨g, 0, none⟩) len len)) w' := fun w3 h1 h2 =>
      (sort_any w.heap.size g len len w l.toArray w3 (rowR_new HR.out.length HOK.out h1 h2) HBG.out h6).mono fun e w' ⟨he, V', k1, k2, k3⟩ => ⟨he, made_of_sort (cp := len) HR.out.length h6 HBG.out ⟨Nat.le_refl _, by unfold maxLen; omega⟩ k1 k2 k3⟩
    have TL := Lib.hid tail
    clear tail
    cases a with
    | none =>
      have h0 : len = 0 := by
        rcases HR.out.src with h | ⟨b, off, h, _⟩
        · exact h
        · cases h
      subst h0
      have hl0 : l = [] := List.length_eq_zero_iff.1 HR.out.length
      have HRW0 := Lib.hid (show Row w2 g 37 (cellsL l).toArray by
        have h1 := HRW.out
        have h2 : cur0 = #[] := Array.eq_empty_of_size_eq_zero (by have := HSZ.out; omega)
        rw [h2] at h1
        rw [hl0]
        exact h1)
      have hc := TL.out w2 HRW0.out HB.out
      clear hl0
      have hrun := run_copy_none2 (P := Tryz.prog) w2 34 34 3 37 (some ⟨g, 0, none⟩) none 0 0 0 cap Tryz.underlying34 sizeRec rfl
      rw [hrun]
      go_wp2_with (go_at_call 35; refine hc.mono ?_; rintro e w4 ⟨rfl, hM⟩; have HM := Lib.hid hM; clear hM hc)
      go_ret
      rw [HQ.out]
      exact HM.out
    | some ad =>
      have hrun := run_copy2 (P := Tryz.prog) w2 34 34 3 37 g len len ad len cap cur0 37 (cellsL l) Tryz.underlying34 sizeRec HRW.out (by rw [cellsL_len, HR.out.length]; simp) (recs_cellsO HR.out) (by rw [cellsL_len, HR.out.length, HSZ.out]; exact Nat.le_refl _) (cellsL_one l)
      have e0 : (cur0.toList.take 0 ++ cellsL l ++ cur0.toList.drop (0 + (cellsL l).length)).toArray = (cellsL l).toArray := by
        rw [List.take_zero, List.nil_append, Nat.zero_add, List.drop_eq_nil_of_le (by rw [cellsL_len, HR.out.length, Array.length_toList, HSZ.out]; exact Nat.le_refl _), List.append_nil]
      rw [e0] at hrun
      have hrow : Row (w2.setRow g (cellsL l).toArray) g 37 (cellsL l).toArray := setRow_heap w2 g _ _ _ _ HRW.out
      have hB3 := below_setRow HB.out HBG.out (cellsL l).toArray
      have hc := TL.out _ hrow hB3
      generalize w2.setRow g (cellsL l).toArray = w3 at hrun hrow hB3 hc
      clear e0 hrow hB3
      rw [hrun]
      go_wp2_with (go_at_call 35; refine hc.mono ?_; rintro e w4 ⟨rfl, hM⟩; have HM := Lib.hid hM; clear hM hc)
      go_ret
      rw [HQ.out]
      exact HM.out
theorem sortedB_few (l : Recs) : (sortedB l).length ≤ 600 ∧ ∀ i, i < (sortedB l).length → (keyAt (sortedB l) i).size ≤ 40 := by
  cases h : recsOkB l with
  | false => rw [sortedB_not h]; exact ⟨Nat.zero_le _, fun i hi => by simp at hi⟩
  | true =>
    rw [sortedB_is h]
    obtain ⟨h1, h2⟩ := recsOk_parts h
    refine ⟨by rw [(sortL_perm l).length_eq]; exact h1, fun i hi => ?_⟩
    have hm := (sortL_perm l).mem_iff.1 (List.getElem_mem hi)
    obtain ⟨k, hk, e⟩ := List.getElem_of_mem hm
    have := h2 k hk
    unfold okAt okB at this
    have h40 := of_decide_eq_true this
    rw [at_get _ i hi, at_get _ k hk] at e
    have e1 : keyAt l k = keyAt (sortL l) i := congrArg Prod.fst e
    rw [← e1]; exact h40
end Go.Proofs.YtjofbeokkainlaaGreatDoor
