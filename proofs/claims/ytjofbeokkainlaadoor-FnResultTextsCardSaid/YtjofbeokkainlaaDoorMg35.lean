/- Texts put together, as a claim holds at most sixty files. -/
import Derived.Test.YtjofbeokkainlaaDoorMapT
import Derived.Test.YtjofbeokkainlaaDoorMg28
namespace Go.Proofs.YtjofbeokkainlaaDoor
open Go.ChangeShapes Go.WideShapes Go.ChangeAt Go.RowKit
set_option linter.unusedVariables false
set_option maxRecDepth 100000

/-- The first of k numbers at which f is not 0. -/
def failAt (f : Nat → Int) : Nat → Option Nat
  | 0 => none
  | k + 1 => match failAt f k with
    | some t => some t
    | none => if f k ≠ 0 then some k else none
theorem failAt_none {f : Nat → Int} : ∀ {k : Nat}, (∀ t, t < k → f t = 0) → failAt f k = none
  | 0, _ => rfl
  | k + 1, h => by
    rw [failAt, failAt_none (fun t ht => h t (by omega))]
    simp [h k (by omega)]
theorem failAt_stop {f : Nat → Int} {k : Nat} (h : ∀ t, t < k → f t = 0) (hk : f k ≠ 0) : ∀ {n : Nat}, k < n → failAt f n = some k
  | 0, hn => by omega
  | n + 1, hn => by
    rw [failAt]
    rcases Nat.lt_or_ge k n with h1 | h1
    · rw [failAt_stop h hk h1]
    · obtain rfl : k = n := by omega
      rw [failAt_none h]
      simp [hk]
theorem failAt_cases (f : Nat → Int) : ∀ n, (failAt f n = none ∧ ∀ t, t < n → f t = 0) ∨ ∃ k, k < n ∧ failAt f n = some k ∧ f k ≠ 0 ∧ ∀ t, t < k → f t = 0
  | 0 => .inl ⟨rfl, fun t ht => by omega⟩
  | n + 1 => by
    rcases failAt_cases f n with ⟨h1, h2⟩ | ⟨k, hk, h1, h2, h3⟩
    · by_cases h0 : f n = 0
      · exact .inl ⟨failAt_none (fun t ht => by (rcases Nat.lt_or_ge t n with h | h; exact h2 t h; exact (show t = n by omega) ▸ h0)), fun t ht => by (rcases Nat.lt_or_ge t n with h | h; exact h2 t h; exact (show t = n by omega) ▸ h0)⟩
      · exact .inr ⟨n, by omega, failAt_stop h2 h0 (by omega), h0, h2⟩
    · exact .inr ⟨k, by omega, failAt_stop h3 h2 (by omega), h2, h3⟩

section
variable (l : Instrs) (each : Bool) (op n1 : Int) (m : Strs) (sl : Nat)
/-- The runs of part p of the first k splits. -/
def redL (p : Nat) (k : Nat) : List Recs := (List.range k).map fun t => (mapJ l each op n1 m sl (t : Nat)).1.getD p []
theorem redL_len (p k : Nat) : (redL l each op n1 m sl p k).length = k := by simp [redL]
theorem redL_at {p k i : Nat} (h : i < k) : (redL l each op n1 m sl p k).getD i [] = (mapJ l each op n1 m sl (i : Nat)).1.getD p [] := by
  unfold redL
  rw [List.getD_eq_getElem?_getD, List.getElem?_map, List.getElem?_range h]; rfl
theorem redL_short (p k : Nat) : ShortR (redL l each op n1 m sl p k) := by
  intro i hi
  rw [redL_len] at hi
  unfold nAt
  rw [redL_at _ _ _ _ _ _ hi]
  have hf := mapJ_few l each op n1 m sl (i : Nat)
  generalize (mapJ l each op n1 m sl (i : Nat)).1 = R at hf ⊢
  by_cases hp : p < R.length
  · exact ⟨hf.recs p hp, hf.keys p hp⟩
  · have : R.getD p [] = [] := by rw [List.getD_eq_getElem?_getD, List.getElem?_eq_none (by omega)]; rfl
    rw [this]
    exact ⟨by simp, fun j hj => absurd hj (by simp)⟩
/-- What a reduce task yields: its run and its code. -/
def redJ (p : Int) : Recs × Int :=
  if jobB l op n1 m sl = true ∧ 0 ≤ p ∧ p < n1 then
    match failAt (fun t => (mapJ l each op n1 m sl (t : Nat)).2) sl with
    | some t => ([], (mapJ l each op n1 m sl (t : Nat)).2)
    | none => if mallK (redL l each op n1 m sl p.toNat sl) = true then (combW op (mallW (redL l each op n1 m sl p.toNat sl)), 0) else ([], 3)
  else ([], 1)
theorem redJ_no {p : Int} (h : ¬ (jobB l op n1 m sl = true ∧ 0 ≤ p ∧ p < n1)) : redJ l each op n1 m sl p = ([], 1) := by unfold redJ; rw [if_neg h]
theorem redJ_bad {p : Nat} (h : jobB l op n1 m sl = true) (hp : (p : Int) < n1) {k : Nat} (hk : k < sl) (h0 : ∀ t, t < k → (mapJ l each op n1 m sl (t : Nat)).2 = 0) {c : Int} (h1 : (mapJ l each op n1 m sl (k : Nat)).2 = c) (hc : c ≠ 0) : redJ l each op n1 m sl p = ([], c) := by
  unfold redJ
  rw [if_pos ⟨h, by omega, hp⟩, failAt_stop (f := fun t => (mapJ l each op n1 m sl (t : Nat)).2) h0 (by show (mapJ l each op n1 m sl (k : Nat)).2 ≠ 0; rw [h1]; exact hc) hk]
  simp only [h1]
theorem redJ_all {p : Nat} (h : jobB l op n1 m sl = true) (hp : (p : Int) < n1) (h0 : ∀ t, t < sl → (mapJ l each op n1 m sl (t : Nat)).2 = 0) : redJ l each op n1 m sl p = if mallK (redL l each op n1 m sl p sl) = true then (combW op (mallW (redL l each op n1 m sl p sl)), 0) else ([], 3) := by
  unfold redJ
  rw [if_pos ⟨h, by omega, hp⟩, failAt_none (f := fun t => (mapJ l each op n1 m sl (t : Nat)).2) h0, Int.toNat_natCast]
theorem redJ_few (p : Int) : (redJ l each op n1 m sl p).1.length ≤ 600 ∧ ∀ j, j < (redJ l each op n1 m sl p).1.length → (keyAt (redJ l each op n1 m sl p).1 j).size ≤ 40 := by
  unfold redJ
  split
  · split
    · exact ⟨by simp, fun j hj => absurd hj (by simp)⟩
    · split
      · exact combW_few _ _
      · exact ⟨by simp, fun j hj => absurd hj (by simp)⟩
  · exact ⟨by simp, fun j hj => absurd hj (by simp)⟩
/-- The runs of the first k parts of a result. -/
def resL (k : Nat) : List Recs := (List.range k).map fun p => (redJ l each op n1 m sl (p : Nat)).1
theorem resL_len (k : Nat) : (resL l each op n1 m sl k).length = k := by simp [resL]
theorem resL_at {k i : Nat} (h : i < k) : (resL l each op n1 m sl k).getD i [] = (redJ l each op n1 m sl (i : Nat)).1 := by
  unfold resL
  rw [List.getD_eq_getElem?_getD, List.getElem?_map, List.getElem?_range h]; rfl
theorem resL_short (k : Nat) : ShortR (resL l each op n1 m sl k) := by
  intro i hi
  rw [resL_len] at hi
  unfold nAt
  rw [resL_at _ _ _ _ _ _ hi]
  exact redJ_few l each op n1 m sl i
/-- A result: done, failed, the task that failed, the runs. -/
def resR : Bool × Bool × Int × List Recs :=
  if jobB l op n1 m sl = true then
    match failAt (fun t => (mapJ l each op n1 m sl (t : Nat)).2) sl with
    | some t => (false, true, t, [])
    | none => match failAt (fun p => (redJ l each op n1 m sl (p : Nat)).2) n1.toNat with
      | some p => (false, true, (sl : Int) + p, [])
      | none => (true, false, 0, resL l each op n1 m sl n1.toNat)
  else (false, false, 0, [])
theorem resR_no (h : ¬ jobB l op n1 m sl = true) : resR l each op n1 m sl = (false, false, 0, []) := by unfold resR; rw [if_neg h]
theorem resR_map (h : jobB l op n1 m sl = true) {k : Nat} (hk : k < sl) (h0 : ∀ t, t < k → (mapJ l each op n1 m sl (t : Nat)).2 = 0) (hc : (mapJ l each op n1 m sl (k : Nat)).2 ≠ 0) : resR l each op n1 m sl = (false, true, (k : Int), []) := by
  unfold resR
  rw [if_pos h, failAt_stop (f := fun t => (mapJ l each op n1 m sl (t : Nat)).2) h0 hc hk]
theorem resR_red (h : jobB l op n1 m sl = true) (hm : ∀ t, t < sl → (mapJ l each op n1 m sl (t : Nat)).2 = 0) {k : Nat} (hk : k < n1.toNat) (h0 : ∀ t, t < k → (redJ l each op n1 m sl (t : Nat)).2 = 0) (hc : (redJ l each op n1 m sl (k : Nat)).2 ≠ 0) : resR l each op n1 m sl = (false, true, (sl : Int) + k, []) := by
  unfold resR
  rw [if_pos h, failAt_none (f := fun t => (mapJ l each op n1 m sl (t : Nat)).2) hm]
  simp only [failAt_stop (f := fun p => (redJ l each op n1 m sl (p : Nat)).2) h0 hc hk]
theorem resR_all (h : jobB l op n1 m sl = true) (hm : ∀ t, t < sl → (mapJ l each op n1 m sl (t : Nat)).2 = 0) (h0 : ∀ t, t < n1.toNat → (redJ l each op n1 m sl (t : Nat)).2 = 0) : resR l each op n1 m sl = (true, false, 0, resL l each op n1 m sl n1.toNat) := by
  unfold resR
  rw [if_pos h, failAt_none (f := fun t => (mapJ l each op n1 m sl (t : Nat)).2) hm]
  simp only [failAt_none (f := fun p => (redJ l each op n1 m sl (p : Nat)).2) h0]
end
end Go.Proofs.YtjofbeokkainlaaDoor
namespace Go.Proofs.YtjofbeokkainlaaDoor
open Go.ChangeShapes Go.WideShapes Go.ChangeAt Go.RowKit
set_option linter.unusedVariables false
set_option maxRecDepth 100000

theorem runsR_len0 {l : Instrs} {each : Bool} {op n1 : Int} {m : Strs} {sl : Nat} {t : Int} (h : (mapJ l each op n1 m sl t).2 = 0) : (mapJ l each op n1 m sl t).1.length = n1.toNat := by
  unfold mapJ at h ⊢
  split
  · rename_i hj
    rw [if_pos hj] at h
    unfold mapR at h ⊢
    split
    · rw [runsR_len]
    · rename_i hc
      rw [if_neg hc] at h
      exact absurd h hc
  · rename_i hj
    rw [if_neg hj] at h
    cases h
/-- The end of the model's reduce task: its run, in a row of its own, and its code. -/
def MadeRJ (o : Recs × Int) (w : World) (e : Ending) (w' : World) : Prop :=
  ∃ q cp, e = .returned (.tuple #[.slice q o.1.length cp, .int .i64 o.2]) ∧ Rs w.heap.size w' q o.1 ∧ Below w.heap.size w w' ∧ (q = none → o.1.length = 0 ∧ cp = 0)
theorem rj_none {o : Recs × Int} {c : Int} {w w' : World} (h : o = ([], c)) (hB : Below w.heap.size w w') : MadeRJ o w (.returned (.tuple #[.slice none 0 0, .int .i64 c])) w' := by
  subst h; exact ⟨none, 0, rfl, .inl rfl, hB, fun _ => ⟨rfl, rfl⟩⟩

set_option maxHeartbeats 8000000 in
theorem sreduceof_any (p s : Option Addr) (pl pc sl sc : Nat) (each : Bool) (op n1 : Int) (l : Instrs) (m : Strs) (t : Int) (w : World) (h : JobAt w p pl l s sl m) (hn : ∀ i, i < pl → In64 (ins1 l i)) (hsz : ∀ i, i < sl → (strAt m i).size ≤ 1048576) :
    Calls Tryd.prog 18 #[.agg #[.slice p pl pc, .bool each, .int .i64 op, .int .i64 n1, .slice s sl sc], .int .i64 t] w (MadeRJ (redJ l each op n1 m sl t) w) := by
  have hm := h.t.max
  unfold maxLen at hm
  obtain ⟨i0, hi, hz0, hz1, hz2⟩ := info_parts infoRecS
  have HB0 := Lib.hid (below_alloc (Below.refl w.heap.size w) (.cells #[.slice p pl pc, .bool each, .int .i64 op, .int .i64 n1, .slice s sl sc] 38))
  have HX := Lib.hid (row_new w #[.slice p pl pc, .bool each, .int .i64 op, .int .i64 n1, .slice s sl sc] 38)
  have HS := Lib.hid (h.keep HB0.out)
  have HZ := Lib.hid hsz
  have HN := Lib.hid hn
  have HEV := Lib.hid (fun (k : Nat) w (h : JobAt w p pl l s sl m) => smapof_any p s pl pc sl sc each op n1 l m (k : Int) w h hn hsz)
  obtain ⟨W0, hW0⟩ : ∃ W0, w.alloc (.cells #[.slice p pl pc, .bool each, .int .i64 op, .int .i64 n1, .slice s sl sc] 38) = W0 := ⟨_, rfl⟩
  have HW0 := Lib.hid hW0
  rw [hW0] at HB0 HX HS
  obtain ⟨B0, hB0⟩ : ∃ B0, w.heap.size = B0 := ⟨_, rfl⟩
  rw [hB0] at HX
  obtain ⟨q0, hq0⟩ : ∃ q0, jobB l op n1 m sl = q0 := ⟨_, rfl⟩
  have HQ0 := Lib.hid hq0
  have x0 := HX.out.cell (j := 0) (by simp)
  have x1 := HX.out.cell (j := 1) (by simp)
  have x2 := HX.out.cell (j := 2) (by simp)
  have x3 := HX.out.cell (j := 3) (by simp)
  have x4 := HX.out.cell (j := 4) (by simp)
  simp at x0 x1 x2 x3 x4
  clear h hsz hW0 hq0 hn
  go_enter Tryd.func18, Tryd.ntmps18
  go_wp2_with fail
  rw [HW0.out]
  try rw [hB0]
  refine (sjobok_any p s pl pc sl sc each op n1 l m _ HS.out HZ.out).mono ?_
  rw [HQ0.out]
  rintro e w1 ⟨rfl, hB⟩
  have HB := Lib.hid hB
  clear hB x0 x1 x2 x3 x4
  have HX1 := Lib.hid (HX.out.keep HB.out)
  have x3 := HX1.out.cell (j := 3) (by simp)
  have x4 := HX1.out.cell (j := 4) (by simp)
  simp at x3 x4
  cases q0 with
  | false =>
    have HC := Lib.hid (redJ_no l each op n1 m sl (p := t) (fun h => by rw [HQ0.out] at h; cases h.1))
    go_wp2
    go_ret2
    exact rj_none HC.out (below_via HB0.out HB.out)
  | true =>
  go_wp2_with fail
  refine (l1in_any t 0 _ _).mono ?_
  have HJP := Lib.hid (jobB_parts HQ0.out)
  have hsub : wrap64 (n1 - 1) = n1 - 1 := by have h1 := HJP.out.1; have h2 := HJP.out.2.1; unfold wrap64; omega
  rw [hsub]
  obtain ⟨b, hb⟩ : ∃ b, inB t 0 (n1 - 1) = b := ⟨_, rfl⟩
  have HIN := Lib.hid hb
  rw [hb]
  rintro e w2 ⟨rfl, rfl⟩
  clear hb hsub
  cases b with
  | false =>
    have HC := Lib.hid (redJ_no l each op n1 m sl (p := t) (fun h => by
      have h1 := HIN.out
      unfold inB at h1
      rw [decide_eq_false_iff_not] at h1
      omega))
    go_wp2
    go_ret2
    exact rj_none HC.out (below_via HB0.out HB.out)
  | true =>
  have ht : 0 ≤ t ∧ t ≤ n1 - 1 := by have h1 := HIN.out; unfold inB at h1; exact of_decide_eq_true h1
  obtain ⟨tn, rfl⟩ : ∃ tn : Nat, t = (tn : Int) := ⟨t.toNat, by omega⟩
  have HT := Lib.hid (show (tn : Int) < n1 by omega)
  have hsl4 := HJP.out.2.2.2.1
  have htn3 : tn < 3 := by have := HT.out; have := HJP.out.2.1; omega
  obtain ⟨R, hR⟩ : ∃ R, redL l each op n1 m sl tn sl = R := ⟨_, rfl⟩
  have HRL := Lib.hid (show R.length = sl by rw [← hR]; exact redL_len _ _ _ _ _ _ _ _)
  have HRS := Lib.hid (show ShortR R by rw [← hR]; exact redL_short _ _ _ _ _ _ _ _)
  have HRA := Lib.hid (show ∀ i, i < sl → R.getD i [] = (mapJ l each op n1 m sl (i : Nat)).1.getD tn [] from fun i hi => by rw [← hR]; exact redL_at _ _ _ _ _ _ hi)
  have HRR := Lib.hid hR
  clear hR ht HIN
  have HO0 := Lib.hid (show OutS R W0 (w1.alloc (.cells #[] 31)) (some ⟨w1.heap.size, 0, none⟩) 0 0 [] from ⟨World.ownsRow_lit w1 #[] 0 HB.out.size (Nat.zero_le _) rfl, fun i hi => by omega, below_alloc HB.out _⟩)
  clear HX1 x3 x4 HB
  go_wp2_with fail
  go_loopw [6, 7] (fun o i wo => ∃ (k : Nat) (q : Option Addr) (cp : Nat) (XS : List Value), k ≤ sl ∧ o = .slice q k cp ∧ i = .int .i64 k ∧ Hid (∀ t, t < k → (mapJ l each op n1 m sl (t : Nat)).2 = 0) ∧ Hid (OutS R W0 wo q k cp XS)) (fun _ i _ => sl - (intOf i).toNat)
  case atStart => exact ⟨0, _, _, [], Nat.zero_le _, rfl, rfl, fun t ht => by omega, HO0⟩
  case round =>
    clear HO0
    obtain ⟨k, q, cp, XS, hk, rfl, rfl, HC, HO⟩ := hrel
    have HXO := Lib.hid (HX.out.keep HO.out.below)
    have x0 := HXO.out.cell (j := 0) (by simp)
    have x1 := HXO.out.cell (j := 1) (by simp)
    have x2 := HXO.out.cell (j := 2) (by simp)
    have x3 := HXO.out.cell (j := 3) (by simp)
    have x4 := HXO.out.cell (j := 4) (by simp)
    simp at x0 x1 x2 x3 x4
    by_cases hlt : k < sl
    · have hk1 : (k : Int) < (sl : Int) := by omega
      go_wp2_with fail
      refine (HEV.out k _ (HS.out.keep HO.out.below)).mono ?_
      obtain ⟨V, hV⟩ : ∃ x, (mapJ l each op n1 m sl (k : Nat)).1 = x := ⟨_, rfl⟩
      obtain ⟨c, hc⟩ : ∃ x, (mapJ l each op n1 m sl (k : Nat)).2 = x := ⟨_, rfl⟩
      have HV := Lib.hid hV
      have HCC := Lib.hid hc
      unfold MadeSO
      rw [hV, hc]
      rintro e w2 ⟨q2, cp2, X2, rfl, ho⟩
      have HP := Lib.hid ho
      clear hV hc ho x0 x1 x2 x3 x4
      by_cases hc0 : c = 0
      · subst hc0
        have HVN := Lib.hid (show tn < V.length by rw [← HV.out, runsR_len0 HCC.out]; have := HT.out; omega)
        obtain ⟨g2, rfl, hg2, hb2, _, _, hc2⟩ := HP.out.src (by have := HVN.out; omega)
        obtain ⟨p3, c3, y0, hr3, hn3⟩ := hc2 tn HVN.out
        have HR3 := Lib.hid hr3
        have HN3 := Lib.hid hn3
        have HVK := Lib.hid (show V.getD tn [] = R.getD k [] by rw [HRA.out k hlt, HV.out])
        have HNA := Lib.hid (show nAt V tn = nAt R k by unfold nAt; rw [HVK.out])
        rw [HNA.out] at y0
        obtain ⟨n3, hn33⟩ : ∃ x, nAt R k = x := ⟨_, rfl⟩
        have HN33 := Lib.hid hn33
        rw [hn33] at y0
        obtain ⟨vn, hvn⟩ : ∃ x, V.length = x := ⟨_, rfl⟩
        have hvl : tn < vn := by rw [← hvn]; exact HVN.out
        rw [hvn]
        have ht1 : (tn : Int) < (vn : Int) := by omega
        have ht0 : (0 : Int) ≤ (tn : Int) := by omega
        have HO2 := Lib.hid (HO.out.keep HP.out.below)
        have HRS3 := Lib.hid (show Rs W0.heap.size w2 p3 (R.getD k []) from by rw [← HVK.out]; exact Rs.base HR3.out HO.out.below.size)
        have HNIL := Lib.hid (show p3 = none → nAt R k = 0 ∧ c3 = 0 from by rw [← HNA.out]; exact HN3.out)
        clear hg2 hb2 hc2 hr3 hn3 hn33 hvn hvl HP HXO
        go_wp2_with (at_builtin; go_loud (refine wpList_append_lies _ rfl _ _ 24 rfl W0.heap.size 31 i0 _ 1 24 Tryd.underlying24 hi hz0 hz1 hz2 rfl (by decide) _ _ _ rfl (HO2.out.own.alloc _) ⟨w2.heap.size, 0, none⟩ 1 1 [.slice p3 n3 c3] rfl rfl (one_new _ _ _) (fun u hu => by simp at hu; subst hu; rfl) (by decide) (by unfold maxLen; omega) (by omega) (Nat.le_trans HO2.out.below.size (by simp)) (w2.heap.size + 1) (by rw [World.size_alloc]) ?_); intro q5 c5 w5 hown hgrow hat hlt5; have HO5 := Lib.hid (OutS.add (c := c3) HO2.out HRS3.out HNIL.out (by rw [HN33.out]; exact hown) hgrow); rw [HN33.out] at HO5; clear hown hgrow hat hlt5)
        go_roundw
        case rel => exact ⟨k + 1, _, c5, _, by omega, rfl, by go_num, fun t ht => by
          rcases Nat.lt_or_ge t k with h | h
          · exact HC.out t h
          · obtain rfl : t = k := by omega
            exact HCC.out, HO5⟩
        case measure => simp [intOf]; omega
      · have HFIN := Lib.hid (redJ_bad l each op n1 m sl HQ0.out HT.out hlt HC.out HCC.out hc0)
        have hz3 : (c != (0 : Int)) = true := by rw [bne_iff_ne]; exact hc0
        go_wp2
        go_ret2
        exact rj_none HFIN.out (below_via (below_via HB0.out HO.out.below) HP.out.below)
    · obtain rfl : k = sl := by omega
      have HALL := Lib.hid (redJ_all l each op n1 m k HQ0.out HT.out HC.out)
      rw [HRR.out] at HALL
      have HSS := Lib.hid (HO.out.ss HRL.out HRS.out)
      have hk9 : k ≤ 1048576 := by omega
      go_wp2_with fail
      refine (smergeall_any q k cp R _ HSS.out hk9).mono ?_
      obtain ⟨M, hM⟩ : ∃ M, mallW R = M := ⟨_, rfl⟩
      obtain ⟨ok, hok⟩ : ∃ x, mallK R = x := ⟨_, rfl⟩
      have HMF := Lib.hid (mallW_few R)
      rw [hM] at HMF HALL
      rw [hok] at HALL
      rw [hM, hok]
      rintro e w3 ⟨q3, cp3, rfl, hr3, hB3⟩
      have HR3 := Lib.hid hr3
      have HB3 := Lib.hid (below_via HO.out.below hB3)
      clear hr3 hB3 hM hok x0 x1 x2 x3 x4
      cases ok with
      | false =>
        rw [if_neg (by simp)] at HALL
        go_wp2
        go_ret2
        exact rj_none HALL.out (below_via HB0.out HB3.out)
      | true =>
        rw [if_pos rfl] at HALL
        obtain ⟨mn, hmn⟩ : ∃ x, M.length = x := ⟨_, rfl⟩
        have HMR := Lib.hid (recs_of_rs HR3.out hmn (by have := HMF.out.1; unfold maxLen; omega) (fun i hi => by have := HMF.out.2 i (by omega); unfold maxLen; omega))
        rw [hmn]
        have HX3 := Lib.hid (HX.out.keep HB3.out)
        have x2 := HX3.out.cell (j := 2) (by simp)
        simp at x2
        clear hmn
        go_wp2_with fail
        refine (scombined_any op q3 mn cp3 M _ HMR.out).mono ?_
        rintro e w4 ⟨q4, cp4, rfl, hr4, hB4, hc4, _, hq4⟩
        have HR4 := Lib.hid hr4
        have HB4 := Lib.hid (below_via HB3.out hB4)
        have HLO := Lib.hid (show w.heap.size ≤ w3.heap.size from Nat.le_trans HB0.out.size HB3.out.size)
        have HNQ := Lib.hid (show q4 = none → (combW op M).length = 0 ∧ cp4 = 0 from fun h0 => ⟨by have := hq4 h0; omega, hq4 h0⟩)
        clear hr4 hB4 hc4 hq4 x2
        go_wp2
        go_ret2
        rw [HALL.out]
        exact ⟨q4, cp4, rfl, Rs.base HR4.out HLO.out, below_via HB0.out HB4.out, HNQ.out⟩
end Go.Proofs.YtjofbeokkainlaaDoor
