
/- The model's ResultOf. Only new blocks are made. -/
import Derived.Test.YtjofbeokkainlaaDoorMg35
import Derived.Test.YtjofbeokkainlaaDoorMg3
namespace Go.Proofs.YtjofbeokkainlaaDoor
open Go.ChangeShapes Go.WideShapes Go.ChangeAt Go.RowKit
set_option linter.unusedVariables false
set_option maxRecDepth 100000

theorem rs_grownX {base O : Nat} {w w1 : World} {q : Option Addr} {W : Recs} {T : TypeId} {cur : Array Value} (h : Rs base w q W) (hg : w.grownBy w1 (some O)) (hO : Row w O T cur) (hT : T ≠ 30) : Rs base w1 q W := by
  rcases h with h0 | ⟨g, c, hq, hb, hr, h1, h2⟩
  · exact .inl h0
  · exact .inr ⟨g, c, hq, hb, hr.grown hg (by have := row_ne hO hr hT; simp only [ne_eq, Option.some.injEq]; exact this), h1, h2⟩
theorem OutS.put {R : List Recs} {w wr : World} {q : Option Addr} {k cp : Nat} {XS : List Value} {O : Nat} {cur : Array Value} (h : OutS R w wr q k cp XS) (hO : Row wr O 26 cur) (hb : w.heap.size ≤ O) (j : Nat) (v : Value) : OutS R w (wr.setCell ⟨O, j, none⟩ v) q k cp XS := by
  have hg : wr.grownBy (wr.setCell ⟨O, j, none⟩ v) (some O) := grown_setCell (World.grownBy.refl _ _) _ _
  refine ⟨h.own.kept (row := some O) hg ?_, fun i hi => ?_, h.below.grown hg h.below.size (fun j hj => by cases hj; exact hb)⟩
  · by_cases h0 : k = 0
    · rcases h.own.2 with ⟨h1, _⟩ | ⟨g, cap, c, hv, _, hh, _⟩
      · simp only [Value.slice.injEq] at h1
        rw [h1.1]
        exact .inl rfl
      · simp only [Value.slice.injEq] at hv
        rw [hv.1]
        refine .inr ?_
        have := row_ne (show Row wr g 31 c from hh) hO (by decide)
        show some g ≠ some O
        simpa using this
    · rcases h.own.2 with ⟨h1, _⟩ | ⟨g, cap, c, hv, _, hh, _⟩
      · simp only [Value.slice.injEq] at h1
        exact absurd h1.2.1 h0
      · simp only [Value.slice.injEq] at hv
        rw [hv.1]
        refine .inr ?_
        have := row_ne (show Row wr g 31 c from hh) hO (by decide)
        show some g ≠ some O
        simpa using this
  · obtain ⟨p, c, e1, e2, e3⟩ := h.runs i hi
    exact ⟨p, c, e1, rs_grownX e2 hg hO (by decide), e3⟩
theorem below4 {n B : Nat} {w a : World} (h : Below n w a) (hB : n ≤ B) (x y z u : Value) : Below n w ((((a.setCell ⟨B, 0, none⟩ x).setCell ⟨B, 1, none⟩ y).setCell ⟨B, 2, none⟩ z).setCell ⟨B, 3, none⟩ u) :=
  (((h.setCell (p := ⟨B, 0, none⟩) hB _).setCell (p := ⟨B, 1, none⟩) hB _).setCell (p := ⟨B, 2, none⟩) hB _).setCell (p := ⟨B, 3, none⟩) hB _
theorem OutS.put4 {R : List Recs} {w wr : World} {q : Option Addr} {k cp : Nat} {XS : List Value} {O : Nat} {cur : Array Value} (h : OutS R w wr q k cp XS) (hO : Row wr O 26 cur) (hb : w.heap.size ≤ O) (x y z u : Value) : OutS R w ((((wr.setCell ⟨O, 0, none⟩ x).setCell ⟨O, 1, none⟩ y).setCell ⟨O, 2, none⟩ z).setCell ⟨O, 3, none⟩ u) q k cp XS :=
  (((h.put hO hb 0 x).put (hO.set 0 x) hb 1 y).put ((hO.set 0 x).set 1 y) hb 2 z).put (((hO.set 0 x).set 1 y).set 2 z) hb 3 u
/-- The end of the model's ResultOf. -/
def MadeResO (o : Bool × Bool × Int × List Recs) (w : World) (e : Ending) (w' : World) : Prop :=
  ∃ q cp XS, e = .returned (.agg #[.bool o.1, .bool o.2.1, .int .i64 o.2.2.1, .slice q o.2.2.2.length cp]) ∧ OutS o.2.2.2 w w' q o.2.2.2.length cp XS
theorem res_none' {o : Bool × Bool × Int × List Recs} {d f : Bool} {t : Int} {w w' : World} (h : o = (d, f, t, [])) (hB : Below w.heap.size w w') : MadeResO o w (.returned (.agg #[.bool d, .bool f, .int .i64 t, .slice none 0 0])) w' := by
  subst h; exact ⟨none, 0, [], rfl, outS_nil w w' hB⟩

set_option maxHeartbeats 8000000 in
theorem sresultof_any (p s : Option Addr) (pl pc sl sc : Nat) (each : Bool) (op n1 : Int) (l : Instrs) (m : Strs) (w : World) (h : JobAt w p pl l s sl m) (hn : ∀ i, i < pl → In64 (ins1 l i)) (hsz : ∀ i, i < sl → (strAt m i).size ≤ 1048576) :
    Calls Tryd.prog 9 #[.agg #[.slice p pl pc, .bool each, .int .i64 op, .int .i64 n1, .slice s sl sc]] w (MadeResO (resR l each op n1 m sl) w) := by
  have hm := h.t.max
  unfold maxLen at hm
  obtain ⟨i0, hi, hz0, hz1, hz2⟩ := info_parts infoRecS
  have HZ := Lib.hid hsz
  have HN := Lib.hid hn
  have HEV := Lib.hid (fun (k : Nat) w (h : JobAt w p pl l s sl m) => smapof_any p s pl pc sl sc each op n1 l m (k : Int) w h hn hsz)
  have HRV := Lib.hid (fun (k : Nat) w (h : JobAt w p pl l s sl m) => sreduceof_any p s pl pc sl sc each op n1 l m (k : Int) w h hn hsz)
  obtain ⟨W0, hW0⟩ : ∃ W0, (w.alloc (.cells #[.slice p pl pc, .bool each, .int .i64 op, .int .i64 n1, .slice s sl sc] 38)).alloc (.cells #[.bool false, .bool false, .int .i64 0, .slice none 0 0] 26) = W0 := ⟨_, rfl⟩
  obtain ⟨B0, hB0⟩ : ∃ B0, w.heap.size = B0 := ⟨_, rfl⟩
  have HB0 := Lib.hid (show Below w.heap.size w W0 from by rw [← hW0]; exact below_alloc (below_alloc (Below.refl _ _) _) _)
  have HX := Lib.hid (show Row W0 B0 38 #[.slice p pl pc, .bool each, .int .i64 op, .int .i64 n1, .slice s sl sc] from by rw [← hW0, ← hB0]; exact (row_new w _ _).al _)
  have HE := Lib.hid (show Row W0 (B0 + 1) 26 #[.bool false, .bool false, .int .i64 0, .slice none 0 0] from by rw [← hW0, ← hB0]; exact row_new1 w _ _ _)
  have HS := Lib.hid (h.keep HB0.out)
  have HJ0 := Lib.hid h
  have HW0 := Lib.hid hW0
  obtain ⟨q0, hq0⟩ : ∃ q0, jobB l op n1 m sl = q0 := ⟨_, rfl⟩
  have HQ0 := Lib.hid hq0
  have HBE := Lib.hid (show w.heap.size ≤ B0 + 1 from by omega)
  have x0 := HX.out.cell (j := 0) (by simp)
  have x1 := HX.out.cell (j := 1) (by simp)
  have x2 := HX.out.cell (j := 2) (by simp)
  have x3 := HX.out.cell (j := 3) (by simp)
  have x4 := HX.out.cell (j := 4) (by simp)
  simp at x0 x1 x2 x3 x4
  clear h hsz hW0 hq0 hn
  go_enter Tryd.func9, Tryd.ntmps9
  go_wp2_with fail
  rw [HW0.out]
  try rw [hB0]
  refine (sjobok_any p s pl pc sl sc each op n1 l m _ HS.out HZ.out).mono ?_
  rw [HQ0.out]
  rintro e w1 ⟨rfl, hB⟩
  have HB := Lib.hid hB
  clear hB x0 x1 x2 x3 x4
  have HX1 := Lib.hid (HX.out.keep HB.out)
  have HE1 := Lib.hid (HE.out.keep HB.out)
  cases q0 with
  | false =>
    have HC := Lib.hid (resR_no l each op n1 m sl (by rw [HQ0.out]; simp))
    have e0 := HE1.out.cell (j := 0) (by simp)
    have e1 := HE1.out.cell (j := 1) (by simp)
    have e2 := HE1.out.cell (j := 2) (by simp)
    have e3 := HE1.out.cell (j := 3) (by simp)
    simp at e0 e1 e2 e3
    have ef0 := HE1.out.free 0
    have ef1 := HE1.out.free 1
    have ef2 := HE1.out.free 2
    have ef3 := HE1.out.free 3
    go_wp2
    have hb := ((((HE1.out.set 0 (.bool false)).set 1 (.bool false)).set 2 (.int .i64 0)).set 3 (.slice none 0 0))
    unfold Row at hb
    refine bodyPost_ret (v := .agg #[.bool false, .bool false, .int .i64 0, .slice none 0 0]) (by simp [results, Tryd.results9, go_sem, World.cell?, hb]) rfl ?_
    exact res_none' HC.out (below4 (below_via HB0.out HB.out) HBE.out _ _ _ _)
  | true =>
  have HJP := Lib.hid (jobB_parts HQ0.out)
  have hsl4 := HJP.out.2.2.2.1
  have hp1 := HJP.out.1
  have hp3 := HJP.out.2.1
  obtain ⟨N1, hN1⟩ : ∃ N1 : Nat, n1 = (N1 : Int) := ⟨n1.toNat, by omega⟩
  subst hN1
  have hN3 : N1 ≤ 3 := by omega
  clear hp1 hp3
  have HJJ := Lib.hid HQ0.out
  have x4 := HX1.out.cell (j := 4) (by simp)
  simp at x4
  go_wp2_with fail
  clear x4 HX1 HE1
  go_loopw [4] (fun i wr => ∃ k : Nat, k ≤ sl ∧ i = .int .i64 k ∧ Hid (∀ t, t < k → (mapJ l each op (N1 : Int) m sl (t : Nat)).2 = 0) ∧ Hid (Below W0.heap.size W0 wr)) (fun i _ => sl - (intOf i).toNat)
  case atStart => exact ⟨0, Nat.zero_le _, rfl, fun t ht => by omega, HB⟩
  case round =>
    clear HB
    obtain ⟨k, hk, rfl, HC, HW⟩ := hrel
    have HX1 := Lib.hid (HX.out.keep HW.out)
    have HE1 := Lib.hid (HE.out.keep HW.out)
    by_cases hlt : k < sl
    · have hk1 : (k : Int) < (sl : Int) := by omega
      have x0 := HX1.out.cell (j := 0) (by simp)
      have x1 := HX1.out.cell (j := 1) (by simp)
      have x2 := HX1.out.cell (j := 2) (by simp)
      have x3 := HX1.out.cell (j := 3) (by simp)
      have x4 := HX1.out.cell (j := 4) (by simp)
      simp at x0 x1 x2 x3 x4
      go_wp2_with fail
      refine (HEV.out k _ (HS.out.keep HW.out)).mono ?_
      obtain ⟨V, hV⟩ : ∃ x, (mapJ l each op (N1 : Int) m sl (k : Nat)).1 = x := ⟨_, rfl⟩
      obtain ⟨c, hc⟩ : ∃ x, (mapJ l each op (N1 : Int) m sl (k : Nat)).2 = x := ⟨_, rfl⟩
      have HCC := Lib.hid hc
      unfold MadeSO
      rw [hV, hc]
      rintro e w2 ⟨q2, cp2, X2, rfl, ho⟩
      have HW2 := Lib.hid (below_via HW.out ho.below)
      have HE2 := Lib.hid (HE1.out.keep ho.below)
      clear hV hc ho x0 x1 x2 x3 x4
      by_cases hc0 : c = 0
      · subst hc0
        go_wp2
        go_roundw
        case rel => exact ⟨k + 1, by omega, by go_num, fun t ht => by
          rcases Nat.lt_or_ge t k with h | h
          · exact HC.out t h
          · obtain rfl : t = k := by omega
            exact HCC.out, HW2⟩
        case measure => simp [intOf]; omega
      · have HFIN := Lib.hid (resR_map l each op (N1 : Int) m sl HJJ.out hlt HC.out (by rw [HCC.out]; exact hc0))
        have hz3 : (c != (0 : Int)) = true := by rw [bne_iff_ne]; exact hc0
        have e0 := HE2.out.cell (j := 0) (by simp)
        have e1 := HE2.out.cell (j := 1) (by simp)
        have e2 := HE2.out.cell (j := 2) (by simp)
        have e3 := HE2.out.cell (j := 3) (by simp)
        simp at e0 e1 e2 e3
        have ef0 := HE2.out.free 0
        have ef1 := HE2.out.free 1
        have ef2 := HE2.out.free 2
        have ef3 := HE2.out.free 3
        go_wp2
        have hb := ((((HE2.out.set 0 (.bool false)).set 1 (.bool true)).set 2 (.int .i64 (k : Int))).set 3 (.slice none 0 0))
        unfold Row at hb
        refine bodyPost_ret (v := .agg #[.bool false, .bool true, .int .i64 (k : Int), .slice none 0 0]) (by simp [results, Tryd.results9, go_sem, World.cell?, hb]) rfl ?_
        exact res_none' HFIN.out (below4 (below_via HB0.out HW2.out) HBE.out _ _ _ _)
    · obtain rfl : k = sl := by omega
      have HMAP := Lib.hid HC.out
      obtain ⟨R, hR⟩ : ∃ R, resL l each op (N1 : Int) m k N1 = R := ⟨_, rfl⟩
      have HRL := Lib.hid (show R.length = N1 by rw [← hR]; exact resL_len _ _ _ _ _ _ _)
      have HRA := Lib.hid (show ∀ i, i < N1 → R.getD i [] = (redJ l each op (N1 : Int) m k (i : Nat)).1 from fun i hi => by rw [← hR]; exact resL_at _ _ _ _ _ _ hi)
      have HRR := Lib.hid hR
      clear hR
      obtain ⟨O, hO⟩ : ∃ O, wr.heap.size = O := ⟨_, rfl⟩
      have HRO := Lib.hid (show Row (wr.alloc (.cells #[.bool true, .bool false, .int .i64 0, .slice none 0 0] 26)) O 26 #[.bool true, .bool false, .int .i64 0, .slice none 0 0] from hO ▸ row_new wr _ _)
      have hal := below_alloc (Below.refl wr.heap.size wr) (.cells #[.bool true, .bool false, .int .i64 0, .slice none 0 0] 26)
      have HXO := Lib.hid (HX1.out.keep hal)
      have HEO := Lib.hid (HE1.out.keep hal)
      have HO0 := Lib.hid (show OutS R w (wr.alloc (.cells #[.bool true, .bool false, .int .i64 0, .slice none 0 0] 26)) none 0 0 [] from ⟨World.ownsRow_nil _ _ _ _, fun i hi => by omega, below_via (below_via HB0.out HW.out) hal⟩)
      have HEN := Lib.hid (show ∀ X, B0 + 1 < X → B0 + 1 ≠ X from fun X h => by omega)
      have HOE := Lib.hid (show B0 + 1 < O from by rw [← hO]; exact HE1.out.lt)
      have HOB := Lib.hid (show w.heap.size ≤ O from by rw [← hO]; exact Nat.le_trans HB0.out.size HW.out.size)
      clear hal HX1 HE1
      go_wp2_with fail
      try rw [hO]
      clear hO HW
      go_loopw [8] (fun i wx => ∃ (k' : Nat) (q : Option Addr) (cp : Nat) (XS : List Value), k' ≤ N1 ∧ i = .int .i64 k' ∧ Hid (∀ t, t < k' → (redJ l each op (N1 : Int) m k (t : Nat)).2 = 0) ∧ Hid (OutS R w wx q k' cp XS) ∧ Hid (Row wx O 26 #[.bool true, .bool false, .int .i64 0, .slice q k' cp]) ∧ Hid (Row wx B0 38 #[.slice p pl pc, .bool each, .int .i64 op, .int .i64 (N1 : Int), .slice s k sc]) ∧ Hid (Row wx (B0 + 1) 26 #[.bool false, .bool false, .int .i64 0, .slice none 0 0])) (fun i _ => N1 - (intOf i).toNat)
      case atStart => exact ⟨0, none, 0, [], Nat.zero_le _, rfl, fun t ht => by omega, HO0, HRO, HXO, HEO⟩
      case round =>
        clear HO0 HRO HXO HEO
        obtain ⟨j, q, cp, XS, hj, rfl, HC2, HO, HRO, HX1, HE1⟩ := hrel
        have x0 := HX1.out.cell (j := 0) (by simp)
        have x1 := HX1.out.cell (j := 1) (by simp)
        have x2 := HX1.out.cell (j := 2) (by simp)
        have x3 := HX1.out.cell (j := 3) (by simp)
        have x4 := HX1.out.cell (j := 4) (by simp)
        simp at x0 x1 x2 x3 x4
        by_cases hjl : j < N1
        · have hj1 : (j : Int) < (N1 : Int) := by omega
          go_wp2_with fail
          refine (HRV.out j _ (HJ0.out.keep HO.out.below)).mono ?_
          obtain ⟨V, hV⟩ : ∃ x, (redJ l each op (N1 : Int) m k (j : Nat)).1 = x := ⟨_, rfl⟩
          obtain ⟨c, hc⟩ : ∃ x, (redJ l each op (N1 : Int) m k (j : Nat)).2 = x := ⟨_, rfl⟩
          have HV := Lib.hid hV
          have HCC := Lib.hid hc
          unfold MadeRJ
          rw [hV, hc]
          rintro e w2 ⟨q2, cp2, rfl, hr2, hB2, hn2⟩
          have HR2 := Lib.hid hr2
          have HN2 := Lib.hid hn2
          have HO2 := Lib.hid (HO.out.keep hB2)
          have HRO2 := Lib.hid (HRO.out.keep hB2)
          have HX2 := Lib.hid (HX1.out.keep hB2)
          have HE2 := Lib.hid (HE1.out.keep hB2)
          have HLO := Lib.hid HO.out.below.size
          clear hV hc hr2 hn2 hB2 x0 x1 x2 x3 x4
          by_cases hc0 : c = 0
          · subst hc0
            have HVK := Lib.hid (show V = R.getD j [] by rw [HRA.out j hjl, HV.out])
            have HNA := Lib.hid (show V.length = nAt R j by unfold nAt; rw [← HVK.out])
            obtain ⟨n3, hn3⟩ : ∃ x, nAt R j = x := ⟨_, rfl⟩
            have HN3 := Lib.hid hn3
            have HRS3 := Lib.hid (show Rs w.heap.size w2 q2 (R.getD j []) from by rw [← HVK.out]; exact Rs.base HR2.out HLO.out)
            have HNIL := Lib.hid (show q2 = none → nAt R j = 0 ∧ cp2 = 0 from by rw [← HNA.out]; exact HN2.out)
            have HVL := Lib.hid (show V.length = n3 by rw [HNA.out, hn3])
            rw [HVL.out]
            have o3 := HRO2.out.cell (j := 3) (by simp)
            simp at o3
            clear hn3
            go_wp2_with (at_builtin; go_loud (refine wpList_append_lies _ rfl _ _ 24 rfl w.heap.size 31 i0 _ 1 24 Tryd.underlying24 hi hz0 hz1 hz2 rfl (by decide) _ _ _ rfl (HO2.out.own.alloc _) ⟨w2.heap.size, 0, none⟩ 1 1 [.slice q2 n3 cp2] rfl rfl (one_new _ _ _) (fun u hu => by simp at hu; subst hu; rfl) (by decide) (by unfold maxLen; omega) (by omega) (Nat.le_trans HO2.out.below.size (by simp)) (w2.heap.size + 1) (by rw [World.size_alloc]) ?_); intro q5 c5 w5 hown hgrow hat hlt5; have HO5 := Lib.hid (OutS.add (c := cp2) HO2.out HRS3.out HNIL.out (by rw [HN3.out]; exact hown) hgrow); rw [HN3.out] at HO5; have HRO5 := Lib.hid (ot_row_grownT (HRO2.out.al _) (HO2.out.own.alloc _) (by decide) hgrow); have HX5 := Lib.hid (ot_row_grownT (HX2.out.al _) (HO2.out.own.alloc _) (by decide) hgrow); have HE5 := Lib.hid (ot_row_grownT (HE2.out.al _) (HO2.out.own.alloc _) (by decide) hgrow); have o3 := HRO5.out.cell (j := 3) (by simp); simp at o3; have of3 := HRO5.out.free 3; clear hown hgrow hat hlt5)
            have HNE := Lib.hid (show B0 ≠ O ∧ B0 + 1 ≠ O from ⟨row_ne HX5.out HRO5.out (by decide), HEN.out O HOE.out⟩)
            go_roundw
            case rel => exact ⟨j + 1, some ⟨q5, 0, none⟩, c5, _, by omega, by go_num, fun t ht => by
              rcases Nat.lt_or_ge t j with h | h
              · exact HC2.out t h
              · obtain rfl : t = j := by omega
                exact HCC.out, HO5.out.put HRO5.out HOB.out 3 _, Lib.hid (by have := HRO5.out.set 3 (.slice (some ⟨q5, 0, none⟩) (j + 1) c5); simpa using this), HX5.out.other HNE.out.1 _ _, HE5.out.other HNE.out.2 _ _⟩
            case measure => simp [intOf]; omega
          · have HFIN := Lib.hid (resR_red l each op (N1 : Int) m k HJJ.out HMAP.out (by rw [Int.toNat_natCast]; exact hjl) HC2.out (by rw [HCC.out]; exact hc0))
            have hz3 : (c != (0 : Int)) = true := by rw [bne_iff_ne]; exact hc0
            have e0 := HE2.out.cell (j := 0) (by simp)
            have e1 := HE2.out.cell (j := 1) (by simp)
            have e2 := HE2.out.cell (j := 2) (by simp)
            have e3 := HE2.out.cell (j := 3) (by simp)
            simp at e0 e1 e2 e3
            have ef0 := HE2.out.free 0
            have ef1 := HE2.out.free 1
            have ef2 := HE2.out.free 2
            have ef3 := HE2.out.free 3
            go_wp2
            have hb := ((((HE2.out.set 0 (.bool false)).set 1 (.bool true)).set 2 (.int .i64 ((k : Int) + (j : Int)))).set 3 (.slice none 0 0))
            unfold Row at hb
            refine bodyPost_ret (v := .agg #[.bool false, .bool true, .int .i64 ((k : Int) + (j : Int)), .slice none 0 0]) (by simp [results, Tryd.results9, go_sem, World.cell?, hb]) rfl ?_
            exact res_none' HFIN.out (below4 HO2.out.below HBE.out _ _ _ _)
        · obtain rfl : j = N1 := by omega
          have HFIN := Lib.hid (resR_all l each op (j : Int) m k HJJ.out HMAP.out (by rw [Int.toNat_natCast]; exact HC2.out))
          rw [Int.toNat_natCast, HRR.out] at HFIN
          have o0 := HRO.out.cell (j := 0) (by simp)
          have o1 := HRO.out.cell (j := 1) (by simp)
          have o2 := HRO.out.cell (j := 2) (by simp)
          have o3 := HRO.out.cell (j := 3) (by simp)
          simp at o0 o1 o2 o3
          have e0 := HE1.out.cell (j := 0) (by simp)
          have e1 := HE1.out.cell (j := 1) (by simp)
          have e2 := HE1.out.cell (j := 2) (by simp)
          have e3 := HE1.out.cell (j := 3) (by simp)
          simp at e0 e1 e2 e3
          have ef0 := HE1.out.free 0
          have ef1 := HE1.out.free 1
          have ef2 := HE1.out.free 2
          have ef3 := HE1.out.free 3
          go_wp2
          have hb := ((((HE1.out.set 0 (.bool true)).set 1 (.bool false)).set 2 (.int .i64 0)).set 3 (.slice q j cp))
          unfold Row at hb
          refine bodyPost_ret (v := .agg #[.bool true, .bool false, .int .i64 0, .slice q j cp]) (by simp [results, Tryd.results9, go_sem, World.cell?, hb]) rfl ?_
          rw [HFIN.out]
          exact ⟨q, cp, XS, by rw [HRL.out], by rw [HRL.out]; exact HO.out.put4 HE1.out HBE.out _ _ _ _⟩
end Go.Proofs.YtjofbeokkainlaaDoor
