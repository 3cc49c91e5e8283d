
/- The drawn law on the texts of results, walked: one run more is one text more. -/
import Derived.Test.YtjofbeokkainlaaDoorMg43
import Derived.Test.YtjofbeokkainlaaDoorResP2
namespace Go.Proofs.YtjofbeokkainlaaDoor
open Go.ChangeShapes Go.WideShapes Go.ChangeAt Go.RowKit
set_option linter.unusedVariables false
set_option maxRecDepth 100000

theorem rt_one2 (w : World) (o : Obj) (x : Value) (t : TypeId) : ∀ j u, [x][j]? = some u → ((w.alloc o).alloc (.cells #[x] t)).cell? ((⟨w.heap.size + 1, 0, none⟩ : Addr).add j) = some u := by
  have := one_new (w.alloc o) x t
  simpa using this
theorem below_al2 {n : Nat} {a b : World} (h : Below n a b) (hn : n ≤ b.heap.size) (o1 o2 : Obj) : Below n a ((b.alloc o1).alloc o2) := by
  have k := below_alloc (below_alloc (Below.refl b.heap.size b) o1) o2
  exact ⟨k.os.trans h.os, k.tape.trans h.tape, k.output.trans h.output, Nat.le_trans h.size k.size, fun i hi => (k.block i (by omega)).trans (h.block i hi)⟩
theorem below_app {n e size m : Nat} {a b w8 : World} {v : Value} {xs : List Value} (h : Below n a b) (hn : n ≤ b.heap.size) (o1 o2 : Obj) (ho : ((b.alloc o1).alloc o2).ownsRow n e size v m xs) (hg : ((b.alloc o1).alloc o2).grownBy w8 v.ownBlock) : Below n a w8 :=
  (below_al2 h hn o1 o2).grown hg (by simp; omega) (fun k hk => (ho.lt k hk).1)
theorem outsAt_ls {w : World} {a : Option Addr} {len : Nat} {LS : List Recs} (h : RunLs w a len LS) : OutsAt w a len LS := ⟨h.1, h.2.1, h.2.2⟩
theorem recq_at {w : World} {B : Nat} (h : Row w B 30 #[.string ⟨#[113]⟩, .int .i64 (-5)]) : RecsAt w (some ⟨B, 0, none⟩) 1 [(⟨#[113]⟩, -5)] := by
  have hr := h
  unfold Row at hr
  refine ⟨rfl, by unfold maxLen; omega, fun i hi => ?_, .inr ⟨_, 0, rfl, h.lt, fun i hi => ?_⟩⟩
  · obtain rfl : i = 0 := by omega
    exact (show (1 : Nat) ≤ maxLen by unfold maxLen; omega)
  · obtain rfl : i = 0 := by omega
    exact ⟨by simp only [World.cell?, hr]; rfl, by simp only [World.cell?, hr]; rfl⟩
theorem outs_more {LS : List Recs} {base base2 : Nat} {w : World} {q : Option Addr} {n cp g c2 B : Nat} {XS : List Value} (h : OutR LS base w q n cp XS) (hn : LS.length = n) (hn3 : n ≤ 3) (hs : ShortR LS)
    (ho : w.ownsRow base2 31 1 (.slice (some ⟨g, 0, none⟩) (n + 1) c2) (n + 1) (XS ++ [.slice (some ⟨B, 0, none⟩) 1 1])) (hr : Row w B 30 #[.string ⟨#[113]⟩, .int .i64 (-5)]) : OutsAt w (some ⟨g, 0, none⟩) (n + 1) (LS ++ [[(⟨#[113]⟩, -5)]]) := by
  obtain ⟨g', c', hv, _, hlt⟩ := ho.form (by omega)
  simp only [Value.slice.injEq, Option.some.injEq, Addr.mk.injEq, and_true] at hv
  have hxl : XS.length = n := by have := h.own.1; omega
  refine ⟨by simp [hn], by unfold maxLen; omega, .inr ⟨g, 0, rfl, by rw [hv.1]; exact hlt, fun i hi => ?_⟩⟩
  rcases Nat.lt_or_ge i n with h1 | h1
  · obtain ⟨p, c, e1, e2, _⟩ := h.runs i h1
    refine ⟨p, nAt LS i, c, by rw [Nat.zero_add, ho.cellAt i (by omega), List.getElem?_append_left (by omega)]; exact e1, ?_⟩
    have e : (LS ++ [[((⟨#[113]⟩ : ByteArray), (-5 : Int))]]).getD i [] = LS.getD i [] := by
      rw [List.getD_eq_getElem?_getD, List.getD_eq_getElem?_getD, List.getElem?_append_left (by omega)]
    rw [e]
    exact recs_of_rs e2 rfl (by have := (hs i (by omega)).1; unfold maxLen; omega) (fun j hj => by have := (hs i (by omega)).2 j hj; unfold maxLen; omega)
  · obtain rfl : i = n := by omega
    refine ⟨some ⟨B, 0, none⟩, 1, 1, by rw [Nat.zero_add, ho.cellAt i (by omega), List.getElem?_append_right (by omega), hxl]; simp, ?_⟩
    have e : (LS ++ [[((⟨#[113]⟩ : ByteArray), (-5 : Int))]]).getD i [] = [(⟨#[113]⟩, -5)] := by
      rw [List.getD_eq_getElem?_getD, List.getElem?_append_right (by omega), hn]; simp
    rw [e]
    exact recq_at hr
theorem fine_more {LS : List Recs} (h : FineR LS) : FineR (LS ++ [[(⟨#[113]⟩, -5)]]) := by
  intro V hV
  rcases List.mem_append.1 hV with h1 | h1
  · exact h V h1
  · simp only [List.mem_singleton] at h1
    subst h1
    refine ⟨by simp, fun r hr => ?_⟩
    simp only [List.mem_singleton] at hr
    subst hr
    exact ⟨show (1 : Nat) ≤ 40 by omega, by decide, by decide⟩

set_option maxHeartbeats 16000000 in
theorem fnResultTexts_walk (w : World) (a : Option Addr) (len cap : Nat) (h : Src w a len) (hT : Tabs w) :
    Calls Tryd.prog 3 #[.slice a len cap] w fun e w' => e = .returned (.bool true) ∧ Below w.heap.size w w' := by
  by_cases hbig : 1048576 < len
  · go_enter Tryd.func3, Tryd.ntmps3
    go_wp2_with fail
    refine (big_yes _ _ _ _ hbig).mono ?_
    rintro e w' ⟨rfl, rfl⟩
    go_wp2_with fail
    go_ret
    exact ⟨rfl, Below.refl _ _⟩
  obtain ⟨i0, hi, hz0, hz1, hz2⟩ := info_parts infoRecS
  have HT := Lib.hid hT
  have H := Lib.hid h
  clear hT h
  go_enter Tryd.func3, Tryd.ntmps3
  go_wp2_with fail
  refine (big_no _ _ _ _ hbig).mono ?_
  rintro e w' ⟨rfl, rfl⟩
  go_wp2_with fail
  refine (drawrt_any _ _ _ _ H.out).mono ?_
  rintro e w1 ⟨d, f, task, q, n, cp, LS, XS, base, rfl, ho, hn, hn3, hfi, hs, htk, hd1, hB⟩
  obtain ⟨B, hBe⟩ : ∃ B, w1.heap.size = B := ⟨_, rfl⟩
  obtain ⟨w2, hw2⟩ : ∃ w2, w1.alloc (.cells #[.bool d, .bool f, .int .i64 task, .slice q n cp] 26) = w2 := ⟨_, rfl⟩
  have HW2 := Lib.hid hw2
  have HBE := Lib.hid hBe
  have HX := Lib.hid (show Row w2 B 26 #[.bool d, .bool f, .int .i64 task, .slice q n cp] from by rw [← hw2, ← hBe]; exact row_new _ _ _)
  have hBA : Below w1.heap.size w1 w2 := hw2 ▸ below_alloc (Below.refl _ _) _
  have HO := Lib.hid (ho.keep hBA)
  have HNN := Lib.hid hn
  have HS := Lib.hid hs
  have HFI := Lib.hid hfi
  have HTK := Lib.hid htk
  have HD1 := Lib.hid hd1
  have HB := Lib.hid (below_via hB hBA)
  have HLS := Lib.hid (outsAt_ls (HO.out.ls hn (by unfold maxLen; omega) hs))
  have HFR := Lib.hid (fewR_of (LS := LS) (by rw [hn]; omega) hfi)
  obtain ⟨t, ht⟩ : ∃ t, resTx d f task LS = t := ⟨_, rfl⟩
  have HTX := Lib.hid ht
  have HTZ := Lib.hid (show d = true → t.size ≤ 1100000000000 from fun h => by
    rw [← ht, h]
    unfold resTx
    rw [if_pos rfl]
    exact outIn_le HFR.out (Nat.le_refl _))
  have x0 := HX.out.cell (j := 0) (by simp)
  have x1 := HX.out.cell (j := 1) (by simp)
  have x2 := HX.out.cell (j := 2) (by simp)
  have x3 := HX.out.cell (j := 3) (by simp)
  simp at x0 x1 x2 x3
  clear ho hn hs hB hBA ht hw2 hBe hfi htk hd1
  rw [← HW2.out, ← HBE.out] at x0 x1 x2 x3
  go_wp2_with fail
  rw [HW2.out]
  try rw [HBE.out]
  refine (resulttext_any d f task q n cp LS _ HLS.out HFR.out HTK.out (HT.out.keep HB.out)).mono ?_
  unfold MadeTx
  rw [HTX.out]
  rintro e w3 ⟨rfl, hB⟩
  have HX := Lib.hid (HX.out.keep hB)
  have HO := Lib.hid (HO.out.keep hB)
  have HLS := Lib.hid (HLS.out.keep hB)
  have HB := Lib.hid (below_via HB.out hB)
  clear hB x0 x1 x2 x3
  have x0 := HX.out.cell (j := 0) (by simp)
  have x1 := HX.out.cell (j := 1) (by simp)
  have x2 := HX.out.cell (j := 2) (by simp)
  have x3 := HX.out.cell (j := 3) (by simp)
  simp at x0 x1 x2 x3
  go_wp2_with fail
  refine (sresulttext_any d f task q n cp LS _ HLS.out HFR.out HTK.out).mono ?_
  unfold MadeTx
  rw [HTX.out]
  rintro e w4 ⟨rfl, hB⟩
  have HX := Lib.hid (HX.out.keep hB)
  have HO := Lib.hid (HO.out.keep hB)
  have HLS := Lib.hid (HLS.out.keep hB)
  have HB := Lib.hid (below_via HB.out hB)
  clear hB x0 x1 x2 x3
  have x0 := HX.out.cell (j := 0) (by simp)
  have x1 := HX.out.cell (j := 1) (by simp)
  have x2 := HX.out.cell (j := 2) (by simp)
  have x3 := HX.out.cell (j := 3) (by simp)
  simp at x0 x1 x2 x3
  have htt : (t.toList == t.toList) = true := by simp
  cases d with
  | false =>
    go_wp2_with fail
    refine (sresulttext_any false f task q n cp LS _ HLS.out HFR.out HTK.out).mono ?_
    unfold MadeTx
    rw [HTX.out]
    rintro e w5 ⟨rfl, hB⟩
    have HB := Lib.hid (below_via HB.out hB)
    clear hB
    go_wp2
    go_ret
    exact ⟨rfl, HB.out⟩
  | true =>
    have hn1 := HD1.out rfl
    obtain ⟨g, rfl, hg, hgb, hc1, hc2, hc⟩ := HO.out.src (by omega)
    have HXL := Lib.hid (show XS.length = n by have := HO.out.own.1; omega)
    have HXC := Lib.hid (show ∀ u ∈ XS, u.oneCell' = true from fun u hu => by
      obtain ⟨i, hi, e⟩ := List.mem_iff_getElem.1 hu
      obtain ⟨p, c, e1, _⟩ := HO.out.runs i (by rw [HXL.out] at hi; exact hi)
      rw [List.getElem?_eq_getElem hi] at e1
      simp only [Option.some.injEq] at e1
      rw [← e, e1]; rfl)
    obtain ⟨K, hK⟩ : ∃ K, w4.heap.size = K := ⟨_, rfl⟩
    have HKE := Lib.hid hK
    have HKK := Lib.hid (show Row (w4.alloc (.cells #[.bool true, .bool f, .int .i64 task, .slice (some ⟨g, 0, none⟩) n cp] 26)) K 26 #[.bool true, .bool f, .int .i64 task, .slice (some ⟨g, 0, none⟩) n cp] from by rw [← hK]; exact row_new _ _ _)
    have hbk : Below w4.heap.size w4 (w4.alloc (.cells #[.bool true, .bool f, .int .i64 task, .slice (some ⟨g, 0, none⟩) n cp] 26)) := below_alloc (Below.refl _ _) _
    have HB4 := Lib.hid hbk
    have HOK := Lib.hid (HO.out.keep hbk)
    have HNEW := Lib.hid (show ∀ j u, XS[j]? = some u → ((w4.alloc (.cells #[.bool true, .bool f, .int .i64 task, .slice (some ⟨g, 0, none⟩) n cp] 26)).alloc (.cells #[] 31)).cell? ((⟨g, 0, none⟩ : Addr).add j) = some u from fun j u hu => by
      have hj : j < n := by
        rcases Nat.lt_or_ge j XS.length with h1 | h1
        · rw [HXL.out] at h1; exact h1
        · rw [List.getElem?_eq_none h1] at hu; cases hu
      have := (HOK.out.keep (below_alloc (Below.refl _ _) (.cells #[] 31))).own.cellAt j (by omega)
      rw [show (⟨g, 0, none⟩ : Addr).add j = ⟨g, j, none⟩ by simp [Addr.add]; exact fun h => h.symm]
      exact this.trans hu)
    have HOW := Lib.hid (show ((w4.alloc (.cells #[.bool true, .bool f, .int .i64 task, .slice (some ⟨g, 0, none⟩) n cp] 26)).alloc (.cells #[] 31)).ownsRow (w4.heap.size + 1) 31 1 (.slice (some ⟨w4.heap.size + 1, 0, none⟩) 0 0) 0 [] from by
      have := World.ownsRow_lit (w4.alloc (.cells #[.bool true, .bool f, .int .i64 task, .slice (some ⟨g, 0, none⟩) n cp] 26)) #[] 0 (e := 31) (size := 1) (Nat.le_refl _) (Nat.zero_le _) rfl
      simpa using this)
    have HX := Lib.hid (HX.out.keep hbk)
    clear hbk hc hg hgb hK
    have hcat : ∀ w, (Op.stringOp .add t (⟨#[32, 124, 32, 113, 61, 45, 53]⟩ : ByteArray)).run Tryd.prog w = .ok (.string (t ++ ⟨#[32, 124, 32, 113, 61, 45, 53]⟩)) w := fun w => cat_runp _ _ 1100000000000 (HTZ.out rfl) (by decide)
    have z3 : ((w4.alloc (.cells #[.bool true, .bool f, .int .i64 task, .slice (some ⟨g, 0, none⟩) n cp] 26)).alloc (.cells #[] 31)).cell? ⟨B, 3, none⟩ = some (.slice (some ⟨g, 0, none⟩) n cp) := by
      have := (HX.out.al (.cells #[] 31)).cell (j := 3) (by simp)
      simpa using this
    have hnm : n ≤ 3 := hn3
    go_wp2_with (first | (at_builtin; (refine wpList_append_lies _ rfl _ _ 24 rfl (w4.heap.size + 1) 31 i0 _ 1 24 Tryd.underlying24 hi hz0 hz1 hz2 rfl (by decide) _ _ _ rfl HOW.out ⟨g, 0, none⟩ n cp XS rfl (by rw [HXL.out]; omega) HNEW.out HXC.out (by omega) (by unfold maxLen; omega) (by omega) (by simp) (w4.heap.size + 1 + 1) (by simp) ?_); intro g1 c1 w6 hown hgrow hat hlt; have HG1 := Lib.hid (show w6.ownsRow (w4.heap.size + 1) 31 1 (.slice (some ⟨g1, 0, none⟩) n c1) n XS from by simpa using hown); have HB6 := Lib.hid (show Below (w4.heap.size + 1) (w4.alloc (.cells #[.bool true, .bool f, .int .i64 task, .slice (some ⟨g, 0, none⟩) n cp] 26)) w6 from ((below_alloc (Below.refl _ _) (.cells #[] 31)).mono (by simp)).grown hgrow (by simp) (fun k hk => by cases hk; exact Nat.le_refl _)); clear hown hgrow hat hlt) | (at_builtin; go_loud (refine wpList_append_lies _ rfl _ _ 24 rfl (w4.heap.size + 1) 31 i0 _ 1 24 Tryd.underlying24 hi hz0 hz1 hz2 rfl (by decide) _ _ _ rfl ((HG1.out.alloc _).alloc _) ⟨w6.heap.size + 1, 0, none⟩ 1 1 [.slice (some ⟨w6.heap.size, 0, none⟩) 1 1] rfl rfl (rt_one2 _ _ _ _) (fun u hu => by simp at hu; subst hu; rfl) (by decide) (by unfold maxLen; omega) (by omega) (by have := HB6.out.size; simp at this ⊢; omega) (w6.heap.size + 1 + 1) (by simp) ?_); intro g2 c2 w8 hown hgrow hat hlt; have HG2 := Lib.hid hown; have HB8 := Lib.hid (show Below (w4.heap.size + 1) (w4.alloc (.cells #[.bool true, .bool f, .int .i64 task, .slice (some ⟨g, 0, none⟩) n cp] 26)) w8 from below_app HB6.out (by have := HB6.out.size; simp at this; omega) _ _ ((HG1.out.alloc _).alloc _) hgrow); have HRQ := Lib.hid (ot_row_grownT (((Row.new w6 30 #[.string ⟨#[113]⟩, .int .i64 (-5)]).al _)) ((HG1.out.alloc _).alloc _) (by decide) hgrow); have HKW := Lib.hid (show Row w8 w4.heap.size 26 #[.bool true, .bool f, .int .i64 task, .slice (some ⟨g, 0, none⟩) n cp] from (HB8.out.block _ (by omega)).trans (by rw [HKE.out]; exact HKK.out)); have k0 := HKW.out.cell (j := 0) (by simp); have k1 := HKW.out.cell (j := 1) (by simp); have k2 := HKW.out.cell (j := 2) (by simp); have k3 := HKW.out.cell (j := 3) (by simp); simp at k0 k1 k2 k3; have kf3 := HKW.out.free 3; clear hown hgrow hat hlt))
    have HOUT := Lib.hid (show OutsAt (w8.setCell ⟨w4.heap.size, 3, none⟩ (.slice (some ⟨g2, 0, none⟩) (n + 1) c2)) (some ⟨g2, 0, none⟩) (n + 1) (LS ++ [[(⟨#[113]⟩, -5)]]) from
      outs_more (base := base) (base2 := w4.heap.size + 1) (HO.out.keep ((HB4.out.trans (HB8.out.mono (Nat.le_succ _))).setCell (p := ⟨w4.heap.size, 3, none⟩) (Nat.le_refl _) _)) HNN.out hn3 HS.out
        (HG2.out.kept (row := some w4.heap.size) (grown_setCell (World.grownBy.refl _ _) _ _) (.inr (by obtain ⟨g', c', hv, hb', _⟩ := HG2.out.form (by omega); simp only [Value.slice.injEq, Option.some.injEq, Addr.mk.injEq, and_true] at hv; show some g2 ≠ some w4.heap.size; rw [hv.1]; simp only [ne_eq, Option.some.injEq]; omega)))
        (HRQ.out.other (by have := HB6.out.size; simp at this; omega) 3 _))
    have HBF := Lib.hid (show Below w.heap.size w (w8.setCell ⟨w4.heap.size, 3, none⟩ (.slice (some ⟨g2, 0, none⟩) (n + 1) c2)) from below_via HB.out ((HB4.out.trans (HB8.out.mono (Nat.le_succ _))).setCell (p := ⟨w4.heap.size, 3, none⟩) (Nat.le_refl _) _))
    have HFM := fine_more HFI.out
    unfold FineR at HFM
    have HFR2 := Lib.hid (fewR_of (by simp [HNN.out]; omega) HFM)
    clear HFM
    refine (resulttext_any true f task _ (n + 1) c2 _ _ HOUT.out HFR2.out HTK.out (HT.out.keep HBF.out)).mono ?_
    unfold MadeTx
    rw [resTx_more f f task task LS, HTX.out]
    rintro e w9 ⟨rfl, hB⟩
    have HBZ := Lib.hid (below_via HBF.out hB)
    have hee : ((t ++ ⟨#[32, 124, 32, 113, 61, 45, 53]⟩).toList == (t ++ (⟨#[32, 124, 32, 113, 61, 45, 53]⟩ : ByteArray)).toList) = true := by simp
    clear hB
    go_wp2
    go_ret
    exact ⟨rfl, HBZ.out⟩
end Go.Proofs.YtjofbeokkainlaaDoor
