
/- The law on records combined in parts, walked. Only new blocks are made. -/
import Derived.Test.YtldjahemgkkpbaaCombK
import Derived.Test.YtldjahemgkkpbaaPartsM
import Derived.Test.YtldjahemgkkpbaaAppG
import Derived.Test.YtldjahemgkkpbaaDraw2
import Derived.Deep.AppendLies
namespace Go.Proofs.Ytldjahemgkkpbaa
open Go.ChangeShapes Go.WideShapes Go.ChangeAt Go.RowKit
set_option linter.unusedVariables false
set_option maxRecDepth 100000

/-- Two rows of the call's own hold the records seen. -/
structure PA (w4 : World) (V : Recs) (qa : Option Addr) (na ca : Nat) (A : Recs) (qb : Option Addr) (nb cb : Nat) (B : Recs) (j : Nat) (wr : World) : Prop where
  since : Below w4.heap.size w4 wr
  ownA : wr.ownsRow w4.heap.size 30 2 (.slice qa na ca) na (cellsL A)
  ownB : wr.ownsRow w4.heap.size 30 2 (.slice qb nb cb) nb (cellsL B)
  la : A.length = na
  lb : B.length = nb
  apart : ∀ g, (Value.slice qa na ca).ownBlock = some g → (Value.slice qb nb cb).ownBlock ≠ some g
  perm : (A ++ B).Perm (V.take j)
  sum : na + nb = j
theorem PA.keep {w4 : World} {V : Recs} {qa : Option Addr} {na ca : Nat} {A : Recs} {qb : Option Addr} {nb cb : Nat} {B : Recs} {j : Nat} {wr w1 : World} (h : PA w4 V qa na ca A qb nb cb B j wr) (hB : Below wr.heap.size wr w1) : PA w4 V qa na ca A qb nb cb B j w1 :=
  ⟨below_via h.since hB, own_below h.ownA hB, own_below h.ownB hB, h.la, h.lb, h.apart, h.perm, h.sum⟩
theorem cellsL_sing (r : ByteArray × Int) : cellsL [r] = [.string r.1, .int .i64 r.2] := by simp [cellsL]
theorem PA.addA {w4 : World} {V : Recs} {qa : Option Addr} {na ca : Nat} {A : Recs} {qb : Option Addr} {nb cb : Nat} {B : Recs} {j : Nat} {wr w5 : World} {o : Obj} {g c : Nat} (h : PA w4 V qa na ca A qb nb cb B j wr) (hj : j < V.length)
    (ho : w5.ownsRow w4.heap.size 30 2 (.slice (some ⟨g, 0, none⟩) (na + 1) c) (na + 1) (cellsL A ++ [.string (keyAt V j), .int .i64 (numAt V j)]))
    (hg : (wr.alloc o).grownBy w5 (Value.slice qa na ca).ownBlock) (hl : (Value.slice qa na ca).ownBlock = some g ∨ g = wr.heap.size + 1) :
    PA w4 V (some ⟨g, 0, none⟩) (na + 1) c (A ++ [(keyAt V j, numAt V j)]) qb nb cb B (j + 1) w5 := by
  have hb := below_alloc h.since o
  refine ⟨hb.grown hg hb.size (fun k hk => (h.ownA.lt k hk).1), ?_, (h.ownB.alloc o).kept hg ?_, by simp [h.la], h.lb, fun x hx he => ?_, ?_, by have := h.sum; omega⟩
  · rw [cellsL_append, cellsL_sing]; exact ho
  · by_cases hn : (Value.slice qb nb cb).ownBlock = none
    · exact .inl hn
    · refine .inr fun e => ?_
      obtain ⟨x, hx⟩ := Option.ne_none_iff_exists'.1 hn
      exact h.apart x (by rw [← e, hx]) hx
  · have hgx : g = x := by simpa [Value.ownBlock] using hx
    subst hgx
    rcases hl with hl | hl
    · exact h.apart g hl he
    · have := (h.ownB.lt g he).2
      omega
  · rw [List.take_succ_eq_append_getElem hj, at_get V j hj, List.append_assoc]
    refine List.Perm.trans (List.Perm.append_left A List.perm_append_comm) ?_
    rw [← List.append_assoc]
    exact List.Perm.append_right _ h.perm
theorem PA.addB {w4 : World} {V : Recs} {qa : Option Addr} {na ca : Nat} {A : Recs} {qb : Option Addr} {nb cb : Nat} {B : Recs} {j : Nat} {wr w5 : World} {o : Obj} {g c : Nat} (h : PA w4 V qa na ca A qb nb cb B j wr) (hj : j < V.length)
    (ho : w5.ownsRow w4.heap.size 30 2 (.slice (some ⟨g, 0, none⟩) (nb + 1) c) (nb + 1) (cellsL B ++ [.string (keyAt V j), .int .i64 (numAt V j)]))
    (hg : (wr.alloc o).grownBy w5 (Value.slice qb nb cb).ownBlock) (hl : (Value.slice qb nb cb).ownBlock = some g ∨ g = wr.heap.size + 1) :
    PA w4 V qa na ca A (some ⟨g, 0, none⟩) (nb + 1) c (B ++ [(keyAt V j, numAt V j)]) (j + 1) w5 := by
  have hb := below_alloc h.since o
  refine ⟨hb.grown hg hb.size (fun k hk => (h.ownB.lt k hk).1), (h.ownA.alloc o).kept hg ?_, ?_, h.la, by simp [h.lb], fun x hx he => ?_, ?_, by have := h.sum; omega⟩
  · by_cases hn : (Value.slice qa na ca).ownBlock = none
    · exact .inl hn
    · refine .inr fun e => ?_
      obtain ⟨x, hx⟩ := Option.ne_none_iff_exists'.1 hn
      exact h.apart x hx (by rw [← e, hx])
  · rw [cellsL_append, cellsL_sing]; exact ho
  · have hgx : g = x := by simpa [Value.ownBlock] using he
    subst hgx
    rcases hl with hl | hl
    · exact h.apart g hx hl
    · have := (h.ownA.lt g hx).2
      omega
  · rw [List.take_succ_eq_append_getElem hj, at_get V j hj, ← List.append_assoc]
    exact List.Perm.append_right _ h.perm
theorem recs_own {base n c : Nat} {w : World} {q : Option Addr} {A : Recs} (h : w.ownsRow base 30 2 (.slice q n c) n (cellsL A)) (hl : A.length = n) (h6 : n ≤ 100000) (hs : ∀ r ∈ A, r.1.size ≤ 41) : RecsAt w q n A := by
  refine recs_of_rs (base := base) (rs_of_own (cp := c) (by rw [hl]; exact h)) hl (by unfold maxLen; omega) (fun i hi => ?_)
  have := hs _ (List.getElem_mem (l := A) (by rw [hl]; exact hi : i < A.length))
  rw [at_get _ i (by rw [hl]; exact hi)] at this
  have h41 : (keyAt A i).size ≤ 41 := this
  unfold maxLen; omega

set_option maxHeartbeats 8000000 in
theorem fnCombinedParts_walk (w : World) (a : Option Addr) (len cap : Nat) (h : Src w a len) :
    Calls Try.prog 4 #[.slice a len cap] w fun e w' => e = .returned (.bool true) ∧ Below w.heap.size w w' := by
  obtain ⟨i0, hi, hz0, hz1, hz2⟩ := info_parts infoRec
  have S0 := Lib.hid h
  clear h
  by_cases hb : 1048576 < len
  · go_enter Try.func4, Try.ntmps4
    go_wp2_with (go_at_call 6; refine (big_yes _ _ _ _ hb).mono ?_; rintro e w' ⟨rfl, rfl⟩)
    go_ret
    exact ⟨rfl, Below.refl _ _⟩
  · go_enter Try.func4, Try.ntmps4
    go_wp2_with (go_at_call 6; refine (big_no _ _ _ _ hb).mono ?_; rintro e w' ⟨rfl, rfl⟩)
    refine (drawcd_any _ _ _ _ S0.out).mono ?_
    rintro e w1 ⟨op, q, n, cp, V, hop, rfl, hd, hB⟩
    have HD := Lib.hid hd
    have HB := Lib.hid hB
    have hn6 := hd.few
    have hfew := combW_few op V
    obtain ⟨C, hC⟩ : ∃ C, combW op V = C := ⟨_, rfl⟩
    rw [hC] at hfew
    obtain ⟨m, hm⟩ : ∃ m, C.length = m := ⟨_, rfl⟩
    have hm6 : m ≤ 600 := by rw [← hm]; exact hfew.1
    have hmm : m ≤ maxLen := by unfold maxLen; omega
    have HKS := Lib.hid (show ∀ i, i < m → (keyAt C i).size ≤ maxLen from fun i hi => by
      have := hfew.2 i (by rw [hm]; exact hi)
      unfold maxLen; omega)
    have HC := Lib.hid hC
    have HML := Lib.hid hm
    clear hd hB hC hm hfew hop
    go_wp2_with fail
    refine (combined_any _ _ _ _ _ _ HD.out.recs).mono ?_
    rw [HC.out]
    rintro e w2 ⟨q1, c1, rfl, hrs, hB, _⟩
    rw [HML.out]
    have HD := Lib.hid (HD.out.keep hB)
    have HR1 := Lib.hid (recs_of_rs hrs HML.out hmm HKS.out)
    have HB := Lib.hid (below_via HB.out hB)
    clear hrs hB
    go_wp2_with fail
    refine (scombined_any _ _ _ _ _ _ HD.out.recs).mono ?_
    rw [HC.out]
    rintro e w3 ⟨q2, c2, rfl, hrs, hB, _⟩
    rw [HML.out]
    have HD := Lib.hid (HD.out.keep hB)
    have HR2 := Lib.hid (recs_of_rs hrs HML.out hmm HKS.out)
    have HR1 := Lib.hid (HR1.out.keep hB)
    have HB := Lib.hid (below_via HB.out hB)
    clear hrs hB
    go_wp2_with fail
    refine (samerun_same _ _ _ _ _ _ _ HR1.out HR2.out).mono ?_
    rintro e w4 ⟨rfl, hB⟩
    have HD := Lib.hid (HD.out.keep hB)
    have HR1 := Lib.hid (HR1.out.keep hB)
    have HB := Lib.hid (below_via HB.out hB)
    clear hB HR2
    by_cases hpos : 0 < m
    · have HOK := Lib.hid (show opOkB op = true ∧ recsOkB V = true by
        cases h1 : opOkB op with
        | false =>
          have := HC.out
          rw [comb_bad h1] at this
          have h2 := HML.out
          rw [← this] at h2
          simp at h2
          omega
        | true =>
          cases h2 : recsOkB V with
          | true => exact ⟨rfl, rfl⟩
          | false =>
            have := HC.out
            rw [comb_not h2] at this
            have h2 := HML.out
            rw [← this] at h2
            simp at h2
            omega)
      have g0 : ((m : Int) == 0) = false := by simpa using (by omega : ¬ ((m : Int) = 0))
      have HP := Lib.hid (show PA w4 V (some ⟨w4.heap.size, 0, none⟩) 0 0 [] (some ⟨w4.heap.size + 1, 0, none⟩) 0 0 [] 0 ((w4.alloc (.cells #[] 30)).alloc (.cells #[] 30)) from
        ⟨below_alloc (below_alloc (Below.refl _ _) _) _,
          (World.ownsRow_lit w4 #[] 0 (Nat.le_refl _) (Nat.zero_le _) rfl).alloc _,
          (show ((w4.alloc (.cells #[] 30)).alloc (.cells #[] 30)).ownsRow w4.heap.size 30 2 (.slice (some ⟨w4.heap.size + 1, 0, none⟩) 0 0) 0 [] by
            have := World.ownsRow_lit (base := w4.heap.size) (e := 30) (size := 2) (w4.alloc (.cells #[] 30)) #[] 0 (by rw [World.size_alloc]; omega) (Nat.zero_le _) rfl
            rwa [World.size_alloc] at this),
          rfl, rfl, fun g hg he => by
            simp [Value.ownBlock] at hg he
            omega, by simp, rfl⟩)
      go_wp2_with fail
      go_loopw [6, 7, 8] (fun sa sb i wr => ∃ (k na ca nb cb : Nat) (qa qb : Option Addr) (A B : Recs), k ≤ n ∧ i = .int .i64 k ∧ sa = .slice qa na ca ∧ sb = .slice qb nb cb ∧ na + nb = k ∧ Hid (PA w4 V qa na ca A qb nb cb B k wr)) (fun _ _ i _ => n - (intOf i).toNat)
      case atStart => exact ⟨0, 0, 0, 0, 0, _, _, [], [], Nat.zero_le _, rfl, rfl, rfl, rfl, HP.out⟩
      case round =>
        obtain ⟨k, na, ca, nb, cb, qa, qb, A, B, hk, rfl, rfl, rfl, hsum, HW⟩ := hrel
        clear HP
        by_cases hlt : k < n
        · have hk1 : (k : Int) < (n : Int) := by omega
          have hk0 : (0 : Int) ≤ (k : Int) := by omega
          have HVL := Lib.hid (show k < V.length by rw [HD.out.recs.length]; exact hlt)
          go_wp2_with fail
          refine (byteof_any _ _ _ _ _ (S0.out.below (below_via HB.out HW.out.since)) (by omega) (by omega)).mono ?_
          rintro e w5 ⟨x, hx1, hx2, rfl, rfl⟩
          have HDW := Lib.hid (HD.out.keep HW.out.since)
          rcases HDW.out.recs.src with hz | ⟨bl, ol, rfl, hbl, hcl⟩
          · omega
          · have c0 := (hcl k hlt).1
            have c1 := (hcl k hlt).2
            clear hcl hbl HDW
            obtain ⟨s, hs⟩ : ∃ s, keyAt V k = s := ⟨_, rfl⟩
            obtain ⟨z, hz⟩ : ∃ z, numAt V k = z := ⟨_, rfl⟩
            rw [hs] at c0
            rw [hz] at c1
            have HS := Lib.hid hs
            have HZ := Lib.hid hz
            clear hs hz
            by_cases h3 : x % 3 = 0
            · have t1 : (x % 3 == 0) = true := by simpa using h3
              have t2 : x.tmod 3 = 0 := by rw [Int.tmod_eq_emod_of_nonneg hx1]; exact h3
              go_wp2_with (at_builtin; (refine wpList_append_lies _ rfl _ _ 24 rfl w4.heap.size 30 i0 _ 2 24 Try.underlying24 hi hz0 hz1 hz2 rfl (by decide) _ _ _ rfl (HW.out.ownA.alloc _) ⟨wr.heap.size, 0, none⟩ 1 1 [.string s, .int .i64 z] rfl rfl (two_new _ _ _ _) (two_cells _ _) (by decide) (by unfold maxLen; omega) (by omega) (Nat.le_trans HW.out.since.size (by rw [World.size_alloc]; omega)) (wr.heap.size + 1) (by rw [World.size_alloc]) ?_); intro g c w6 hown hgrow hlies hgl; have HO := Lib.hid hown; have HG := Lib.hid hgrow; have HL := Lib.hid hlies; clear hown hgrow hlies)
              go_roundw
              case rel =>
                refine ⟨k + 1, na + 1, c, nb, cb, _, _, _, _, by omega, by go_num, rfl, rfl, by omega, Lib.hid (HW.out.addA HVL.out ?_ HG.out HL.out)⟩
                rw [HS.out, HZ.out]; exact HO.out
              case measure => simp [intOf]; omega
            · have t1 : (x % 3 == 0) = false := by simpa using h3
              have t2 : ¬ x.tmod 3 = 0 := by rw [Int.tmod_eq_emod_of_nonneg hx1]; exact h3
              go_wp2_with (at_builtin; (refine wpList_append_lies _ rfl _ _ 24 rfl w4.heap.size 30 i0 _ 2 24 Try.underlying24 hi hz0 hz1 hz2 rfl (by decide) _ _ _ rfl (HW.out.ownB.alloc _) ⟨wr.heap.size, 0, none⟩ 1 1 [.string s, .int .i64 z] rfl rfl (two_new _ _ _ _) (two_cells _ _) (by decide) (by unfold maxLen; omega) (by omega) (Nat.le_trans HW.out.since.size (by rw [World.size_alloc]; omega)) (wr.heap.size + 1) (by rw [World.size_alloc]) ?_); intro g c w6 hown hgrow hlies hgl; have HO := Lib.hid hown; have HG := Lib.hid hgrow; have HL := Lib.hid hlies; clear hown hgrow hlies)
              go_roundw
              case rel =>
                refine ⟨k + 1, na, ca, nb + 1, c, _, _, _, _, by omega, by go_num, rfl, rfl, by omega, Lib.hid (HW.out.addB HVL.out ?_ HG.out HL.out)⟩
                rw [HS.out, HZ.out]; exact HO.out
              case measure => simp [intOf]; omega
        · obtain rfl : k = n := by omega
          have HPM := Lib.hid (show (A ++ B).Perm V by
            have := HW.out.perm
            rwa [List.take_of_length_le (by rw [HD.out.recs.length]; exact Nat.le_refl _)] at this)
          have HRA := Lib.hid (recs_own HW.out.ownA HW.out.la (by omega) (fun r hr => HD.out.short r (HPM.out.mem_iff.1 (List.mem_append.2 (.inl hr)))))
          have HRB := Lib.hid (recs_own HW.out.ownB HW.out.lb (by omega) (fun r hr => HD.out.short r (HPM.out.mem_iff.1 (List.mem_append.2 (.inr hr)))))
          have HR1 := Lib.hid (HR1.out.keep HW.out.since)
          have HB := Lib.hid (below_via HB.out HW.out.since)
          have hfa := combW_few op A
          have hfb := combW_few op B
          have HPT := Lib.hid (comb_parts HOK.out.1 HOK.out.2 HPM.out)
          rw [HC.out] at HPT
          have hla := comb_len op A
          have hlb := comb_len op B
          rw [HW.out.la] at hla
          rw [HW.out.lb] at hlb
          obtain ⟨CA, hCA⟩ : ∃ CA, combW op A = CA := ⟨_, rfl⟩
          obtain ⟨CB, hCB⟩ : ∃ CB, combW op B = CB := ⟨_, rfl⟩
          rw [hCA] at hfa hla HPT
          rw [hCB] at hfb hlb HPT
          obtain ⟨x, hx⟩ : ∃ x, CA.length = x := ⟨_, rfl⟩
          obtain ⟨y, hy⟩ : ∃ y, CB.length = y := ⟨_, rfl⟩
          rw [hx] at hfa hla
          rw [hy] at hfb hlb
          have HFA := Lib.hid hfa.2
          have HFB := Lib.hid hfb.2
          have hx6 := hfa.1
          have hy6 := hfb.1
          have HCA := Lib.hid hCA
          have HCB := Lib.hid hCB
          have HX := Lib.hid hx
          have HY := Lib.hid hy
          clear hfa hfb hCA hCB hx hy HD HW
          go_wp2_with fail
          refine (combined_any _ _ _ _ _ _ HRA.out).mono ?_
          rw [HCA.out]
          rintro e w5 ⟨q5, c5, rfl, hrs, hB, hxc, _, hn5⟩
          rw [HX.out] at hxc ⊢
          have HR5 := Lib.hid (recs_of_rs hrs HX.out (by unfold maxLen; omega) (fun i hi => by have := HFA.out i hi; unfold maxLen; omega))
          have HRB := Lib.hid (HRB.out.keep hB)
          have HR1 := Lib.hid (HR1.out.keep hB)
          have HB := Lib.hid (below_via HB.out hB)
          have HN5 := Lib.hid (show q5 = none → x = 0 ∧ c5 = 0 from fun e => by have := hn5 e; omega)
          clear hrs hB hn5 HRA
          go_wp2_with fail
          refine (combined_any _ _ _ _ _ _ HRB.out).mono ?_
          rw [HCB.out]
          rintro e w6 ⟨q6, c6, rfl, hrs, hB, hyc, _, hn6⟩
          rw [HY.out] at hyc ⊢
          have HR6 := Lib.hid (recs_of_rs hrs HY.out (by unfold maxLen; omega) (fun i hi => by have := HFB.out i hi; unfold maxLen; omega))
          have HR5 := Lib.hid (HR5.out.keep hB)
          have HR1 := Lib.hid (HR1.out.keep hB)
          have HB := Lib.hid (below_via HB.out hB)
          have HN6 := Lib.hid (show q6 = none → y = 0 ∧ c6 = 0 from fun e => by have := hn6 e; omega)
          clear hrs hB hn6 HRB
          have HBA := Lib.hid (below_alloc (Below.refl w6.heap.size w6) (.cells #[] 30))
          have HO0 := Lib.hid (show (w6.alloc (.cells #[] 30)).ownsRow w6.heap.size 30 2 (.slice (some ⟨w6.heap.size, 0, none⟩) 0 0) 0 [] from World.ownsRow_lit w6 #[] 0 (Nat.le_refl _) (Nat.zero_le _) rfl)
          have HR5 := Lib.hid (HR5.out.keep HBA.out)
          go_wp2_with (first
            | (at_builtin; (refine append_g (by first | rfl | decide) _ _ rfl w6.heap.size _ _ _ rfl HO1.out q6 y c6 CB rfl (HR6.out.keep HB1.out) HN6.out (by omega) HB1.out.size ?_); intro v2 w9 hown hgrow; have HO2 := Lib.hid hown; have HB2 := Lib.hid (HB1.out.grown hgrow HB1.out.size (fun j hj => (HO1.out.lt j hj).1)); clear hown hgrow)
            | (at_builtin; (refine append_g (by first | rfl | decide) _ _ rfl w6.heap.size _ _ _ rfl HO0.out q5 x c5 CA rfl HR5.out HN5.out (by omega) HBA.out.size ?_); intro v1 w8 hown hgrow; have HO1 := Lib.hid hown; have HB1 := Lib.hid (HBA.out.grown hgrow HBA.out.size (fun j hj => (HO0.out.lt j hj).1)); clear hown hgrow))
          obtain ⟨q3, c3, rfl⟩ := own_form HO2.out
          have hl12 : (CA ++ CB).length = 0 + x + y := by rw [List.length_append, HX.out, HY.out, Nat.zero_add]
          have HR3 := Lib.hid (show RecsAt w9 q3 (0 + x + y) (CA ++ CB) from recs_own (base := w6.heap.size) (c := c3) (by
            rw [cellsL_append]
            have := HO2.out
            rw [List.nil_append] at this
            exact this) hl12 (by omega) (fun r hr => by
              rcases List.mem_append.1 hr with hr | hr
              · have := comb_short op A r (by rw [HCA.out]; exact hr)
                omega
              · have := comb_short op B r (by rw [HCB.out]; exact hr)
                omega))
          have HR1 := Lib.hid (HR1.out.keep HB2.out)
          have HB := Lib.hid (below_via HB.out HB2.out)
          clear hl12
          refine (combined_any _ _ _ _ _ _ HR3.out).mono ?_
          rw [HPT.out]
          rintro e w10 ⟨q4, c4, rfl, hrs, hB, _⟩
          rw [HML.out]
          have HR4 := Lib.hid (recs_of_rs hrs HML.out hmm HKS.out)
          have HR1 := Lib.hid (HR1.out.keep hB)
          have HB := Lib.hid (below_via HB.out hB)
          clear hrs hB
          go_wp2_with fail
          refine (samerun_same _ _ _ _ _ _ _ HR4.out HR1.out).mono ?_
          rintro e w11 ⟨rfl, hB⟩
          have HB := Lib.hid (below_via HB.out hB)
          clear hB
          go_wp2
          go_ret
          exact ⟨rfl, HB.out⟩
    · have g1 : ((m : Int) == 0) = true := by simpa using (by omega : m = 0)
      clear hpos
      go_wp2_with fail
      refine (scombined_any _ _ _ _ _ _ HD.out.recs).mono ?_
      rw [HC.out]
      rintro e w5 ⟨q3, c3, rfl, hrs, hB, _⟩
      rw [HML.out]
      have HR3 := Lib.hid (recs_of_rs hrs HML.out hmm HKS.out)
      have HR1 := Lib.hid (HR1.out.keep hB)
      have HB := Lib.hid (below_via HB.out hB)
      clear hrs hB
      go_wp2_with fail
      refine (samerun_same _ _ _ _ _ _ _ HR1.out HR3.out).mono ?_
      rintro e w6 ⟨rfl, hB⟩
      have HB := Lib.hid (below_via HB.out hB)
      clear hB
      go_wp2
      go_ret
      exact ⟨rfl, HB.out⟩
end Go.Proofs.Ytldjahemgkkpbaa
