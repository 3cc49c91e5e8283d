
/- The law on merged lists of runs, walked: merged one by one from the last, it is the same. Only new blocks are made. -/
import Derived.Test.YtldjahemgkkpbaaDrawMA
import Derived.Test.YtldjahemgkkpbaaMergeS
import Derived.Test.YtldjahemgkkpbaaSameR
import Derived.Test.YtldjahemgkkpbaaDraw1
namespace Go.Proofs.Ytldjahemgkkpbaa
open Go.ChangeShapes Go.WideShapes Go.ChangeAt Go.RowKit
set_option linter.unusedVariables false
set_option maxRecDepth 100000

/-- What comes of the runs from the k-th on. -/
def fromK (LS : List Recs) (k : Nat) : Recs := sortL (LS.drop k).flatten
theorem from_zero (LS : List Recs) (h : mallK LS = true) : mallW LS = fromK LS 0 := by
  unfold mallW fromK
  rw [if_pos h, List.drop_zero]
theorem from_end (LS : List Recs) : fromK LS LS.length = [] := by
  unfold fromK
  rw [List.drop_length]
  exact List.eq_nil_of_length_eq_zero (by rw [sortL_len]; rfl)
theorem from_len (LS : List Recs) (k : Nat) (h : mallK LS = true) : (fromK LS k).length ≤ 600 := by
  unfold mallK at h
  rw [Bool.and_eq_true] at h
  have h6 := of_decide_eq_true h.2
  unfold fromK
  rw [sortL_len]
  have e : LS.flatten = (LS.take k).flatten ++ (LS.drop k).flatten := by rw [← List.flatten_append, List.take_append_drop]
  rw [e, List.length_append] at h6
  omega
theorem from_drop (LS : List Recs) (k : Nat) (hk : k < LS.length) : LS.drop k = LS.getD k [] :: LS.drop (k + 1) := by
  rw [List.drop_eq_getElem_cons hk, List.getD_eq_getElem?_getD, List.getElem?_eq_getElem hk]
  rfl
theorem from_run (LS : List Recs) (h : mallK LS = true) (k : Nat) : ∀ r ∈ (LS.drop k).flatten, r.1.size ≤ 40 := fun r hr => by
  obtain ⟨V, hV, hrV⟩ := List.mem_flatten.1 hr
  unfold mallK at h
  rw [Bool.and_eq_true, List.all_eq_true] at h
  have hV2 := h.1 V (List.mem_of_mem_drop hV)
  obtain ⟨i, hi, e⟩ := List.mem_iff_getElem.1 hrV
  have := (runOk_keys hV2).2 i hi
  rw [at_get V i hi] at e
  rw [← e]
  exact this
theorem from_short (LS : List Recs) (h : mallK LS = true) (k : Nat) : ∀ i, i < (fromK LS k).length → (keyAt (fromK LS k) i).size ≤ 40 := fun i hi => by
  have := from_run LS h k (fromK LS k)[i] ((sortL_perm _).mem_iff.1 (List.getElem_mem hi))
  rw [at_get _ i hi] at this
  exact this
theorem from_step (LS : List Recs) (k : Nat) (hk : k < LS.length) (h : mallK LS = true) : mergeK (LS.getD k []) (fromK LS (k + 1)) = true ∧ mergeW (LS.getD k []) (fromK LS (k + 1)) = fromK LS k := by
  have hl := from_len LS k h
  have hd := from_drop LS k hk
  have h1 : runOkB (LS.getD k []) = true := by
    have h0 := h
    unfold mallK at h0
    rw [Bool.and_eq_true, List.all_eq_true] at h0
    refine h0.1 _ ?_
    rw [List.getD_eq_getElem?_getD, List.getElem?_eq_getElem hk]
    exact List.getElem_mem hk
  have h6 : (LS.getD k []).length + (fromK LS (k + 1)).length ≤ 600 := by
    unfold fromK at hl ⊢
    rw [sortL_len, hd, List.flatten_cons, List.length_append] at hl
    rw [sortL_len]
    exact hl
  have h2 : runOkB (fromK LS (k + 1)) = true := runOk_sort (from_run LS h (k + 1)) (by
    have := from_len LS (k + 1) h
    unfold fromK at this
    rwa [sortL_len] at this)
  have hm : mergeK (LS.getD k []) (fromK LS (k + 1)) = true := by
    unfold mergeK
    rw [h1, h2, decide_eq_true h6]
    rfl
  refine ⟨hm, ?_⟩
  unfold mergeW
  rw [if_pos hm]
  unfold fromK
  rw [← mergeL_sort ((runOk_iff _).1 h1).2 (sortL_order _), hd, List.flatten_cons]
  exact sortL_of (sortL_order _) ((sortL_perm _).trans (List.Perm.append_left _ (sortL_perm _).symm))

structure MX (w : World) (q : Option Addr) (n : Nat) (LS : List Recs) (q1 : Option Addr) (mm : Nat) (M : Recs) (qx : Option Addr) (m cx : Nat) (k : Nat) (wr : World) : Prop where
  below : Below w.heap.size w wr
  runs : RunSc wr q n LS
  want : RecsAt wr q1 mm M
  got : RecsAt wr qx m (fromK LS k)
  cap : m ≤ cx ∧ cx ≤ maxLen ∧ (qx = none → m = 0 ∧ cx = 0)
theorem MX.keep {w : World} {q : Option Addr} {n : Nat} {LS : List Recs} {q1 : Option Addr} {mm : Nat} {M : Recs} {qx : Option Addr} {m cx k : Nat} {wr w1 : World} (h : MX w q n LS q1 mm M qx m cx k wr) (hB : Below wr.heap.size wr w1) : MX w q n LS q1 mm M qx m cx k w1 :=
  ⟨below_via h.below hB, h.runs.keep hB, h.want.keep hB, h.got.keep hB, h.cap⟩

set_option maxHeartbeats 8000000 in
theorem fnMergeAll_walk (w : World) (a : Option Addr) (len cap : Nat) (h : Src w a len) :
    Calls Try.prog 5 #[.slice a len cap] w fun e w' => e = .returned (.bool true) ∧ Below w.heap.size w w' := by
  have S0 := Lib.hid h
  clear h
  by_cases hb : 1048576 < len
  · go_enter Try.func5, Try.ntmps5
    go_wp2_with (go_at_call 6; refine (big_yes _ _ _ _ hb).mono ?_; rintro e w' ⟨rfl, rfl⟩)
    go_ret
    exact ⟨rfl, Below.refl _ _⟩
  · go_enter Try.func5, Try.ntmps5
    go_wp2_with (go_at_call 6; refine (big_no _ _ _ _ hb).mono ?_; rintro e w' ⟨rfl, rfl⟩)
    refine (drawma_any _ _ _ _ S0.out).mono ?_
    rintro e w1 ⟨q, n, cp, LS, rfl, hn4, hd, hB⟩
    have HD := Lib.hid hd
    have HB := Lib.hid hB
    have HLN := Lib.hid hd.1
    obtain ⟨z, hz⟩ : ∃ z, mallK LS = z := ⟨_, rfl⟩
    obtain ⟨M, hM⟩ : ∃ M, mallW LS = M := ⟨_, rfl⟩
    have hfew : M.length ≤ 600 ∧ ∀ i, i < M.length → (keyAt M i).size ≤ 40 := by
      rw [← hM]
      cases z with
      | false => unfold mallW; rw [hz]; exact ⟨Nat.zero_le _, fun i hi => by simp at hi⟩
      | true => rw [from_zero LS hz]; exact ⟨from_len LS 0 hz, from_short LS hz 0⟩
    obtain ⟨mm, hm⟩ : ∃ mm, M.length = mm := ⟨_, rfl⟩
    rw [hm] at hfew
    have hm6 : mm ≤ 600 := hfew.1
    have hmm : mm ≤ maxLen := by unfold maxLen; omega
    have HKS := Lib.hid (show ∀ i, i < mm → (keyAt M i).size ≤ maxLen from fun i hi => by
      have := hfew.2 i hi
      unfold maxLen; omega)
    have HZ := Lib.hid hz
    have HM := Lib.hid hM
    have HML := Lib.hid hm
    clear hd hB hz hM hm hfew
    go_wp2_with fail
    refine (mergeall_any _ _ _ _ _ HD.out (by omega)).mono ?_
    rw [HM.out, HZ.out]
    rintro e w2 ⟨q1, c1, rfl, hrs, hB, _⟩
    rw [HML.out]
    have HD := Lib.hid (HD.out.keep hB)
    have HR1 := Lib.hid (recs_of_rs hrs HML.out hmm HKS.out)
    have HB := Lib.hid (below_via HB.out hB)
    clear hrs hB
    go_wp2_with fail
    refine (smergeall_any _ _ _ _ _ HD.out.runs (by omega)).mono ?_
    rw [HM.out, HZ.out]
    rintro e w3 ⟨q2, c2, rfl, hrs, hB⟩
    rw [HML.out]
    have HD := Lib.hid (HD.out.keep hB)
    have HR2 := Lib.hid (recs_of_rs hrs HML.out hmm HKS.out)
    have HR1 := Lib.hid (HR1.out.keep hB)
    have HB := Lib.hid (below_via HB.out hB)
    clear hrs hB
    cases z with
    | false =>
      go_wp2_with fail
      refine (samerun_same _ _ _ _ _ _ _ HR1.out HR2.out).mono ?_
      rintro e w4 ⟨rfl, hB⟩
      have HR1 := Lib.hid (HR1.out.keep hB)
      have HR2 := Lib.hid (HR2.out.keep hB)
      have HB := Lib.hid (below_via HB.out hB)
      clear hB
      go_wp2_with fail
      refine (samerun_same _ _ _ _ _ _ _ HR1.out HR2.out).mono ?_
      rintro e w5 ⟨rfl, hB⟩
      have HB := Lib.hid (below_via HB.out hB)
      clear hB
      go_wp2
      go_ret
      exact ⟨rfl, HB.out⟩
    | true =>
      go_wp2_with fail
      refine (samerun_same _ _ _ _ _ _ _ HR1.out HR2.out).mono ?_
      rintro e w4 ⟨rfl, hB⟩
      have HD := Lib.hid (HD.out.keep hB)
      have HR1 := Lib.hid (HR1.out.keep hB)
      have HB := Lib.hid (below_via HB.out hB)
      clear hB HR2
      have HX := Lib.hid (show MX w q n LS q1 mm M (some ⟨w4.heap.size, 0, none⟩) 0 0 n (w4.alloc (.cells #[] 30)) from
        ⟨below_alloc HB.out _, HD.out.keep (below_alloc (Below.refl _ _) _), HR1.out.keep (below_alloc (Below.refl _ _) _),
          by rw [← HLN.out, from_end]; exact ⟨rfl, Nat.zero_le _, fun i hi => by omega, .inl rfl⟩, Nat.le_refl _, Nat.zero_le _, fun e => by cases e⟩)
      have hnn : (n : Int) ≤ 4 := by omega
      clear HD HR1 HB
      go_wp2_with fail
      go_loopw [8, 9] (fun v i wr => ∃ (k m cx : Nat) (qx : Option Addr), k ≤ n ∧ i = .int .i64 ((k : Int) - 1) ∧ v = .slice qx m cx ∧ Hid (MX w q n LS q1 mm M qx m cx k wr)) (fun _ i _ => (intOf i + 1).toNat)
      case atStart => exact ⟨n, 0, 0, _, Nat.le_refl _, by go_num, rfl, HX.out⟩
      case round =>
        obtain ⟨k, m, cx, qx, hk, rfl, rfl, HW⟩ := hrel
        clear HX
        by_cases hk0 : 0 < k
        · obtain ⟨j, rfl⟩ : ∃ j, k = j + 1 := ⟨k - 1, by omega⟩
          have hjn : j < n := by omega
          have HST := Lib.hid (from_step LS j (by rw [HLN.out]; exact hjn) HZ.out)
          have HFL := Lib.hid (And.intro (from_len LS j HZ.out) (from_short LS HZ.out j))
          obtain ⟨t, ht⟩ : ∃ t, (fromK LS j).length = t := ⟨_, rfl⟩
          rw [ht] at HFL
          have HT := Lib.hid ht
          clear ht
          have hm1 : m ≤ 600 := by
            have := from_len LS (j + 1) HZ.out
            rw [HW.out.got.length] at this
            exact this
          have ej : (((j + 1 : Nat) : Int) - 1) = (j : Int) := by omega
          rw [ej]
          clear ej
          rcases HW.out.runs.2 with hz | ⟨b, off, rfl, hb2, hc⟩
          · omega
          · obtain ⟨p, l, c, c0, hre, hnil, hc1, hc2, hc3⟩ := hc j hjn
            have HRE := Lib.hid hre
            have HNL := Lib.hid hnil
            have HCP := Lib.hid HW.out.cap
            have hj0 : (0 : Int) ≤ (j : Int) := by omega
            have hj1 : (j : Int) < (n : Int) := by omega
            clear hc hre hnil hb2
            go_wp2_with fail
            refine (mergerunsN_any _ _ _ _ _ _ _ _ _ HRE.out HW.out.got hc1 HCP.out.1 hc2 HCP.out.2.1 hc3 (by omega) HNL.out HCP.out.2.2).mono ?_
            rw [HST.out.1, HST.out.2]
            rintro e w5 ⟨q5, c5, rfl, hrs, hB, h51, h52, h53⟩
            rw [HT.out] at h51 ⊢
            have HN := Lib.hid (show MX w (some ⟨b, off, none⟩) n LS q1 mm M q5 t c5 j w5 from
              ⟨below_via HW.out.below hB, HW.out.runs.keep hB, HW.out.want.keep hB, recs_of_rs hrs HT.out (by have := HFL.out.1; unfold maxLen; omega) (fun i hi => by
                have := HFL.out.2 i hi
                unfold maxLen; omega), h51, h52, fun e => by have := h53 e; omega⟩)
            clear hrs hB h51 h52 h53 HW
            go_wp2
            go_roundw
            case rel => exact ⟨j, t, c5, q5, by omega, by go_num, rfl, HN.out⟩
            case measure => simp [intOf]
        · obtain rfl : k = 0 := by omega
          have hmt : m = mm := by
            rw [← HW.out.got.length, ← HML.out, ← HM.out, from_zero LS HZ.out]
          have HG := Lib.hid (show RecsAt wr qx mm M by
            have := HW.out.got
            rw [← from_zero LS HZ.out, HM.out, hmt] at this
            exact this)
          subst hmt
          go_wp2_with fail
          refine (samerun_same _ _ _ _ _ _ _ HG.out HW.out.want).mono ?_
          rintro e w5 ⟨rfl, hB⟩
          have HB := Lib.hid (below_via HW.out.below hB)
          clear hB
          go_wp2
          go_ret
          exact ⟨rfl, HB.out⟩
end Go.Proofs.Ytldjahemgkkpbaa
