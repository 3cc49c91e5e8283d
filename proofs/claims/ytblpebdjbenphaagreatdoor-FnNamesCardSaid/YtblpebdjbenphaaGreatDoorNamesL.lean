
/- The law on names, walked: drawn kinds and numbers. -/
import Derived.Test.YtblpebdjbenphaaGreatDoorMg4
import Derived.Test.YtblpebdjbenphaaGreatDoorMg5
import Derived.Test.YtblpebdjbenphaaGreatDoorMg6
import Derived.Test.YtblpebdjbenphaaGreatDoorPcre
import Derived.Test.YtblpebdjbenphaaGreatDoorCreK
namespace Go.Proofs.YtblpebdjbenphaaGreatDoor
open Go.ChangeShapes Go.WideShapes Go.ChangeAt Go.RowKit
set_option linter.unusedVariables false
set_option maxRecDepth 100000

def TabsN (w : World) : Prop := Tabs w ∧ TabsE w
theorem tabsn_of {W : World} (h : laidMet Tryz.prog [("math/bits.deBruijn32tab", Rows.laid_math_bits_deBruijn32tab), ("math/bits.deBruijn64tab", Rows.laid_math_bits_deBruijn64tab), ("internal/strconv.uint64pow10", Rows.laid_internal_strconv_uint64pow10), ("loop.example/g00703/impl.errForm", Rows.laid_loop_example_g00703_impl_errForm), ("loop.example/g00703/impl.errThere", Rows.laid_loop_example_g00703_impl_errThere), ("loop.example/g00703/impl.errFull", Rows.laid_loop_example_g00703_impl_errFull), ("loop.example/g00703/impl.errNone", Rows.laid_loop_example_g00703_impl_errNone), ("loop.example/g00703/impl.errVer", Rows.laid_loop_example_g00703_impl_errVer)] W) : TabsN W :=
  ⟨Lib.tabIs_of_head (k := .u64) (zs := Lib.pow10Tab) gPow gPowType Tryz.underlying162 Tryz.underlying86 gU64Cells gPowCells h.tail.tail, tabse_of h.tail.tail.tail⟩

def DrewNm (w : World) (e : Ending) (w' : World) : Prop := ∃ a b c d x : Int, e = .returned (.tuple #[.int .i64 a, .int .i64 b, .int .i64 c, .int .i64 d, .int .i64 x]) ∧ Below w.heap.size w w'
set_option maxHeartbeats 2000000 in
theorem drawname_any (w : World) (a : Option Addr) (len cap : Nat) (h : Src w a len) :
    Calls Tryz.prog 14 #[.slice a len cap] w (DrewNm w) := by
  have H := Lib.hid h
  clear h
  go_enter Tryz.func14, Tryz.ntmps14
  go_wp2_with fail
  refine (open_any _ _ _ _ H.out).mono ?_
  rintro e w1 ⟨rfl, hb, hr⟩
  have HB := Lib.hid hb
  have HR := Lib.hid hr
  clear hb hr
  go_wp2_with fail
  refine (once_any _ _ _ _ _ _ HR.out (by decide) (by decide)).mono ?_
  rintro e w2 ⟨⟨o, rfl⟩, hw⟩
  have HW := Lib.hid hw
  clear hw
  cases o
  · go_wp2_with fail
    refine (below_any _ _ _ _ _ _ HW.out.rdr (by decide) (by decide)).mono ?_
    rintro e w3 ⟨⟨x1, h11, h12, rfl⟩, hw⟩
    have HW := Lib.hid (HW.out.trans hw)
    clear hw
    go_wp2_with fail
    refine (below_any _ _ _ _ _ _ HW.out.rdr (by decide) (by decide)).mono ?_
    rintro e w3 ⟨⟨x2, h21, h22, rfl⟩, hw⟩
    have HW := Lib.hid (HW.out.trans hw)
    clear hw
    go_wp2_with fail
    refine (below_any _ _ _ _ _ _ HW.out.rdr (by decide) (by decide)).mono ?_
    rintro e w3 ⟨⟨x3, h31, h32, rfl⟩, hw⟩
    have HW := Lib.hid (HW.out.trans hw)
    clear hw
    go_wp2_with fail
    refine (below_any _ _ _ _ _ _ HW.out.rdr (by decide) (by decide)).mono ?_
    rintro e w3 ⟨⟨x4, h41, h42, rfl⟩, hw⟩
    have HW := Lib.hid (HW.out.trans hw)
    clear hw
    go_wp2_with fail
    refine (below_any _ _ _ _ _ _ HW.out.rdr (by decide) (by decide)).mono ?_
    rintro e w3 ⟨⟨x5, h51, h52, rfl⟩, hw⟩
    have HW := Lib.hid (HW.out.trans hw)
    clear hw
    go_wp2
    exact bodyPost_ret (v := .tuple #[.int .i64 (1 + x1), .int .i64 x2, .int .i64 x3, .int .i64 x4, .int .i64 x5]) (by simp [results, Tryz.results14, go_sem]) rfl ⟨_, _, _, _, _, rfl, HW.out.under HB.out (Nat.le_refl _) HB.out.size⟩
  · go_wp2_with fail
    refine (off_any _ _ _ _ _ _ _ HW.out.rdr (by decide) (by decide) (by decide)).mono ?_
    rintro e w3 ⟨⟨x1, h11, rfl⟩, hw⟩
    have HW := Lib.hid (HW.out.trans hw)
    clear hw h11
    go_wp2_with fail
    refine (off_any _ _ _ _ _ _ _ HW.out.rdr (by decide) (by decide) (by decide)).mono ?_
    rintro e w3 ⟨⟨x2, h11, rfl⟩, hw⟩
    have HW := Lib.hid (HW.out.trans hw)
    clear hw h11
    go_wp2_with fail
    refine (off_any _ _ _ _ _ _ _ HW.out.rdr (by decide) (by decide) (by decide)).mono ?_
    rintro e w3 ⟨⟨x3, h11, rfl⟩, hw⟩
    have HW := Lib.hid (HW.out.trans hw)
    clear hw h11
    go_wp2_with fail
    refine (below_any _ _ _ _ _ _ HW.out.rdr (by decide) (by decide)).mono ?_
    rintro e w3 ⟨⟨x4, h41, h42, rfl⟩, hw⟩
    have HW := Lib.hid (HW.out.trans hw)
    clear hw
    go_wp2_with fail
    refine (below_any _ _ _ _ _ _ HW.out.rdr (by decide) (by decide)).mono ?_
    rintro e w3 ⟨⟨x5, h51, h52, rfl⟩, hw⟩
    have HW := Lib.hid (HW.out.trans hw)
    clear hw
    go_wp2
    exact bodyPost_ret (v := .tuple #[.int .i64 x1, .int .i64 x2, .int .i64 x3, .int .i64 x4, .int .i64 x5]) (by simp [results, Tryz.results14, go_sem]) rfl ⟨_, _, _, _, _, rfl, HW.out.under HB.out (Nat.le_refl _) HB.out.size⟩

theorem nonempty_list {s : ByteArray} (h : ¬ s = ⟨#[]⟩) : ¬ s.toList = [] := fun he => h (by
  rw [Lib.toList_data] at he
  cases s
  simp only [ByteArray.mk.injEq]
  exact Array.ext' (by simpa using he))
theorem list_ne {s t : ByteArray} (h : ¬ s = t) : (s.toList == t.toList) = false := by
  rw [beq_eq_false_iff_ne]
  intro he
  refine h ?_
  rw [Lib.toList_data, Lib.toList_data] at he
  cases s; cases t
  simp only [ByteArray.mk.injEq]
  exact Array.ext' he
theorem objs_nil (w : World) : ObjsAt w none 0 [] := ⟨rfl, Nat.zero_le _, fun i hi => by omega, .inl rfl⟩
theorem gones_nil (w : World) : GonesAt w none 0 [] := ⟨rfl, Nat.zero_le _, fun i hi => by omega, .inl rfl⟩
theorem cre_empty {s : ByteArray} {R : Els × Int × Int} (hk : keyB s = true) (h : IsCreate [] [] s ⟨#[]⟩ R) : R.2.2 = 0 := by
  have := h.1 ⟨stop_of_ep ep_nil, hk, by decide⟩
  rw [this, create_new (by unfold elsOf; simp [lookE]) (by unfold elsOf; simp)]
theorem mt_name {s : ByteArray} {w : World} {e : Ending} {w' : World} (h : MadeTx s w e w') : e = .returned (.string s) ∧ Below w.heap.size w w' := h
/-- What the law asks of two names, told as one bool. -/
def sameN (a b c d e f g h i j : Int) : Bool := decide (a = f ∧ numsN a b c d e = numsN f g h i j)

set_option maxHeartbeats 8000000 in
theorem fnNames_walk (w : World) (a0 : Option Addr) (len0 cap0 : Nat) (a1 : Option Addr) (len1 cap1 : Nat) (H0 : Src w a0 len0) (H1 : Src w a1 len1) (hT : TabsN w) :
    Calls Tryz.prog 4 #[.slice a0 len0 cap0, .slice a1 len1 cap1] w fun e w' => e = .returned (.bool true) ∧ Below w.heap.size w w' := by
  obtain ⟨hT1, A, hA⟩ := hT
  have HS0 := Lib.hid H0
  have HS1 := Lib.hid H1
  have HT := Lib.hid hT1
  have HA := Lib.hid hA
  clear H0 H1 hT1 hA
  by_cases hbig : 1048576 < len0
  · go_enter Tryz.func4, Tryz.ntmps4
    go_wp2_with (go_at_call 5; refine (big_yes _ _ _ _ hbig).mono ?_; rintro e w' ⟨rfl, rfl⟩)
    go_ret
    exact ⟨rfl, Below.refl _ _⟩
  by_cases hbig1 : 1048576 < len1
  · go_enter Tryz.func4, Tryz.ntmps4
    go_wp2_with fail
    refine (big_no _ _ _ _ hbig).mono ?_
    rintro e w' ⟨rfl, rfl⟩
    go_wp2_with fail
    refine (big_yes _ _ _ _ hbig1).mono ?_
    rintro e w' ⟨rfl, rfl⟩
    go_wp2
    go_ret
    exact ⟨rfl, Below.refl _ _⟩
  go_enter Tryz.func4, Tryz.ntmps4
  go_wp2_with fail
  refine (big_no _ _ _ _ hbig).mono ?_
  rintro e w' ⟨rfl, rfl⟩
  go_wp2_with fail
  refine (big_no _ _ _ _ hbig1).mono ?_
  rintro e w' ⟨rfl, rfl⟩
  go_wp2_with fail
  refine (drawname_any _ _ _ _ HS0.out).mono ?_
  rintro e w1 ⟨a, b, c, d, x, rfl, hB⟩
  have HB := Lib.hid hB
  clear hB
  go_wp2_with fail
  refine (drawname_any _ _ _ _ (HS1.out.below HB.out)).mono ?_
  rintro e w2 ⟨f, g, h, i, j, rfl, hB⟩
  have HB := Lib.hid (below_via HB.out hB)
  clear hB
  obtain ⟨s, hs⟩ : ∃ s, nameB a b c d x = s := ⟨_, rfl⟩
  obtain ⟨t, ht⟩ : ∃ t, nameB f g h i j = t := ⟨_, rfl⟩
  have HSN := Lib.hid hs
  have HTN := Lib.hid ht
  clear hs ht
  go_wp2_with fail
  refine (nameof_any a b c d x _ (HT.out.keep HB.out)).mono ?_
  rw [HSN.out]
  rintro e w3 ⟨rfl, hB⟩
  have HB := Lib.hid (below_via HB.out hB)
  clear hB
  go_wp2_with fail
  refine (nameof_any f g h i j _ (HT.out.keep HB.out)).mono ?_
  rw [HTN.out]
  rintro e w4 ⟨rfl, hB⟩
  have HB := Lib.hid (below_via HB.out hB)
  clear hB
  go_wp2_with fail
  refine (snameof_any a b c d x _).mono ?_
  rw [HSN.out]
  rintro e w5 ⟨rfl, hB⟩
  have HB := Lib.hid (below_via HB.out hB)
  clear hB
  go_wp2_with fail
  refine (snameof_any f g h i j _).mono ?_
  rw [HTN.out]
  rintro e w6 ⟨rfl, hB⟩
  have HB := Lib.hid (below_via HB.out hB)
  clear hB
  by_cases hse : s = ⟨#[]⟩
  · subst hse
    go_wp2_with fail
    refine (snameof_any a b c d x _).mono ?_
    rw [HSN.out]
    rintro e w7 ⟨rfl, hB⟩
    have HB := Lib.hid (below_via HB.out hB)
    clear hB
    go_wp2_with fail
    refine (snameof_any f g h i j _).mono ?_
    rw [HTN.out]
    rintro e w8 ⟨rfl, hB⟩
    have HB := Lib.hid (below_via HB.out hB)
    clear hB
    go_wp2
    go_ret
    exact ⟨rfl, HB.out⟩
  have hs0 := nonempty_list hse
  have hs1 : s.toList.isEmpty = false := by cases hl : s.toList with
    | nil => exact absurd hl hs0
    | cons _ _ => rfl
  by_cases hte : t = ⟨#[]⟩
  · subst hte
    go_wp2_with fail
    refine (snameof_any a b c d x _).mono ?_
    rw [HSN.out]
    rintro e w7 ⟨rfl, hB⟩
    have HB := Lib.hid (below_via HB.out hB)
    clear hB
    go_wp2_with fail
    refine (snameof_any f g h i j _).mono ?_
    rw [HTN.out]
    rintro e w8 ⟨rfl, hB⟩
    have HB := Lib.hid (below_via HB.out hB)
    clear hB
    go_wp2
    go_ret
    exact ⟨rfl, HB.out⟩
  have ht0 := nonempty_list hte
  have ht1 : t.toList.isEmpty = false := by cases hl : t.toList with
    | nil => exact absurd hl ht0
    | cons _ _ => rfl
  -- from here on written by gen_namesl.py
  have hsE : nameB a b c d x ≠ ByteArray.empty := by rw [HSN.out]; exact hse
  have htE : nameB f g h i j ≠ ByteArray.empty := by rw [HTN.out]; exact hte
  have HINJ := Lib.hid (fun (he : s = t) => name_inj hsE htE (by rw [HSN.out, HTN.out]; exact he))
  have HKEY := Lib.hid (show keyB s = true by rw [← HSN.out]; exact name_key hsE)
  obtain ⟨ha1, ha6, _, _⟩ := name_form hsE
  obtain ⟨R, hR⟩ := isCreate_some [] [] s ⟨#[]⟩
  have HR := Lib.hid hR
  have HC := Lib.hid (cre_empty HKEY.out hR)
  have HSZ := Lib.hid (sizeKey HKEY.out)
  clear hR hsE htE hse hte
  by_cases hk : a = f
  · subst hk
    by_cases h6 : a = 6
    · subst h6
      obtain rfl : s = t := by rw [← HSN.out, ← HTN.out]; rfl
      go_wp2_with fail
      refine (pcre_any none none 0 0 0 0 [] [] A s ⟨#[]⟩ R _ ⟨objs_nil _, gones_nil _⟩ (by decide) (by decide) (HA.out.keep HB.out) HSZ.out (by decide) HR.out).mono ?_
      rintro e w7 ⟨q7, n7, c7, q8, n8, c8, rfl, hB, _⟩
      rw [HC.out]
      have HB := Lib.hid (below_alloc (below_via HB.out hB) (.cells #[.slice q7 n7 c7, .slice q8 n8 c8] 27))
      clear hB
      go_wp2
      go_ret
      exact ⟨rfl, HB.out⟩
    have h6b : (a == 6) = false := by rw [beq_eq_false_iff_ne]; exact h6
    by_cases h4 : a = 4
    · subst h4
      clear h6 h6b
      by_cases hb : b = g
      · subst hb
        by_cases hc : c = h
        · subst hc
          by_cases hd : d = i
          · subst hd
            by_cases hx : x = j
            · subst hx
              obtain rfl : s = t := by rw [← HSN.out, ← HTN.out]
              go_wp2_with fail
              refine (pcre_any none none 0 0 0 0 [] [] A s ⟨#[]⟩ R _ ⟨objs_nil _, gones_nil _⟩ (by decide) (by decide) (HA.out.keep HB.out) HSZ.out (by decide) HR.out).mono ?_
              rintro e w7 ⟨q7, n7, c7, q8, n8, c8, rfl, hB, _⟩
              rw [HC.out]
              have HB := Lib.hid (below_alloc (below_via HB.out hB) (.cells #[.slice q7 n7 c7, .slice q8 n8 c8] 27))
              clear hB
              go_wp2
              go_ret
              exact ⟨rfl, HB.out⟩
            · have hbx : (x == j) = false := by rw [beq_eq_false_iff_ne]; exact hx
              have hst : (s.toList == t.toList) = false := list_ne (fun he => by obtain ⟨hn1, hn2⟩ := HINJ.out he; have hn3 : [b, c, d, x] = [b, c, d, j] := hn2; simp only [List.cons.injEq, and_true, true_and] at hn3; exact hx hn3)
              go_wp2_with fail
              refine (pcre_any none none 0 0 0 0 [] [] A s ⟨#[]⟩ R _ ⟨objs_nil _, gones_nil _⟩ (by decide) (by decide) (HA.out.keep HB.out) HSZ.out (by decide) HR.out).mono ?_
              rintro e w7 ⟨q7, n7, c7, q8, n8, c8, rfl, hB, _⟩
              rw [HC.out]
              have HB := Lib.hid (below_alloc (below_via HB.out hB) (.cells #[.slice q7 n7 c7, .slice q8 n8 c8] 27))
              clear hB
              go_wp2
              go_ret
              exact ⟨rfl, HB.out⟩
          · have hbd : (d == i) = false := by rw [beq_eq_false_iff_ne]; exact hd
            have hst : (s.toList == t.toList) = false := list_ne (fun he => by obtain ⟨hn1, hn2⟩ := HINJ.out he; have hn3 : [b, c, d, x] = [b, c, i, j] := hn2; simp only [List.cons.injEq, and_true, true_and] at hn3; exact hd hn3.1)
            go_wp2_with fail
            refine (pcre_any none none 0 0 0 0 [] [] A s ⟨#[]⟩ R _ ⟨objs_nil _, gones_nil _⟩ (by decide) (by decide) (HA.out.keep HB.out) HSZ.out (by decide) HR.out).mono ?_
            rintro e w7 ⟨q7, n7, c7, q8, n8, c8, rfl, hB, _⟩
            rw [HC.out]
            have HB := Lib.hid (below_alloc (below_via HB.out hB) (.cells #[.slice q7 n7 c7, .slice q8 n8 c8] 27))
            clear hB
            go_wp2
            go_ret
            exact ⟨rfl, HB.out⟩
        · have hbc : (c == h) = false := by rw [beq_eq_false_iff_ne]; exact hc
          have hst : (s.toList == t.toList) = false := list_ne (fun he => by obtain ⟨hn1, hn2⟩ := HINJ.out he; have hn3 : [b, c, d, x] = [b, h, i, j] := hn2; simp only [List.cons.injEq, and_true, true_and] at hn3; exact hc hn3.1)
          go_wp2_with fail
          refine (pcre_any none none 0 0 0 0 [] [] A s ⟨#[]⟩ R _ ⟨objs_nil _, gones_nil _⟩ (by decide) (by decide) (HA.out.keep HB.out) HSZ.out (by decide) HR.out).mono ?_
          rintro e w7 ⟨q7, n7, c7, q8, n8, c8, rfl, hB, _⟩
          rw [HC.out]
          have HB := Lib.hid (below_alloc (below_via HB.out hB) (.cells #[.slice q7 n7 c7, .slice q8 n8 c8] 27))
          clear hB
          go_wp2
          go_ret
          exact ⟨rfl, HB.out⟩
      · have hbb : (b == g) = false := by rw [beq_eq_false_iff_ne]; exact hb
        have hst : (s.toList == t.toList) = false := list_ne (fun he => by obtain ⟨hn1, hn2⟩ := HINJ.out he; have hn3 : [b, c, d, x] = [g, h, i, j] := hn2; simp only [List.cons.injEq, and_true] at hn3; exact hb hn3.1)
        go_wp2_with fail
        refine (pcre_any none none 0 0 0 0 [] [] A s ⟨#[]⟩ R _ ⟨objs_nil _, gones_nil _⟩ (by decide) (by decide) (HA.out.keep HB.out) HSZ.out (by decide) HR.out).mono ?_
        rintro e w7 ⟨q7, n7, c7, q8, n8, c8, rfl, hB, _⟩
        rw [HC.out]
        have HB := Lib.hid (below_alloc (below_via HB.out hB) (.cells #[.slice q7 n7 c7, .slice q8 n8 c8] 27))
        clear hB
        go_wp2
        go_ret
        exact ⟨rfl, HB.out⟩
    have h4b : (a == 4) = false := by rw [beq_eq_false_iff_ne]; exact h4
    by_cases h5 : a = 5
    · subst h5
      clear h6 h6b h4 h4b
      by_cases hb : b = g
      · subst hb
        by_cases hc : c = h
        · subst hc
          by_cases hd : d = i
          · subst hd
            obtain rfl : s = t := by rw [← HSN.out, ← HTN.out]; rfl
            go_wp2_with fail
            refine (pcre_any none none 0 0 0 0 [] [] A s ⟨#[]⟩ R _ ⟨objs_nil _, gones_nil _⟩ (by decide) (by decide) (HA.out.keep HB.out) HSZ.out (by decide) HR.out).mono ?_
            rintro e w7 ⟨q7, n7, c7, q8, n8, c8, rfl, hB, _⟩
            rw [HC.out]
            have HB := Lib.hid (below_alloc (below_via HB.out hB) (.cells #[.slice q7 n7 c7, .slice q8 n8 c8] 27))
            clear hB
            go_wp2
            go_ret
            exact ⟨rfl, HB.out⟩
          · have hbd : (d == i) = false := by rw [beq_eq_false_iff_ne]; exact hd
            have hst : (s.toList == t.toList) = false := list_ne (fun he => by obtain ⟨hn1, hn2⟩ := HINJ.out he; have hn3 : [b, c, d] = [b, c, i] := hn2; simp only [List.cons.injEq, and_true, true_and] at hn3; exact hd hn3)
            go_wp2_with fail
            refine (pcre_any none none 0 0 0 0 [] [] A s ⟨#[]⟩ R _ ⟨objs_nil _, gones_nil _⟩ (by decide) (by decide) (HA.out.keep HB.out) HSZ.out (by decide) HR.out).mono ?_
            rintro e w7 ⟨q7, n7, c7, q8, n8, c8, rfl, hB, _⟩
            rw [HC.out]
            have HB := Lib.hid (below_alloc (below_via HB.out hB) (.cells #[.slice q7 n7 c7, .slice q8 n8 c8] 27))
            clear hB
            go_wp2
            go_ret
            exact ⟨rfl, HB.out⟩
        · have hbc : (c == h) = false := by rw [beq_eq_false_iff_ne]; exact hc
          have hst : (s.toList == t.toList) = false := list_ne (fun he => by obtain ⟨hn1, hn2⟩ := HINJ.out he; have hn3 : [b, c, d] = [b, h, i] := hn2; simp only [List.cons.injEq, and_true, true_and] at hn3; exact hc hn3.1)
          go_wp2_with fail
          refine (pcre_any none none 0 0 0 0 [] [] A s ⟨#[]⟩ R _ ⟨objs_nil _, gones_nil _⟩ (by decide) (by decide) (HA.out.keep HB.out) HSZ.out (by decide) HR.out).mono ?_
          rintro e w7 ⟨q7, n7, c7, q8, n8, c8, rfl, hB, _⟩
          rw [HC.out]
          have HB := Lib.hid (below_alloc (below_via HB.out hB) (.cells #[.slice q7 n7 c7, .slice q8 n8 c8] 27))
          clear hB
          go_wp2
          go_ret
          exact ⟨rfl, HB.out⟩
      · have hbb : (b == g) = false := by rw [beq_eq_false_iff_ne]; exact hb
        have hst : (s.toList == t.toList) = false := list_ne (fun he => by obtain ⟨hn1, hn2⟩ := HINJ.out he; have hn3 : [b, c, d] = [g, h, i] := hn2; simp only [List.cons.injEq, and_true] at hn3; exact hb hn3.1)
        go_wp2_with fail
        refine (pcre_any none none 0 0 0 0 [] [] A s ⟨#[]⟩ R _ ⟨objs_nil _, gones_nil _⟩ (by decide) (by decide) (HA.out.keep HB.out) HSZ.out (by decide) HR.out).mono ?_
        rintro e w7 ⟨q7, n7, c7, q8, n8, c8, rfl, hB, _⟩
        rw [HC.out]
        have HB := Lib.hid (below_alloc (below_via HB.out hB) (.cells #[.slice q7 n7 c7, .slice q8 n8 c8] 27))
        clear hB
        go_wp2
        go_ret
        exact ⟨rfl, HB.out⟩
    have hlo : a < 4 := by omega
    have hnl : ∀ t e k p, numsN a t e k p = [t] := fun t e k p => by unfold numsN; rw [if_neg h4, if_neg h5, if_neg h6]
    by_cases hb : b = g
    · subst hb
      obtain rfl : s = t := by rw [← HSN.out, ← HTN.out]; exact name_same (by rw [hnl, hnl])
      clear hnl h4 h5 h6
      go_wp2_with fail
      refine (pcre_any none none 0 0 0 0 [] [] A s ⟨#[]⟩ R _ ⟨objs_nil _, gones_nil _⟩ (by decide) (by decide) (HA.out.keep HB.out) HSZ.out (by decide) HR.out).mono ?_
      rintro e w7 ⟨q7, n7, c7, q8, n8, c8, rfl, hB, _⟩
      rw [HC.out]
      have HB := Lib.hid (below_alloc (below_via HB.out hB) (.cells #[.slice q7 n7 c7, .slice q8 n8 c8] 27))
      clear hB
      go_wp2
      go_ret
      exact ⟨rfl, HB.out⟩
    have hbb : (b == g) = false := by rw [beq_eq_false_iff_ne]; exact hb
    have hst : (s.toList == t.toList) = false := list_ne (fun he => by obtain ⟨hn1, hn2⟩ := HINJ.out he; rw [hnl, hnl] at hn2; simp only [List.cons.injEq, and_true] at hn2; exact hb hn2)
    clear hnl h4 h5 h6 hb
    go_wp2_with fail
    refine (pcre_any none none 0 0 0 0 [] [] A s ⟨#[]⟩ R _ ⟨objs_nil _, gones_nil _⟩ (by decide) (by decide) (HA.out.keep HB.out) HSZ.out (by decide) HR.out).mono ?_
    rintro e w7 ⟨q7, n7, c7, q8, n8, c8, rfl, hB, _⟩
    rw [HC.out]
    have HB := Lib.hid (below_alloc (below_via HB.out hB) (.cells #[.slice q7 n7 c7, .slice q8 n8 c8] 27))
    clear hB
    go_wp2
    go_ret
    exact ⟨rfl, HB.out⟩
  · have hkb : (a == f) = false := by rw [beq_eq_false_iff_ne]; exact hk
    have hst : (s.toList == t.toList) = false := list_ne (fun he => hk (HINJ.out he).1)
    clear hk
    go_wp2_with fail
    refine (pcre_any none none 0 0 0 0 [] [] A s ⟨#[]⟩ R _ ⟨objs_nil _, gones_nil _⟩ (by decide) (by decide) (HA.out.keep HB.out) HSZ.out (by decide) HR.out).mono ?_
    rintro e w7 ⟨q7, n7, c7, q8, n8, c8, rfl, hB, _⟩
    rw [HC.out]
    have HB := Lib.hid (below_alloc (below_via HB.out hB) (.cells #[.slice q7 n7 c7, .slice q8 n8 c8] 27))
    clear hB
    go_wp2
    go_ret
    exact ⟨rfl, HB.out⟩
end Go.Proofs.YtblpebdjbenphaaGreatDoor
