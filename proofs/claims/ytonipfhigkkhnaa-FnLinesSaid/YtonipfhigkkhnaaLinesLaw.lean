
/- The law on lines, walked: lines come back from their text, and what is read is that text. Only new blocks are made. -/
import Derived.Test.YtonipfhigkkhnaaDrawL
import Derived.Test.YtonipfhigkkhnaaSame
namespace Go.Proofs.Ytonipfhigkkhnaa
open Go.ChangeShapes Go.WideShapes Go.ChangeAt Go.RowKit
set_option linter.unusedVariables false
set_option maxRecDepth 100000

theorem bytes_strs (W : List (List UInt8)) : bytesOf (strsOf W) = W := by
  unfold bytesOf strsOf; simp [List.map_map, Function.comp_def]
theorem strs_bytes (l : Strs) : strsOf (bytesOf l) = l := by
  unfold bytesOf strsOf
  rw [List.map_map]
  conv => rhs; rw [← List.map_id l]
  refine List.map_congr_left fun s _ => ?_
  obtain ⟨⟨x⟩⟩ := s
  rfl
theorem rightB_strs (W : List (List UInt8)) : rightB (strsOf W) = rightL W := by
  unfold rightB; exact congrArg rightL (bytes_strs W)
/-- What is read, written again, is that text. -/
theorem lines_back {t : ByteArray} {X : List (List UInt8)} (h : linesB t.data.toList = some X) : rightB (strsOf X) = true ∧ textB (strsOf X) = t := by
  obtain ⟨h1, h2, h3⟩ := linesB_some _ _ h
  refine ⟨by rw [rightB_strs]; exact (rightL_iff X).2 ⟨h1, h2⟩, ?_⟩
  refine (text_is ?_).symm
  unfold textTo
  rw [List.take_length, bytes_strs]
  exact (joinN_split _ _ h3).symm
/-- Lines come back from their text. -/
theorem text_back {l : Strs} (h : rightB l = true) : linesB (textB l).data.toList = some (bytesOf l) := by
  obtain ⟨h1, h2⟩ := (rightL_iff _).1 h
  have hs : splitL 10 (textB l).data.toList = bytesOf l ++ [[]] := by
    show splitL 10 (textTo l l.length) = _
    unfold textTo
    rw [List.take_length]
    exact split_joinN _ (fun x hx => (h2 x hx).2)
  rw [linesB_of_split hs]
  exact if_pos h

theorem lines_of_k {t : ByteArray} {is : Bool} (h : linesK t.data.toList = is) : (is = true → linesB t.data.toList = some (linesW t.data.toList)) := by
  intro hi
  unfold linesK at h
  unfold linesW
  cases hl : linesB t.data.toList with
  | none => rw [hl, hi] at h; cases h
  | some W => rfl
theorem strs_of_w {base n : Nat} {w : World} {q : Option Addr} {W : List (List UInt8)} (h : Ws base w q W) (hs : Short W) (hn : W.length = n) : StrsAt w q n (strsOf W) := strs_of h hs hn

theorem back_strs {base n : Nat} {w : World} {q : Option Addr} {l : Strs} (h : Ws base w q (bytesOf l)) (hn : l.length = n) (h12 : n ≤ 12) (hs : ∀ x ∈ l, x.size ≤ 400) : StrsAt w q n l := by
  have hbl : (bytesOf l).length = n := by rw [← hn]; simp [bytesOf]
  have := strs_of_w h (by
    refine ⟨by omega, fun j hj => ?_⟩
    have hmem := List.getElem_mem hj
    obtain ⟨s, hs', hse⟩ := List.mem_map.1 hmem
    rw [← hse]
    have := hs s hs'
    show s.size ≤ maxLen
    unfold maxLen
    omega) hbl
  rw [strs_bytes] at this
  exact this

set_option maxHeartbeats 4000000 in
theorem fnLines_walk (w : World) (a : Option Addr) (len cap : Nat) (h : Src w a len) :
    Calls Try.prog 3 #[.slice a len cap] w fun e w' => e = .returned (.bool true) ∧ Below w.heap.size w w' := by
  have S := Lib.hid h
  clear h
  by_cases hb : 1048576 < len
  · go_enter Try.func3, Try.ntmps3
    go_wp2_with (go_at_call 15; refine (big_yes _ _ _ _ hb).mono ?_; rintro e w' ⟨rfl, rfl⟩)
    go_ret
    exact ⟨rfl, Below.refl _ _⟩
  · go_enter Try.func3, Try.ntmps3
    go_wp2_with (go_at_call 15; refine (big_no _ _ _ _ hb).mono ?_; rintro e w' ⟨rfl, rfl⟩)
    refine (drawltext_any _ _ _ _ S.out).mono ?_
    rintro e w1 ⟨q, cp, l, rfl, h12, hsh, hst, hB⟩
    obtain ⟨n, hn⟩ : ∃ n, l.length = n := ⟨_, rfl⟩
    rw [hn] at hst h12 ⊢
    have HN := Lib.hid hn
    have HL := Lib.hid hst
    have HSH := Lib.hid hsh
    have HB := Lib.hid hB
    have HTS := Lib.hid (textB_size (l := l) (by rw [hn]; exact h12) hsh)
    clear hn hst hsh hB
    obtain ⟨ok, hok⟩ : ∃ ok, rightB l = ok := ⟨_, rfl⟩
    obtain ⟨T, hT⟩ : ∃ T, (if rightB l then textB l else ByteArray.empty) = T := ⟨_, rfl⟩
    have HT := Lib.hid (show MadeText l = fun w e w' => e = .returned (.tuple #[.string T, .bool ok]) ∧ Below w.heap.size w w' by unfold MadeText; rw [hT, hok])
    have HTsz := Lib.hid (show T.size ≤ 4812 by
      rw [← hT]
      split
      · exact HTS.out
      · exact Nat.zero_le _)
    have HBACK := Lib.hid (show ok = true → linesW T.data.toList = bytesOf l ∧ linesK T.data.toList = true from fun ho => by
      rw [ho] at hok
      rw [hok, if_pos rfl] at hT
      rw [← hT]
      exact lines_some (text_back hok))
    clear hok hT
    go_wp2_with fail
    refine (linestext_any _ _ _ _ _ HL.out).mono ?_
    rw [HT.out]
    rintro e w2 ⟨rfl, hB⟩
    have HL := Lib.hid (HL.out.keep hB)
    have HB := Lib.hid (below_via HB.out hB)
    clear hB
    go_wp2_with fail
    refine (slinestext_any _ _ _ _ _ HL.out).mono ?_
    rw [HT.out]
    rintro e w3 ⟨rfl, hB⟩
    have HL := Lib.hid (HL.out.keep hB)
    have HB := Lib.hid (below_via HB.out hB)
    clear hB
    go_wp2_with fail
    refine (drawlof_any _ _ _ _ (S.out.below HB.out)).mono ?_
    rintro e w4 ⟨t, ht, rfl, hB⟩
    have HL := Lib.hid (HL.out.keep hB)
    have HB := Lib.hid (below_via HB.out hB)
    have HTT := Lib.hid ht
    clear hB
    have htm : t.size ≤ 1048576 := by omega
    have HSX := Lib.hid (show Short (linesW t.data.toList) from (by
      obtain ⟨h1, h2⟩ := linesW_few t.data.toList
      refine ⟨by omega, fun j h => ?_⟩
      have := h2 _ (List.getElem_mem h)
      unfold maxLen; omega))
    obtain ⟨X, hX⟩ : ∃ X, linesW t.data.toList = X := ⟨_, rfl⟩
    obtain ⟨is, his⟩ : ∃ is, linesK t.data.toList = is := ⟨_, rfl⟩
    have HIS := Lib.hid (show is = true → rightB (strsOf X) = true ∧ textB (strsOf X) = t from fun hi => by rw [← hX]; exact lines_back (lines_of_k his hi))
    rw [hX] at HSX
    have HX := Lib.hid hX
    have HK := Lib.hid his
    obtain ⟨m, hm⟩ : ∃ m, X.length = m := ⟨_, rfl⟩
    have HM := Lib.hid hm
    clear hX his hm
    go_wp2_with fail
    refine (linesof_any t _ htm).mono ?_
    rw [HX.out, HK.out]
    rintro e w5 ⟨q1, cp1, rfl, h1, hB⟩
    have H1 := Lib.hid h1
    have HL := Lib.hid (HL.out.keep hB)
    have HB := Lib.hid (below_via HB.out hB)
    clear h1 hB
    rw [HM.out]
    go_wp2_with fail
    refine (slinesof_any t _ htm).mono ?_
    rw [HX.out, HK.out]
    rintro e w6 ⟨q2, cp2, rfl, h2, hB⟩
    have H2 := Lib.hid h2
    have H1 := Lib.hid (ws_keep H1.out hB)
    have HL := Lib.hid (HL.out.keep hB)
    have HB := Lib.hid (below_via HB.out hB)
    clear h2 hB
    rw [HM.out]
    have hT2 : T.size ≤ 1048576 := by have := HTsz.out; omega
    cases is with
    | false =>
      go_wp2_with fail
      refine (sametexts_same _ _ _ _ _ _ _ (strs_of_w H1.out HSX.out HM.out) (strs_of_w H2.out HSX.out HM.out)).mono ?_
      rintro e w7 ⟨rfl, hB⟩
      have HL := Lib.hid (HL.out.keep hB)
      have HB := Lib.hid (below_via HB.out hB)
      clear hB
      cases ok with
      | false =>
        go_wp2_with fail
        refine (linesof_any T _ hT2).mono ?_
        rintro e w8 ⟨q3, cp3, rfl, h3, hB⟩
        have HB := Lib.hid (below_via HB.out hB)
        clear h3 hB
        generalize linesK T.data.toList = bz
        generalize (linesW T.data.toList).length = nz
        go_wp2
        go_ret
        exact ⟨rfl, HB.out⟩
      | true =>
        go_wp2_with fail
        refine (linesof_any T _ hT2).mono ?_
        rw [(HBACK.out trivial).1, (HBACK.out trivial).2]
        rintro e w8 ⟨q3, cp3, rfl, h3, hB⟩
        have HL := Lib.hid (HL.out.keep hB)
        have HB := Lib.hid (below_via HB.out hB)
        have H3 := Lib.hid h3
        clear h3 hB
        have hbl : (bytesOf l).length = n := by rw [← HN.out]; simp [bytesOf]
        have HBL := Lib.hid hbl
        rw [hbl]
        clear hbl
        go_wp2_with fail
        refine (sametexts_same _ _ _ _ _ l _ (back_strs H3.out HN.out h12 HSH.out) HL.out).mono ?_
        rintro e w9 ⟨rfl, hB⟩
        have HB := Lib.hid (below_via HB.out hB)
        clear hB
        go_wp2
        go_ret
        exact ⟨rfl, HB.out⟩
    | true =>
      go_wp2_with fail
      refine (sametexts_same _ _ _ _ _ _ _ (strs_of_w H1.out HSX.out HM.out) (strs_of_w H2.out HSX.out HM.out)).mono ?_
      rintro e w7 ⟨rfl, hB⟩
      have HL := Lib.hid (HL.out.keep hB)
      have H1 := Lib.hid (ws_keep H1.out hB)
      have HB := Lib.hid (below_via HB.out hB)
      clear hB
      have HMX := Lib.hid (show MadeText (strsOf X) = fun w e w' => e = .returned (.tuple #[.string t, .bool true]) ∧ Below w.heap.size w w' by unfold MadeText; rw [(HIS.out trivial).1, if_pos rfl, (HIS.out trivial).2])
      go_wp2_with fail
      refine (linestext_any _ _ _ _ _ (strs_of_w H1.out HSX.out HM.out)).mono ?_
      rw [HMX.out]
      rintro e w8 ⟨rfl, hB⟩
      have HL := Lib.hid (HL.out.keep hB)
      have HB := Lib.hid (below_via HB.out hB)
      clear hB
      cases ok with
      | false =>
        go_wp2_with fail
        refine (linesof_any T _ hT2).mono ?_
        rintro e w8 ⟨q3, cp3, rfl, h3, hB⟩
        have HB := Lib.hid (below_via HB.out hB)
        clear h3 hB
        generalize linesK T.data.toList = bz
        generalize (linesW T.data.toList).length = nz
        go_wp2
        go_ret
        exact ⟨rfl, HB.out⟩
      | true =>
        go_wp2_with fail
        refine (linesof_any T _ hT2).mono ?_
        rw [(HBACK.out trivial).1, (HBACK.out trivial).2]
        rintro e w8 ⟨q3, cp3, rfl, h3, hB⟩
        have HL := Lib.hid (HL.out.keep hB)
        have HB := Lib.hid (below_via HB.out hB)
        have H3 := Lib.hid h3
        clear h3 hB
        have hbl : (bytesOf l).length = n := by rw [← HN.out]; simp [bytesOf]
        have HBL := Lib.hid hbl
        rw [hbl]
        clear hbl
        go_wp2_with fail
        refine (sametexts_same _ _ _ _ _ l _ (back_strs H3.out HN.out h12 HSH.out) HL.out).mono ?_
        rintro e w9 ⟨rfl, hB⟩
        have HB := Lib.hid (below_via HB.out hB)
        clear hB
        go_wp2
        go_ret
        exact ⟨rfl, HB.out⟩
end Go.Proofs.Ytonipfhigkkhnaa
