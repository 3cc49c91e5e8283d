/- The law on words, walked: for every drawing code it returns true and only makes new blocks. -/
import Derived.Test.YtbcdinjlpgfoiaaWordsW
import Derived.Test.YtbcdinjlpgfoiaaLine
namespace Go.Proofs.Ytbcdinjlpgfoiaa
open Go.ChangeShapes Go.WideShapes Go.ChangeAt Go.RowKit
set_option linter.unusedVariables false

set_option maxHeartbeats 1000000 in
theorem sametexts_same (a1 a2 : Option Addr) (len cap1 cap2 : Nat) (l : Strs) (w : World) (h1 : StrsAt w a1 len l) (h2 : StrsAt w a2 len l) :
    Calls Try.prog 25 #[.slice a1 len cap1, .slice a2 len cap2] w (MadeBool true w) := by
  have hm := h1.max
  unfold maxLen at hm
  have HR1 := Lib.hid h1
  have HR2 := Lib.hid h2
  clear h1 h2
  go_enter Try.func25, Try.ntmps25
  go_wp2
  go_loopw [5] (fun i wr => ∃ k : Nat, k ≤ len ∧ i = .int .i64 k ∧ Hid (Below w.heap.size w wr)) (fun i _ => len - (intOf i).toNat)
  case atStart => exact ⟨0, Nat.zero_le _, rfl, Below.refl _ _⟩
  case round =>
    obtain ⟨k, hk, rfl, HW⟩ := hrel
    by_cases hlt : k < len
    · rcases HR1.out.src with hz | ⟨b1, off1, rfl, hb1, hc1⟩
      · omega
      · rcases HR2.out.src with hz | ⟨b2, off2, rfl, hb2, hc2⟩
        · omega
        · have c0 := (HW.out.cell (p := ⟨b1, off1 + k, none⟩) hb1).trans (hc1 k hlt)
          have d0 := (HW.out.cell (p := ⟨b2, off2 + k, none⟩) hb2).trans (hc2 k hlt)
          have hi1 : (k : Int) < (len : Int) := by omega
          have hi0 : (0 : Int) ≤ (k : Int) := by omega
          clear hc1 hc2 hb1 hb2
          go_wp2_with fail
          go_quiet (fail)
          go_wp2
          go_roundw
          case rel => exact ⟨k + 1, by omega, by go_num, below_drewN HW.out _⟩
          case measure => simp [intOf]; omega
    · go_wp2
      go_ret
      exact ⟨rfl, HW.out⟩

def joinL : List (List UInt8) → List UInt8
  | [] => []
  | w :: ws => w ++ 32 :: 32 :: 32 :: joinL ws
theorem joinL_snoc : ∀ (A : List (List UInt8)) (w : List UInt8), joinL (A ++ [w]) = joinL A ++ w ++ [32, 32, 32]
  | [], w => by simp [joinL]
  | a :: A, w => by simp [joinL, joinL_snoc A w]
theorem words_blank (l : List UInt8) : wordsL (32 :: l) = wordsL l := by
  have := wordsL_at [] l noC_nil
  simpa using this
theorem words_join : ∀ W : List (List UInt8), (∀ x ∈ W, noC 32 x ∧ x.isEmpty = false) → wordsL (joinL W) = W
  | [], _ => rfl
  | w :: ws, h => by
    obtain ⟨h1, h2⟩ := h w (by simp)
    show wordsL (w ++ 32 :: 32 :: 32 :: joinL ws) = _
    rw [wordsL_at _ _ h1, h2, words_blank, words_blank, words_join ws (fun x hx => h x (by simp [hx]))]
    rfl
theorem split_noC (c : UInt8) : ∀ l : List UInt8, ∀ x ∈ splitL c l, noC c x
  | [], x, hx => by simp [splitL] at hx; subst hx; exact noC_nil
  | y :: t, x, hx => by
    have ih := split_noC c t
    unfold splitL at hx
    split at hx
    · rcases List.mem_cons.1 hx with rfl | h
      · exact noC_nil
      · exact ih x h
    · rename_i hy
      split at hx
      · rename_i w ws heq
        rcases List.mem_cons.1 hx with rfl | h
        · intro z hz
          rcases List.mem_cons.1 hz with rfl | hz
          · exact hy
          · exact ih w (by rw [heq]; simp) z hz
        · exact ih x (by rw [heq]; simp [h])
      · simp at hx
        subst hx
        intro z hz
        simp at hz
        subst hz
        exact hy
theorem words_good (l : List UInt8) : ∀ x ∈ (wordsL l).take 20, noC 32 x ∧ x.isEmpty = false := by
  intro x hx
  have h1 := List.mem_of_mem_take hx
  unfold wordsL at h1
  rw [List.mem_filter] at h1
  exact ⟨split_noC 32 l x h1.1, by simpa using h1.2⟩
theorem words_len (s : ByteArray) : ∀ x ∈ (wordsL s.data.toList).take 20, x.length ≤ s.size := by
  intro x hx
  have h1 := filter_le _ _ (split_short 32 s.data.toList) _ (List.mem_of_mem_take hx)
  simpa using h1

/-- What the law knows of the words. -/
structure Good (W : List (List UInt8)) : Prop where
  few : W.length ≤ 20
  each : ∀ x ∈ W, noC 32 x ∧ x.isEmpty = false ∧ x.length ≤ 400

theorem good_at {W : List (List UInt8)} (h : Good W) (i : Nat) (hi : i < W.length) : noC 32 W[i] ∧ W[i].isEmpty = false ∧ W[i].length ≤ 400 := h.each _ (List.getElem_mem hi)
theorem good_short {W : List (List UInt8)} (h : Good W) : Short W := ⟨h.few, fun j hj => by have := (good_at h j hj).2.2; unfold maxLen; omega⟩
theorem join_take (W : List (List UInt8)) (i : Nat) (h : i < W.length) : joinL (W.take (i + 1)) = joinL (W.take i) ++ W[i] ++ [32, 32, 32] := by
  rw [List.take_succ_eq_append_getElem h, joinL_snoc]
theorem good_back {W : List (List UInt8)} (h : Good W) (T : ByteArray) (hT : T.data.toList = 32 :: joinL (W.take W.length)) : (wordsL T.data.toList).take 20 = W := by
  rw [hT, List.take_length, words_blank, words_join W (fun x hx => ⟨(h.each x hx).1, (h.each x hx).2.1⟩), List.take_of_length_le h.few]

theorem text_step (T b : ByteArray) (X : List UInt8) (h : T.data.toList = 32 :: X) : (T ++ b ++ ⟨#[32, 32, 32]⟩).data.toList = 32 :: (X ++ b.data.toList ++ [32, 32, 32]) := by
  rw [ByteArray.data_append, Array.toList_append, ByteArray.data_append, Array.toList_append, h]
  simp

set_option maxHeartbeats 2000000 in
theorem fnWords_walk (w : World) (a : Option Addr) (len cap : Nat) (h : Src w a len) :
    Calls Try.prog 5 #[.slice a len cap] w fun e w' => e = .returned (.bool true) ∧ Below w.heap.size w w' := by
  have S := Lib.hid h
  clear h
  by_cases hb : 1048576 < len
  · go_enter Try.func5, Try.ntmps5
    go_wp2_with (go_at_call 15; refine (big_yes _ _ _ _ hb).mono ?_; rintro e w' ⟨rfl, rfl⟩)
    go_ret
    exact ⟨rfl, Below.refl _ _⟩
  · go_enter Try.func5, Try.ntmps5
    go_wp2_with (go_at_call 15; refine (big_no _ _ _ _ hb).mono ?_; rintro e w' ⟨rfl, rfl⟩)
    refine (drawwords_any _ _ _ _ S.out).mono ?_
    rintro e w1 ⟨s, hs, rfl, hB⟩
    have HB := Lib.hid hB
    clear hB S
    obtain ⟨W, hW⟩ : ∃ W, (wordsL s.data.toList).take 20 = W := ⟨_, rfl⟩
    have HGOOD := Lib.hid (show Good W from ⟨by rw [← hW]; exact List.length_take_le _ _, fun x hx => by
      rw [← hW] at hx
      have h1 := words_good s.data.toList x hx
      exact ⟨h1.1, h1.2, Nat.le_trans (words_len s x hx) hs⟩⟩)
    have HW := Lib.hid hW
    obtain ⟨n, hn⟩ : ∃ n, W.length = n := ⟨_, rfl⟩
    have hn20 : n ≤ 20 := by rw [← hn]; exact HGOOD.out.few
    have HN := Lib.hid hn
    have hsm : s.size ≤ 1048576 := by omega
    clear hW hn
    go_wp2_with fail
    refine (words_ws s _ hsm).mono ?_
    rw [HW.out]
    rintro e w2 ⟨q1, cp1, rfl, h1, hB⟩
    have H1 := Lib.hid h1
    have HB := Lib.hid (below_via HB.out hB)
    clear h1 hB
    rw [HN.out]
    go_wp2_with fail
    refine (swords_ws s _ hsm).mono ?_
    rw [HW.out]
    rintro e w3 ⟨q0, cp0, rfl, h0, hB⟩
    have H0 := Lib.hid h0
    have H1 := Lib.hid (ws_keep H1.out hB)
    have HB := Lib.hid (below_via HB.out hB)
    clear h0 hB
    rw [HN.out]
    go_wp2_with fail
    refine (sametexts_same _ _ _ _ _ _ _ (strs_of H1.out (good_short HGOOD.out) HN.out) (strs_of H0.out (good_short HGOOD.out) HN.out)).mono ?_
    rintro e w4 ⟨rfl, hB⟩
    have H1 := Lib.hid (ws_keep H1.out hB)
    have HB := Lib.hid (below_via HB.out hB)
    have hd : ¬ (20 : Int) < (n : Int) := by omega
    clear hB H0
    go_wp2
    go_loop [5, 6] (fun t i => ∃ (j : Nat) (T : ByteArray), j ≤ n ∧ i = .int .i64 j ∧ t = .string T ∧ T.size ≤ 1 + 403 * j ∧ Hid (T.data.toList = 32 :: joinL (W.take j))) (fun _ i => n - (intOf i).toNat)
    case atStart => exact ⟨0, _, Nat.zero_le _, rfl, rfl, Nat.le_refl 1, rfl⟩
    case round =>
      obtain ⟨j, T, hj, rfl, rfl, hTs, HT⟩ := hrel
      by_cases hlt : j < n
      · have hjW : j < W.length := by rw [HN.out]; exact hlt
        obtain ⟨g, cur, rfl, c0⟩ : ∃ g cur, q1 = some ⟨g, 0, none⟩ ∧ w4.cell? ⟨g, j, none⟩ = some (.string ⟨W[j].toArray⟩) ∧ cur = () := by
          rcases H1.out with h0 | ⟨g, cur, hq, _, hr, _, hc⟩
          · omega
          · refine ⟨g, (), hq, ?_, rfl⟩
            have := hc j hjW
            unfold Row at hr
            simp [World.cell?, hr, this, encS]
        replace c0 := c0.1
        have hem := (empty_eq W[j]).trans (good_at HGOOD.out j hjW).2.1
        have hno := (good_at HGOOD.out j hjW).1
        have hle := (good_at HGOOD.out j hjW).2.2
        have hjoin := join_take W j hjW
        obtain ⟨b, hbb⟩ : ∃ b : ByteArray, (⟨W[j].toArray⟩ : ByteArray) = b := ⟨_, rfl⟩
        have hbl : b.data.toList = W[j] := by rw [← hbb]
        have hbs : b.size ≤ 400 := by rw [← hbb]; simpa [ByteArray.size] using hle
        rw [hbb] at c0 hem
        rw [← hbl] at hno hjoin
        have HNO := Lib.hid hno
        have HJ := Lib.hid hjoin
        have hTb : (T ++ b).size ≤ 401 + 403 * j := by rw [ByteArray.size_append]; omega
        clear hno hjoin hle hbl hbb hjW
        go_wp2
        go_loop [7] (fun k => ∃ c : Nat, c ≤ b.size ∧ k = .int .i64 c) (fun k => b.size - (intOf k).toNat)
        case atStart => exact ⟨0, Nat.zero_le _, rfl⟩
        case round =>
          obtain ⟨c, hc, rfl⟩ := hrel
          by_cases hcl : c < b.size
          · have hb0 : (((b[c]).toNat : Int) == 32) = false := by
              have h1 : b[c] ≠ 32 := HNO.out _ (by have : b[c] = b.data.toList[c]'(by simpa using hcl) := rfl
                                                   rw [this]; exact List.getElem_mem _)
              simp only [beq_eq_false_iff_ne]
              intro h2
              exact h1 (UInt8.toNat_inj.1 (by have : (b[c]).toNat = 32 := by omega
                                              rw [this]; rfl))
            go_wp2
            go_round
            case rel => exact ⟨c + 1, by omega, by go_num⟩
            case measure => simp [intOf]; omega
          · go_wp2
            go_round
            case rel => exact ⟨j + 1, _, by omega, by go_num, rfl, by rw [ByteArray.size_append]; show (T ++ b).size + 3 ≤ 1 + 403 * (j + 1); omega, by
              rw [HJ.out]
              exact text_step _ _ _ HT.out⟩
            case measure => simp [intOf]; omega
      · obtain rfl : j = n := by omega
        have hTm : T.size ≤ 1048576 := by omega
        have HBACK := Lib.hid (good_back HGOOD.out T (by rw [HN.out]; exact HT.out))
        go_wp2_with fail
        refine (words_ws T _ hTm).mono ?_
        rw [HBACK.out]
        rintro e w5 ⟨q2, cp2, rfl, h2, hB⟩
        have H2 := Lib.hid h2
        have H1 := Lib.hid (ws_keep H1.out hB)
        have HB := Lib.hid (below_via HB.out hB)
        clear h2 hB
        rw [HN.out]
        go_wp2_with fail
        refine (sametexts_same _ _ _ _ _ _ _ (strs_of H2.out (good_short HGOOD.out) HN.out) (strs_of H1.out (good_short HGOOD.out) HN.out)).mono ?_
        rintro e w6 ⟨rfl, hB⟩
        have HB := Lib.hid (below_via HB.out hB)
        clear hB
        go_wp2
        go_ret
        exact ⟨rfl, HB.out⟩
end Go.Proofs.Ytbcdinjlpgfoiaa
