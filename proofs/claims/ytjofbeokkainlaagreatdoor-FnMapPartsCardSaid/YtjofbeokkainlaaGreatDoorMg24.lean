/- Texts put together, as a claim holds at most sixty files. -/
import Derived.Test.YtjofbeokkainlaaGreatDoorMg9
import Derived.Test.YtjofbeokkainlaaGreatDoorMg2
import Derived.Maps.AppendAt
import Derived.Test.YtjofbeokkainlaaGreatDoorMg7
namespace Go.Proofs.YtjofbeokkainlaaGreatDoor
open Go.ChangeShapes Go.WideShapes Go.ChangeAt Go.RowKit
set_option linter.unusedVariables false
set_option maxRecDepth 100000

def siftL (P : List (List UInt8)) (k : Nat) : List (List UInt8) := (P.take k).filter fun x => !x.isEmpty
theorem sift_zero (P : List (List UInt8)) : siftL P 0 = [] := by simp [siftL]
theorem sift_all (P : List (List UInt8)) : siftL P P.length = P.filter fun x => !x.isEmpty := by simp [siftL]
theorem sift_no (P : List (List UInt8)) (k : Nat) (h : k < P.length) (he : P[k].isEmpty = true) : siftL P (k + 1) = siftL P k := by
  unfold siftL; rw [List.take_succ_eq_append_getElem h, List.filter_append]; simp [he]
theorem sift_yes (P : List (List UInt8)) (k : Nat) (h : k < P.length) (he : P[k].isEmpty = false) : siftL P (k + 1) = siftL P k ++ [P[k]] := by
  unfold siftL; rw [List.take_succ_eq_append_getElem h, List.filter_append]; simp [he]
theorem sift_len (P : List (List UInt8)) (k : Nat) : (siftL P k).length ≤ k := by
  unfold siftL
  exact Nat.le_trans (List.length_filter_le _ _) (List.length_take_le _ _)

structure SiftSt (P : List (List UInt8)) (w wr : World) (v p : Value) (k : Nat) : Prop where
  own : wr.ownsRow w.heap.size 9 1 v (siftL P k).length ((siftL P k).map encS)
  pieces : ∃ b2, wr.ownsRow b2 9 1 p P.length (P.map encS)
  apart : v.ownBlock ≠ p.ownBlock
  below : Below w.heap.size w wr

theorem sift_cell {P : List (List UInt8)} {w wr : World} {v : Value} {q : Option Addr} {cp k n : Nat} (h : SiftSt P w wr v (.slice q n cp) k) (hn : P.length = n) (hk : k < n) (hk2 : k < P.length) :
    ∃ g, q = some ⟨g, 0, none⟩ ∧ wr.cell? ⟨g, k, none⟩ = some (.string ⟨P[k].toArray⟩) ∧ g < wr.heap.size := by
  subst hn
  obtain ⟨b2, hp⟩ := h.pieces
  rcases hp.2 with ⟨h1, h2⟩ | ⟨g, cap, cur, hv, _, hh, _⟩
  · simp only [Value.slice.injEq] at h1; omega
  · simp only [Value.slice.injEq, true_and] at hv
    obtain ⟨rfl, rfl⟩ := hv
    refine ⟨g, rfl, ?_, lt_of_block hh⟩
    rw [hp.cellAt k (by omega)]
    simp [hk2, encS]

theorem sift_add {P : List (List UInt8)} {w wr w1 : World} {v p v' : Value} {k : Nat} (o : Obj) (h : SiftSt P w wr v p k) (hk : k < P.length) (he : P[k].isEmpty = false)
    (hown : w1.ownsRow w.heap.size 9 1 v' ((siftL P k).length + 1) ((siftL P k).map encS ++ [encS P[k]])) (hg : (wr.alloc o).grownBy w1 v.ownBlock) (hat : v'.ownBlock = v.ownBlock ∨ v'.ownBlock = some (wr.alloc o).heap.size) : SiftSt P w w1 v' p (k + 1) where
  own := by rw [sift_yes P k hk he]; simpa using hown
  pieces := by
    obtain ⟨b2, hp⟩ := h.pieces
    exact ⟨b2, (hp.alloc o).kept hg (.inr (Ne.symm h.apart))⟩
  apart := by
    obtain ⟨b2, hp⟩ := h.pieces
    rcases hat with e | e
    · rw [e]; exact h.apart
    · rw [e]
      intro hc
      have := (hp.lt _ hc.symm).2
      simp at this
      omega
  below := (h.below.alloc h.below.size o).grown hg (Nat.le_trans h.below.size (by simp)) (fun j hj => (h.own.lt j hj).1)

theorem sift_pass {P : List (List UInt8)} {w wr : World} {v p : Value} {k : Nat} (h : SiftSt P w wr v p k) (hk : k < P.length) (he : P[k].isEmpty = true) : SiftSt P w wr v p (k + 1) where
  own := by rw [sift_no P k hk he]; exact h.own
  pieces := h.pieces
  apart := h.apart
  below := h.below

theorem empty_eq (l : List UInt8) : (⟨l.toArray⟩ : ByteArray).toList.isEmpty = l.isEmpty := by
  rw [ByteArray.toList_eq]

set_option maxHeartbeats 2000000 in
theorem l1words_any (s : ByteArray) (w : World) (hs : s.size ≤ 1048576) :
    Calls Tryz.prog 83 #[.string s] w (MadePieces (wordsL s.data.toList) s.size w) := by
  obtain ⟨i0, hi, hz0, hz1, hz2⟩ := info_parts infoStr
  obtain ⟨P, hP⟩ : ∃ P, splitL 32 s.data.toList = P := ⟨_, rfl⟩
  have HW := Lib.hid (show wordsL s.data.toList = siftL P P.length by rw [sift_all, ← hP]; rfl)
  have HP := Lib.hid hP
  clear hP
  rw [HW.out]
  go_enter Tryz.func83, Tryz.ntmps83
  go_wp2_with fail
  refine (split_any s _ hs).mono ?_
  rw [HP.out]
  rintro e w1 ⟨v, rfl, hown, hB, hlen⟩
  obtain ⟨np, hnp⟩ : ∃ np, P.length = np := ⟨_, rfl⟩
  have HNP := Lib.hid hnp
  obtain ⟨qp, cpp, hv⟩ := own_form hown
  subst hv
  have HOWN := Lib.hid hown
  have HB := Lib.hid hB
  rw [hnp] at hlen ⊢
  clear hown hB hnp
  go_wp2_with fail
  go_loopw [3, 5] (fun v i wr => ∃ (k wl : Nat) (q : Option Addr) (cp : Nat), k ≤ np ∧ v = .slice q wl cp ∧ i = .int .i64 k ∧ wl ≤ k ∧ Hid ((siftL P k).length = wl ∧ SiftSt P w wr (.slice q wl cp) (.slice qp np cpp) k)) (fun _ i _ => np - (intOf i).toNat)
  case atStart =>
    refine ⟨0, 0, _, _, Nat.zero_le _, rfl, rfl, Nat.le_refl _, by rw [sift_zero]; rfl, ?_⟩
    have h0 := own_below (World.ownsRow_lit (base := w.heap.size) (e := 9) (size := 1) w #[] 0 (Nat.le_refl _) (Nat.zero_le _) rfl) HB.out
    have h1 := HOWN.out
    rw [HNP.out] at h1
    refine ⟨by rw [sift_zero]; exact h0, ⟨_, by rw [HNP.out]; exact h1⟩, ?_, ((Below.refl w.heap.size w).alloc (Nat.le_refl _) _).trans (HB.out.mono (by simp))⟩
    intro hc
    have := (h1.lt _ hc.symm).1
    simp at this
    omega
  case round =>
    obtain ⟨k, wl, q, cp, hk, rfl, rfl, hwk, HS⟩ := hrel
    by_cases hlt : k < np
    · have hkP : k < P.length := by rw [HNP.out]; exact hlt
      obtain ⟨g, rfl, c0, hg⟩ := sift_cell HS.out.2 HNP.out hlt hkP
      have HG0 := Lib.hid hg
      clear hg
      have hem := empty_eq P[k]
      obtain ⟨b, hb⟩ : ∃ b : ByteArray, (⟨P[k].toArray⟩ : ByteArray) = b := ⟨_, rfl⟩
      rw [hb] at c0 hem
      have HBB := Lib.hid hb
      have HK := Lib.hid hkP
      clear hb
      by_cases he : P[k].isEmpty = true
      · replace hem := hem.trans he
        have HE := Lib.hid he
        clear he
        go_wp2
        go_roundw
        case rel => exact ⟨k + 1, wl, q, cp, by omega, rfl, by go_num, by omega, by rw [sift_no P k HK.out HE.out]; exact HS.out.1, sift_pass HS.out.2 HK.out HE.out⟩
        case measure => simp [intOf]; omega
      · have he2 : P[k].isEmpty = false := by simpa using he
        replace hem := hem.trans he2
        have HE := Lib.hid he2
        have hown : wr.ownsRow w.heap.size 9 1 (.slice q wl cp) wl ((siftL P k).map encS) := by
          have := HS.out.2.own
          rw [HS.out.1] at this
          exact this
        have HO := Lib.hid hown
        clear he he2 hown
        go_wp2_with (at_builtin; (refine wpList_append_own_at _ rfl _ _ 25 rfl w.heap.size 9 i0 _ 1 16 Tryz.underlying25 hi hz0 hz1 hz2 rfl (by decide) _ _ _ rfl (HO.out.alloc _) ⟨wr.heap.size, 0, none⟩ 1 1 [.string b] rfl rfl (one_new _ _ _) (fun u hu => by simp at hu; subst hu; rfl) (by unfold maxLen; omega) (by omega) (Nat.le_trans HS.out.2.below.size (by simp)) ?_); intro v' w2 hown1 hgrow hnil hat; have HO1 := Lib.hid hown1; have HG := Lib.hid hgrow; have HAT := Lib.hid hat; clear hown1 hgrow hnil hat)
        obtain ⟨q1, cp1, rfl⟩ := own_form HO1.out
        go_roundw
        case rel =>
          have ho := HO1.out
          rw [← HBB.out] at ho
          have e1 := HS.out.1
          have hnew := sift_add _ HS.out.2 HK.out HE.out (by rw [e1]; exact ho) HG.out HAT.out
          exact ⟨k + 1, wl + 1, q1, cp1, by omega, rfl, by go_num, by omega, by rw [sift_yes P k HK.out HE.out]; simp; exact e1, hnew⟩
        case measure => simp [intOf]; omega
    · obtain rfl : k = np := by omega
      have HL := Lib.hid hlen
      clear hlen
      go_wp2
      go_ret
      refine ⟨_, rfl, ?_, HS.out.2.below, ?_⟩
      · rw [HNP.out, HS.out.1]
        have := HS.out.2.own
        rw [HS.out.1] at this
        exact this
      · rw [HNP.out, HS.out.1]; have := HL.out; omega
end Go.Proofs.YtjofbeokkainlaaGreatDoor
namespace Go.Proofs.YtjofbeokkainlaaGreatDoor
open Go.ChangeShapes Go.WideShapes Go.ChangeAt Go.RowKit
set_option linter.unusedVariables false
set_option maxRecDepth 100000

def MadeWs (W : List (List UInt8)) (w : World) (e : Ending) (w' : World) : Prop :=
  ∃ q cp, e = .returned (.slice q W.length cp) ∧ Ws w.heap.size w' q W ∧ Below w.heap.size w w'

theorem words_ws (s : ByteArray) (w : World) (hs : s.size ≤ 1048576) :
    Calls Tryz.prog 63 #[.string s] w (MadeWs ((wordsL s.data.toList).take 20) w) :=
  (words_any s w hs).mono fun e w' ⟨v, he, hown, hb⟩ => by
    obtain ⟨q, cp, rfl⟩ := own_form hown
    exact ⟨q, cp, he, ws_of_own hown (List.take_length).symm, hb⟩

set_option maxHeartbeats 1000000 in
theorem swords_ws (s : ByteArray) (w : World) (hs : s.size ≤ 1048576) :
    Calls Tryz.prog 55 #[.string s] w (MadeWs ((wordsL s.data.toList).take 20) w) := by
  obtain ⟨W, hW⟩ : ∃ W, wordsL s.data.toList = W := ⟨_, rfl⟩
  have HW := Lib.hid hW
  rw [hW]
  clear hW
  go_enter Tryz.func55, Tryz.ntmps55
  go_wp2_with fail
  refine (l1words_any s _ hs).mono ?_
  rw [HW.out]
  rintro e w1 ⟨v, rfl, hown, hB, hlen⟩
  obtain ⟨q, cp, hv⟩ := own_form hown
  subst hv
  have HOWN := Lib.hid hown
  have HB := Lib.hid hB
  have hcp : W.length ≤ cp := by
    rcases hown.2 with ⟨h1, h2⟩ | ⟨g, cap, cur, hv, _, _, h1, _⟩
    · omega
    · simp only [Value.slice.injEq, true_and] at hv
      obtain ⟨_, rfl⟩ := hv
      exact h1
  have hcm : cp ≤ maxLen := by
    rcases hown.2 with ⟨h1, h2⟩ | ⟨g, cap, cur, hv, _, _, _, h1, _⟩
    · simp only [Value.slice.injEq] at h1; unfold maxLen; omega
    · simp only [Value.slice.injEq, true_and] at hv
      obtain ⟨_, rfl⟩ := hv
      exact h1
  unfold maxLen at hcm
  by_cases h20 : 20 < W.length
  · have hl : (W.take 20).length = 20 := by simp; omega
    have HT := Lib.hid (show Ws w.heap.size w1 q (W.take 20) from ws_of_own hown (by rw [hl]))
    have HL := Lib.hid hl
    have hd : (20 : Int) < (W.length : Int) := by omega
    have hd0 : decide ((20 : Int) < (W.length : Int)) = true := by simp; omega
    clear hown hB hl hlen
    go_wp2
    go_ret
    refine ⟨q, cp, ?_, HT.out, HB.out⟩
    rw [HL.out]; rfl
  · have hl : W.take 20 = W := List.take_of_length_le (by omega)
    have HT := Lib.hid (show Ws w.heap.size w1 q W from ws_of_own hown (by rw [List.take_length]))
    have HL := Lib.hid hl
    have hd0 : decide ((20 : Int) < (W.length : Int)) = false := by simp; omega
    clear hown hB hl hlen
    go_wp2
    go_ret
    refine ⟨q, cp, ?_, ?_, HB.out⟩
    · rw [HL.out]; rfl
    · rw [HL.out]; exact HT.out

end Go.Proofs.YtjofbeokkainlaaGreatDoor
namespace Go.Proofs.YtjofbeokkainlaaGreatDoor
open Go.ChangeShapes Go.WideShapes Go.ChangeAt Go.RowKit
set_option linter.unusedVariables false
set_option maxRecDepth 100000

theorem filter_le (P : List (List UInt8)) (n : Nat) (h : ∀ x ∈ P, x.length ≤ n) : ∀ x ∈ P.filter (fun y => !y.isEmpty), x.length ≤ n := fun x hx => h x (List.mem_filter.1 hx).1
theorem words_short (s : ByteArray) (hs : s.size ≤ maxLen) : Short ((wordsL s.data.toList).take 20) := by
  refine ⟨List.length_take_le _ _, fun j h => ?_⟩
  have hmem : ((wordsL s.data.toList).take 20)[j] ∈ wordsL s.data.toList := List.mem_of_mem_take (List.getElem_mem h)
  have := filter_le _ _ (split_short 32 s.data.toList) _ hmem
  simp at this
  simp
  omega

end Go.Proofs.YtjofbeokkainlaaGreatDoor
namespace Go.Proofs.YtjofbeokkainlaaGreatDoor
open Go.ChangeShapes Go.WideShapes Go.ChangeAt Go.RowKit
set_option linter.unusedVariables false
set_option maxRecDepth 100000

def MadeWsC (W : List (List UInt8)) (w : World) (e : Ending) (w' : World) : Prop :=
  ∃ q cp, e = .returned (.slice q W.length cp) ∧ Ws w.heap.size w' q W ∧ Below w.heap.size w w' ∧ W.length ≤ cp ∧ cp ≤ maxLen
theorem words_wsc (s : ByteArray) (w : World) (hs : s.size ≤ 1048576) :
    Calls Tryz.prog 63 #[.string s] w (MadeWsC ((wordsL s.data.toList).take 20) w) :=
  (words_any s w hs).mono fun e w' ⟨v, he, hown, hb⟩ => by
    obtain ⟨q, cp, rfl⟩ := own_form hown
    refine ⟨q, cp, he, ws_of_own hown (List.take_length).symm, hb, ?_, ?_⟩
    · rcases hown.2 with ⟨h1, h2⟩ | ⟨g, cap, cur, hv, _, _, h1, _⟩
      · omega
      · simp only [Value.slice.injEq, true_and] at hv
        obtain ⟨_, rfl⟩ := hv
        exact h1
    · rcases hown.2 with ⟨h1, h2⟩ | ⟨g, cap, cur, hv, _, _, _, h1, _⟩
      · simp only [Value.slice.injEq] at h1; unfold maxLen; omega
      · simp only [Value.slice.injEq, true_and] at hv
        obtain ⟨_, rfl⟩ := hv
        exact h1

set_option maxHeartbeats 1000000 in
theorem swords_wsc (s : ByteArray) (w : World) (hs : s.size ≤ 1048576) :
    Calls Tryz.prog 55 #[.string s] w (MadeWsC ((wordsL s.data.toList).take 20) w) := by
  obtain ⟨W, hW⟩ : ∃ W, wordsL s.data.toList = W := ⟨_, rfl⟩
  have HW := Lib.hid hW
  rw [hW]
  clear hW
  go_enter Tryz.func55, Tryz.ntmps55
  go_wp2_with fail
  refine (l1words_any s _ hs).mono ?_
  rw [HW.out]
  rintro e w1 ⟨v, rfl, hown, hB, hlen⟩
  obtain ⟨q, cp, hv⟩ := own_form hown
  subst hv
  have HOWN := Lib.hid hown
  have HB := Lib.hid hB
  have hcp : W.length ≤ cp := by
    rcases hown.2 with ⟨h1, h2⟩ | ⟨g, cap, cur, hv, _, _, h1, _⟩
    · omega
    · simp only [Value.slice.injEq, true_and] at hv
      obtain ⟨_, rfl⟩ := hv
      exact h1
  have hcm : cp ≤ maxLen := by
    rcases hown.2 with ⟨h1, h2⟩ | ⟨g, cap, cur, hv, _, _, _, h1, _⟩
    · simp only [Value.slice.injEq] at h1; unfold maxLen; omega
    · simp only [Value.slice.injEq, true_and] at hv
      obtain ⟨_, rfl⟩ := hv
      exact h1
  unfold maxLen at hcm
  by_cases h20 : 20 < W.length
  · have hl : (W.take 20).length = 20 := by simp; omega
    have HT := Lib.hid (show Ws w.heap.size w1 q (W.take 20) from ws_of_own hown (by rw [hl]))
    have HL := Lib.hid hl
    have hd : (20 : Int) < (W.length : Int) := by omega
    have hd0 : decide ((20 : Int) < (W.length : Int)) = true := by simp; omega
    clear hown hB hl hlen
    go_wp2
    go_ret
    refine ⟨q, cp, ?_, HT.out, HB.out, by rw [HL.out]; omega, by unfold maxLen; omega⟩
    rw [HL.out]; rfl
  · have hl : W.take 20 = W := List.take_of_length_le (by omega)
    have HT := Lib.hid (show Ws w.heap.size w1 q W from ws_of_own hown (by rw [List.take_length]))
    have HL := Lib.hid hl
    have hd0 : decide ((20 : Int) < (W.length : Int)) = false := by simp; omega
    clear hown hB hl hlen
    go_wp2
    go_ret
    refine ⟨q, cp, ?_, ?_, HB.out, by rw [HL.out]; exact hcp, by unfold maxLen; omega⟩
    · rw [HL.out]; rfl
    · rw [HL.out]; exact HT.out

end Go.Proofs.YtjofbeokkainlaaGreatDoor
