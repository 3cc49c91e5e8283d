
/- Frames joined: what the frames of a text are the frames of. Plain mathematics. -/
import Derived.Test.YthndoimblfccbaaDoorFrM
namespace Go.Proofs.YthndoimblfccbaaDoor
open Go.ChangeShapes Go.WideShapes Go.ChangeAt Go.RowKit
set_option linter.unusedVariables false
set_option maxRecDepth 100000

theorem frTx_small {d : ByteArray} (h : d.size ≤ 100000) : frTx d = strOfNums (hdN d.size) ++ strOfNums (smN (crcZ d)) ++ d := by
  unfold frTx; rw [if_neg (by omega)]
theorem frTx_len {d : ByteArray} (h : d.size ≤ 100000) : (frTx d).size = 8 + d.size := by
  rw [frTx_small h, ByteArray.size_append, ByteArray.size_append, nums_size, nums_size]
  simp [hdN, smN]
theorem ba_toList {a b : ByteArray} (h : a.toList = b.toList) : a = b := by
  simp only [ByteArray.toList_eq] at h
  cases a; cases b
  simp only [ByteArray.mk.injEq]
  exact Array.ext' h
theorem szN_ext (s : ByteArray) (e : Nat) : szN (s.extract e s.size) 0 = szN s e := by unfold szN; simp only [byN_ext, Nat.zero_add, Nat.add_zero]
/-- The text of a frame is what stands there. -/
theorem frame_text {s : ByteArray} {e : Nat} {d : ByteArray} (h : frA s e = some d) : s.extract e (e + 8 + d.size) = frTx d := by
  have hf := frA_some h
  obtain ⟨h1, h2, h3, hd, hs⟩ := hf
  have hok : okN s e (szN s e) = true := by
    unfold frA at h
    split at h
    · rename_i hc; exact hc.2.2.2
    · cases h
  rw [← hs] at h2 h3 hok hd
  rw [frTx_small h2, ext_join s (show e ≤ e + 8 by omega) (show e + 8 ≤ e + 8 + d.size by omega) h3, ext_join s (show e ≤ e + 4 by omega) (show e + 4 ≤ e + 8 by omega) (by omega), ← hd]
  congr 1
  have e1 : s.extract e (e + 4) = strOfNums (hdN (d.size : Int)) := by
    have := head4 (t := s.extract e s.size) (by rw [ByteArray.size_extract]; omega)
    rw [szN_ext, ← hs, ext_ext s (by omega)] at this
    exact this
  have e2 : s.extract (e + 4) (e + 8) = strOfNums (smN (crcZ d : Int)) := by
    unfold okN at hok
    rw [← hd] at hok
    exact (ba_toList (by simpa using hok)).symm
  rw [e1, e2]
theorem byN_in {s : ByteArray} {e j i : Nat} (h : e + i < j) (hj : j ≤ s.size) : byN (s.extract e j) i = byN s (e + i) := by
  have hx : (s.extract e j).data.toList = (s.data.toList.drop e).take (j - e) := by
    simp only [ByteArray.data_extract, Array.toList_extract, List.extract_eq_take_drop]
  unfold byN
  rw [hx, List.getD_eq_getElem?_getD, List.getElem?_take_of_lt (by omega), List.getElem?_drop, ← List.getD_eq_getElem?_getD]
theorem nums_extract (l : List Int) (i j : Nat) : (strOfNums l).extract i j = strOfNums ((l.drop i).take (j - i)) := by
  unfold strOfNums
  apply ByteArray.ext
  apply Array.toList_inj.1
  simp only [ByteArray.data_extract, Array.toList_extract]
  simp [List.extract_eq_take_drop, List.map_take, List.map_drop]
/-- Where the text of a frame stands, there is that frame. -/
theorem frame_at {s : ByteArray} {e : Nat} {d : ByteArray} (h1 : d.size ≤ 100000) (h2 : e + 8 + d.size ≤ s.size) (h3 : s.extract e (e + 8 + d.size) = frTx d) : frA s e = some d := by
  obtain ⟨n, hn⟩ : ∃ n, d.size = n := ⟨_, rfl⟩
  have hF : frTx d = strOfNums (hdN (n : Int) ++ smN (crcZ d : Int)) ++ d := by rw [frTx_small h1, nums_app, hn]
  rw [hn] at h1 h2 h3
  rw [hF] at h3
  have hl : (hdN (n : Int) ++ smN (crcZ d : Int)).length = 8 := by simp [hdN, smN]
  have hh : s.extract e (e + 8) = strOfNums (hdN (n : Int) ++ smN (crcZ d : Int)) := by
    have := congrArg (fun x : ByteArray => x.extract 0 8) h3
    simp only [ByteArray.extract_extract] at this
    rw [show min (e + 8) (e + 8 + n) = e + 8 by omega, ByteArray.extract_append_eq_left (by rw [nums_size, hl])] at this
    exact this
  have hb : ∀ i, i < 8 → byN s (e + i) = byN (strOfNums (hdN (n : Int) ++ smN (crcZ d : Int))) i := fun i hi => by
    rw [← byN_in (s := s) (e := e) (j := e + 8) (by omega) (by omega), hh]
  have hsz : szN s e = n := by
    have b0 := hb 0 (by omega)
    have b1 := hb 1 (by omega)
    have b2 := hb 2 (by omega)
    have b3 := hb 3 (by omega)
    have v0 : byN (strOfNums (hdN (n : Int) ++ smN (crcZ d : Int))) 0 = n / 16777216 % 256 := by simp [byN, strOfNums, hdN]; omega
    have v1 : byN (strOfNums (hdN (n : Int) ++ smN (crcZ d : Int))) 1 = n / 65536 % 256 := by simp [byN, strOfNums, hdN]; omega
    have v2 : byN (strOfNums (hdN (n : Int) ++ smN (crcZ d : Int))) 2 = n / 256 % 256 := by simp [byN, strOfNums, hdN]; omega
    have v3 : byN (strOfNums (hdN (n : Int) ++ smN (crcZ d : Int))) 3 = n % 256 := by simp [byN, strOfNums, hdN]; omega
    unfold szN
    rw [show byN s e = byN s (e + 0) from rfl, b0, b1, b2, b3, v0, v1, v2, v3]
    omega
  have hd : s.extract (e + 8) (e + 8 + n) = d := by
    have := congrArg (fun x : ByteArray => x.extract 8 (8 + n)) h3
    simp only [ByteArray.extract_extract] at this
    rw [show min (e + (8 + n)) (e + 8 + n) = e + 8 + n by omega, ByteArray.extract_append_eq_right (by rw [nums_size, hl]) (by rw [nums_size, hl, hn])] at this
    exact this
  have hok : okN s e n = true := by
    unfold okN
    rw [hd]
    have := congrArg (fun x : ByteArray => x.extract 4 8) hh
    simp only [ByteArray.extract_extract] at this
    rw [show min (e + 8) (e + 8) = e + 8 by omega, nums_extract] at this
    rw [this]
    simp [hdN, smN]
  rw [frA_go hsz (by omega) h1 h2 hok, hd]
theorem allF_uniq (s : ByteArray) : ∀ (L : List ByteArray) (f e : Nat), (∀ k (h : k < L.length), frA s (e + offs (L.take k)) = some L[k]) → frA s (e + offs L) = none → s.size < 8 * f + e → allF s f e = L
  | [], 0, e, _, _, _ => rfl
  | [], f + 1, e, _, h2, _ => by
    have h2 : frA s e = none := h2
    simp [allF, h2]
  | d :: t, 0, e, h1, _, h3 => by
    have := (frA_some (h1 0 (by simp))).1
    simp [offs] at this
    omega
  | d :: t, f + 1, e, h1, h2, h3 => by
    have hd : frA s e = some d := h1 0 (by simp)
    have hs := (frA_some hd).1
    have := allF_uniq s t f (e + 8 + d.size) (fun k hk => by
      have := h1 (k + 1) (by simpa using hk)
      simp only [List.take_succ_cons, offs, List.getElem_cons_succ] at this
      rw [← this]; congr 1; omega) (by rw [← h2]; congr 1; simp only [offs]; omega) (by omega)
    simp [allF, hd, this]
theorem frL_uniq {s : ByteArray} {L : List ByteArray} (h1 : ∀ k (h : k < L.length), frA s (offs (L.take k)) = some L[k]) (h2 : frA s (offs L) = none) : frL s = L :=
  allF_uniq s L (s.size + 1) 0 (fun k h => by rw [Nat.zero_add]; exact h1 k h) (by rw [Nat.zero_add]; exact h2) (by omega)
/-- What is read as frames is the text of these frames. -/
theorem frames_text (s : ByteArray) : ∀ k (h : k < (frL s).length), s.extract 0 (endK s (k + 1)) = s.extract 0 (endK s k) ++ frTx ((frL s)[k]) := by
  intro k h
  have hf := frL_next h
  have hg := frA_some hf
  rw [endK_succ h, ← frame_text hf]
  exact ext_join s (by omega) (by omega) (by have := hg.2.2.1; have := hg.2.2.2.2; omega)
theorem frame_pre {s t : ByteArray} {e E : Nat} {d : ByteArray} (h : frA s e = some d) (hE : e + 8 + d.size ≤ E) (h1 : E ≤ t.size) (he : t.extract 0 E = s.extract 0 E) : frA t e = some d := by
  have hf := frA_some h
  refine frame_at (by have := hf.2.1; have := hf.2.2.2.2; omega) (by omega) ?_
  rw [← frame_text h]
  have := congrArg (fun x : ByteArray => x.extract e (e + 8 + d.size)) he
  simp only [ByteArray.extract_extract, Nat.zero_add] at this
  rw [show min (e + 8 + d.size) E = e + 8 + d.size by omega] at this
  exact this
/-- The frames with one more behind them. -/
theorem frames_more {s d : ByteArray} (hd : d.size ≤ 100000) : frL (s.extract 0 (endK s (frL s).length) ++ frTx d) = frL s ++ [d] := by
  obtain ⟨E, hE⟩ : ∃ E, endK s (frL s).length = E := ⟨_, rfl⟩
  have hEs : E ≤ s.size := by rw [← hE]; exact endK_le s _ (Nat.le_refl _)
  have hEo : offs (frL s) = E := by rw [← hE]; unfold endK; rw [List.take_length]
  have hx : (s.extract 0 E).size = E := by rw [ByteArray.size_extract]; omega
  have hsz : (s.extract 0 E ++ frTx d).size = E + (8 + d.size) := by rw [ByteArray.size_append, hx, frTx_len hd]
  rw [hE]
  refine frL_uniq (fun k hk => ?_) ?_
  · rw [List.length_append, List.length_singleton] at hk
    rcases Nat.lt_or_ge k (frL s).length with hlt | hge
    · rw [List.take_append_of_le_length (by omega), List.getElem_append_left hlt]
      have hmono : endK s (k + 1) ≤ E := by
        have h : ∀ j, k + 1 ≤ j → j ≤ (frL s).length → endK s (k + 1) ≤ endK s j := fun j hj => by
          induction j with
          | zero => omega
          | succ j ih =>
            intro hl
            rcases Nat.lt_or_ge (k + 1) (j + 1) with h1 | h1
            · have := ih (by omega) (by omega); rw [endK_succ (k := j) (by omega)]; omega
            · have : k + 1 = j + 1 := by omega
              rw [this]; exact Nat.le_refl _
        rw [← hE]; exact h _ (by omega) (Nat.le_refl _)
      refine frame_pre (frL_next hlt) (E := E) (by show endK s k + 8 + _ ≤ E; rw [← endK_succ hlt]; exact hmono) (by omega) ?_
      rw [ByteArray.extract_append_eq_left hx.symm]
    · obtain rfl : k = (frL s).length := by omega
      rw [List.take_append_of_le_length (Nat.le_refl _), List.take_length, hEo]
      rw [List.getElem_append_right (Nat.le_refl _)]
      simp only [Nat.sub_self, List.getElem_singleton]
      refine frame_at hd (by omega) ?_
      rw [ByteArray.extract_append_eq_right hx.symm (by rw [hx, frTx_len hd]; omega)]
  · rw [offs_snoc, hEo]
    exact frA_no rfl (fun h => by omega)
theorem allF_pre {s t : ByteArray} (h : ∀ e d, frA t e = some d → frA s e = some d) : ∀ (f g e : Nat), f ≤ g → allF t f e <+: allF s g e
  | 0, g, e, _ => List.nil_prefix
  | f + 1, 0, e, hfg => absurd hfg (by omega)
  | f + 1, g + 1, e, hfg => by
    cases hf : frA t e with
    | none => simp [allF, hf]
    | some d =>
      simp only [allF, hf, h e d hf]
      exact List.cons_prefix_cons.2 ⟨rfl, allF_pre h f g _ (by omega)⟩
/-- The frames of a text that is cut are the first few of its frames. -/
theorem frames_few (s : ByteArray) {k : Nat} (hk : k ≤ s.size) : frL (s.extract 0 k) <+: frL s := by
  have hx : (s.extract 0 k).size = k := by rw [ByteArray.size_extract]; omega
  refine allF_pre (fun e d h => ?_) _ _ _ (by omega)
  have hf := (frA_some h)
  refine frame_pre h (E := k) (by have := hf.2.2.1; have := hf.2.2.2.2; omega) hk ?_
  rw [ByteArray.extract_extract]
  simp
end Go.Proofs.YthndoimblfccbaaDoor
