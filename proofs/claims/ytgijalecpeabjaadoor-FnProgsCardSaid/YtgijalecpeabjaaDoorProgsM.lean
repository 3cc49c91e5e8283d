
/- A valid program comes back from its text. No model in this text. -/
import Derived.Test.YtgijalecpeabjaaDoorRProgM
import Derived.Test.YtgijalecpeabjaaDoorReadPM
namespace Go.Proofs.YtgijalecpeabjaaDoor
open Go.ChangeShapes Go.WideShapes Go.ChangeAt Go.RowKit
set_option linter.unusedVariables false
set_option maxRecDepth 100000

theorem ba_nil_eq {s : ByteArray} (h : s.size = 0) : s = ByteArray.empty := ByteArray.ext (Array.eq_empty_of_size_eq_zero h)
theorem read_tx {op n : Int} {s : ByteArray} (h : instrB op n s = true) (hn : In64 n) : readL (insTx op n s).data.toList = (op, n, s) ∧ readB (insTx op n s).data.toList = true ∧ 0 < (insTx op n s).size := by
  have hnum : numD (Lib.itoa n) = some n := numD_itoa hn.1 (by have := hn.2; omega)
  have h0 := h
  rcases ins_ways h with ⟨rfl, hs⟩ | ⟨rfl, hs⟩ | ⟨rfl, hs⟩ | ⟨x, rfl, hx, hs⟩
  · have e : (insTx 1 n s).data.toList = 102 :: Lib.itoa n := by
      show (⟨#[102]⟩ ++ decB n : ByteArray).data.toList = _
      simp [decB]
    rw [e, readL_f, readB_f, hnum, ba_nil_eq hs]
    refine ⟨rfl, rfl, ?_⟩
    show 0 < (⟨#[102]⟩ ++ decB n : ByteArray).size
    rw [ByteArray.size_append]; show 0 < 1 + _; omega
  · have e : (insTx 2 n s).data.toList = 116 :: 58 :: s.data.toList := by
      show (⟨#[116, 58]⟩ ++ s : ByteArray).data.toList = _
      simp
    have hz : n = 0 := by
      unfold instrB at h0
      rw [if_neg (by decide), if_pos rfl, Bool.and_eq_true, decide_eq_true_eq] at h0
      exact h0.1
    rw [e, readL_t, readB_t, hz]
    refine ⟨rfl, rfl, ?_⟩
    show 0 < (⟨#[116, 58]⟩ ++ s : ByteArray).size
    rw [ByteArray.size_append]; show 0 < 2 + _; omega
  · have e : (insTx 3 n s).data.toList = 110 :: Lib.itoa n := by
      show (⟨#[110]⟩ ++ decB n : ByteArray).data.toList = _
      simp [decB]
    rw [e, readL_n, readB_n, hnum, ba_nil_eq hs]
    refine ⟨rfl, rfl, ?_⟩
    show 0 < (⟨#[110]⟩ ++ decB n : ByteArray).size
    rw [ByteArray.size_append]; show 0 < 1 + _; omega
  · have e0 : insTx ((x : Int) + 4) n s = textB (x + 4) := by
      unfold insTx
      rw [if_neg (by omega), if_neg (by omega), if_neg (by omega)]
      congr 1
    have hz : n = 0 := by
      unfold instrB at h0
      rw [if_neg (by omega), if_neg (by omega), if_neg (by omega), Bool.and_eq_true, Bool.and_eq_true, decide_eq_true_eq, decide_eq_true_eq] at h0
      exact h0.2.1
    have e : (textB (x + 4)).data.toList = nmL x := rfl
    rw [e0, e, readL_nm hx, readB_nm hx, hz, ba_nil_eq hs]
    refine ⟨rfl, rfl, ?_⟩
    rcases (by omega : x = 0 ∨ x = 1 ∨ x = 2 ∨ x = 3 ∨ x = 4 ∨ x = 5 ∨ x = 6 ∨ x = 7 ∨ x = 8 ∨ x = 9 ∨ x = 10) with rfl | rfl | rfl | rfl | rfl | rfl | rfl | rfl | rfl | rfl | rfl <;> decide
theorem readP_tx {t : ByteArray} {l : Instrs} (h : readP t.data.toList = some l) : progTx l = t := by
  have h0 := h
  obtain ⟨rfl, hp⟩ := readP_some h
  unfold readP at h0
  split at h0
  · rename_i hc
    rw [Bool.and_eq_true] at hc
    unfold progTx
    rw [if_pos hp]
    exact ba_eq (readP_back hc.1)
  · cases h0
theorem tx_readP {W : Instrs} (hp : progB W = true) (hn : ∀ i, i < W.length → In64 (ins1 W i)) : readP (progTx W).data.toList = some W := by
  obtain ⟨n, hl⟩ : ∃ n, W.length = n := ⟨_, rfl⟩
  have hi : ∀ k, k < n → instrB (ins0 W k) (ins1 W k) (ins2 W k) = true := fun k hk => prog_ins hp (by rw [hl]; exact hk)
  have hr : ∀ k, k < n → readL (txAt W k).data.toList = (ins0 W k, ins1 W k, ins2 W k) ∧ readB (txAt W k).data.toList = true ∧ 0 < (txAt W k).size := fun k hk => read_tx (hi k hk) (hn k (by rw [hl]; exact hk))
  obtain ⟨T, hT⟩ : ∃ T, (txsOf W n).map (·.data.toList) = T := ⟨_, rfl⟩
  have hTl : T.length = n := by rw [← hT]; simp [txsOf]
  have hTg : ∀ k (hk : k < T.length), T[k] = (txAt W k).data.toList := by
    intro k hk
    subst hT
    simp [txsOf]
  have hL : (progTx W).data.toList = Lib.join T [32] := by
    unfold progTx
    rw [if_pos hp, hl, ← hT, join_prog]
  have hw : prWords (progTx W).data.toList = T := by
    by_cases h0 : n = 0
    · have : T = [] := List.eq_nil_of_length_eq_zero (by rw [hTl]; exact h0)
      rw [hL, this]; rfl
    · have hne : T ≠ [] := fun e => by rw [e] at hTl; simp at hTl; omega
      have hs := split_joinS 32 T hne (fun x hx => by
        obtain ⟨k, hk, rfl⟩ := List.getElem_of_mem hx
        rw [hTg k hk]
        exact insTx_noC (hi k (by rw [← hTl]; exact hk)))
      unfold prWords
      rw [hL, if_neg, hs]
      intro e
      rw [e] at hs
      have h1 : T[0]? = some [] := by rw [← hs]; rfl
      have hk0 : 0 < T.length := by omega
      rw [List.getElem?_eq_getElem hk0, hTg 0 hk0] at h1
      have h2 := (hr 0 (by omega)).2.2
      have h3 := congrArg List.length (Option.some.inj h1)
      have h4 : (txAt W 0).data.toList.length = (txAt W 0).size := by simp
      rw [h4, List.length_nil] at h3
      omega
  have hio : insOf (progTx W).data.toList = W := by
    unfold insOf
    rw [hw]
    refine List.ext_getElem (by rw [List.length_map, hTl, hl]) fun k h1 h2 => ?_
    have hk : k < n := by rw [← hl]; exact h2
    rw [List.getElem_map, hTg k (by rw [hTl]; exact hk), (hr k hk).1]
    have e : W.getD k (0, 0, ByteArray.empty) = W[k] := by rw [List.getD_eq_getElem?_getD, List.getElem?_eq_getElem h2]; rfl
    unfold ins0 ins1 ins2
    rw [e]
  have := readP_good (l := (progTx W).data.toList) (by rw [hio]; exact hp) (fun x hx => by
    rw [hw] at hx
    obtain ⟨k, hk, rfl⟩ := List.getElem_of_mem hx
    rw [hTg k hk]
    exact (hr k (by rw [← hTl]; exact hk)).2.1)
  rw [hio] at this
  exact this
end Go.Proofs.YtgijalecpeabjaaDoor
