
/- A step of the two stacks is a step of the one stack. No code. -/
import Derived.Test.YthnlllbanfemaaaGreatDoorStepC
namespace Go.Proofs.YthnlllbanfemaaaGreatDoor
open Go.ChangeShapes Go.WideShapes Go.ChangeAt Go.RowKit
set_option linter.unusedVariables false
set_option maxRecDepth 100000

theorem ops14 {op : Nat} (h1 : 1 ≤ op) (h2 : op ≤ 14) : op = 1 ∨ op = 2 ∨ op = 3 ∨ op = 4 ∨ op = 5 ∨ op = 6 ∨ op = 7 ∨ op = 8 ∨ op = 9 ∨ op = 10 ∨ op = 11 ∨ op = 12 ∨ op = 13 ∨ op = 14 := by omega
theorem gives_kinds {op : Nat} (h1 : 1 ≤ op) (h2 : op ≤ 14) : givesB op = ⟨#[84]⟩ ∨ givesB op = ⟨#[78]⟩ ∨ givesB op = ⟨#[]⟩ := by
  rcases ops14 h1 h2 with rfl | rfl | rfl | rfl | rfl | rfl | rfl | rfl | rfl | rfl | rfl | rfl | rfl | rfl
  · exact .inl rfl
  · exact .inl rfl
  · exact .inr (.inl rfl)
  · exact .inl rfl
  · exact .inr (.inl rfl)
  · exact .inr (.inl rfl)
  · exact .inl rfl
  · exact .inr (.inl rfl)
  · exact .inr (.inl rfl)
  · exact .inr (.inl rfl)
  · exact .inr (.inl rfl)
  · exact .inr (.inl rfl)
  · exact .inr (.inr rfl)
  · exact .inr (.inr rfl)
theorem putN_none {op : Nat} {n : Int} {s : ByteArray} {av : EVs} {ws : Strs} (h1 : 1 ≤ op) (h2 : op ≤ 14) (h : givesB op = ⟨#[78]⟩) : (putV op n s av ws).1 = ByteArray.empty := by
  rcases ops14 h1 h2 with rfl | rfl | rfl | rfl | rfl | rfl | rfl | rfl | rfl | rfl | rfl | rfl | rfl | rfl
  all_goals first | rfl | (exfalso; revert h; decide)
theorem evStep_some {op : Nat} {n : Int} {s : ByteArray} {ws : Strs} {S S0 av : EVs} {O : Recs} {y : EVs × Recs} {st0 : ByteArray} (h1 : 1 ≤ op) (h2 : op ≤ 14)
    (e1 : S.take (S.length - (takesB op).size) = S0) (e2 : S.drop (S.length - (takesB op).size) = av) (hs : st0.size = S0.length) (hall : ∀ v ∈ S0, v.1.size ≤ 40) (h : evStep op n s ws (S, O) = some y) :
    y.2 = stO op av O ∧ txs (st0 ++ givesB op).data.toList y.1 = stT op n s ws av (txs st0.data.toList S0) ∧ nms (st0 ++ givesB op).data.toList y.1 = stN op n s ws av (nms st0.data.toList S0) ∧ ∀ t ∈ stT op n s ws av (txs st0.data.toList S0), t.size ≤ 40 := by
  have hl : st0.data.toList.length = S0.length := by rw [← hs]; rfl
  have hT0 : ∀ t ∈ txs st0.data.toList S0, t.size ≤ 40 := fun t ht => by
    obtain ⟨v, hv, rfl⟩ := txs_mem _ _ _ ht
    exact hall v hv
  unfold evStep at h
  simp only [e1, e2] at h
  by_cases hg : (givesB op).size = 0
  · rw [if_pos hg] at h
    have h := (Option.some.inj h).symm
    subst h
    have hge : (givesB op).data.toList = [] := List.eq_nil_of_length_eq_zero (by simpa using hg)
    refine ⟨by unfold stO; rw [if_pos hg], ?_, ?_, ?_⟩
    · unfold stT; rw [if_pos hg]; simp [hge]
    · unfold stN; rw [if_pos hg]; simp [hge]
    · unfold stT; rw [if_pos hg]; exact hT0
  · rw [if_neg hg] at h
    by_cases h40 : (putV op n s av ws).1.size ≤ 40
    · rw [if_pos h40] at h
      have h := (Option.some.inj h).symm
      subst h
      refine ⟨by unfold stO; rw [if_neg hg], ?_, ?_, ?_⟩
      · unfold stT; rw [if_neg hg]; simp only [ByteArray.data_append, Array.toList_append]; exact txs_app _ _ _ _ hl
      · unfold stN; rw [if_neg hg]; simp only [ByteArray.data_append, Array.toList_append]; exact nms_app _ _ _ _ hl
      · unfold stT; rw [if_neg hg]
        intro t ht
        rcases List.mem_append.1 ht with ht | ht
        · exact hT0 t ht
        · obtain ⟨v, hv, rfl⟩ := txs_mem _ _ _ ht
          simp at hv
          subst hv
          exact h40
    · rw [if_neg h40] at h; cases h
theorem evStep_none {op : Nat} {n : Int} {s : ByteArray} {ws : Strs} {S S0 av : EVs} {O : Recs} {T0 : Strs} (h1 : 1 ≤ op) (h2 : op ≤ 14)
    (e1 : S.take (S.length - (takesB op).size) = S0) (e2 : S.drop (S.length - (takesB op).size) = av) (h : evStep op n s ws (S, O) = none) : ∃ x, stT op n s ws av T0 = T0 ++ [x] ∧ 40 < x.size := by
  unfold evStep at h
  simp only [e1, e2] at h
  by_cases hg : (givesB op).size = 0
  · rw [if_pos hg] at h; cases h
  · rw [if_neg hg] at h
    by_cases h40 : (putV op n s av ws).1.size ≤ 40
    · rw [if_pos h40] at h; cases h
    · rcases gives_kinds h1 h2 with hk | hk | hk
      · refine ⟨(putV op n s av ws).1, ?_, by omega⟩
        unfold stT
        rw [if_neg hg, hk]
        rfl
      · rw [putN_none h1 h2 hk] at h40
        exact absurd (by decide) h40
      · rw [hk] at hg; exact absurd rfl hg
end Go.Proofs.YthnlllbanfemaaaGreatDoor
