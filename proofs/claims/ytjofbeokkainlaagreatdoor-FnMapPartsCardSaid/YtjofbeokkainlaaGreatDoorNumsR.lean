
/- Numbers of results lie in 64 bits; the text of a result with one more run. No code. -/
import Derived.Test.YtjofbeokkainlaaGreatDoorMg40
import Derived.Test.YtjofbeokkainlaaGreatDoorMg47
namespace Go.Proofs.YtjofbeokkainlaaGreatDoor
open Go.ChangeShapes Go.WideShapes Go.ChangeAt Go.RowKit
set_option linter.unusedVariables false
set_option maxRecDepth 100000

def NumsR (V : Recs) : Prop := ∀ r ∈ V, In64 r.2
theorem nums_at {V : Recs} (h : NumsR V) (i : Nat) : In64 (numAt V i) := by
  unfold numAt
  by_cases hi : i < V.length
  · rw [List.getD_eq_getElem?_getD, List.getElem?_eq_getElem hi]
    exact h _ (List.getElem_mem hi)
  · rw [List.getD_eq_getElem?_getD, List.getElem?_eq_none (by omega)]
    exact ⟨by decide, by decide⟩
theorem combN_in {op a b : Int} (ha : In64 a) (hb : In64 b) : In64 (combN op a b) := by
  unfold combN
  split
  · exact in64_wrap _
  · split
    · split
      · exact hb
      · exact ha
    · split
      · split
        · exact hb
        · exact ha
      · exact ⟨by decide, by decide⟩
theorem cStep_in {op : Int} {W : Recs} {r : ByteArray × Int} (hW : NumsR W) (hr : In64 r.2) : NumsR (cStep op W r) := by
  unfold cStep
  split
  · intro x hx
    rcases List.mem_or_eq_of_mem_set hx with h | h
    · exact hW x h
    · subst h
      exact combN_in (nums_at hW _) hr
  · intro x hx
    rcases List.mem_append.1 hx with h | h
    · exact hW x h
    · simp only [List.mem_singleton] at h
      subst h; exact hr
theorem foldl_in {op : Int} : ∀ (L W : Recs), NumsR W → NumsR L → NumsR (L.foldl (cStep op) W)
  | [], W, hW, _ => hW
  | r :: L, W, hW, hL => foldl_in L _ (cStep_in hW (hL r (by simp))) (fun x hx => hL x (by simp [hx]))
theorem combW_in {op : Int} {V : Recs} (h : NumsR V) : NumsR (combW op V) := by
  unfold combW
  split
  · unfold cTo
    refine foldl_in _ _ (fun r hr => by simp at hr) fun r hr => ?_
    have hr := List.mem_of_mem_take hr
    cases hok : recsOkB V with
    | false => rw [sortedB_not hok] at hr; simp at hr
    | true => rw [sortedB_is hok] at hr; exact h r ((sortL_perm V).mem_iff.1 hr)
  · intro r hr; simp at hr
theorem liftW_in {op : Int} {V : Recs} (h : NumsR V) : NumsR (liftW op V) := by
  unfold liftW
  split
  · unfold liftL
    intro r hr
    obtain ⟨s, hs, rfl⟩ := List.mem_map.1 hr
    show In64 (if op = 4 then 1 else s.2)
    split
    · exact ⟨by decide, by decide⟩
    · exact h s hs
  · intro r hr; simp at hr
theorem mapJ_in {l : Instrs} {each : Bool} {op n1 : Int} {m : Strs} {sl : Nat} {t : Int} (hn : ∀ i, i < l.length → In64 (ins1 l i)) (p : Nat) : NumsR ((mapJ l each op n1 m sl t).1.getD p []) := by
  intro r h
  unfold mapJ at h
  split at h
  · unfold mapR at h
    split at h
    · simp only at h
      by_cases hp : p < n1.toNat
      · rw [runsR_at hp] at h
        unfold ofR at h
        refine combW_in (liftW_in fun s hs => ?_) r h
        exact ((emitR_facts (each := each) _ hn).2.1 s (partL_mem hs)).2
      · rw [List.getD_eq_getElem?_getD, List.getElem?_eq_none (by rw [runsR_len]; omega)] at h
        simp at h
    · simp at h
  · simp at h
theorem redJ_in {l : Instrs} {each : Bool} {op n1 : Int} {m : Strs} {sl : Nat} (hn : ∀ i, i < l.length → In64 (ins1 l i)) (p : Int) : NumsR (redJ l each op n1 m sl p).1 := by
  intro r h
  unfold redJ at h
  split at h
  · split at h
    · simp at h
    · split at h
      · simp only at h
        refine combW_in (fun s hs => ?_) r h
        obtain ⟨L, hL, hs2⟩ := mallW_mem hs
        unfold redL at hL
        obtain ⟨t, _, rfl⟩ := List.mem_map.1 hL
        exact mapJ_in hn _ s hs2
      · simp at h
  · simp at h
theorem redJ_short (l : Instrs) (each : Bool) (op n1 : Int) (m : Strs) (sl : Nat) (p : Int) : ∀ r ∈ (redJ l each op n1 m sl p).1, r.1.size ≤ 40 := by
  intro r hr
  obtain ⟨i, hi, e⟩ := List.mem_iff_getElem.1 hr
  have := (redJ_few l each op n1 m sl p).2 i hi
  rw [at_get _ i hi] at e
  rw [← e]
  exact this
/-- Few parts, few records, short keys, numbers of 64 bits. -/
theorem resR_few {l : Instrs} {each : Bool} {op n1 : Int} {m : Strs} {sl : Nat} (hn : ∀ i, i < l.length → In64 (ins1 l i)) : (resR l each op n1 m sl).2.2.2.length ≤ 3 ∧ ∀ V ∈ (resR l each op n1 m sl).2.2.2, V.length ≤ 600 ∧ ∀ r ∈ V, r.1.size ≤ 40 ∧ In64 r.2 := by
  unfold resR
  split
  · rename_i hj
    have hp := jobB_parts hj
    split
    · exact ⟨by simp, fun V hV => absurd hV (by simp)⟩
    · split
      · exact ⟨by simp, fun V hV => absurd hV (by simp)⟩
      · refine ⟨by simp only [resL_len]; omega, fun V hV => ?_⟩
        simp only at hV
        unfold resL at hV
        obtain ⟨t, _, rfl⟩ := List.mem_map.1 hV
        exact ⟨(redJ_few l each op n1 m sl t).1, fun r hr => ⟨redJ_short l each op n1 m sl t r hr, redJ_in hn t r hr⟩⟩
  · exact ⟨by simp, fun V hV => absurd hV (by simp)⟩
theorem flat_few {LS : List Recs} (h : ∀ V ∈ LS, V.length ≤ 600) : LS.flatten.length ≤ LS.length * 600 := by
  induction LS with
  | nil => simp
  | cons V T ih =>
    rw [List.flatten_cons, List.length_append, List.length_cons]
    have := h V (by simp)
    have := ih fun x hx => h x (by simp [hx])
    omega
theorem fewR_of {LS : List Recs} (h : LS.length ≤ 4) (hv : ∀ V ∈ LS, V.length ≤ 600 ∧ ∀ r ∈ V, r.1.size ≤ 40 ∧ In64 r.2) : FewR LS := by
  have := flat_few (LS := LS) fun V hV => (hv V hV).1
  exact ⟨by omega, by omega, fun V hV r hr => by have := ((hv V hV).2 r hr).1; omega, fun V hV r hr => ((hv V hV).2 r hr).2⟩
theorem outTo_snoc (LS : List Recs) (V : Recs) : outTo (LS ++ [V]) (LS ++ [V]).length = runTo (outTo LS LS.length ++ ⟨#[32, 124]⟩) V V.length := by
  rw [show (LS ++ [V]).length = LS.length + 1 by simp, outTo_step _ _ (by simp)]
  have e : outTo (LS ++ [V]) LS.length = outTo LS LS.length := by
    unfold outTo
    rw [List.take_append_of_le_length (Nat.le_refl _)]
  have e2 : (LS ++ [V]).getD LS.length [] = V := by simp [List.getD_eq_getElem?_getD]
  rw [e, e2]
/-- One run more, of one record: its text follows. -/
theorem resTx_more (f1 f2 : Bool) (t1 t2 : Int) (LS : List Recs) : resTx true f2 t2 (LS ++ [[(⟨#[113]⟩, -5)]]) = resTx true f1 t1 LS ++ ⟨#[32, 124, 32, 113, 61, 45, 53]⟩ := by
  have e : resTx true f2 t2 (LS ++ [[(⟨#[113]⟩, -5)]]) = outTo (LS ++ [[(⟨#[113]⟩, -5)]]) (LS ++ [[((⟨#[113]⟩ : ByteArray), (-5 : Int))]]).length := by unfold resTx; rw [if_pos rfl]
  have e1 : resTx true f1 t1 LS = outTo LS LS.length := by unfold resTx; rw [if_pos rfl]
  rw [e, e1, outTo_snoc]
  show runTo _ _ 1 = _
  have e3 : ∀ t : ByteArray, runTo t [((⟨#[113]⟩ : ByteArray), (-5 : Int))] 1 = t ++ recTx (⟨#[113]⟩, -5) := fun t => rfl
  have e4 : recTx (⟨#[113]⟩, -5) = ⟨#[32, 113, 61, 45, 53]⟩ := by decide +kernel
  rw [e3, e4, ByteArray.append_assoc]
  congr 1
end Go.Proofs.YtjofbeokkainlaaGreatDoor
