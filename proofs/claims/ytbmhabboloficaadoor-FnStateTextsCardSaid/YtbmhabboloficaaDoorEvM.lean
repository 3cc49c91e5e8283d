
/- Texts of events: which text an event has, which event a text is. No walk in this text. -/
import Derived.Test.YtbmhabboloficaaDoorStTx
import Derived.Test.YtbmhabboloficaaDoorEvOk
import Derived.Test.YtbmhabboloficaaDoorNum
import Derived.Test.YtbmhabboloficaaDoorCut
namespace Go.Proofs.YtbmhabboloficaaDoor
open Go.ChangeShapes Go.WideShapes Go.ChangeAt Go.RowKit
set_option linter.unusedVariables false
set_option maxRecDepth 100000

def evW (k : Int) : ByteArray := if k = 1 then ⟨#[115, 116, 101, 112]⟩ else if k = 2 then ⟨#[99, 114, 97, 115, 104]⟩ else ⟨#[116, 105, 99, 107]⟩
def evTx (k v : Int) : ByteArray := if evB k v 4 then (if k = 3 then evW 3 else evW k ++ ⟨#[32]⟩ ++ decB v) else ByteArray.empty
theorem evB_iff {k v : Int} : evB k v 4 = true ↔ (0 ≤ v ∧ v < 4 ∧ (k = 1 ∨ k = 2 ∨ k = 3 ∧ v = 0)) := by unfold evB; simp
theorem evTx_no {k v : Int} (h : evB k v 4 = false) : evTx k v = ByteArray.empty := by unfold evTx; rw [h]; rfl
theorem evTx_3 : evTx 3 0 = ⟨#[116, 105, 99, 107]⟩ := by unfold evTx; rw [evB_iff.2 (by omega)]; rfl
theorem evTx_12 {k v : Int} (h : evB k v 4 = true) (h3 : k ≠ 3) : evTx k v = evW k ++ ⟨#[32]⟩ ++ decB v := by unfold evTx; rw [h, if_pos rfl, if_neg h3]
theorem evW_noC (k : Int) : noC 32 (evW k).data.toList := by
  unfold evW noC
  split
  · decide
  · split <;> decide
theorem cut_one {c : UInt8} : ∀ {a a' r r' : List UInt8}, noC c a → noC c a' → a ++ c :: r = a' ++ c :: r' → a = a' ∧ r = r'
  | [], [], _, _, _, _, h => ⟨rfl, by simpa using h⟩
  | [], y :: t, _, _, _, h2, h => by
    simp only [List.nil_append, List.cons_append, List.cons.injEq] at h
    exact absurd h.1.symm (h2 y (by simp))
  | x :: t, [], _, _, h1, _, h => by
    simp only [List.nil_append, List.cons_append, List.cons.injEq] at h
    exact absurd h.1 (h1 x (by simp))
  | x :: t, y :: u, _, _, h1, h2, h => by
    simp only [List.cons_append, List.cons.injEq] at h
    obtain ⟨e1, e2⟩ := cut_one (fun z hz => h1 z (by simp [hz])) (fun z hz => h2 z (by simp [hz])) h.2
    exact ⟨by rw [h.1, e1], e2⟩

/-- The kind with a word. -/
def evName (s : ByteArray) : Int := if s = evW 1 then 1 else if s = evW 2 then 2 else if s = evW 3 then 3 else 0
theorem evName_W {k : Int} (h : k = 1 ∨ k = 2 ∨ k = 3) : evName (evW k) = k := by
  rcases h with rfl | rfl | rfl <;> decide
theorem numD_nil : numD [] = none := by
  cases h : numD [] with
  | none => rfl
  | some v =>
    have h1 := (numD_iff.1 h).1
    have := itoa_ne v
    exact absurd h1 this
/-- Where a text is that of an event, the word ahead of its blank and the number behind it are the event's. -/
theorem guess_right {s a r : ByteArray} {b : Bool} (ha : noC 32 a.data.toList) (ht : b = true → s.data.toList = a.data.toList ++ 32 :: r.data.toList) (hf : b = false → a = s ∧ r.size = 0) {k v : Int} (hv : evB k v 4 = true) (hs : evTx k v = s) :
    evName a = k ∧ (numD r.data.toList).getD 0 = v := by
  have hb := evB_iff.1 hv
  by_cases h3 : k = 3
  · subst h3
    obtain rfl : v = 0 := by omega
    rw [evTx_3] at hs
    cases b with
    | true =>
      have h := ht rfl
      rw [← hs] at h
      have hm : (32 : UInt8) ∈ (⟨#[116, 105, 99, 107]⟩ : ByteArray).data.toList := by rw [h]; simp
      exact absurd hm (by decide)
    | false =>
      obtain ⟨rfl, h0⟩ := hf rfl
      have hr : r.data.toList = [] := List.eq_nil_of_length_eq_zero (by rw [Array.length_toList]; exact h0)
      rw [hr, numD_nil]
      exact ⟨by rw [← hs]; decide, rfl⟩
  · rw [evTx_12 hv h3] at hs
    have hl : s.data.toList = (evW k).data.toList ++ 32 :: (decB v).data.toList := by rw [← hs]; simp
    cases b with
    | true =>
      obtain ⟨e1, e2⟩ := cut_one ha (evW_noC k) ((ht rfl).symm.trans hl)
      rw [ba_eq e1, e2, decB_list, numD_itoa (by omega) (by omega)]
      exact ⟨evName_W (by omega), rfl⟩
    | false =>
      obtain ⟨rfl, _⟩ := hf rfl
      rw [hl] at ha
      exact absurd rfl (ha 32 (by simp))

/-- What is read of a text as an event. -/
noncomputable def revent (s : ByteArray) : Option (Int × Int) := open Classical in if h : ∃ p : Int × Int, evB p.1 p.2 4 = true ∧ evTx p.1 p.2 = s then some h.choose else none
theorem ev_small {v : Int} {k : Nat} (hk : 1 ≤ k) (h0 : 0 ≤ v) (h1 : v.toNat < 10 ^ k) : (decB v).size ≤ k := by
  have := itoa_len_k k hk h0 h1
  simpa [decB, ByteArray.size] using this
theorem evTx_len {k v : Int} (h : evB k v 4 = true) : 0 < (evTx k v).size ∧ (evTx k v).size ≤ 7 := by
  have hb := evB_iff.1 h
  by_cases h3 : k = 3
  · subst h3
    obtain rfl : v = 0 := by omega
    rw [evTx_3]
    decide
  · rw [evTx_12 h h3, ByteArray.size_append, ByteArray.size_append]
    have h1 := @ev_small v 1 (by decide) (by omega) (by omega)
    have h2 : (evW k).size ≤ 5 := by
      unfold evW
      split
      · decide
      · split <;> decide
    show 0 < _ + 1 + _ ∧ _ + 1 + _ ≤ 7
    omega
theorem evTx_inj {k v m u : Int} (h : evB k v 4 = true) (h2 : evB m u 4 = true) (he : evTx k v = evTx m u) : k = m ∧ v = u := by
  obtain ⟨a, r, b, ha, ht, hf⟩ : ∃ (a r : ByteArray) (b : Bool), noC 32 a.data.toList ∧ (b = true → (evTx k v).data.toList = a.data.toList ++ 32 :: r.data.toList) ∧ (b = false → a = evTx k v ∧ r.size = 0) := by
    have hb := evB_iff.1 h
    by_cases h3 : k = 3
    · subst h3
      obtain rfl : v = 0 := by omega
      rw [evTx_3]
      exact ⟨⟨#[116, 105, 99, 107]⟩, ByteArray.empty, false, (by unfold noC; decide), (fun e => by cases e), fun _ => ⟨rfl, rfl⟩⟩
    · rw [evTx_12 h h3]
      exact ⟨evW k, decB v, true, evW_noC k, (fun _ => by simp), (fun e => by cases e)⟩
  obtain ⟨e1, e2⟩ := guess_right ha ht hf h rfl
  obtain ⟨e3, e4⟩ := guess_right ha ht hf h2 he.symm
  exact ⟨e1.symm.trans e3, e2.symm.trans e4⟩
theorem revent_iff {s : ByteArray} {k v : Int} : revent s = some (k, v) ↔ evB k v 4 = true ∧ evTx k v = s := by
  unfold revent
  constructor
  · intro h
    split at h
    · rename_i hx
      have := hx.choose_spec
      rw [Option.some.injEq] at h
      rw [h] at this
      exact this
    · cases h
  · rintro ⟨h1, h2⟩
    have hx : ∃ p : Int × Int, evB p.1 p.2 4 = true ∧ evTx p.1 p.2 = s := ⟨(k, v), h1, h2⟩
    rw [dif_pos hx]
    have hc := hx.choose_spec
    obtain ⟨e1, e2⟩ := evTx_inj hc.1 h1 (hc.2.trans h2.symm)
    rw [Option.some.injEq]
    exact Prod.ext e1 e2
theorem revent_none {s : ByteArray} (h : ∀ k v, evB k v 4 = true → evTx k v ≠ s) : revent s = none := by
  cases hr : revent s with
  | none => rfl
  | some p =>
    obtain ⟨k, v⟩ := p
    have := revent_iff.1 hr
    exact absurd this.2 (h k v this.1)
/-- Either the guess is the event, or there is none. -/
theorem guess_way {s a r : ByteArray} {b : Bool} (ha : noC 32 a.data.toList) (ht : b = true → s.data.toList = a.data.toList ++ 32 :: r.data.toList) (hf : b = false → a = s ∧ r.size = 0) :
    ((evTx (evName a) ((numD r.data.toList).getD 0) = s ∧ 0 < s.size) → revent s = some (evName a, (numD r.data.toList).getD 0)) ∧
    (¬ (evTx (evName a) ((numD r.data.toList).getD 0) = s ∧ 0 < s.size) → revent s = none) := by
  constructor
  · rintro ⟨h1, h0⟩
    refine revent_iff.2 ⟨?_, h1⟩
    cases hq : evB (evName a) ((numD r.data.toList).getD 0) 4 with
    | true => rfl
    | false =>
      rw [evTx_no hq] at h1
      rw [← h1] at h0
      exact absurd h0 (by decide)
  · intro h
    refine revent_none fun k v hv hs => h ?_
    obtain ⟨e1, e2⟩ := guess_right ha ht hf hv hs
    rw [e1, e2]
    exact ⟨hs, by rw [← hs]; exact (evTx_len hv).1⟩
theorem revent_long {s : ByteArray} (h : 20 < s.size) : revent s = none :=
  revent_none fun k v hv hs => by have := (evTx_len hv).2; rw [hs] at this; omega
end Go.Proofs.YtbmhabboloficaaDoor
