
/- A text split at blanks by the library: the pieces are those of the model's split. Only one block is made. -/
import Derived.Test.YtbjlojmadellgaaGreatDoorShelf
import Derived.Test.YtbjlojmadellgaaGreatDoorMg0
import Derived.Test.YtbjlojmadellgaaGreatDoorMg9
import Derived.Test.YtbjlojmadellgaaGreatDoorTabsR
namespace Go.Proofs.YtbjlojmadellgaaGreatDoor
open Go.ChangeShapes Go.WideShapes Go.ChangeAt Go.RowKit
set_option linter.unusedVariables false
set_option maxRecDepth 100000

theorem splitL_form (c : UInt8) : ∀ l, noC c l ∨ ∃ a b, l = a ++ c :: b ∧ noC c a
  | [] => .inl fun x h => by simp at h
  | x :: t => by
    by_cases hx : x = c
    · subst hx
      exact .inr ⟨[], t, rfl, fun y h => by simp at h⟩
    · rcases splitL_form c t with h | ⟨a, b, h1, h2⟩
      · exact .inl fun y hy => by
          rcases List.mem_cons.1 hy with e | e
          · subst e; exact hx
          · exact h y e
      · exact .inr ⟨x :: a, b, by rw [h1]; rfl, fun y hy => by
          rcases List.mem_cons.1 hy with e | e
          · subst e; exact hx
          · exact h2 y e⟩
theorem index_no {c : UInt8} {l : List UInt8} (h : noC c l) : Lib.index l [c] = -1 := by
  refine Lib.index_none fun j hj => ?_
  cases ho : Lib.occAt l [c] j with
  | false => rfl
  | true =>
    have := Lib.occAt_head (s := l) (sub := [c]) (t := []) rfl ho
    exact absurd rfl (h c (List.mem_of_getElem? this))
theorem index_at {c : UInt8} {a b : List UInt8} (h : noC c a) : Lib.index (a ++ c :: b) [c] = (a.length : Int) := by
  refine Lib.index_first (by simp) ?_ fun j hj => ?_
  · rw [Lib.occAt_iff_take _ _ _ (by simp)]
    simp
  · cases ho : Lib.occAt (a ++ c :: b) [c] j with
    | false => rfl
    | true =>
      have h1 := Lib.occAt_head (s := a ++ c :: b) (sub := [c]) (t := []) rfl ho
      rw [List.getElem?_append_left hj] at h1
      exact absurd rfl (h c (List.mem_of_getElem? h1))
theorem splitK_eq (c : UInt8) : ∀ (n : Nat) (l : List UInt8), l.length ≤ n → Lib.splitK [c] 0 (Lib.count l [c]) l = splitL c l
  | n, l, hn => by
    rcases splitL_form c l with h | ⟨a, b, rfl, h⟩
    · rw [Lib.count_miss (index_no h), splitL_no c l h]; rfl
    · have hi := index_at (b := b) h
      have hb : (a ++ c :: b).drop (a.length + 1) = b := by
        rw [show a.length + 1 = (a ++ [c]).length by simp, show a ++ c :: b = (a ++ [c]) ++ b by simp, List.drop_left]
      rw [Lib.count_hit (by simp) hi, Nat.add_comm, splitL_at c a b h]
      show (if (Lib.index (a ++ c :: b) [c] == -1) = true then _ else _) = _
      rw [hi, if_neg (by rw [beq_iff_eq]; omega)]
      have e0 : ((a.length : Nat) : Int).toNat = a.length := Int.toNat_natCast _
      simp only [e0, List.length_singleton, hb, Nat.add_zero, List.take_left]
      rw [splitK_eq c (n - 1) b (by simp at hn; omega)]
termination_by n l _ => l.length

def blankB : ByteArray := ⟨#[32]⟩
theorem countB_pieces (s : ByteArray) : Lib.countB s ⟨#[32]⟩ + 1 = (splitL 32 s.data.toList).length ∧ (Lib.splitB ⟨#[32]⟩ 0 (Lib.countB s ⟨#[32]⟩) s).map Value.string = (splitL 32 s.data.toList).map encS := by
  have h1 := Lib.splitB_data ⟨#[32]⟩ 0 (Lib.countB s ⟨#[32]⟩) s
  have h2 : Lib.splitK [32] 0 (Lib.count s.data.toList [32]) s.data.toList = splitL 32 s.data.toList := splitK_eq 32 _ _ (Nat.le_refl _)
  have h3 : (Lib.splitB ⟨#[32]⟩ 0 (Lib.countB s ⟨#[32]⟩) s).map (·.data.toList) = splitL 32 s.data.toList := by rw [h1]; exact h2
  refine ⟨?_, ?_⟩
  · rw [← h3, List.length_map]
    exact (Lib.splitB_all ⟨#[32]⟩ (by decide) 0 _ s rfl).symm
  · rw [← h3, List.map_map]
    apply List.map_congr_left
    intro x _
    simp [encS]

/-- The end of the library's split: a row of its own that holds the pieces. -/
def MadeSplit (W : List (List UInt8)) (w : World) (e : Ending) (w' : World) : Prop :=
  e = .returned (.slice (some ⟨w.heap.size, 0, none⟩) W.length W.length) ∧ Row w' w.heap.size 9 (W.map encS).toArray ∧ Below w.heap.size w w'
theorem libsplit_any (s : ByteArray) (w : World) (hs : s.size ≤ 1048576) (hT : TabsR w) : Calls Tryz.prog 93 #[.string s, .string ⟨#[32]⟩] w (MadeSplit (splitL 32 s.data.toList) w) := by
  obtain ⟨m, hm⟩ := hT.max
  obtain ⟨h1, h2⟩ := countB_pieces s
  refine (Tryz.strings_Split s ⟨#[32]⟩ m w (by omega) hm (by decide)).mono ?_
  rintro e w' ⟨rfl, rfl⟩
  rw [h1, h2]
  exact ⟨rfl, heap_alloc_new _ _, below_alloc (Below.refl _ _) _⟩
end Go.Proofs.YtbjlojmadellgaaGreatDoor
