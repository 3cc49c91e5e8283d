
/- WordsOf of the model, and both answers as slices of the same texts. Only new blocks are made. -/
import Derived.Test.YthnlllbanfemaaaGreatDoorWords3
import Derived.Test.YthnlllbanfemaaaGreatDoorWs
namespace Go.Proofs.YthnlllbanfemaaaGreatDoor
open Go.ChangeShapes Go.WideShapes Go.ChangeAt Go.RowKit
set_option linter.unusedVariables false
set_option maxRecDepth 100000

def MadeWs (W : List (List UInt8)) (w : World) (e : Ending) (w' : World) : Prop :=
  ∃ q cp, e = .returned (.slice q W.length cp) ∧ Ws w.heap.size w' q W ∧ Below w.heap.size w w'

theorem words_ws (s : ByteArray) (w : World) (hs : s.size ≤ 1048576) :
    Calls Tryz.prog 32 #[.string s] w (MadeWs ((wordsL s.data.toList).take 20) w) :=
  (words_any s w hs).mono fun e w' ⟨v, he, hown, hb⟩ => by
    obtain ⟨q, cp, rfl⟩ := own_form hown
    exact ⟨q, cp, he, ws_of_own hown (List.take_length).symm, hb⟩

set_option maxHeartbeats 1000000 in
theorem swords_ws (s : ByteArray) (w : World) (hs : s.size ≤ 1048576) :
    Calls Tryz.prog 45 #[.string s] w (MadeWs ((wordsL s.data.toList).take 20) w) := by
  obtain ⟨W, hW⟩ : ∃ W, wordsL s.data.toList = W := ⟨_, rfl⟩
  have HW := Lib.hid hW
  rw [hW]
  clear hW
  go_enter Tryz.func45, Tryz.ntmps45
  go_wp2_with fail
  refine (l1words_any s _ hs).mono ?_
  rw [HW.out]
  rintro e w1 ⟨v, rfl, hown, hB, hlen⟩
  obtain ⟨q, cp, hv⟩ := own_form hown
  subst hv
  have HOWN := Lib.hid hown
  have HB := Lib.hid hB
  have hcp : W.length ≤ cp := by
    rcases hown.2 with ⟨h1, h2⟩ | ⟨g, cap, cur, hv, _, _, h1, _⟩
    · omega
    · simp only [Value.slice.injEq, true_and] at hv
      obtain ⟨_, rfl⟩ := hv
      exact h1
  have hcm : cp ≤ maxLen := by
    rcases hown.2 with ⟨h1, h2⟩ | ⟨g, cap, cur, hv, _, _, _, h1, _⟩
    · simp only [Value.slice.injEq] at h1; unfold maxLen; omega
    · simp only [Value.slice.injEq, true_and] at hv
      obtain ⟨_, rfl⟩ := hv
      exact h1
  unfold maxLen at hcm
  by_cases h20 : 20 < W.length
  · have hl : (W.take 20).length = 20 := by simp; omega
    have HT := Lib.hid (show Ws w.heap.size w1 q (W.take 20) from ws_of_own hown (by rw [hl]))
    have HL := Lib.hid hl
    have hd : (20 : Int) < (W.length : Int) := by omega
    have hd0 : decide ((20 : Int) < (W.length : Int)) = true := by simp; omega
    clear hown hB hl hlen
    go_wp2
    go_ret
    refine ⟨q, cp, ?_, HT.out, HB.out⟩
    rw [HL.out]; rfl
  · have hl : W.take 20 = W := List.take_of_length_le (by omega)
    have HT := Lib.hid (show Ws w.heap.size w1 q W from ws_of_own hown (by rw [List.take_length]))
    have HL := Lib.hid hl
    have hd0 : decide ((20 : Int) < (W.length : Int)) = false := by simp; omega
    clear hown hB hl hlen
    go_wp2
    go_ret
    refine ⟨q, cp, ?_, ?_, HB.out⟩
    · rw [HL.out]; rfl
    · rw [HL.out]; exact HT.out

end Go.Proofs.YthnlllbanfemaaaGreatDoor
