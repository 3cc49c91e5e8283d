/- WordsOf of the model, and both answers as slices of the same texts. Only new blocks are made. -/
import Derived.Test.YtbcdinjlpgfoiaaWords3
namespace Go.Proofs.Ytbcdinjlpgfoiaa
open Go.ChangeShapes Go.WideShapes Go.ChangeAt Go.RowKit
set_option linter.unusedVariables false

/-- The slice (q, length of W) holds the words W in a row from block 'base' on. -/
def Ws (base : Nat) (w : World) (q : Option Addr) (W : List (List UInt8)) : Prop :=
  W.length = 0 ∨ ∃ g cur, q = some ⟨g, 0, none⟩ ∧ base ≤ g ∧ Row w g 9 cur ∧ W.length ≤ cur.size ∧ ∀ j (h : j < W.length), cur[j]? = some (encS W[j])

theorem ws_of_own {base : Nat} {w : World} {q : Option Addr} {cp : Nat} {W V : List (List UInt8)} (h : w.ownsRow base 9 1 (.slice q W.length cp) W.length (W.map encS)) (hV : V = W.take V.length) : Ws base w q V := by
  have hle : V.length ≤ W.length := by have := congrArg List.length hV; simp at this; omega
  rcases h.2 with ⟨_, h2⟩ | ⟨g, cap, cur, hv, hb, hh, h1, _, h3, h4⟩
  · exact .inl (by omega)
  · simp only [Value.slice.injEq, true_and] at hv
    obtain ⟨rfl, rfl⟩ := hv
    refine .inr ⟨g, cur, rfl, hb, hh, by omega, fun j hj => ?_⟩
    have e : (cur.toList.take (W.length * 1))[j]? = (W.map encS)[j]? := by rw [h4]
    rw [List.getElem?_take_of_lt (by omega)] at e
    have e2 : cur[j]? = cur.toList[j]? := by simp
    rw [e2, e]
    have hVj : V[j] = W[j]'(by omega) := by
      have : V[j]? = (W.take V.length)[j]? := by rw [← hV]
      rw [List.getElem?_take_of_lt hj, List.getElem?_eq_getElem hj, List.getElem?_eq_getElem (by omega)] at this
      simpa using this
    rw [hVj]
    simp [show j < W.length by omega]

def strsOf (W : List (List UInt8)) : Strs := W.map fun b => ⟨b.toArray⟩
theorem strAt_of (W : List (List UInt8)) (j : Nat) (h : j < W.length) : strAt (strsOf W) j = ⟨W[j].toArray⟩ := by
  unfold strAt strsOf
  rw [List.getD_eq_getElem?_getD, List.getElem?_map, List.getElem?_eq_getElem h]; rfl

/-- Every word is short. -/
def Short (W : List (List UInt8)) : Prop := W.length ≤ 20 ∧ ∀ j (h : j < W.length), W[j].length ≤ maxLen

theorem strs_of_ws {base : Nat} {w : World} {q : Option Addr} {W : List (List UInt8)} (h : Ws base w q W) (hs : Short W) : StrsAt w q W.length (strsOf W) := by
  refine ⟨by simp [strsOf], by have := hs.1; unfold maxLen; omega, fun i hi => by rw [strAt_of W i hi]; exact hs.2 i hi, ?_⟩
  rcases h with h0 | ⟨g, cur, rfl, _, hr, _, hc⟩
  · exact .inl h0
  · refine .inr ⟨g, 0, rfl, hr.lt, fun i hi => ?_⟩
    rw [strAt_of W i hi]
    have := hc i hi
    unfold Row at hr
    simp [World.cell?, hr, this, encS]

def MadeWs (W : List (List UInt8)) (w : World) (e : Ending) (w' : World) : Prop :=
  ∃ q cp, e = .returned (.slice q W.length cp) ∧ Ws w.heap.size w' q W ∧ Below w.heap.size w w'

theorem words_ws (s : ByteArray) (w : World) (hs : s.size ≤ 1048576) :
    Calls Try.prog 24 #[.string s] w (MadeWs ((wordsL s.data.toList).take 20) w) :=
  (words_any s w hs).mono fun e w' ⟨v, he, hown, hb⟩ => by
    obtain ⟨q, cp, rfl⟩ := own_form hown
    exact ⟨q, cp, he, ws_of_own hown (List.take_length).symm, hb⟩

set_option maxHeartbeats 1000000 in
theorem swords_ws (s : ByteArray) (w : World) (hs : s.size ≤ 1048576) :
    Calls Try.prog 26 #[.string s] w (MadeWs ((wordsL s.data.toList).take 20) w) := by
  obtain ⟨W, hW⟩ : ∃ W, wordsL s.data.toList = W := ⟨_, rfl⟩
  have HW := Lib.hid hW
  rw [hW]
  clear hW
  go_enter Try.func26, Try.ntmps26
  go_wp2_with fail
  refine (l1words_any s _ hs).mono ?_
  rw [HW.out]
  rintro e w1 ⟨v, rfl, hown, hB, hlen⟩
  obtain ⟨q, cp, hv⟩ := own_form hown
  subst hv
  have HOWN := Lib.hid hown
  have HB := Lib.hid hB
  have hcp : W.length ≤ cp := by
    rcases hown.2 with ⟨h1, h2⟩ | ⟨g, cap, cur, hv, _, _, h1, _⟩
    · omega
    · simp only [Value.slice.injEq, true_and] at hv
      obtain ⟨_, rfl⟩ := hv
      exact h1
  have hcm : cp ≤ maxLen := by
    rcases hown.2 with ⟨h1, h2⟩ | ⟨g, cap, cur, hv, _, _, _, h1, _⟩
    · simp only [Value.slice.injEq] at h1; unfold maxLen; omega
    · simp only [Value.slice.injEq, true_and] at hv
      obtain ⟨_, rfl⟩ := hv
      exact h1
  unfold maxLen at hcm
  by_cases h20 : 20 < W.length
  · have hl : (W.take 20).length = 20 := by simp; omega
    have HT := Lib.hid (show Ws w.heap.size w1 q (W.take 20) from ws_of_own hown (by rw [hl]))
    have HL := Lib.hid hl
    have hd : (20 : Int) < (W.length : Int) := by omega
    have hd0 : decide ((20 : Int) < (W.length : Int)) = true := by simp; omega
    clear hown hB hl hlen
    go_wp2
    go_ret
    refine ⟨q, cp, ?_, HT.out, HB.out⟩
    rw [HL.out]; rfl
  · have hl : W.take 20 = W := List.take_of_length_le (by omega)
    have HT := Lib.hid (show Ws w.heap.size w1 q W from ws_of_own hown (by rw [List.take_length]))
    have HL := Lib.hid hl
    have hd0 : decide ((20 : Int) < (W.length : Int)) = false := by simp; omega
    clear hown hB hl hlen
    go_wp2
    go_ret
    refine ⟨q, cp, ?_, ?_, HB.out⟩
    · rw [HL.out]; rfl
    · rw [HL.out]; exact HT.out

theorem mark_none (q : Option Addr) (cap k0 : Nat) (w : World) : Calls Try.prog 39 #[.slice q 0 cap, .int .i64 k0] w fun e w' => e = .returned (.int .i64 k0) ∧ w = w' := by
  go_enter Try.func39, Try.ntmps39
  go_wp2
  go_loop [1, 5] (fun t i => t = .int .i64 k0 ∧ i = .int .i64 0) (fun _ _ => 0)
  case atStart => exact ⟨rfl, rfl⟩
  case round =>
    obtain ⟨rfl, rfl⟩ := hrel
    go_wp2
    go_ret
    exact ⟨rfl, rfl⟩

theorem held_none (q : Option Addr) (cap k0 : Nat) (w : World) : Calls Try.prog 40 #[.slice q 0 cap, .int .i64 k0] w fun e w' => e = .returned (.int .i64 k0) ∧ w = w' := by
  go_enter Try.func40, Try.ntmps40
  go_wp2
  go_loop [1, 5] (fun t i => t = .int .i64 k0 ∧ i = .int .i64 0) (fun _ _ => 0)
  case atStart => exact ⟨rfl, rfl⟩
  case round =>
    obtain ⟨rfl, rfl⟩ := hrel
    go_wp2
    go_ret
    exact ⟨rfl, rfl⟩
end Go.Proofs.Ytbcdinjlpgfoiaa
