
/- Every step of a valid program, as one contract. -/
import Derived.Test.YthnlllbanfemaaaGreatDoorSteps
import Derived.Conc.MuLone
namespace Go.Proofs.YthnlllbanfemaaaGreatDoor
open Go.ChangeShapes Go.WideShapes Go.ChangeAt Go.RowKit
set_option linter.unusedVariables false
set_option maxRecDepth 100000

theorem len1 {α : Type} {l : List α} (h : l.length = 1) : ∃ a, l = [a] := by
  match l, h with
  | [a], _ => exact ⟨a, rfl⟩
theorem len2 {α : Type} {l : List α} (h : l.length = 2) : ∃ a b, l = [a, b] := by
  match l, h with
  | [a, b], _ => exact ⟨a, b, rfl⟩
theorem len3 {α : Type} {l : List α} (h : l.length = 3) : ∃ a b c, l = [a, b, c] := by
  match l, h with
  | [a, b, c], _ => exact ⟨a, b, c, rfl⟩
theorem len0 {α : Type} {l : List α} (h : l.length = 0) : l = [] := List.eq_nil_of_length_eq_zero h
/-- Texts, numbers and records behind an instruction. -/
def stT (op : Nat) (n : Int) (s : ByteArray) (ws : Strs) (av : EVs) (T0 : Strs) : Strs := if (givesB op).size = 0 then T0 else T0 ++ txs (givesB op).data.toList [putV op n s av ws]
def stN (op : Nat) (n : Int) (s : ByteArray) (ws : Strs) (av : EVs) (N0 : List Int) : List Int := if (givesB op).size = 0 then N0 else N0 ++ nms (givesB op).data.toList [putV op n s av ws]
def stO (op : Nat) (av : EVs) (O : Recs) : Recs := if (givesB op).size = 0 then (if op = 13 ∨ (evAt av 2).2 ≠ 0 then O ++ [((evAt av 0).1, (evAt av 1).2)] else O) else O
/-- A call of the function F goes into it. -/
def Enters (F : FuncId) : Prop := ∀ (args : Array Value) (w : World), (callFunc F args).run Tryz.prog w = .ok (.enter F args) w
theorem ent_emitStepOf_1 : Enters 144 := fun args w => Go.MuLone.run_callFunc_enter Tryz.func144 (by kernel_rfl) rfl args w
theorem ent_emitStepOf_2 : Enters 146 := fun args w => Go.MuLone.run_callFunc_enter Tryz.func146 (by kernel_rfl) rfl args w
theorem ent_onNums_1 : Enters 143 := fun args w => Go.MuLone.run_callFunc_enter Tryz.func143 (by kernel_rfl) rfl args w
theorem ent_onTexts_1 : Enters 142 := fun args w => Go.MuLone.run_callFunc_enter Tryz.func142 (by kernel_rfl) rfl args w
theorem ent_stepOf_1 : Enters 106 := fun args w => Go.MuLone.run_callFunc_enter Tryz.func106 (by kernel_rfl) rfl args w
theorem ent_stepOf_2 : Enters 109 := fun args w => Go.MuLone.run_callFunc_enter Tryz.func109 (by kernel_rfl) rfl args w
theorem ent_stepOf_3 : Enters 110 := fun args w => Go.MuLone.run_callFunc_enter Tryz.func110 (by kernel_rfl) rfl args w
theorem ent_stepOf_5 : Enters 114 := fun args w => Go.MuLone.run_callFunc_enter Tryz.func114 (by kernel_rfl) rfl args w
theorem ent_stepOf_6 : Enters 116 := fun args w => Go.MuLone.run_callFunc_enter Tryz.func116 (by kernel_rfl) rfl args w
theorem ent_stepOf_7 : Enters 117 := fun args w => Go.MuLone.run_callFunc_enter Tryz.func117 (by kernel_rfl) rfl args w
def StepCall (B M : Nat) (wv : Value) (v : Value) (w : World) (T : Strs) (N : List Int) (O : Recs) : Prop :=
  (∃ F, v = .func (.func F) #[] #[] ∧ Enters F ∧ Calls Tryz.prog F #[.pointer (some ⟨M, 0, none⟩)] w (MEnd B M wv (.tuple #[]) T N O w)) ∨
  (∃ F b, v = .func (.func F) #[] #[.pointer (some ⟨b, 0, none⟩)] ∧ Enters F ∧ Calls Tryz.prog F #[.pointer (some ⟨M, 0, none⟩), .pointer (some ⟨b, 0, none⟩)] w (MEnd B M wv (.tuple #[]) T N O w))

theorem step_call (E D B M : Nat) (wq : Option Addr) (wn wc : Nat) (ws : Strs) (w0 w : World) (op : Nat) (n : Int) (s : ByteArray) (v : Value) (av : EVs) (T0 : Strs) (N0 : List Int) (O : Recs)
    (h1 : 1 ≤ op) (h2 : op ≤ 14) (hv : StepV E D w op n s v) (hD : D ≤ B) (hal : av.length = (takesB op).size) (hav : ∀ x ∈ av, x.1.size ≤ 40 ∧ In64 x.2)
    (h : MAt B M (.slice wq wn wc) w (T0 ++ txs (takesB op).data.toList av) (N0 ++ nms (takesB op).data.toList av) O) (hf : T0.length < 80 ∧ N0.length < 80 ∧ O.length < 80)
    (hw : StrsAt w wq wn ws) (hn : op = 1 → 0 ≤ n) (hT : TabsR w0) (h0 : Below w0.heap.size w0 w) (hB0 : w0.heap.size ≤ B) :
    StepCall B M (.slice wq wn wc) v w (stT op n s ws av T0) (stN op n s ws av N0) (stO op av O) := by
  obtain rfl | rfl | rfl | rfl | rfl | rfl | rfl | rfl | rfl | rfl | rfl | rfl | rfl | rfl : op = 1 ∨ op = 2 ∨ op = 3 ∨ op = 4 ∨ op = 5 ∨ op = 6 ∨ op = 7 ∨ op = 8 ∨ op = 9 ∨ op = 10 ∨ op = 11 ∨ op = 12 ∨ op = 13 ∨ op = 14 := by omega
  · obtain ⟨b, hb, rfl, hr⟩ := hv
    obtain rfl := len0 hal
    have eT0 : T0 ++ txs (takesB 1).data.toList [] = T0 := by
      show T0 ++ [] = _
      simp
    have eN0 : N0 ++ nms (takesB 1).data.toList [] = N0 := by
      show N0 ++ [] = _
      simp
    rw [eT0, eN0] at h
    have eT : stT 1 n s ws [] T0 = T0 ++ [wordAt ws n] := by first | rfl | exact List.append_nil _
    have eN : stN 1 n s ws [] N0 = N0 := by first | rfl | exact List.append_nil _
    have eO : stO 1 [] O = O := rfl
    rw [eT, eN, eO]
    exact .inr ⟨_, b, rfl, ent_stepOf_1, step1_any B M wq wn wc ws w T0 N0 O b n s h hr hw (hn rfl) (by omega)⟩
  · obtain ⟨b, hb, rfl, hr⟩ := hv
    obtain rfl := len0 hal
    have eT0 : T0 ++ txs (takesB 2).data.toList [] = T0 := by
      show T0 ++ [] = _
      simp
    have eN0 : N0 ++ nms (takesB 2).data.toList [] = N0 := by
      show N0 ++ [] = _
      simp
    rw [eT0, eN0] at h
    have eT : stT 2 n s ws [] T0 = T0 ++ [s] := by first | rfl | exact List.append_nil _
    have eN : stN 2 n s ws [] N0 = N0 := by first | rfl | exact List.append_nil _
    have eO : stO 2 [] O = O := rfl
    rw [eT, eN, eO]
    exact .inr ⟨_, b, rfl, ent_stepOf_2, step2_any B M (.slice wq wn wc) w T0 N0 O b n s h hr (by omega)⟩
  · obtain ⟨b, hb, rfl, hr⟩ := hv
    obtain rfl := len0 hal
    have eT0 : T0 ++ txs (takesB 3).data.toList [] = T0 := by
      show T0 ++ [] = _
      simp
    have eN0 : N0 ++ nms (takesB 3).data.toList [] = N0 := by
      show N0 ++ [] = _
      simp
    rw [eT0, eN0] at h
    have eT : stT 3 n s ws [] T0 = T0 := by first | rfl | exact List.append_nil _
    have eN : stN 3 n s ws [] N0 = N0 ++ [n] := by first | rfl | exact List.append_nil _
    have eO : stO 3 [] O = O := rfl
    rw [eT, eN, eO]
    exact .inr ⟨_, b, rfl, ent_stepOf_3, step3_any B M (.slice wq wn wc) w T0 N0 O b n s h hr (by omega)⟩
  · obtain ⟨b, hb, rfl, hrow⟩ := hv
    have hc : w.cell? ⟨b, 0, none⟩ = some (.func (.func (inFn 4)) #[] #[]) := by have := hrow.cell (j := 0) (by simp); simpa using this
    obtain ⟨a, c, rfl⟩ := len2 hal
    have eT0 : T0 ++ txs (takesB 4).data.toList [a, c] = T0 ++ [a.1] ++ [c.1] := by
      show T0 ++ [a.1, c.1] = _
      simp
    have eN0 : N0 ++ nms (takesB 4).data.toList [a, c] = N0 := by
      show N0 ++ [] = _
      simp
    rw [eT0, eN0] at h
    have q0 := hav a (by simp)
    have q1 := hav c (by simp)
    have eT : stT 4 n s ws [a, c] T0 = T0 ++ [a.1 ++ c.1] := by first | rfl | exact List.append_nil _
    have eN : stN 4 n s ws [a, c] N0 = N0 := by first | rfl | exact List.append_nil _
    have eO : stO 4 [a, c] O = O := rfl
    rw [eT, eN, eO]
    exact .inr ⟨_, b, rfl, ent_onTexts_1, step4_any B M (.slice wq wn wc) w T0 N0 O b a.1 c.1 h hc (by omega) q0.1 q1.1 (by omega)⟩
  · obtain rfl := hv
    obtain ⟨a, rfl⟩ := len1 hal
    have eT0 : T0 ++ txs (takesB 5).data.toList [a] = T0 ++ [a.1] := by
      show T0 ++ [a.1] = _
      simp
    have eN0 : N0 ++ nms (takesB 5).data.toList [a] = N0 := by
      show N0 ++ [] = _
      simp
    rw [eT0, eN0] at h
    have q0 := hav a (by simp)
    have eT : stT 5 n s ws [a] T0 = T0 := by first | rfl | exact List.append_nil _
    have eN : stN 5 n s ws [a] N0 = N0 ++ [(a.1.size : Int)] := by first | rfl | exact List.append_nil _
    have eO : stO 5 [a] O = O := rfl
    rw [eT, eN, eO]
    exact .inl ⟨_, rfl, ent_stepOf_5, step5_any B M (.slice wq wn wc) w T0 N0 O a.1 h q0.1 (by omega)⟩
  · obtain rfl := hv
    obtain ⟨a, rfl⟩ := len1 hal
    have eT0 : T0 ++ txs (takesB 6).data.toList [a] = T0 ++ [a.1] := by
      show T0 ++ [a.1] = _
      simp
    have eN0 : N0 ++ nms (takesB 6).data.toList [a] = N0 := by
      show N0 ++ [] = _
      simp
    rw [eT0, eN0] at h
    have q0 := hav a (by simp)
    have eT : stT 6 n s ws [a] T0 = T0 := by first | rfl | exact List.append_nil _
    have eN : stN 6 n s ws [a] N0 = N0 ++ [numI a.1] := by first | rfl | exact List.append_nil _
    have eO : stO 6 [a] O = O := rfl
    rw [eT, eN, eO]
    exact .inl ⟨_, rfl, ent_stepOf_6, step6_any B M (.slice wq wn wc) w T0 N0 O a.1 w0 h q0.1 (by omega) hT h0 hB0⟩
  · obtain rfl := hv
    obtain ⟨a, rfl⟩ := len1 hal
    have eT0 : T0 ++ txs (takesB 7).data.toList [a] = T0 := by
      show T0 ++ [] = _
      simp
    have eN0 : N0 ++ nms (takesB 7).data.toList [a] = N0 ++ [a.2] := by
      show N0 ++ [a.2] = _
      simp
    rw [eT0, eN0] at h
    have q0 := hav a (by simp)
    have eT : stT 7 n s ws [a] T0 = T0 ++ [decB a.2] := by first | rfl | exact List.append_nil _
    have eN : stN 7 n s ws [a] N0 = N0 := by first | rfl | exact List.append_nil _
    have eO : stO 7 [a] O = O := rfl
    rw [eT, eN, eO]
    exact .inl ⟨_, rfl, ent_stepOf_7, step7_any B M (.slice wq wn wc) w T0 N0 O a.2 w0 h q0.2 (by omega) hT h0 hB0⟩
  · obtain ⟨b, hb, rfl, hrow⟩ := hv
    have hc : w.cell? ⟨b, 0, none⟩ = some (.func (.func (inFn 8)) #[] #[]) := by have := hrow.cell (j := 0) (by simp); simpa using this
    obtain ⟨a, c, rfl⟩ := len2 hal
    have eT0 : T0 ++ txs (takesB 8).data.toList [a, c] = T0 := by
      show T0 ++ [] = _
      simp
    have eN0 : N0 ++ nms (takesB 8).data.toList [a, c] = N0 ++ [a.2] ++ [c.2] := by
      show N0 ++ [a.2, c.2] = _
      simp
    rw [eT0, eN0] at h
    have q0 := hav a (by simp)
    have q1 := hav c (by simp)
    have eT : stT 8 n s ws [a, c] T0 = T0 := by first | rfl | exact List.append_nil _
    have eN : stN 8 n s ws [a, c] N0 = N0 ++ [wrap64 (a.2 + c.2)] := by first | rfl | exact List.append_nil _
    have eO : stO 8 [a, c] O = O := rfl
    rw [eT, eN, eO]
    exact .inr ⟨_, b, rfl, ent_onNums_1, step8_any B M (.slice wq wn wc) w T0 N0 O b a.2 c.2 h hc (by omega) (by omega)⟩
  · obtain ⟨b, hb, rfl, hrow⟩ := hv
    have hc : w.cell? ⟨b, 0, none⟩ = some (.func (.func (inFn 9)) #[] #[]) := by have := hrow.cell (j := 0) (by simp); simpa using this
    obtain ⟨a, c, rfl⟩ := len2 hal
    have eT0 : T0 ++ txs (takesB 9).data.toList [a, c] = T0 := by
      show T0 ++ [] = _
      simp
    have eN0 : N0 ++ nms (takesB 9).data.toList [a, c] = N0 ++ [a.2] ++ [c.2] := by
      show N0 ++ [a.2, c.2] = _
      simp
    rw [eT0, eN0] at h
    have q0 := hav a (by simp)
    have q1 := hav c (by simp)
    have eT : stT 9 n s ws [a, c] T0 = T0 := by first | rfl | exact List.append_nil _
    have eN : stN 9 n s ws [a, c] N0 = N0 ++ [wrap64 (a.2 - c.2)] := by first | rfl | exact List.append_nil _
    have eO : stO 9 [a, c] O = O := rfl
    rw [eT, eN, eO]
    exact .inr ⟨_, b, rfl, ent_onNums_1, step9_any B M (.slice wq wn wc) w T0 N0 O b a.2 c.2 h hc (by omega) (by omega)⟩
  · obtain ⟨b, hb, rfl, hrow⟩ := hv
    have hc : w.cell? ⟨b, 0, none⟩ = some (.func (.func (inFn 10)) #[] #[]) := by have := hrow.cell (j := 0) (by simp); simpa using this
    obtain ⟨a, c, rfl⟩ := len2 hal
    have eT0 : T0 ++ txs (takesB 10).data.toList [a, c] = T0 := by
      show T0 ++ [] = _
      simp
    have eN0 : N0 ++ nms (takesB 10).data.toList [a, c] = N0 ++ [a.2] ++ [c.2] := by
      show N0 ++ [a.2, c.2] = _
      simp
    rw [eT0, eN0] at h
    have q0 := hav a (by simp)
    have q1 := hav c (by simp)
    have eT : stT 10 n s ws [a, c] T0 = T0 := by first | rfl | exact List.append_nil _
    have eN : stN 10 n s ws [a, c] N0 = N0 ++ [wrap64 (a.2 * c.2)] := by first | rfl | exact List.append_nil _
    have eO : stO 10 [a, c] O = O := rfl
    rw [eT, eN, eO]
    exact .inr ⟨_, b, rfl, ent_onNums_1, step10_any B M (.slice wq wn wc) w T0 N0 O b a.2 c.2 h hc (by omega) (by omega)⟩
  · obtain ⟨b, hb, rfl, hrow⟩ := hv
    have hc : w.cell? ⟨b, 0, none⟩ = some (.func (.func (inFn 11)) #[] #[]) := by have := hrow.cell (j := 0) (by simp); simpa using this
    obtain ⟨a, c, rfl⟩ := len2 hal
    have eT0 : T0 ++ txs (takesB 11).data.toList [a, c] = T0 := by
      show T0 ++ [] = _
      simp
    have eN0 : N0 ++ nms (takesB 11).data.toList [a, c] = N0 ++ [a.2] ++ [c.2] := by
      show N0 ++ [a.2, c.2] = _
      simp
    rw [eT0, eN0] at h
    have q0 := hav a (by simp)
    have q1 := hav c (by simp)
    have eT : stT 11 n s ws [a, c] T0 = T0 := by first | rfl | exact List.append_nil _
    have eN : stN 11 n s ws [a, c] N0 = N0 ++ [truthI (decide (a.2 < c.2))] := by first | rfl | exact List.append_nil _
    have eO : stO 11 [a, c] O = O := rfl
    rw [eT, eN, eO]
    exact .inr ⟨_, b, rfl, ent_onNums_1, step11_any B M (.slice wq wn wc) w T0 N0 O b a.2 c.2 h hc (by omega) (by omega)⟩
  · obtain ⟨b, hb, rfl, hrow⟩ := hv
    have hc : w.cell? ⟨b, 0, none⟩ = some (.func (.func (inFn 12)) #[] #[]) := by have := hrow.cell (j := 0) (by simp); simpa using this
    obtain ⟨a, c, rfl⟩ := len2 hal
    have eT0 : T0 ++ txs (takesB 12).data.toList [a, c] = T0 ++ [a.1] ++ [c.1] := by
      show T0 ++ [a.1, c.1] = _
      simp
    have eN0 : N0 ++ nms (takesB 12).data.toList [a, c] = N0 := by
      show N0 ++ [] = _
      simp
    rw [eT0, eN0] at h
    have q0 := hav a (by simp)
    have q1 := hav c (by simp)
    have eT : stT 12 n s ws [a, c] T0 = T0 := by first | rfl | exact List.append_nil _
    have eN : stN 12 n s ws [a, c] N0 = N0 ++ [truthI (decide (a.1 = c.1))] := by first | rfl | exact List.append_nil _
    have eO : stO 12 [a, c] O = O := rfl
    rw [eT, eN, eO]
    exact .inr ⟨_, b, rfl, ent_onTexts_1, step12_any B M (.slice wq wn wc) w T0 N0 O b a.1 c.1 h hc (by omega) q0.1 q1.1 (by omega)⟩
  · obtain rfl := hv
    obtain ⟨a, c, rfl⟩ := len2 hal
    have eT0 : T0 ++ txs (takesB 13).data.toList [a, c] = T0 ++ [a.1] := by
      show T0 ++ [a.1] = _
      simp
    have eN0 : N0 ++ nms (takesB 13).data.toList [a, c] = N0 ++ [c.2] := by
      show N0 ++ [c.2] = _
      simp
    rw [eT0, eN0] at h
    have q0 := hav a (by simp)
    have q1 := hav c (by simp)
    have eT : stT 13 n s ws [a, c] T0 = T0 := rfl
    have eN : stN 13 n s ws [a, c] N0 = N0 := rfl
    have eO : stO 13 [a, c] O = O ++ [(a.1, c.2)] := rfl
    rw [eT, eN, eO]
    exact .inl ⟨_, rfl, ent_emitStepOf_1, step13_any B M (.slice wq wn wc) w T0 N0 O a.1 c.2 h (by omega)⟩
  · obtain rfl := hv
    obtain ⟨a, c, d, rfl⟩ := len3 hal
    have eT0 : T0 ++ txs (takesB 14).data.toList [a, c, d] = T0 ++ [a.1] := by
      show T0 ++ [a.1] = _
      simp
    have eN0 : N0 ++ nms (takesB 14).data.toList [a, c, d] = N0 ++ [c.2] ++ [d.2] := by
      show N0 ++ [c.2, d.2] = _
      simp
    rw [eT0, eN0] at h
    have q0 := hav a (by simp)
    have q1 := hav c (by simp)
    have q2 := hav d (by simp)
    have eT : stT 14 n s ws [a, c, d] T0 = T0 := rfl
    have eN : stN 14 n s ws [a, c, d] N0 = N0 := rfl
    rw [eT, eN]
    by_cases hz : d.2 = 0
    · have eO : stO 14 [a, c, d] O = O := by
        show (if (14 : Nat) = 13 ∨ d.2 ≠ 0 then _ else _) = _
        rw [if_neg (fun h => h.elim (fun h => absurd h (by decide)) (fun h => h hz))]
      rw [eO]
      exact .inl ⟨_, rfl, ent_emitStepOf_2, step14no_any B M (.slice wq wn wc) w T0 N0 O a.1 c.2 d.2 h hz (by omega)⟩
    · have eO : stO 14 [a, c, d] O = O ++ [(a.1, c.2)] := by
        show (if (14 : Nat) = 13 ∨ d.2 ≠ 0 then _ else _) = _
        rw [if_pos (.inr hz)]
        rfl
      rw [eO]
      exact .inl ⟨_, rfl, ent_emitStepOf_2, step14yes_any B M (.slice wq wn wc) w T0 N0 O a.1 c.2 d.2 h hz (by omega)⟩
end Go.Proofs.YthnlllbanfemaaaGreatDoor
