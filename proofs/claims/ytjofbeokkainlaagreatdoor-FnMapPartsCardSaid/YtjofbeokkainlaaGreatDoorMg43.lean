/- Texts put together, as a claim holds at most sixty files. -/
import Derived.Test.YtjofbeokkainlaaGreatDoorSteps
import Derived.Conc.MuLone
namespace Go.Proofs.YtjofbeokkainlaaGreatDoor
open Go.ChangeShapes Go.WideShapes Go.ChangeAt Go.RowKit
set_option linter.unusedVariables false
set_option maxRecDepth 100000

theorem len1 {α : Type} {l : List α} (h : l.length = 1) : ∃ a, l = [a] := by
  match l, h with
  | [a], _ => exact ⟨a, rfl⟩
theorem len2 {α : Type} {l : List α} (h : l.length = 2) : ∃ a b, l = [a, b] := by
  match l, h with
  | [a, b], _ => exact ⟨a, b, rfl⟩
theorem len3 {α : Type} {l : List α} (h : l.length = 3) : ∃ a b c, l = [a, b, c] := by
  match l, h with
  | [a, b, c], _ => exact ⟨a, b, c, rfl⟩
theorem len0 {α : Type} {l : List α} (h : l.length = 0) : l = [] := List.eq_nil_of_length_eq_zero h
/-- Texts, numbers and records behind an instruction. -/
def stT (op : Nat) (n : Int) (s : ByteArray) (ws : Strs) (av : EVs) (T0 : Strs) : Strs := if (givesB op).size = 0 then T0 else T0 ++ txs (givesB op).data.toList [putV op n s av ws]
def stN (op : Nat) (n : Int) (s : ByteArray) (ws : Strs) (av : EVs) (N0 : List Int) : List Int := if (givesB op).size = 0 then N0 else N0 ++ nms (givesB op).data.toList [putV op n s av ws]
def stO (op : Nat) (av : EVs) (O : Recs) : Recs := if (givesB op).size = 0 then (if op = 13 ∨ (evAt av 2).2 ≠ 0 then O ++ [((evAt av 0).1, (evAt av 1).2)] else O) else O
/-- A call of the function F goes into it. -/
def Enters (F : FuncId) : Prop := ∀ (args : Array Value) (w : World), (callFunc F args).run Tryz.prog w = .ok (.enter F args) w
theorem ent_emitStepOf_1 : Enters 160 := fun args w => Go.MuLone.run_callFunc_enter Tryz.func160 (by kernel_rfl) rfl args w
theorem ent_emitStepOf_2 : Enters 162 := fun args w => Go.MuLone.run_callFunc_enter Tryz.func162 (by kernel_rfl) rfl args w
theorem ent_onNums_1 : Enters 159 := fun args w => Go.MuLone.run_callFunc_enter Tryz.func159 (by kernel_rfl) rfl args w
theorem ent_onTexts_1 : Enters 156 := fun args w => Go.MuLone.run_callFunc_enter Tryz.func156 (by kernel_rfl) rfl args w
theorem ent_stepOf_1 : Enters 128 := fun args w => Go.MuLone.run_callFunc_enter Tryz.func128 (by kernel_rfl) rfl args w
theorem ent_stepOf_2 : Enters 131 := fun args w => Go.MuLone.run_callFunc_enter Tryz.func131 (by kernel_rfl) rfl args w
theorem ent_stepOf_3 : Enters 132 := fun args w => Go.MuLone.run_callFunc_enter Tryz.func132 (by kernel_rfl) rfl args w
theorem ent_stepOf_5 : Enters 136 := fun args w => Go.MuLone.run_callFunc_enter Tryz.func136 (by kernel_rfl) rfl args w
theorem ent_stepOf_6 : Enters 138 := fun args w => Go.MuLone.run_callFunc_enter Tryz.func138 (by kernel_rfl) rfl args w
theorem ent_stepOf_7 : Enters 140 := fun args w => Go.MuLone.run_callFunc_enter Tryz.func140 (by kernel_rfl) rfl args w
def StepCall (B M : Nat) (wv : Value) (v : Value) (w : World) (T : Strs) (N : List Int) (O : Recs) : Prop :=
  (∃ F, v = .func (.func F) #[] #[] ∧ Enters F ∧ Calls Tryz.prog F #[.pointer (some ⟨M, 0, none⟩)] w (MEnd B M wv (.tuple #[]) T N O w)) ∨
  (∃ F b, v = .func (.func F) #[] #[.pointer (some ⟨b, 0, none⟩)] ∧ Enters F ∧ Calls Tryz.prog F #[.pointer (some ⟨M, 0, none⟩), .pointer (some ⟨b, 0, none⟩)] w (MEnd B M wv (.tuple #[]) T N O w))

theorem step_call (E D B M : Nat) (wq : Option Addr) (wn wc : Nat) (ws : Strs) (w0 w : World) (op : Nat) (n : Int) (s : ByteArray) (v : Value) (av : EVs) (T0 : Strs) (N0 : List Int) (O : Recs)
    (h1 : 1 ≤ op) (h2 : op ≤ 14) (hv : StepV E D w op n s v) (hD : D ≤ B) (hal : av.length = (takesB op).size) (hav : ∀ x ∈ av, x.1.size ≤ 40 ∧ In64 x.2)
    (h : MAt B M (.slice wq wn wc) w (T0 ++ txs (takesB op).data.toList av) (N0 ++ nms (takesB op).data.toList av) O) (hf : T0.length < 80 ∧ N0.length < 80 ∧ O.length < 80)
    (hw : StrsAt w wq wn ws) (hn : op = 1 → 0 ≤ n) (hT : TabsR w0) (h0 : Below w0.heap.size w0 w) (hB0 : w0.heap.size ≤ B) :
    StepCall B M (.slice wq wn wc) v w (stT op n s ws av T0) (stN op n s ws av N0) (stO op av O) := by
  obtain rfl | rfl | rfl | rfl | rfl | rfl | rfl | rfl | rfl | rfl | rfl | rfl | rfl | rfl : op = 1 ∨ op = 2 ∨ op = 3 ∨ op = 4 ∨ op = 5 ∨ op = 6 ∨ op = 7 ∨ op = 8 ∨ op = 9 ∨ op = 10 ∨ op = 11 ∨ op = 12 ∨ op = 13 ∨ op = 14 := by omega
  · obtain ⟨b, hb, rfl, hr⟩ := hv
    obtain rfl := len0 hal
    have eT0 : T0 ++ txs (takesB 1).data.toList [] = T0 := by
      show T0 ++ [] = _
      simp
    have eN0 : N0 ++ nms (takesB 1).data.toList [] = N0 := by
      show N0 ++ [] = _
      simp
    rw [eT0, eN0] at h
    have eT : stT 1 n s ws [] T0 = T0 ++ [wordAt ws n] := by first | rfl | exact List.append_nil _
    have eN : stN 1 n s ws [] N0 = N0 := by first | rfl | exact List.append_nil _
    have eO : stO 1 [] O = O := rfl
    rw [eT, eN, eO]
    exact .inr ⟨_, b, rfl, ent_stepOf_1, step1_any B M wq wn wc ws w T0 N0 O b n s h hr hw (hn rfl) (by omega)⟩
  · obtain ⟨b, hb, rfl, hr⟩ := hv
    obtain rfl := len0 hal
    have eT0 : T0 ++ txs (takesB 2).data.toList [] = T0 := by
      show T0 ++ [] = _
      simp
    have eN0 : N0 ++ nms (takesB 2).data.toList [] = N0 := by
      show N0 ++ [] = _
      simp
    rw [eT0, eN0] at h
    have eT : stT 2 n s ws [] T0 = T0 ++ [s] := by first | rfl | exact List.append_nil _
    have eN : stN 2 n s ws [] N0 = N0 := by first | rfl | exact List.append_nil _
    have eO : stO 2 [] O = O := rfl
    rw [eT, eN, eO]
    exact .inr ⟨_, b, rfl, ent_stepOf_2, step2_any B M (.slice wq wn wc) w T0 N0 O b n s h hr (by omega)⟩
  · obtain ⟨b, hb, rfl, hr⟩ := hv
    obtain rfl := len0 hal
    have eT0 : T0 ++ txs (takesB 3).data.toList [] = T0 := by
      show T0 ++ [] = _
      simp
    have eN0 : N0 ++ nms (takesB 3).data.toList [] = N0 := by
      show N0 ++ [] = _
      simp
    rw [eT0, eN0] at h
    have eT : stT 3 n s ws [] T0 = T0 := by first | rfl | exact List.append_nil _
    have eN : stN 3 n s ws [] N0 = N0 ++ [n] := by first | rfl | exact List.append_nil _
    have eO : stO 3 [] O = O := rfl
    rw [eT, eN, eO]
    exact .inr ⟨_, b, rfl, ent_stepOf_3, step3_any B M (.slice wq wn wc) w T0 N0 O b n s h hr (by omega)⟩
  · obtain ⟨b, hb, rfl, hrow⟩ := hv
    have hc : w.cell? ⟨b, 0, none⟩ = some (.func (.func (inFn 4)) #[] #[]) := by have := hrow.cell (j := 0) (by simp); simpa using this
    obtain ⟨a, c, rfl⟩ := len2 hal
    have eT0 : T0 ++ txs (takesB 4).data.toList [a, c] = T0 ++ [a.1] ++ [c.1] := by
      show T0 ++ [a.1, c.1] = _
      simp
    have eN0 : N0 ++ nms (takesB 4).data.toList [a, c] = N0 := by
      show N0 ++ [] = _
      simp
    rw [eT0, eN0] at h
    have q0 := hav a (by simp)
    have q1 := hav c (by simp)
    have eT : stT 4 n s ws [a, c] T0 = T0 ++ [a.1 ++ c.1] := by first | rfl | exact List.append_nil _
    have eN : stN 4 n s ws [a, c] N0 = N0 := by first | rfl | exact List.append_nil _
    have eO : stO 4 [a, c] O = O := rfl
    rw [eT, eN, eO]
    exact .inr ⟨_, b, rfl, ent_onTexts_1, step4_any B M (.slice wq wn wc) w T0 N0 O b a.1 c.1 h hc (by omega) q0.1 q1.1 (by omega)⟩
  · obtain rfl := hv
    obtain ⟨a, rfl⟩ := len1 hal
    have eT0 : T0 ++ txs (takesB 5).data.toList [a] = T0 ++ [a.1] := by
      show T0 ++ [a.1] = _
      simp
    have eN0 : N0 ++ nms (takesB 5).data.toList [a] = N0 := by
      show N0 ++ [] = _
      simp
    rw [eT0, eN0] at h
    have q0 := hav a (by simp)
    have eT : stT 5 n s ws [a] T0 = T0 := by first | rfl | exact List.append_nil _
    have eN : stN 5 n s ws [a] N0 = N0 ++ [(a.1.size : Int)] := by first | rfl | exact List.append_nil _
    have eO : stO 5 [a] O = O := rfl
    rw [eT, eN, eO]
    exact .inl ⟨_, rfl, ent_stepOf_5, step5_any B M (.slice wq wn wc) w T0 N0 O a.1 h q0.1 (by omega)⟩
  · obtain rfl := hv
    obtain ⟨a, rfl⟩ := len1 hal
    have eT0 : T0 ++ txs (takesB 6).data.toList [a] = T0 ++ [a.1] := by
      show T0 ++ [a.1] = _
      simp
    have eN0 : N0 ++ nms (takesB 6).data.toList [a] = N0 := by
      show N0 ++ [] = _
      simp
    rw [eT0, eN0] at h
    have q0 := hav a (by simp)
    have eT : stT 6 n s ws [a] T0 = T0 := by first | rfl | exact List.append_nil _
    have eN : stN 6 n s ws [a] N0 = N0 ++ [numI a.1] := by first | rfl | exact List.append_nil _
    have eO : stO 6 [a] O = O := rfl
    rw [eT, eN, eO]
    exact .inl ⟨_, rfl, ent_stepOf_6, step6_any B M (.slice wq wn wc) w T0 N0 O a.1 w0 h q0.1 (by omega) hT h0 hB0⟩
  · obtain rfl := hv
    obtain ⟨a, rfl⟩ := len1 hal
    have eT0 : T0 ++ txs (takesB 7).data.toList [a] = T0 := by
      show T0 ++ [] = _
      simp
    have eN0 : N0 ++ nms (takesB 7).data.toList [a] = N0 ++ [a.2] := by
      show N0 ++ [a.2] = _
      simp
    rw [eT0, eN0] at h
    have q0 := hav a (by simp)
    have eT : stT 7 n s ws [a] T0 = T0 ++ [decB a.2] := by first | rfl | exact List.append_nil _
    have eN : stN 7 n s ws [a] N0 = N0 := by first | rfl | exact List.append_nil _
    have eO : stO 7 [a] O = O := rfl
    rw [eT, eN, eO]
    exact .inl ⟨_, rfl, ent_stepOf_7, step7_any B M (.slice wq wn wc) w T0 N0 O a.2 w0 h q0.2 (by omega) hT h0 hB0⟩
  · obtain ⟨b, hb, rfl, hrow⟩ := hv
    have hc : w.cell? ⟨b, 0, none⟩ = some (.func (.func (inFn 8)) #[] #[]) := by have := hrow.cell (j := 0) (by simp); simpa using this
    obtain ⟨a, c, rfl⟩ := len2 hal
    have eT0 : T0 ++ txs (takesB 8).data.toList [a, c] = T0 := by
      show T0 ++ [] = _
      simp
    have eN0 : N0 ++ nms (takesB 8).data.toList [a, c] = N0 ++ [a.2] ++ [c.2] := by
      show N0 ++ [a.2, c.2] = _
      simp
    rw [eT0, eN0] at h
    have q0 := hav a (by simp)
    have q1 := hav c (by simp)
    have eT : stT 8 n s ws [a, c] T0 = T0 := by first | rfl | exact List.append_nil _
    have eN : stN 8 n s ws [a, c] N0 = N0 ++ [wrap64 (a.2 + c.2)] := by first | rfl | exact List.append_nil _
    have eO : stO 8 [a, c] O = O := rfl
    rw [eT, eN, eO]
    exact .inr ⟨_, b, rfl, ent_onNums_1, step8_any B M (.slice wq wn wc) w T0 N0 O b a.2 c.2 h hc (by omega) (by omega)⟩
  · obtain ⟨b, hb, rfl, hrow⟩ := hv
    have hc : w.cell? ⟨b, 0, none⟩ = some (.func (.func (inFn 9)) #[] #[]) := by have := hrow.cell (j := 0) (by simp); simpa using this
    obtain ⟨a, c, rfl⟩ := len2 hal
    have eT0 : T0 ++ txs (takesB 9).data.toList [a, c] = T0 := by
      show T0 ++ [] = _
      simp
    have eN0 : N0 ++ nms (takesB 9).data.toList [a, c] = N0 ++ [a.2] ++ [c.2] := by
      show N0 ++ [a.2, c.2] = _
      simp
    rw [eT0, eN0] at h
    have q0 := hav a (by simp)
    have q1 := hav c (by simp)
    have eT : stT 9 n s ws [a, c] T0 = T0 := by first | rfl | exact List.append_nil _
    have eN : stN 9 n s ws [a, c] N0 = N0 ++ [wrap64 (a.2 - c.2)] := by first | rfl | exact List.append_nil _
    have eO : stO 9 [a, c] O = O := rfl
    rw [eT, eN, eO]
    exact .inr ⟨_, b, rfl, ent_onNums_1, step9_any B M (.slice wq wn wc) w T0 N0 O b a.2 c.2 h hc (by omega) (by omega)⟩
  · obtain ⟨b, hb, rfl, hrow⟩ := hv
    have hc : w.cell? ⟨b, 0, none⟩ = some (.func (.func (inFn 10)) #[] #[]) := by have := hrow.cell (j := 0) (by simp); simpa using this
    obtain ⟨a, c, rfl⟩ := len2 hal
    have eT0 : T0 ++ txs (takesB 10).data.toList [a, c] = T0 := by
      show T0 ++ [] = _
      simp
    have eN0 : N0 ++ nms (takesB 10).data.toList [a, c] = N0 ++ [a.2] ++ [c.2] := by
      show N0 ++ [a.2, c.2] = _
      simp
    rw [eT0, eN0] at h
    have q0 := hav a (by simp)
    have q1 := hav c (by simp)
    have eT : stT 10 n s ws [a, c] T0 = T0 := by first | rfl | exact List.append_nil _
    have eN : stN 10 n s ws [a, c] N0 = N0 ++ [wrap64 (a.2 * c.2)] := by first | rfl | exact List.append_nil _
    have eO : stO 10 [a, c] O = O := rfl
    rw [eT, eN, eO]
    exact .inr ⟨_, b, rfl, ent_onNums_1, step10_any B M (.slice wq wn wc) w T0 N0 O b a.2 c.2 h hc (by omega) (by omega)⟩
  · obtain ⟨b, hb, rfl, hrow⟩ := hv
    have hc : w.cell? ⟨b, 0, none⟩ = some (.func (.func (inFn 11)) #[] #[]) := by have := hrow.cell (j := 0) (by simp); simpa using this
    obtain ⟨a, c, rfl⟩ := len2 hal
    have eT0 : T0 ++ txs (takesB 11).data.toList [a, c] = T0 := by
      show T0 ++ [] = _
      simp
    have eN0 : N0 ++ nms (takesB 11).data.toList [a, c] = N0 ++ [a.2] ++ [c.2] := by
      show N0 ++ [a.2, c.2] = _
      simp
    rw [eT0, eN0] at h
    have q0 := hav a (by simp)
    have q1 := hav c (by simp)
    have eT : stT 11 n s ws [a, c] T0 = T0 := by first | rfl | exact List.append_nil _
    have eN : stN 11 n s ws [a, c] N0 = N0 ++ [truthI (decide (a.2 < c.2))] := by first | rfl | exact List.append_nil _
    have eO : stO 11 [a, c] O = O := rfl
    rw [eT, eN, eO]
    exact .inr ⟨_, b, rfl, ent_onNums_1, step11_any B M (.slice wq wn wc) w T0 N0 O b a.2 c.2 h hc (by omega) (by omega)⟩
  · obtain ⟨b, hb, rfl, hrow⟩ := hv
    have hc : w.cell? ⟨b, 0, none⟩ = some (.func (.func (inFn 12)) #[] #[]) := by have := hrow.cell (j := 0) (by simp); simpa using this
    obtain ⟨a, c, rfl⟩ := len2 hal
    have eT0 : T0 ++ txs (takesB 12).data.toList [a, c] = T0 ++ [a.1] ++ [c.1] := by
      show T0 ++ [a.1, c.1] = _
      simp
    have eN0 : N0 ++ nms (takesB 12).data.toList [a, c] = N0 := by
      show N0 ++ [] = _
      simp
    rw [eT0, eN0] at h
    have q0 := hav a (by simp)
    have q1 := hav c (by simp)
    have eT : stT 12 n s ws [a, c] T0 = T0 := by first | rfl | exact List.append_nil _
    have eN : stN 12 n s ws [a, c] N0 = N0 ++ [truthI (decide (a.1 = c.1))] := by first | rfl | exact List.append_nil _
    have eO : stO 12 [a, c] O = O := rfl
    rw [eT, eN, eO]
    exact .inr ⟨_, b, rfl, ent_onTexts_1, step12_any B M (.slice wq wn wc) w T0 N0 O b a.1 c.1 h hc (by omega) q0.1 q1.1 (by omega)⟩
  · obtain rfl := hv
    obtain ⟨a, c, rfl⟩ := len2 hal
    have eT0 : T0 ++ txs (takesB 13).data.toList [a, c] = T0 ++ [a.1] := by
      show T0 ++ [a.1] = _
      simp
    have eN0 : N0 ++ nms (takesB 13).data.toList [a, c] = N0 ++ [c.2] := by
      show N0 ++ [c.2] = _
      simp
    rw [eT0, eN0] at h
    have q0 := hav a (by simp)
    have q1 := hav c (by simp)
    have eT : stT 13 n s ws [a, c] T0 = T0 := rfl
    have eN : stN 13 n s ws [a, c] N0 = N0 := rfl
    have eO : stO 13 [a, c] O = O ++ [(a.1, c.2)] := rfl
    rw [eT, eN, eO]
    exact .inl ⟨_, rfl, ent_emitStepOf_1, step13_any B M (.slice wq wn wc) w T0 N0 O a.1 c.2 h (by omega)⟩
  · obtain rfl := hv
    obtain ⟨a, c, d, rfl⟩ := len3 hal
    have eT0 : T0 ++ txs (takesB 14).data.toList [a, c, d] = T0 ++ [a.1] := by
      show T0 ++ [a.1] = _
      simp
    have eN0 : N0 ++ nms (takesB 14).data.toList [a, c, d] = N0 ++ [c.2] ++ [d.2] := by
      show N0 ++ [c.2, d.2] = _
      simp
    rw [eT0, eN0] at h
    have q0 := hav a (by simp)
    have q1 := hav c (by simp)
    have q2 := hav d (by simp)
    have eT : stT 14 n s ws [a, c, d] T0 = T0 := rfl
    have eN : stN 14 n s ws [a, c, d] N0 = N0 := rfl
    rw [eT, eN]
    by_cases hz : d.2 = 0
    · have eO : stO 14 [a, c, d] O = O := by
        show (if (14 : Nat) = 13 ∨ d.2 ≠ 0 then _ else _) = _
        rw [if_neg (fun h => h.elim (fun h => absurd h (by decide)) (fun h => h hz))]
      rw [eO]
      exact .inl ⟨_, rfl, ent_emitStepOf_2, step14no_any B M (.slice wq wn wc) w T0 N0 O a.1 c.2 d.2 h hz (by omega)⟩
    · have eO : stO 14 [a, c, d] O = O ++ [(a.1, c.2)] := by
        show (if (14 : Nat) = 13 ∨ d.2 ≠ 0 then _ else _) = _
        rw [if_pos (.inr hz)]
        rfl
      rw [eO]
      exact .inl ⟨_, rfl, ent_emitStepOf_2, step14yes_any B M (.slice wq wn wc) w T0 N0 O a.1 c.2 d.2 h hz (by omega)⟩
end Go.Proofs.YtjofbeokkainlaaGreatDoor
namespace Go.Proofs.YtjofbeokkainlaaGreatDoor
open Go.ChangeShapes Go.WideShapes Go.ChangeAt Go.RowKit
set_option linter.unusedVariables false
set_option maxRecDepth 100000

def MadeStep (op : Nat) (n : Int) (s : ByteArray) (w : World) (e : Ending) (w' : World) : Prop := ∃ v, e = .returned v ∧ Below w.heap.size w w' ∧ StepV w.heap.size w'.heap.size w' op n s v
theorem ontexts_any (f : FuncId) (w : World) : Calls Tryz.prog 134 #[.func (.func f) #[] #[]] w fun e w' => e = .returned (.func (.func 156) #[] #[.pointer (some ⟨w.heap.size, 0, none⟩)]) ∧ w' = w.alloc (.cells #[.func (.func f) #[] #[]] 175) := by
  go_enter Tryz.func134, Tryz.ntmps134
  go_wp2
  go_ret
  exact ⟨rfl, rfl⟩
theorem onnums_any (f : FuncId) (w : World) : Calls Tryz.prog 143 #[.func (.func f) #[] #[]] w fun e w' => e = .returned (.func (.func 159) #[] #[.pointer (some ⟨w.heap.size, 0, none⟩)]) ∧ w' = w.alloc (.cells #[.func (.func f) #[] #[]] 50) := by
  go_enter Tryz.func143, Tryz.ntmps143
  go_wp2
  go_ret
  exact ⟨rfl, rfl⟩
theorem emitstep_any (op : Nat) (h : op = 13 ∨ op = 14) (w : World) : Calls Tryz.prog 150 #[.int .i64 op] w fun e w' => e = .returned (.func (.func (capFn op)) #[] #[]) ∧ w' = w := by
  rcases h with rfl | rfl
  · go_enter Tryz.func150, Tryz.ntmps150
    go_wp2
    go_ret
    exact ⟨rfl, rfl⟩
  · go_enter Tryz.func150, Tryz.ntmps150
    go_wp2
    go_ret
    exact ⟨rfl, rfl⟩

set_option maxHeartbeats 1000000 in
theorem stepof1 (n : Int) (s : ByteArray) (w : World) : Calls Tryz.prog 115 #[.agg #[.int .i64 1, .int .i64 n, .string s]] w (MadeStep 1 n s w) := by
  go_enter Tryz.func115, Tryz.ntmps115
  go_wp2
  go_ret
  exact ⟨_, rfl, below_alloc (Below.refl _ _) _, ⟨w.heap.size, ⟨Nat.le_refl _, by simp⟩, rfl, ot_row_new _ _ _⟩⟩

set_option maxHeartbeats 1000000 in
theorem stepof2 (n : Int) (s : ByteArray) (w : World) : Calls Tryz.prog 115 #[.agg #[.int .i64 2, .int .i64 n, .string s]] w (MadeStep 2 n s w) := by
  go_enter Tryz.func115, Tryz.ntmps115
  go_wp2
  go_ret
  exact ⟨_, rfl, below_alloc (Below.refl _ _) _, ⟨w.heap.size, ⟨Nat.le_refl _, by simp⟩, rfl, ot_row_new _ _ _⟩⟩

set_option maxHeartbeats 1000000 in
theorem stepof3 (n : Int) (s : ByteArray) (w : World) : Calls Tryz.prog 115 #[.agg #[.int .i64 3, .int .i64 n, .string s]] w (MadeStep 3 n s w) := by
  go_enter Tryz.func115, Tryz.ntmps115
  go_wp2
  go_ret
  exact ⟨_, rfl, below_alloc (Below.refl _ _) _, ⟨w.heap.size, ⟨Nat.le_refl _, by simp⟩, rfl, ot_row_new _ _ _⟩⟩

set_option maxHeartbeats 1000000 in
theorem stepof4 (n : Int) (s : ByteArray) (w : World) : Calls Tryz.prog 115 #[.agg #[.int .i64 4, .int .i64 n, .string s]] w (MadeStep 4 n s w) := by
  go_enter Tryz.func115, Tryz.ntmps115
  go_wp2_with fail
  refine (ontexts_any _ _).mono ?_
  rintro e w1 ⟨rfl, rfl⟩
  go_wp2
  go_ret
  exact ⟨_, rfl, below_alloc (below_alloc (Below.refl _ _) _) _, ⟨_, ⟨by simp, by simp⟩, rfl, by have := ot_row_new (w.alloc (.cells #[.int .i64 4, .int .i64 n, .string s] 89)) #[.func (.func (inFn 4)) #[] #[]] 175; simpa [inFn] using this⟩⟩

set_option maxHeartbeats 1000000 in
theorem stepof5 (n : Int) (s : ByteArray) (w : World) : Calls Tryz.prog 115 #[.agg #[.int .i64 5, .int .i64 n, .string s]] w (MadeStep 5 n s w) := by
  go_enter Tryz.func115, Tryz.ntmps115
  go_wp2
  go_ret
  exact ⟨_, rfl, below_alloc (Below.refl _ _) _, rfl⟩

set_option maxHeartbeats 1000000 in
theorem stepof6 (n : Int) (s : ByteArray) (w : World) : Calls Tryz.prog 115 #[.agg #[.int .i64 6, .int .i64 n, .string s]] w (MadeStep 6 n s w) := by
  go_enter Tryz.func115, Tryz.ntmps115
  go_wp2
  go_ret
  exact ⟨_, rfl, below_alloc (Below.refl _ _) _, rfl⟩

set_option maxHeartbeats 1000000 in
theorem stepof7 (n : Int) (s : ByteArray) (w : World) : Calls Tryz.prog 115 #[.agg #[.int .i64 7, .int .i64 n, .string s]] w (MadeStep 7 n s w) := by
  go_enter Tryz.func115, Tryz.ntmps115
  go_wp2
  go_ret
  exact ⟨_, rfl, below_alloc (Below.refl _ _) _, rfl⟩

set_option maxHeartbeats 1000000 in
theorem stepof8 (n : Int) (s : ByteArray) (w : World) : Calls Tryz.prog 115 #[.agg #[.int .i64 8, .int .i64 n, .string s]] w (MadeStep 8 n s w) := by
  go_enter Tryz.func115, Tryz.ntmps115
  go_wp2_with fail
  refine (onnums_any _ _).mono ?_
  rintro e w1 ⟨rfl, rfl⟩
  go_wp2
  go_ret
  exact ⟨_, rfl, below_alloc (below_alloc (Below.refl _ _) _) _, ⟨_, ⟨by simp, by simp⟩, rfl, by have := ot_row_new (w.alloc (.cells #[.int .i64 8, .int .i64 n, .string s] 89)) #[.func (.func (inFn 8)) #[] #[]] 50; simpa [inFn] using this⟩⟩

set_option maxHeartbeats 1000000 in
theorem stepof9 (n : Int) (s : ByteArray) (w : World) : Calls Tryz.prog 115 #[.agg #[.int .i64 9, .int .i64 n, .string s]] w (MadeStep 9 n s w) := by
  go_enter Tryz.func115, Tryz.ntmps115
  go_wp2_with fail
  refine (onnums_any _ _).mono ?_
  rintro e w1 ⟨rfl, rfl⟩
  go_wp2
  go_ret
  exact ⟨_, rfl, below_alloc (below_alloc (Below.refl _ _) _) _, ⟨_, ⟨by simp, by simp⟩, rfl, by have := ot_row_new (w.alloc (.cells #[.int .i64 9, .int .i64 n, .string s] 89)) #[.func (.func (inFn 9)) #[] #[]] 50; simpa [inFn] using this⟩⟩

set_option maxHeartbeats 1000000 in
theorem stepof10 (n : Int) (s : ByteArray) (w : World) : Calls Tryz.prog 115 #[.agg #[.int .i64 10, .int .i64 n, .string s]] w (MadeStep 10 n s w) := by
  go_enter Tryz.func115, Tryz.ntmps115
  go_wp2_with fail
  refine (onnums_any _ _).mono ?_
  rintro e w1 ⟨rfl, rfl⟩
  go_wp2
  go_ret
  exact ⟨_, rfl, below_alloc (below_alloc (Below.refl _ _) _) _, ⟨_, ⟨by simp, by simp⟩, rfl, by have := ot_row_new (w.alloc (.cells #[.int .i64 10, .int .i64 n, .string s] 89)) #[.func (.func (inFn 10)) #[] #[]] 50; simpa [inFn] using this⟩⟩

set_option maxHeartbeats 1000000 in
theorem stepof11 (n : Int) (s : ByteArray) (w : World) : Calls Tryz.prog 115 #[.agg #[.int .i64 11, .int .i64 n, .string s]] w (MadeStep 11 n s w) := by
  go_enter Tryz.func115, Tryz.ntmps115
  go_wp2_with fail
  refine (onnums_any _ _).mono ?_
  rintro e w1 ⟨rfl, rfl⟩
  go_wp2
  go_ret
  exact ⟨_, rfl, below_alloc (below_alloc (Below.refl _ _) _) _, ⟨_, ⟨by simp, by simp⟩, rfl, by have := ot_row_new (w.alloc (.cells #[.int .i64 11, .int .i64 n, .string s] 89)) #[.func (.func (inFn 11)) #[] #[]] 50; simpa [inFn] using this⟩⟩

set_option maxHeartbeats 1000000 in
theorem stepof12 (n : Int) (s : ByteArray) (w : World) : Calls Tryz.prog 115 #[.agg #[.int .i64 12, .int .i64 n, .string s]] w (MadeStep 12 n s w) := by
  go_enter Tryz.func115, Tryz.ntmps115
  go_wp2_with fail
  refine (ontexts_any _ _).mono ?_
  rintro e w1 ⟨rfl, rfl⟩
  go_wp2
  go_ret
  exact ⟨_, rfl, below_alloc (below_alloc (Below.refl _ _) _) _, ⟨_, ⟨by simp, by simp⟩, rfl, by have := ot_row_new (w.alloc (.cells #[.int .i64 12, .int .i64 n, .string s] 89)) #[.func (.func (inFn 12)) #[] #[]] 175; simpa [inFn] using this⟩⟩

set_option maxHeartbeats 1000000 in
theorem stepof13 (n : Int) (s : ByteArray) (w : World) : Calls Tryz.prog 115 #[.agg #[.int .i64 13, .int .i64 n, .string s]] w (MadeStep 13 n s w) := by
  go_enter Tryz.func115, Tryz.ntmps115
  go_wp2_with fail
  refine (emitstep_any 13 (by decide) _).mono ?_
  rintro e w1 ⟨rfl, rfl⟩
  go_wp2
  go_ret
  exact ⟨_, rfl, below_alloc (Below.refl _ _) _, rfl⟩

set_option maxHeartbeats 1000000 in
theorem stepof14 (n : Int) (s : ByteArray) (w : World) : Calls Tryz.prog 115 #[.agg #[.int .i64 14, .int .i64 n, .string s]] w (MadeStep 14 n s w) := by
  go_enter Tryz.func115, Tryz.ntmps115
  go_wp2_with fail
  refine (emitstep_any 14 (by decide) _).mono ?_
  rintro e w1 ⟨rfl, rfl⟩
  go_wp2
  go_ret
  exact ⟨_, rfl, below_alloc (Below.refl _ _) _, rfl⟩

theorem stepof_any (op : Nat) (n : Int) (s : ByteArray) (w : World) (h1 : 1 ≤ op) (h2 : op ≤ 14) : Calls Tryz.prog 115 #[.agg #[.int .i64 op, .int .i64 n, .string s]] w (MadeStep op n s w) := by
  obtain rfl | rfl | rfl | rfl | rfl | rfl | rfl | rfl | rfl | rfl | rfl | rfl | rfl | rfl : op = 1 ∨ op = 2 ∨ op = 3 ∨ op = 4 ∨ op = 5 ∨ op = 6 ∨ op = 7 ∨ op = 8 ∨ op = 9 ∨ op = 10 ∨ op = 11 ∨ op = 12 ∨ op = 13 ∨ op = 14 := by omega
  · exact stepof1 n s w
  · exact stepof2 n s w
  · exact stepof3 n s w
  · exact stepof4 n s w
  · exact stepof5 n s w
  · exact stepof6 n s w
  · exact stepof7 n s w
  · exact stepof8 n s w
  · exact stepof9 n s w
  · exact stepof10 n s w
  · exact stepof11 n s w
  · exact stepof12 n s w
  · exact stepof13 n s w
  · exact stepof14 n s w
end Go.Proofs.YtjofbeokkainlaaGreatDoor
namespace Go.Proofs.YtjofbeokkainlaaGreatDoor
open Go.ChangeShapes Go.WideShapes Go.ChangeAt Go.RowKit
set_option linter.unusedVariables false
set_option maxRecDepth 100000

theorem ops14 {op : Nat} (h1 : 1 ≤ op) (h2 : op ≤ 14) : op = 1 ∨ op = 2 ∨ op = 3 ∨ op = 4 ∨ op = 5 ∨ op = 6 ∨ op = 7 ∨ op = 8 ∨ op = 9 ∨ op = 10 ∨ op = 11 ∨ op = 12 ∨ op = 13 ∨ op = 14 := by omega
theorem gives_kinds {op : Nat} (h1 : 1 ≤ op) (h2 : op ≤ 14) : givesB op = ⟨#[84]⟩ ∨ givesB op = ⟨#[78]⟩ ∨ givesB op = ⟨#[]⟩ := by
  rcases ops14 h1 h2 with rfl | rfl | rfl | rfl | rfl | rfl | rfl | rfl | rfl | rfl | rfl | rfl | rfl | rfl
  · exact .inl rfl
  · exact .inl rfl
  · exact .inr (.inl rfl)
  · exact .inl rfl
  · exact .inr (.inl rfl)
  · exact .inr (.inl rfl)
  · exact .inl rfl
  · exact .inr (.inl rfl)
  · exact .inr (.inl rfl)
  · exact .inr (.inl rfl)
  · exact .inr (.inl rfl)
  · exact .inr (.inl rfl)
  · exact .inr (.inr rfl)
  · exact .inr (.inr rfl)
theorem putN_none {op : Nat} {n : Int} {s : ByteArray} {av : EVs} {ws : Strs} (h1 : 1 ≤ op) (h2 : op ≤ 14) (h : givesB op = ⟨#[78]⟩) : (putV op n s av ws).1 = ByteArray.empty := by
  rcases ops14 h1 h2 with rfl | rfl | rfl | rfl | rfl | rfl | rfl | rfl | rfl | rfl | rfl | rfl | rfl | rfl
  all_goals first | rfl | (exfalso; revert h; decide)
theorem evStep_some {op : Nat} {n : Int} {s : ByteArray} {ws : Strs} {S S0 av : EVs} {O : Recs} {y : EVs × Recs} {st0 : ByteArray} (h1 : 1 ≤ op) (h2 : op ≤ 14)
    (e1 : S.take (S.length - (takesB op).size) = S0) (e2 : S.drop (S.length - (takesB op).size) = av) (hs : st0.size = S0.length) (hall : ∀ v ∈ S0, v.1.size ≤ 40) (h : evStep op n s ws (S, O) = some y) :
    y.2 = stO op av O ∧ txs (st0 ++ givesB op).data.toList y.1 = stT op n s ws av (txs st0.data.toList S0) ∧ nms (st0 ++ givesB op).data.toList y.1 = stN op n s ws av (nms st0.data.toList S0) ∧ ∀ t ∈ stT op n s ws av (txs st0.data.toList S0), t.size ≤ 40 := by
  have hl : st0.data.toList.length = S0.length := by rw [← hs]; rfl
  have hT0 : ∀ t ∈ txs st0.data.toList S0, t.size ≤ 40 := fun t ht => by
    obtain ⟨v, hv, rfl⟩ := txs_mem _ _ _ ht
    exact hall v hv
  unfold evStep at h
  simp only [e1, e2] at h
  by_cases hg : (givesB op).size = 0
  · rw [if_pos hg] at h
    have h := (Option.some.inj h).symm
    subst h
    have hge : (givesB op).data.toList = [] := List.eq_nil_of_length_eq_zero (by simpa using hg)
    refine ⟨by unfold stO; rw [if_pos hg], ?_, ?_, ?_⟩
    · unfold stT; rw [if_pos hg]; simp [hge]
    · unfold stN; rw [if_pos hg]; simp [hge]
    · unfold stT; rw [if_pos hg]; exact hT0
  · rw [if_neg hg] at h
    by_cases h40 : (putV op n s av ws).1.size ≤ 40
    · rw [if_pos h40] at h
      have h := (Option.some.inj h).symm
      subst h
      refine ⟨by unfold stO; rw [if_neg hg], ?_, ?_, ?_⟩
      · unfold stT; rw [if_neg hg]; simp only [ByteArray.data_append, Array.toList_append]; exact txs_app _ _ _ _ hl
      · unfold stN; rw [if_neg hg]; simp only [ByteArray.data_append, Array.toList_append]; exact nms_app _ _ _ _ hl
      · unfold stT; rw [if_neg hg]
        intro t ht
        rcases List.mem_append.1 ht with ht | ht
        · exact hT0 t ht
        · obtain ⟨v, hv, rfl⟩ := txs_mem _ _ _ ht
          simp at hv
          subst hv
          exact h40
    · rw [if_neg h40] at h; cases h
theorem evStep_none {op : Nat} {n : Int} {s : ByteArray} {ws : Strs} {S S0 av : EVs} {O : Recs} {T0 : Strs} (h1 : 1 ≤ op) (h2 : op ≤ 14)
    (e1 : S.take (S.length - (takesB op).size) = S0) (e2 : S.drop (S.length - (takesB op).size) = av) (h : evStep op n s ws (S, O) = none) : ∃ x, stT op n s ws av T0 = T0 ++ [x] ∧ 40 < x.size := by
  unfold evStep at h
  simp only [e1, e2] at h
  by_cases hg : (givesB op).size = 0
  · rw [if_pos hg] at h; cases h
  · rw [if_neg hg] at h
    by_cases h40 : (putV op n s av ws).1.size ≤ 40
    · rw [if_pos h40] at h; cases h
    · rcases gives_kinds h1 h2 with hk | hk | hk
      · refine ⟨(putV op n s av ws).1, ?_, by omega⟩
        unfold stT
        rw [if_neg hg, hk]
        rfl
      · rw [putN_none h1 h2 hk] at h40
        exact absurd (by decide) h40
      · rw [hk] at hg; exact absurd rfl hg
end Go.Proofs.YtjofbeokkainlaaGreatDoor
