
/- Numbers in decimal: what the model writes. Only new blocks are made. -/
import Derived.Test.YthnlllbanfemaaaGreatDoorMg3
import Derived.Test.YthnlllbanfemaaaGreatDoorMg0
import Derived.Lib.Strings
namespace Go.Proofs.YthnlllbanfemaaaGreatDoor
open Go.ChangeShapes Go.WideShapes Go.ChangeAt Go.RowKit
set_option linter.unusedVariables false
set_option maxRecDepth 100000

/-- The end of a function that returns a text and makes at most new blocks. -/
def MadeTx (s : ByteArray) (w : World) (e : Ending) (w' : World) : Prop := e = .returned (.string s) ∧ Below w.heap.size w w'

theorem dig_cons (K : Nat) (O : ByteArray) (x : Int) (hx : x = (48 : Int) + (K : Int)) : (strOfNums [x] ++ O).data.toList = UInt8.ofNat (48 + K) :: O.data.toList := by
  subst hx
  have e : ((48 : Int) + (K : Int)).toNat = 48 + K := by omega
  simp [strOfNums, e]
theorem ba_eq {a b : ByteArray} (h : a.data.toList = b.data.toList) : a = b := by
  cases a; cases b; simp at h; congr

theorem dec_end {U M : Nat} {O : ByteArray} (h : Lib.decDigits M ++ O.data.toList = Lib.decDigits U) (hM : M < 10) (x : Int) (hx : x = (48 : Int) + (M : Int)) (n : Int) (hn : 0 ≤ n) (hU : U = n.toNat) : strOfNums [x] ++ O = decB n := by
  apply ba_eq
  rw [dig_cons M O x hx, decB_list, itoa_nat hn, ← hU, ← h, dd_one hM]
  rfl
theorem dec_end2 {U M : Nat} {O : ByteArray} (h : Lib.decDigits M ++ O.data.toList = Lib.decDigits U) (hM : M < 10) (x : Int) (hx : x = (48 : Int) + (M : Int)) (n : Int) (hn : n < 0) (hU : U = n.natAbs) : (⟨#[45]⟩ : ByteArray) ++ (strOfNums [x] ++ O) = decB n := by
  apply ba_eq
  rw [decB_list, itoa_neg hn, ← hU, ← h, dd_one hM]
  have := dig_cons M O x hx
  rw [ByteArray.data_append, Array.toList_append, this]
  rfl
theorem dec_round {U M : Nat} {O : ByteArray} (h : Lib.decDigits M ++ O.data.toList = Lib.decDigits U) (hM : 10 ≤ M) (x : Int) (hx : x = (48 : Int) + ((M % 10 : Nat) : Int)) : Lib.decDigits (M / 10) ++ (strOfNums [x] ++ O).data.toList = Lib.decDigits U := by
  rw [dig_cons (M % 10) O x hx, ← h, dd_big (by omega : ¬ M < 10), List.append_assoc]
  rfl
theorem dec_size {U M : Nat} {O : ByteArray} (h : Lib.decDigits M ++ O.data.toList = Lib.decDigits U) (hU : U ≤ 9223372036854775808) : O.size ≤ 19 := by
  have h1 := @dd_len_le U 19 (by decide) (by omega)
  have h2 := congrArg List.length h
  simp at h2
  have h3 : O.size = O.data.size := rfl
  omega

set_option maxHeartbeats 2000000 in
theorem l1dec_any (n : Int) (h0 : -9223372036854775808 ≤ n) (h1 : n < 9223372036854775808) (w : World) :
    Calls Tryz.prog 64 #[.int .i64 n] w (MadeTx (decB n) w) := by
  have kc : ∀ (wx : World) (y : Int), (convert 40 9 (.slice (some ⟨wx.heap.size, 0, none⟩) 1 1)).run Tryz.prog (wx.alloc (.cells #[.int .u8 y] 5)) = .ok (.string (strOfNums [y])) (wx.alloc (.cells #[.int .u8 y] 5)) := fun wx y =>
    run_convert_bytes_arg _ _ _ Tryz.underlying40 Tryz.underlying5 wx.heap.size 0 1 1 [y] rfl (fun i hi => by
      obtain rfl : i = 0 := by omega
      exact cell_of_one (heap_alloc_new _ _)) _ Tryz.underlying9
  obtain ⟨U, hU⟩ : ∃ U : Nat, U = n.natAbs := ⟨_, rfl⟩
  have hU2 : U ≤ 9223372036854775808 := by omega
  by_cases hneg : n < 0
  · have e1 : IntKind.u64.wrap n = n + 18446744073709551616 := by simp [IntKind.wrap, IntKind.bits, IntKind.signed]; omega
    have e2 : IntKind.u64.wrap (-(n + 18446744073709551616)) = (U : Int) := by simp [IntKind.wrap, IntKind.bits, IntKind.signed]; omega
    have HU := Lib.hid hU
    have HN := Lib.hid hneg
    clear hU
    go_enter Tryz.func64, Tryz.ntmps64
    go_wp2
    go_loopw [3, 4] (fun m o wr => ∃ (M : Nat) (O : ByteArray), m = .int .u64 M ∧ o = .string O ∧ M ≤ 9223372036854775808 ∧ Hid (Below w.heap.size w wr ∧ Lib.decDigits M ++ O.data.toList = Lib.decDigits U)) (fun m _ _ => (intOf m).toNat)
    case atStart => exact ⟨U, ByteArray.empty, rfl, rfl, hU2, Below.refl _ _, by simp⟩
    case round =>
      obtain ⟨M, O, rfl, rfl, hM, HW⟩ := hrel
      clear e1 e2
      have hO := dec_size HW.out.2 hU2
      by_cases hK : 10 ≤ M
      · have hb1 : 0 ≤ (48 : Int) + (M : Int) % 10 := by omega
        have hb2 : (48 : Int) + (M : Int) % 10 ≤ 57 := by omega
        have hso : (strOfNums [(48 : Int) + (M : Int) % 10]).size ≤ 1 := Nat.le_refl 1
        have HR := Lib.hid (dec_round HW.out.2 hK ((48 : Int) + (M : Int) % 10) (by omega))
        go_wp2
        go_roundw
        case rel => exact ⟨M / 10, _, by go_num, rfl, by omega, below_alloc HW.out.1 _, HR.out⟩
        case measure => simp [intOf]; omega
      · have hb1 : 0 ≤ (48 : Int) + (M : Int) := by omega
        have hb2 : (48 : Int) + (M : Int) ≤ 57 := by omega
        have hso : (strOfNums [(48 : Int) + (M : Int)]).size ≤ 1 := Nat.le_refl 1
        have hn2 : n < 0 := HN.out
        have HE := Lib.hid (dec_end2 HW.out.2 (by omega) ((48 : Int) + (M : Int)) rfl n HN.out HU.out)
        go_wp2
        go_ret
        exact ⟨congrArg (fun s => Ending.returned (.string s)) HE.out, below_alloc HW.out.1 _⟩
  · have e1 : IntKind.u64.wrap n = (U : Int) := by simp [IntKind.wrap, IntKind.bits, IntKind.signed]; omega
    have HU := Lib.hid hU
    have HN := Lib.hid hneg
    clear hU
    go_enter Tryz.func64, Tryz.ntmps64
    go_wp2
    go_loopw [3, 4] (fun m o wr => ∃ (M : Nat) (O : ByteArray), m = .int .u64 M ∧ o = .string O ∧ M ≤ 9223372036854775808 ∧ Hid (Below w.heap.size w wr ∧ Lib.decDigits M ++ O.data.toList = Lib.decDigits U)) (fun m _ _ => (intOf m).toNat)
    case atStart => exact ⟨U, ByteArray.empty, rfl, rfl, hU2, Below.refl _ _, by simp⟩
    case round =>
      obtain ⟨M, O, rfl, rfl, hM, HW⟩ := hrel
      clear e1
      have hO := dec_size HW.out.2 hU2
      by_cases hK : 10 ≤ M
      · have hb1 : 0 ≤ (48 : Int) + (M : Int) % 10 := by omega
        have hb2 : (48 : Int) + (M : Int) % 10 ≤ 57 := by omega
        have hso : (strOfNums [(48 : Int) + (M : Int) % 10]).size ≤ 1 := Nat.le_refl 1
        have HR := Lib.hid (dec_round HW.out.2 hK ((48 : Int) + (M : Int) % 10) (by omega))
        go_wp2
        go_roundw
        case rel => exact ⟨M / 10, _, by go_num, rfl, by omega, below_alloc HW.out.1 _, HR.out⟩
        case measure => simp [intOf]; omega
      · have hb1 : 0 ≤ (48 : Int) + (M : Int) := by omega
        have hb2 : (48 : Int) + (M : Int) ≤ 57 := by omega
        have hso : (strOfNums [(48 : Int) + (M : Int)]).size ≤ 1 := Nat.le_refl 1
        have hn0 : 0 ≤ n := by omega
        have HE := Lib.hid (dec_end HW.out.2 (by omega) ((48 : Int) + (M : Int)) rfl n hn0 (by rw [HU.out]; omega))
        go_wp2
        go_ret
        exact ⟨congrArg (fun s => Ending.returned (.string s)) HE.out, below_alloc HW.out.1 _⟩
end Go.Proofs.YthnlllbanfemaaaGreatDoor
