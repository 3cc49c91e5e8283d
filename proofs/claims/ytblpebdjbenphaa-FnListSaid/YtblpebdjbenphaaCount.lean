
/- What strings.HasPrefix and CountOf compute, in the program and in its model. Only new blocks are made. -/
import Derived.Test.YtblpebdjbenphaaMg5
namespace Go.Proofs.Ytblpebdjbenphaa
open Go.ChangeShapes Go.WideShapes Go.ChangeAt Go.RowKit
set_option linter.unusedVariables false
set_option maxRecDepth 100000

def hpB (s p : ByteArray) : Bool := decide (p.size ≤ s.size) && ((s.extract 0 p.size).toList == p.toList)
theorem hp_short {s p : ByteArray} (h : ¬ p.size ≤ s.size) : hpB s p = false := by unfold hpB; rw [decide_eq_false h]; rfl
theorem hp_long {s p : ByteArray} (h : p.size ≤ s.size) : hpB s p = ((s.extract 0 p.size).toList == p.toList) := by unfold hpB; rw [decide_eq_true h]; rfl

theorem hasprefix_any (s p : ByteArray) (w : World) (hs : s.size ≤ maxLen) (hp : p.size ≤ maxLen) :
    Calls Try.prog 19 #[.string s, .string p] w fun e w' => e = .returned (.bool (hpB s p)) ∧ w = w' := by
  unfold maxLen at hs hp
  by_cases h : p.size ≤ s.size
  · have H := Lib.hid (hp_long h)
    have h1 : (p.size : Int) ≤ (s.size : Int) := by omega
    clear h
    go_enter Try.func19, Try.ntmps19
    go_wp2
    go_ret
    exact ⟨ret_bool H.out.symm, rfl⟩
  · have H := Lib.hid (hp_short h)
    have h1 : ¬ (p.size : Int) ≤ (s.size : Int) := by omega
    clear h
    go_enter Try.func19, Try.ntmps19
    go_wp2
    go_ret
    exact ⟨ret_bool H.out.symm, rfl⟩

def cntTo (p : ByteArray) (l : Objs) : Nat → Int
  | 0 => 0
  | k + 1 => if hpB (obj0 l k) p then cntTo p l k + 1 else cntTo p l k
theorem cnt_bd (p : ByteArray) (l : Objs) : ∀ k : Nat, 0 ≤ cntTo p l k ∧ cntTo p l k ≤ k
  | 0 => by simp [cntTo]
  | k + 1 => by
    have := cnt_bd p l k
    unfold cntTo
    split <;> omega
theorem cnt_yes {p : ByteArray} {l : Objs} {k : Nat} (h : hpB (obj0 l k) p = true) : cntTo p l (k + 1) = cntTo p l k + 1 := by
  show (if hpB (obj0 l k) p then _ else _) = _
  rw [if_pos h]
theorem cnt_no {p : ByteArray} {l : Objs} {k : Nat} (h : hpB (obj0 l k) p = false) : cntTo p l (k + 1) = cntTo p l k := by
  show (if hpB (obj0 l k) p then _ else _) = _
  rw [if_neg (by rw [h]; simp)]

set_option maxHeartbeats 2000000 in
theorem scount_any (a g : Option Addr) (la ca lg cg : Nat) (l : Objs) (m : Gones) (p : ByteArray) (w : World) (h : StoAt w a la l g lg m) (hp : p.size ≤ maxLen) :
    Calls Try.prog 10 #[.agg #[.slice a la ca, .slice g lg cg], .string p] w (MadeInt (cntTo p l la) w) := by
  have hm := h.o.max
  unfold maxLen at hm hp
  have HS := Lib.hid h
  clear h
  go_enter Try.func10, Try.ntmps10
  go_wp2
  go_loopw [5, 6] (fun n i wr => ∃ k : Nat, k ≤ la ∧ i = .int .i64 k ∧ n = .int .i64 (cntTo p l k) ∧ Hid (GD w #[.slice a la ca, .slice g lg cg] wr)) (fun _ i _ => la - (intOf i).toNat)
  case atStart => exact ⟨0, Nat.zero_le _, rfl, rfl, ⟨below_alloc (Below.refl _ _) _, row_new _ _ _⟩⟩
  case round =>
    obtain ⟨k, hk, rfl, rfl, HW⟩ := hrel
    have b0 := HW.out.box.cell (j := 0) (by simp)
    simp at b0
    by_cases hlt : k < la
    · rcases HS.out.o.src with hz | ⟨b, off, rfl, hb, hc⟩
      · omega
      · have c0 := (HW.out.below.cell (p := ⟨b, off + k * 3, none⟩) hb).trans (hc k hlt).1
        have hks := (HS.out.o.keys k hlt).1
        unfold maxLen at hks
        have hn := cnt_bd p l k
        obtain ⟨x, hx⟩ : ∃ x, cntTo p l k = x := ⟨_, rfl⟩
        rw [hx] at hn ⊢
        have HXX := Lib.hid hx
        obtain ⟨n0, n1⟩ := hn
        clear hc hb hx
        by_cases hle : p.size ≤ (obj0 l k).size
        · have h1 : (p.size : Int) ≤ ((obj0 l k).size : Int) := by omega
          have HL := Lib.hid (hp_long hle)
          clear hle
          cases hq : ((obj0 l k).extract 0 p.size).toList == p.toList with
          | true =>
            rw [hq] at HL
            go_wp2
            go_roundw
            case rel => exact ⟨k + 1, by omega, by go_num, by rw [cnt_yes HL.out, HXX.out], HW.out⟩
            case measure => simp [intOf]; omega
          | false =>
            rw [hq] at HL
            go_wp2
            go_roundw
            case rel => exact ⟨k + 1, by omega, by go_num, by rw [cnt_no HL.out, HXX.out], HW.out⟩
            case measure => simp [intOf]; omega
        · have h1 : ¬ (p.size : Int) ≤ ((obj0 l k).size : Int) := by omega
          have HL := Lib.hid (hp_short hle)
          clear hle
          go_wp2
          go_roundw
          case rel => exact ⟨k + 1, by omega, by go_num, by rw [cnt_no HL.out, HXX.out], HW.out⟩
          case measure => simp [intOf]; omega
    · obtain rfl : k = la := by omega
      go_wp2
      go_ret
      exact ⟨rfl, HW.out.below⟩

set_option maxHeartbeats 2000000 in
theorem count_any (a g : Option Addr) (la ca lg cg : Nat) (l : Objs) (m : Gones) (p : ByteArray) (w : World) (h : StoAt w a la l g lg m) (hp : p.size ≤ maxLen) :
    Calls Try.prog 9 #[.agg #[.slice a la ca, .slice g lg cg], .string p] w (MadeInt (cntTo p l la) w) := by
  have hm := h.o.max
  unfold maxLen at hm
  have HP := Lib.hid hp
  have HS := Lib.hid h
  clear h hp
  go_enter Try.func9, Try.ntmps9
  go_wp2
  go_loopw [5, 11] (fun n i wr => ∃ k : Nat, k ≤ la ∧ i = .int .i64 k ∧ n = .int .i64 (cntTo p l k) ∧ Hid (Below w.heap.size w wr)) (fun _ i _ => la - (intOf i).toNat)
  case atStart => exact ⟨0, Nat.zero_le _, rfl, rfl, below_alloc (Below.refl _ _) _⟩
  case round =>
    obtain ⟨k, hk, rfl, rfl, HW⟩ := hrel
    by_cases hlt : k < la
    · rcases HS.out.o.src with hz | ⟨b, off, rfl, hb, hc⟩
      · omega
      · have c0 := (HW.out.cell (p := ⟨b, off + k * 3, none⟩) hb).trans (hc k hlt).1
        have c1 := (HW.out.cell (p := ⟨b, off + k * 3 + 1, none⟩) hb).trans (hc k hlt).2.1
        have c2 := (HW.out.cell (p := ⟨b, off + k * 3 + 2, none⟩) hb).trans (hc k hlt).2.2
        have hn := cnt_bd p l k
        obtain ⟨x, hx⟩ : ∃ x, cntTo p l k = x := ⟨_, rfl⟩
        rw [hx] at hn ⊢
        have HXX := Lib.hid hx
        have HKS := Lib.hid (HS.out.o.keys k hlt).1
        obtain ⟨n0, n1⟩ := hn
        clear hc hb hx
        cases hq : hpB (obj0 l k) p with
        | true =>
          have HQ := Lib.hid hq
          clear hq
          go_wp2_with (go_at_call 19; refine (hasprefix_any _ _ _ HKS.out HP.out).mono ?_; rw [HQ.out]; rintro e w' ⟨rfl, rfl⟩)
          go_roundw
          case rel => exact ⟨k + 1, by omega, by go_num, by rw [cnt_yes HQ.out, HXX.out], below_alloc HW.out _⟩
          case measure => simp [intOf]; omega
        | false =>
          have HQ := Lib.hid hq
          clear hq
          go_wp2_with (go_at_call 19; refine (hasprefix_any _ _ _ HKS.out HP.out).mono ?_; rw [HQ.out]; rintro e w' ⟨rfl, rfl⟩)
          go_roundw
          case rel => exact ⟨k + 1, by omega, by go_num, by rw [cnt_no HQ.out, HXX.out], below_alloc HW.out _⟩
          case measure => simp [intOf]; omega
    · obtain rfl : k = la := by omega
      go_wp2
      go_ret
      exact ⟨rfl, HW.out⟩
end Go.Proofs.Ytblpebdjbenphaa
