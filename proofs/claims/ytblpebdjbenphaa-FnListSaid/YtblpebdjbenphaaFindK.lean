
/- Where a key stands among the objects and the deleted ones: the model's l7Find and l7Gone. Only new blocks are made. -/
import Derived.Test.YtblpebdjbenphaaIncM
import Derived.Test.YtblpebdjbenphaaMg5
namespace Go.Proofs.Ytblpebdjbenphaa
open Go.ChangeShapes Go.WideShapes Go.ChangeAt Go.RowKit
set_option linter.unusedVariables false
set_option maxRecDepth 100000

def MadeFound (l : Txts) (key : ByteArray) (w : World) (e : Ending) (w' : World) : Prop := e = .returned (.tuple #[.int .i64 (posT l key : Nat), .bool (isT l key)]) ∧ Below w.heap.size w w'
theorem isT_end {l : Txts} {key : ByteArray} {k : Nat} (h : posT l key = k) (hk : ¬ k < l.length) : isT l key = false := by unfold isT; rw [h, decide_eq_false hk]; rfl
theorem isT_at {l : Txts} {key : ByteArray} {k : Nat} (h : posT l key = k) (hk : k < l.length) : isT l key = ((txt l k).toList == key.toList) := by unfold isT; rw [h, decide_eq_true hk]; rfl
theorem ret_found {a b : Int} {c d : Bool} (h : a = b) (g : c = d) : Ending.returned (.tuple #[.int .i64 a, .bool c]) = .returned (.tuple #[.int .i64 b, .bool d]) := by rw [h, g]

set_option maxHeartbeats 2000000 in
theorem l7find_any (a g : Option Addr) (la ca lg cg : Nat) (l : Objs) (m : Gones) (key : ByteArray) (w : World) (h : StoAt w a la l g lg m) :
    Calls Try.prog 28 #[.agg #[.slice a la ca, .slice g lg cg], .string key] w (MadeFound (okeys l) key w) := by
  have hm := h.o.max
  unfold maxLen at hm
  have HS := Lib.hid h
  have HL := Lib.hid h.o.length
  clear h
  go_enter Try.func28, Try.ntmps28
  go_wp2
  go_loopw [6] (fun i wr => ∃ k : Nat, k ≤ la ∧ i = .int .i64 k ∧ Hid (GD w #[.slice a la ca, .slice g lg cg] wr ∧ ∀ j, j < k → ltT (txt (okeys l) j) key = true)) (fun i _ => la - (intOf i).toNat)
  case atStart => exact ⟨0, Nat.zero_le _, rfl, ⟨below_alloc (Below.refl _ _) _, row_new _ _ _⟩, fun j hj => by omega⟩
  case round =>
    obtain ⟨k, hk, rfl, HW⟩ := hrel
    have b0 := HW.out.1.box.cell (j := 0) (by simp)
    simp at b0
    by_cases hlt : k < la
    · rcases HS.out.o.src with hz | ⟨b, off, rfl, hb, hc⟩
      · omega
      · have c0 := (HW.out.1.below.cell (p := ⟨b, off + k * 3, none⟩) hb).trans (hc k hlt).1
        have hi1 : (k : Int) < (la : Int) := by omega
        have hi0 : (0 : Int) ≤ (k : Int) := by omega
        clear hc hb
        cases hsk : ltT (txt (okeys l) k) key with
        | true =>
          have HQ := Lib.hid hsk
          have hs2 : Op.bytesLess (obj0 l k).toList key.toList = true := by rw [okeys_at] at hsk; exact hsk
          clear hsk
          go_wp2
          go_roundw
          case rel => exact ⟨k + 1, by omega, by go_num, HW.out.1, fun j hj => by
            rcases Nat.lt_or_ge j k with h | h
            · exact HW.out.2 j h
            · obtain rfl : j = k := by omega
              exact HQ.out⟩
          case measure => simp [intOf]; omega
        | false =>
          have HP := Lib.hid (posT_eq (l := okeys l) (key := key) (k := k) (by rw [okeys_len, HL.out]; omega) HW.out.2 (fun _ => hsk))
          have hs2 : Op.bytesLess (obj0 l k).toList key.toList = false := by rw [okeys_at] at hsk; exact hsk
          have HI := Lib.hid ((isT_at HP.out (by rw [okeys_len, HL.out]; omega)).trans (by rw [okeys_at]))
          clear hsk
          go_wp2_with fail
          go_quiet (fail)
          go_wp2
          go_ret2
          exact ⟨ret_found (by rw [HP.out]) HI.out.symm, below_drewN HW.out.1.below _⟩
    · obtain rfl : k = la := by omega
      have HP := Lib.hid (posT_eq (l := okeys l) (key := key) (k := k) (by rw [okeys_len, HL.out]; omega) HW.out.2 (fun h => absurd h (by rw [okeys_len, HL.out]; omega)))
      have HI := Lib.hid (isT_end HP.out (by rw [okeys_len, HL.out]; omega))
      have hf : decide ((k : Int) < (k : Int)) = false := by simp
      go_wp2_with fail
      go_quiet (fail)
      go_wp2
      go_ret2
      exact ⟨ret_found (by rw [HP.out]) HI.out.symm, below_drewN HW.out.1.below _⟩

set_option maxHeartbeats 2000000 in
theorem l7gone_any (a g : Option Addr) (la ca lg cg : Nat) (l : Objs) (m : Gones) (key : ByteArray) (w : World) (h : StoAt w a la l g lg m) :
    Calls Try.prog 46 #[.agg #[.slice a la ca, .slice g lg cg], .string key] w (MadeFound (gkeys m) key w) := by
  have hm := h.d.max
  unfold maxLen at hm
  have HS := Lib.hid h
  have HL := Lib.hid h.d.length
  clear h
  go_enter Try.func46, Try.ntmps46
  go_wp2
  go_loopw [6] (fun i wr => ∃ k : Nat, k ≤ lg ∧ i = .int .i64 k ∧ Hid (GD w #[.slice a la ca, .slice g lg cg] wr ∧ ∀ j, j < k → ltT (txt (gkeys m) j) key = true)) (fun i _ => lg - (intOf i).toNat)
  case atStart => exact ⟨0, Nat.zero_le _, rfl, ⟨below_alloc (Below.refl _ _) _, row_new _ _ _⟩, fun j hj => by omega⟩
  case round =>
    obtain ⟨k, hk, rfl, HW⟩ := hrel
    have b1 := HW.out.1.box.cell (j := 1) (by simp)
    simp at b1
    by_cases hlt : k < lg
    · rcases HS.out.d.src with hz | ⟨b, off, rfl, hb, hc⟩
      · omega
      · have c0 := (HW.out.1.below.cell (p := ⟨b, off + k * 2, none⟩) hb).trans (hc k hlt).1
        have hi1 : (k : Int) < (lg : Int) := by omega
        have hi0 : (0 : Int) ≤ (k : Int) := by omega
        clear hc hb
        cases hsk : ltT (txt (gkeys m) k) key with
        | true =>
          have HQ := Lib.hid hsk
          have hs2 : Op.bytesLess (gone0 m k).toList key.toList = true := by rw [gkeys_at] at hsk; exact hsk
          clear hsk
          go_wp2
          go_roundw
          case rel => exact ⟨k + 1, by omega, by go_num, HW.out.1, fun j hj => by
            rcases Nat.lt_or_ge j k with h | h
            · exact HW.out.2 j h
            · obtain rfl : j = k := by omega
              exact HQ.out⟩
          case measure => simp [intOf]; omega
        | false =>
          have HP := Lib.hid (posT_eq (l := gkeys m) (key := key) (k := k) (by rw [gkeys_len, HL.out]; omega) HW.out.2 (fun _ => hsk))
          have hs2 : Op.bytesLess (gone0 m k).toList key.toList = false := by rw [gkeys_at] at hsk; exact hsk
          have HI := Lib.hid ((isT_at HP.out (by rw [gkeys_len, HL.out]; omega)).trans (by rw [gkeys_at]))
          clear hsk
          go_wp2_with fail
          go_quiet (fail)
          go_wp2
          go_ret2
          exact ⟨ret_found (by rw [HP.out]) HI.out.symm, below_drewN HW.out.1.below _⟩
    · obtain rfl : k = lg := by omega
      have HP := Lib.hid (posT_eq (l := gkeys m) (key := key) (k := k) (by rw [gkeys_len, HL.out]; omega) HW.out.2 (fun h => absurd h (by rw [gkeys_len, HL.out]; omega)))
      have HI := Lib.hid (isT_end HP.out (by rw [gkeys_len, HL.out]; omega))
      have hf : decide ((k : Int) < (k : Int)) = false := by simp
      go_wp2_with fail
      go_quiet (fail)
      go_wp2
      go_ret2
      exact ⟨ret_found (by rw [HP.out]) HI.out.symm, below_drewN HW.out.1.below _⟩
end Go.Proofs.Ytblpebdjbenphaa
