
/- What FindRec computes in the program and in its model; the exact law on it, walked. Only new blocks are made. -/
import Derived.Test.YtkpkifghjkmhoaaRuns5
namespace Go.Proofs.Ytkpkifghjkmhoaa
open Go.ChangeShapes Go.WideShapes Go.ChangeAt Go.RowKit
set_option linter.unusedVariables false
set_option maxRecDepth 100000

def sameKey (s u : ByteArray) : Bool := s.toList == u.toList
def findAux (key : ByteArray) : Recs → Int × Bool
  | [] => (0, false)
  | r :: t => if sameKey r.1 key then (r.2, true) else findAux key t
def findB (l : Recs) (key : ByteArray) : Int × Bool := if runOkB l then findAux key l else (0, false)

theorem findAux_hit (key : ByteArray) : ∀ (l : Recs) (k : Nat), k < l.length → (∀ j, j < k → sameKey (keyAt l j) key = false) → sameKey (keyAt l k) key = true → findAux key l = (numAt l k, true)
  | [], k, hk, _, _ => by simp at hk
  | r :: t, 0, _, _, h => by
    have h' : sameKey r.1 key = true := h
    unfold findAux; rw [if_pos h']; rfl
  | r :: t, k + 1, hk, hb, h => by
    have h' : sameKey r.1 key = false := hb 0 (by omega)
    unfold findAux
    rw [if_neg (by rw [h']; simp)]
    exact findAux_hit key t k (by simpa using hk) (fun j hj => hb (j + 1) (by omega)) h
theorem findAux_none (key : ByteArray) : ∀ (l : Recs), (∀ j, j < l.length → sameKey (keyAt l j) key = false) → findAux key l = (0, false)
  | [], _ => rfl
  | r :: t, hb => by
    have h' : sameKey r.1 key = false := hb 0 (by simp)
    unfold findAux
    rw [if_neg (by rw [h']; simp)]
    exact findAux_none key t (fun j hj => hb (j + 1) (by simpa using hj))

def MadeFind (p : Int × Bool) (w : World) (e : Ending) (w' : World) : Prop := e = .returned (.tuple #[.int .i64 p.1, .bool p.2]) ∧ Below w.heap.size w w'
theorem ret_find {n : Int} {b : Bool} {p : Int × Bool} (h : p = (n, b)) : Ending.returned (.tuple #[.int .i64 n, .bool b]) = .returned (.tuple #[.int .i64 p.1, .bool p.2]) := by rw [h]

set_option maxHeartbeats 1000000 in
theorem find_any (a : Option Addr) (len cap : Nat) (l : Recs) (key : ByteArray) (w : World) (h : RecsAt w a len l) :
    Calls Try.prog 22 #[.slice a len cap, .string key] w (MadeFind (findB l key) w) := by
  have hm := h.max
  unfold maxLen at hm
  have HR := Lib.hid h
  have HL := Lib.hid h.length
  clear h
  cases hok : runOkB l with
  | false =>
    have HQ := Lib.hid (show findB l key = (0, false) by unfold findB; rw [hok]; rfl)
    go_enter Try.func22, Try.ntmps22
    go_wp2_with (go_at_call 32; refine (runok_any _ _ _ _ _ HR.out).mono ?_; rw [hok]; rintro e w1 ⟨rfl, hB⟩; have HB := Lib.hid hB; clear hB)
    go_ret2
    exact ⟨ret_find HQ.out, HB.out⟩
  | true =>
    have HF := Lib.hid (show findB l key = findAux key l by unfold findB; rw [hok]; rfl)
    go_enter Try.func22, Try.ntmps22
    go_wp2_with (go_at_call 32; refine (runok_any _ _ _ _ _ HR.out).mono ?_; rw [hok]; rintro e w1 ⟨rfl, hB⟩; have HB := Lib.hid hB; have HR := Lib.hid (HR.out.keep hB); clear hB)
    go_loopw [13] (fun i wr => ∃ k : Nat, k ≤ len ∧ i = .int .i64 k ∧ Hid (Below w1.heap.size w1 wr ∧ ∀ j, j < k → sameKey (keyAt l j) key = false)) (fun i _ => len - (intOf i).toNat)
    case atStart => exact ⟨0, Nat.zero_le _, rfl, Below.refl _ _, fun j hj => by omega⟩
    case round =>
      obtain ⟨k, hk, rfl, HW⟩ := hrel
      by_cases hlt : k < len
      · rcases HR.out.src with hz | ⟨b, off, rfl, hb, hc⟩
        · omega
        · have c0 := (HW.out.1.cell (p := ⟨b, off + k * 2, none⟩) hb).trans (hc k hlt).1
          have c1 := (HW.out.1.cell (p := ⟨b, off + k * 2 + 1, none⟩) hb).trans (hc k hlt).2
          clear hc hb
          cases hsk : sameKey (keyAt l k) key with
          | true =>
            have HQ := Lib.hid (HF.out.trans (findAux_hit key l k (by rw [HL.out]; exact hlt) HW.out.2 hsk))
            have hs2 : ((keyAt l k).toList == key.toList) = true := hsk
            clear hsk
            go_wp2
            go_ret2
            exact ⟨ret_find HQ.out, below_via HB.out (below_alloc HW.out.1 _)⟩
          | false =>
            have HS := Lib.hid hsk
            have hs2 : ((keyAt l k).toList == key.toList) = false := hsk
            clear hsk
            go_wp2
            go_roundw
            case rel => exact ⟨k + 1, by omega, by go_num, below_alloc HW.out.1 _, fun j hj => by
              rcases Nat.lt_or_ge j k with h | h
              · exact HW.out.2 j h
              · obtain rfl : j = k := by omega
                exact HS.out⟩
            case measure => simp [intOf]; omega
      · obtain rfl : k = len := by omega
        have HQ := Lib.hid (HF.out.trans (findAux_none key l (by rw [HL.out]; exact HW.out.2)))
        go_wp2
        go_ret2
        exact ⟨ret_find HQ.out, below_via HB.out HW.out.1⟩

end Go.Proofs.Ytkpkifghjkmhoaa
