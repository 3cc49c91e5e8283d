
/- Pieces of texts, and the model's cut of a text at a byte. Nothing is written. -/
import Derived.Test.YthnlllbanfemaaaGreatDoorMg4
import Derived.Test.YthnlllbanfemaaaGreatDoorMg3
namespace Go.Proofs.YthnlllbanfemaaaGreatDoor
open Go.ChangeShapes Go.WideShapes Go.ChangeAt Go.RowKit
set_option linter.unusedVariables false
set_option maxRecDepth 100000

def encS (b : List UInt8) : Value := .string ⟨b.toArray⟩

theorem extract_piece (s : ByteArray) (i j : Nat) : s.extract i j = ⟨(piece s.data.toList i j).toArray⟩ := by
  have h : (s.extract i j).data.toList = piece s.data.toList i j := by simp [piece]
  rw [← h]

theorem byte_at {s : ByteArray} {L : List UInt8} (hL : s.data.toList = L) (j : Nat) (h1 : j < s.size) (h2 : j < L.length) : L[j] = s[j] := by
  subst hL; rfl

/-- The end of l1Cut: the piece ahead of the first c, what is behind it, and whether there is one. -/
def MadeCut (c : UInt8) (s : ByteArray) (w : World) (e : Ending) (w' : World) : Prop :=
  ∃ (a r : ByteArray) (b : Bool), e = .returned (.tuple #[.string a, .string r, .bool b]) ∧ Below w.heap.size w w' ∧ r.size ≤ s.size ∧
    noC c a.data.toList ∧ (b = true → s.data.toList = a.data.toList ++ c :: r.data.toList) ∧ (b = false → a = s ∧ r.size = 0)

set_option maxHeartbeats 1000000 in
theorem cut_any (s : ByteArray) (c : UInt8) (w : World) (hs : s.size ≤ maxLen) :
    Calls Tryz.prog 93 #[.string s, .int .u8 c.toNat] w (MadeCut c s w) := by
  unfold maxLen at hs
  go_enter Tryz.func93, Tryz.ntmps93
  go_wp2
  go_loop [7] (fun i => ∃ k : Nat, k ≤ s.size ∧ i = .int .i64 k ∧ Hid (noC c (piece s.data.toList 0 k))) (fun i => s.size - (intOf i).toNat)
  case atStart => exact ⟨0, Nat.zero_le _, rfl, by rw [piece_empty]; exact noC_nil⟩
  case round =>
    obtain ⟨k, hk, rfl, HN⟩ := hrel
    by_cases hlt : k < s.size
    · by_cases hc : s[k] = c
      · have hb0 : (((s[k]).toNat : Int) == (c.toNat : Int)) = true := by rw [hc]; simp
        have hi1 : (k : Int) ≤ (s.size : Int) := by omega
        have hj0 : (0 : Int) ≤ (k : Int) + 1 := by omega
        have hj1 : (k : Int) + 1 ≤ (s.size : Int) := by omega
        have HC := Lib.hid hc
        clear hc
        go_wp2_with fail
        have hj2 : ((k : Int) + 1).toNat = k + 1 := by omega
        have hwr : IntKind.i64.wrap ((k : Int) + 1) = (k : Int) + 1 := IntWalk.i64_in _ (by omega)
        go_quiet (fail)
        clear hj2 hwr
        have hkl : k < s.data.toList.length := by simpa using hlt
        have e1 : (s.extract 0 k).data.toList = piece s.data.toList 0 k := by rw [extract_piece]
        have e2 : (s.extract (k + 1) s.size).data.toList = s.data.toList.drop (k + 1) := by
          rw [extract_piece, show s.size = s.data.toList.length by simp, piece_end]
        have e3 := drop_piece s.data.toList 0 k (Nat.zero_le _) hkl
        rw [List.drop_zero, byte_at rfl k hlt hkl, HC.out] at e3
        have E1 := Lib.hid e1
        have E3 := Lib.hid (show s.data.toList = (s.extract 0 k).data.toList ++ c :: (s.extract (k + 1) s.size).data.toList by rw [e1, e2]; exact e3)
        clear e1 e2 e3
        go_wp2
        go_ret3
        exact ⟨_, _, true, rfl, below_drewN (Below.refl _ _) _, by rw [ByteArray.size_extract]; omega, by rw [E1.out]; exact HN.out, fun _ => E3.out, (fun h => by cases h)⟩
      · have hb0 : (((s[k]).toNat : Int) == (c.toNat : Int)) = false := by
          simp only [beq_eq_false_iff_ne]
          intro h
          exact hc (UInt8.toNat_inj.1 (by omega))
        have HC := Lib.hid hc
        clear hc
        go_wp2
        go_round
        case rel =>
          have hkl : k < s.data.toList.length := by simpa using hlt
          exact ⟨k + 1, by omega, by go_num, by rw [piece_snoc _ 0 k (Nat.zero_le _) hkl]; exact noC_snoc HN.out (by rw [byte_at rfl k hlt hkl]; exact HC.out)⟩
        case measure => simp [intOf]; omega
    · obtain rfl : k = s.size := by omega
      have HN2 := Lib.hid (show noC c s.data.toList by
        have := HN.out
        rw [show s.size = s.data.toList.length by simp, piece_end] at this
        simpa using this)
      go_wp2
      go_ret3
      exact ⟨s, ByteArray.empty, false, rfl, Below.refl _ _, Nat.zero_le _, HN2.out, (fun h => by cases h), fun _ => ⟨rfl, rfl⟩⟩

def lenOf : Value → Nat | .string s => s.size | _ => 0
def yes : Value → Bool | .bool b => b | _ => false
end Go.Proofs.YthnlllbanfemaaaGreatDoor
